/- The program's two tables of layer 11, as its text lays them. The program's tables of layer 24's road read as its text lays them. An argument that is a document, opened. -/
import Derived.Test.YtnojgejcmaajmaaDoorProg
import Derived.Test.YtnojgejcmaajmaaDoorJsd3
import Derived.Test.YtnojgejcmaajmaaDoorJsd20
import Derived.Test.YtnojgejcmaajmaaDoorJsd30
import Derived.Lib.LaidU8
import Derived.LaidMore
import Derived.Laws.MakeOwn
import Derived.WalkMore
import Derived.Shelf.Strings.Cut
import Derived.Lib.Replace
import Derived.Lib.SplitLaws
import Derived.Lib.IndexAny
import Derived.Lib.CutLaws
import Derived.Lib.Builder
import Derived.Lib.UnsafeStr
import Derived.Shelf.Strings.Builder1
import Derived.Shelf.Strings.BuilderK
import Derived.Deep.Slices
import Derived.ChangeSame

namespace Go.Proofs.YtnojgejcmaajmaaDoor
open Go.RowKit
theorem tabs_text {P : Program} {w : World} {name : String} {g : Nat} {t e : TypeId} {n : Nat} {ts : List (List UInt8)} (hg : P.globalNamed name = some g) (hty : (P.globals[g]?).map (·.type) = some t)
    (ht : P.underlying t = some (.array n e)) (he : P.underlying e = some .string) (hce : P.cellsOf e = 1) (h : Lib.VarReads P w name (.agg (ts.map fun l => .lit (.string l)))) (k : Nat) (hk : k < n) :
    w.cell? ⟨g, k, none⟩ = some (.string (txt (ts.getD k []))) := by
  obtain ⟨g', t', cs, fuel, p, hg', hty', hvar, hd⟩ := h
  obtain rfl := Option.some.inj (hg.symm.trans hg')
  obtain rfl := Option.some.inj (hty.symm.trans hty')
  obtain ⟨fuel', d, q, hdi, hx⟩ := Lib.array_elem ht hd k hk
  rw [hce] at hx
  obtain ⟨s, hcs, hd', _⟩ := DataW.trod_string he hx
  have e1 : cs[k]? = some (.string s) := by
    have := congrArg (·[0]?) hcs
    simpa [List.getElem?_take, List.getElem?_drop] using this
  have e2 : ts[k]? = some s.data.toList := by
    have e3 : d = .lit (.string s.data.toList) := congrArg Prod.fst hd'
    rw [e3] at hdi
    simp only [List.getElem?_map, Option.map_eq_some_iff, DataW.lit.injEq, Lit.string.injEq] at hdi
    obtain ⟨l, h1, rfl⟩ := hdi
    exact h1
  rw [World.var?_cell hg hvar k, e1, List.getD, e2]
  rfl
theorem types_eq : (Rows.laid_counterfoil_kinds_types : DataW Unit) = .agg (tyL.map fun l => .lit (.string l)) := by kernel_rfl
theorem last_eq : (Rows.laid_counterfoil_kinds_lastNames : DataW Unit) = .agg (lastL.map fun l => .lit (.string l)) := by kernel_rfl
theorem ktabs_of {w : World} (h1 : Lib.VarReads Tryd.prog w "counterfoil/kinds.types" Rows.laid_counterfoil_kinds_types) (h2 : Lib.VarReads Tryd.prog w "counterfoil/kinds.lastNames" Rows.laid_counterfoil_kinds_lastNames) : KTabs w := by
  rw [types_eq] at h1
  rw [last_eq] at h2
  exact ⟨fun k hk => tabs_text (P := Tryd.prog) (g := 1) (by kernel_rfl) (by kernel_rfl) Tryd.underlying82 Tryd.underlying9 (by kernel_rfl) h1 k hk,
    fun k hk => tabs_text (P := Tryd.prog) (g := 0) (by kernel_rfl) (by kernel_rfl) Tryd.underlying74 Tryd.underlying9 (by kernel_rfl) h2 k hk⟩
end Go.Proofs.YtnojgejcmaajmaaDoor

namespace Go.Proofs.YtnojgejcmaajmaaDoor
open Go.RowKit
/-- What the rows of SubmitEnters and SubmitSettings list. -/
def sbKinds : List (String × DataW Unit) := [("counterfoil/kinds.types", Rows.laid_counterfoil_kinds_types), ("counterfoil/kinds.lastNames", Rows.laid_counterfoil_kinds_lastNames)]
theorem sbKindTabs_at {W : World} (hL : laidMet Tryd.prog sbKinds W) (hsh : W.ShapedOpen Tryd.prog) : KTabs W ∧ SomeMax W :=
  ⟨ktabs_of (Lib.laidMet.reads hL (.head _)) (Lib.laidMet.reads hL (.tail _ (.head _))), max_of hsh⟩
end Go.Proofs.YtnojgejcmaajmaaDoor

namespace Go.Proofs.YtnojgejcmaajmaaDoor
open Go.RowKit Go.ChangeShapes Go.WideShapes Go.Deep
theorem all_weights {H : Type} {P : Program} {e : TypeId} {p : Nat → Bool} : ∀ {l : List (DataW H)}, (DataW.weightsAll P e l).all p = true → ∀ {d}, d ∈ l → (d.weights P e).all p = true
  | [], _, _, hd => by cases hd
  | x :: l, h, d, hd => by
    have h : ((x.weights P e ++ DataW.weightsAll P e l).all p) = true := by simpa only [DataW.weightsAll] using h
    rw [List.all_append, Bool.and_eq_true] at h
    rcases List.mem_cons.1 hd with q | q
    · rw [q]; exact h.1
    · exact all_weights h.2 q
theorem addr_noneD {w : World} {a : Addr} {v : Value} (h : w.cell? a = some v) : a.spot = none := by
  unfold World.cell? at h
  split at h
  · split at h
    · cases h
    · rename_i q; simpa using q
  · cases h
theorem add_plain {a : Addr} (h : a.spot = none) (i : Nat) : a.add i = ⟨a.block, a.off + i, none⟩ := by
  unfold Addr.add
  split
  · rename_i q; subst q; cases a; simp_all
  · rfl
theorem cellsOfN : Tryd.prog.cellsOf 31 = 5 := by kernel_rfl
theorem cellsOfA : Tryd.prog.cellsOf 70 = 2 := by kernel_rfl
theorem cellsOfS : Tryd.prog.cellsOf 9 = 1 := by kernel_rfl
theorem cellsOfI : Tryd.prog.cellsOf 3 = 1 := by kernel_rfl
theorem cellsOfKs : Tryd.prog.cellsOf 29 = 1 := by kernel_rfl
theorem cellsOfAs : Tryd.prog.cellsOf 28 = 1 := by kernel_rfl
theorem bytesOfN : Tryd.prog.bytesOf 31 = 88 := by kernel_rfl
theorem bytesOfA : Tryd.prog.bytesOf 70 = 32 := by kernel_rfl
theorem bytesOfI : Tryd.prog.bytesOf 3 = 8 := by kernel_rfl
section
variable {H : Type} {enc : TypeId × Value → H} {w : World}
abbrev inReach (l : List Nat) : Prop := l.all (· ≤ reachBytes) = true
theorem addr_eta {a : Addr} (h : a.spot = none) : (some a : Option Addr) = some ⟨a.block, a.off, none⟩ := by cases a with | mk b o s => have h : s = none := h; rw [h]
theorem reach_slice {P : Program} {t e : TypeId} {els sp : List (DataW H)} (ht : P.underlying t = some (.slice e)) (h : inReach ((DataW.slice els sp).weights P t)) : (els.length + sp.length) * P.bytesOf e ≤ reachBytes ∧ inReach (DataW.weightsAll P e els) := by
  have h : inReach ((els.length + sp.length) * P.bytesOf e :: (DataW.weightsAll P e els ++ DataW.weightsAll P e sp)) := by simpa only [DataW.weights, ht] using h
  rw [inReach, List.all_cons, Bool.and_eq_true, List.all_append, Bool.and_eq_true] at h
  exact ⟨of_decide_eq_true h.1, h.2.1⟩
theorem open_kids {fuel : Nat} {v : Value} {x : DataW H × List MemPlace} (h : DataW.trod enc Tryd.prog w 0 (fun _ => true) true fuel 29 [v] = some x) (hr : inReach (x.1.weights Tryd.prog 29)) :
    ∃ ks, IntsV w v ks ∧ ks.length ≤ 17592186044416 := by
  rcases open_slice1 Tryd.underlying29 cellsOfI h with ⟨e, rfl⟩ | ⟨a, len, cap, m, n, V, D, Pl, e, _, hl, hm, hmm, rfl, hc⟩
  · cases e
    exact ⟨[], ⟨none, 0, rfl, .inl rfl⟩, by decide⟩
  · cases e
    have hmm : m = cap := by simpa using hmm
    subst hmm
    have hV : ∀ i, i < len → ∃ z : Int, w.cell? (a.add i) = some (.int .i64 z) := fun i hi => by
      obtain ⟨c1, c2⟩ := hc i (by omega)
      obtain ⟨z, e, _⟩ := DataW.trod_int Tryd.underlying3 c2
      have e : V i = .int .i64 z := (List.cons.inj e).1
      exact ⟨z, by rw [← e]; exact c1⟩
    obtain ⟨f, hf⟩ := choose_lt hV
    refine ⟨(List.range len).map f, ⟨some a, m, by simp, ?_⟩, ?_⟩
    · by_cases h0 : len = 0
      · exact .inl (by rw [h0]; rfl)
      · have sp := addr_noneD (hf 0 (by omega))
        have sp' : a.spot = none := by
          have : a.add 0 = a := by simp [Addr.add]
          rwa [this] at sp
        refine .inr ⟨a.block, a.off, addr_eta sp', fun i hi => ?_⟩
        have hi : i < len := by simpa using hi
        have := hf i hi
        rw [add_plain sp'] at this
        simpa using this
    · have := (reach_slice Tryd.underlying29 hr).1
      rw [bytesOfI, List.length_map, List.length_range, List.length_map, List.length_range] at this
      unfold reachBytes at this
      rw [List.length_map, List.length_range]
      omega
theorem reach_two {P : Program} {t : TypeId} {f0 f1 : Field} {x y : List UInt8} (ht : P.underlying t = some (.struct #[f0, f1])) (h : inReach ((DataW.agg [.lit (.string x), .lit (.string y)] : DataW H).weights P t)) : x.length ≤ reachBytes ∧ y.length ≤ reachBytes := by
  have h : inReach (DataW.weightsEach P [f0.type, f1.type] [(.lit (.string x) : DataW H), .lit (.string y)]) := by simpa only [DataW.weights, ht, List.map_cons, List.map_nil] using h
  have h : inReach ([x.length] ++ ([y.length] ++ [])) := h
  simp only [inReach, List.cons_append, List.nil_append, List.all_cons, List.all_nil, Bool.and_true, Bool.and_eq_true, decide_eq_true_eq] at h
  exact h
set_option maxRecDepth 100000 in
theorem open_attr {fuel : Nat} {cs : List Value} {x : DataW H × List MemPlace} (h : DataW.trod enc Tryd.prog w 0 (fun _ => true) true fuel 70 cs = some x) (hr : inReach (x.1.weights Tryd.prog 70)) :
    ∃ s t : ByteArray, cs = [.string s, .string t] ∧ s.size ≤ reachBytes ∧ t.size ≤ reachBytes := by
  obtain ⟨y0, y1, n, rfl, hl, h0, h1⟩ := trod_struct2 Tryd.underlying70 h
  rw [cellsOfA] at hl
  match cs, hl with
  | [c0, c1], _ =>
    rw [cellsOfS] at h0 h1
    obtain ⟨s, e, rfl, _⟩ := DataW.trod_string Tryd.underlying9 h0
    obtain ⟨t, e', rfl, _⟩ := DataW.trod_string Tryd.underlying9 h1
    cases e
    cases e'
    have := reach_two Tryd.underlying70 hr
    simp only [Array.length_toList] at this
    exact ⟨s, t, rfl, this.1, this.2⟩
theorem open_attrs {fuel : Nat} {v : Value} {x : DataW H × List MemPlace} (h : DataW.trod enc Tryd.prog w 0 (fun _ => true) true fuel 28 [v] = some x) (hr : inReach (x.1.weights Tryd.prog 28)) :
    ∃ ax, AttrsV w v ax ∧ CapOK v ∧ ax.length ≤ 4398046511104 ∧ ∀ a ∈ ax, a.1.size ≤ reachBytes ∧ a.2.size ≤ reachBytes := by
  rcases open_slice Tryd.underlying28 h with ⟨e, rfl⟩ | ⟨a, len, cap, m, n, D, Pl, e, _, hl, hm, hmm, rfl, hc⟩
  · cases e
    exact ⟨[], ⟨none, 0, rfl, .inl rfl⟩, (fun p n c e => by cases e; exact Nat.le_refl _), by decide, (fun a q => by cases q)⟩
  · cases e
    have hmm : m = cap := by simpa using hmm
    subst hmm
    rw [cellsOfA] at hc
    have hV : ∀ i, i < len → ∃ z : ByteArray × ByteArray, (w.cell? (a.add (i * 2)) = some (.string z.1) ∧ w.cell? ((a.add (i * 2)).add 1) = some (.string z.2)) ∧ z.1.size ≤ reachBytes ∧ z.2.size ≤ reachBytes := fun i hi => by
      obtain ⟨cs', c1, c2⟩ := hc i (by omega)
      obtain ⟨s, t, rfl, z0, z1⟩ := open_attr c2 (all_weights (reach_slice Tryd.underlying28 hr).2 (List.mem_map.2 ⟨i, List.mem_range.2 hi, rfl⟩))
      have := (World.cells?_some c1).2.2
      have q0 := this 0 (by omega)
      have q1 := this 1 (by omega)
      rw [show (a.add (i * 2)).add 0 = a.add (i * 2) by simp [Addr.add]] at q0
      exact ⟨(s, t), ⟨q0, q1⟩, z0, z1⟩
    obtain ⟨f, hf⟩ := choose_lt hV
    refine ⟨(List.range len).map f, ⟨some a, m, by simp, ?_⟩, (fun p n c e => by cases e; exact hl), ?_, ?_⟩
    · by_cases h0 : len = 0
      · exact .inl (by rw [h0]; rfl)
      · have sp := addr_noneD (hf 0 (by omega)).1.1
        have sp' : a.spot = none := by
          have : a.add (0 * 2) = a := by simp [Addr.add]
          rwa [this] at sp
        refine .inr ⟨a.block, a.off, addr_eta sp', fun i hi => ?_⟩
        have hi : i < len := by simpa using hi
        have := (hf i hi).1
        rw [add_plain sp', add_plain rfl] at this
        simpa using this
    · have := (reach_slice Tryd.underlying28 hr).1
      rw [bytesOfA, List.length_map, List.length_range, List.length_map, List.length_range] at this
      unfold reachBytes at this
      rw [List.length_map, List.length_range]
      omega
    · intro y hy
      obtain ⟨i, hi, rfl⟩ := List.mem_map.1 hy
      exact (hf i (List.mem_range.1 hi)).2
set_option maxRecDepth 100000 in
theorem open_node {fuel : Nat} {cs : List Value} {x : DataW H × List MemPlace} (h : DataW.trod enc Tryd.prog w 0 (fun _ => true) true fuel 31 cs = some x) (hr : inReach (x.1.weights Tryd.prog 31)) :
    ∃ (n : Nd) (va vk : Value), cs = [.string n.name, .string n.text, va, .int .i64 n.parent, vk] ∧ AttrsV w va n.attrs ∧ IntsV w vk n.kids ∧ CapOK va ∧ NdSz n := by
  obtain ⟨xs, n, _, rfl, hl, hlen, hf⟩ := DataW.trod_struct Tryd.underlying31 h
  rw [cellsOfN] at hl
  match xs, hlen with
  | [y0, y1, y2, y3, y4], _ =>
    match cs, hl with
    | [c0, c1, c2, c3, c4], _ =>
      have h0 : DataW.trod enc Tryd.prog w 0 (fun _ => true) true n 9 (List.take (Tryd.prog.cellsOf 9) (List.drop 0 [c0, c1, c2, c3, c4])) = some y0 := hf 0 _ rfl
      have h1 : DataW.trod enc Tryd.prog w 0 (fun _ => true) true n 9 (List.take (Tryd.prog.cellsOf 9) (List.drop 1 [c0, c1, c2, c3, c4])) = some y1 := hf 1 _ rfl
      have h2 : DataW.trod enc Tryd.prog w 0 (fun _ => true) true n 28 (List.take (Tryd.prog.cellsOf 28) (List.drop 2 [c0, c1, c2, c3, c4])) = some y2 := hf 2 _ rfl
      have h3 : DataW.trod enc Tryd.prog w 0 (fun _ => true) true n 3 (List.take (Tryd.prog.cellsOf 3) (List.drop 3 [c0, c1, c2, c3, c4])) = some y3 := hf 3 _ rfl
      have h4 : DataW.trod enc Tryd.prog w 0 (fun _ => true) true n 29 (List.take (Tryd.prog.cellsOf 29) (List.drop 4 [c0, c1, c2, c3, c4])) = some y4 := hf 4 _ rfl
      rw [cellsOfS] at h0 h1
      rw [cellsOfAs] at h2
      rw [cellsOfI] at h3
      rw [cellsOfKs] at h4
      obtain ⟨s, e0, _, z0⟩ := DataW.trod_string Tryd.underlying9 (x := y0) h0
      obtain ⟨t, e1, _, z1⟩ := DataW.trod_string Tryd.underlying9 (x := y1) h1
      obtain ⟨p, e3, _⟩ := DataW.trod_int Tryd.underlying3 (x := y3) h3
      cases e0
      cases e1
      cases e3
      simp only [inReach, List.map_cons, List.map_nil, DataW.weights, Tryd.underlying31, DataW.weightsEach, List.all_append, Bool.and_eq_true] at hr
      obtain ⟨ax, a1, a2, a3, a4⟩ := open_attrs (x := y2) h2 hr.2.2.1
      obtain ⟨ks, k1, k2⟩ := open_kids (x := y4) h4 hr.2.2.2.2.1
      exact ⟨⟨s, t, ax, p, ks⟩, c2, c4, rfl, a1, k1, a2, ⟨z0, z1, (fun a ha => by have := a4 a ha; unfold reachBytes at this; unfold maxLen; omega), a3, k2, (fun a ha => by have := (a4 a ha).2; unfold reachBytes at this; exact this)⟩⟩
/-- A document that came in. -/
theorem open_doc {fuel : Nat} {v : Value} {x : DataW H × List MemPlace} (h : DataW.trod enc Tryd.prog w 0 (fun _ => true) true fuel 22 [v] = some x) (hr : inReach (x.1.weights Tryd.prog 22)) :
    ∃ l, NodesV w v l ∧ DocSz l := by
  rcases open_slice Tryd.underlying22 h with ⟨e, rfl⟩ | ⟨a, len, cap, m, n, D, Pl, e, _, hl, hm, hmm, rfl, hc⟩
  · cases e
    exact ⟨[], ⟨none, 0, rfl, .inl rfl⟩, by decide, (fun a q => by cases q)⟩
  · cases e
    have hmm : m = cap := by simpa using hmm
    subst hmm
    rw [cellsOfN] at hc
    have hr := reach_slice Tryd.underlying22 hr
    rw [bytesOfN, List.length_map, List.length_range, List.length_map, List.length_range] at hr
    have hV : ∀ i, i < len → ∃ z : Nd, (∃ va vk, w.cell? (a.add (i * 5)) = some (.string z.name) ∧ w.cell? ((a.add (i * 5)).add 1) = some (.string z.text) ∧ w.cell? ((a.add (i * 5)).add 2) = some va ∧ w.cell? ((a.add (i * 5)).add 3) = some (.int .i64 z.parent) ∧ w.cell? ((a.add (i * 5)).add 4) = some vk ∧ AttrsV w va z.attrs ∧ IntsV w vk z.kids ∧ CapOK va) ∧ NdSz z := fun i hi => by
      obtain ⟨cs', c1, c2⟩ := hc i (by omega)
      obtain ⟨z, va, vk, rfl, a1, a2, a3, a4⟩ := open_node c2 (all_weights hr.2 (List.mem_map.2 ⟨i, List.mem_range.2 hi, rfl⟩))
      have := (World.cells?_some c1).2.2
      have q0 := this 0 (by omega)
      have q1 := this 1 (by omega)
      have q2 := this 2 (by omega)
      have q3 := this 3 (by omega)
      have q4 := this 4 (by omega)
      rw [show (a.add (i * 5)).add 0 = a.add (i * 5) by simp [Addr.add]] at q0
      exact ⟨z, ⟨va, vk, q0, q1, q2, q3, q4, a1, a2, a3⟩, a4⟩
    haveI : Inhabited Nd := ⟨nd0⟩
    obtain ⟨f, hf⟩ := choose_lt hV
    refine ⟨(List.range len).map f, ⟨some a, m, by simp, ?_⟩, ?_, ?_⟩
    · by_cases h0 : len = 0
      · exact .inl (by rw [h0]; rfl)
      · obtain ⟨va, vk, c0, _⟩ := (hf 0 (by omega)).1
        have sp := addr_noneD c0
        have sp' : a.spot = none := by
          have : a.add (0 * 5) = a := by simp [Addr.add]
          rwa [this] at sp
        refine .inr ⟨a.block, a.off, addr_eta sp', fun i hi => ?_⟩
        have hi : i < len := by simpa using hi
        obtain ⟨va, vk, c0, c1, c2, c3, c4, a1, a2, a3⟩ := (hf i hi).1
        rw [add_plain sp'] at c0
        rw [add_plain sp', add_plain rfl] at c1 c2 c3 c4
        refine ⟨va, vk, ?_⟩
        rw [show ((List.range len).map f)[i]'(by simpa using hi) = f i by simp]
        exact ⟨c0, c1, c2, c3, c4, a1, a2, a3⟩
    · have := hr.1
      unfold reachBytes at this
      rw [List.length_map, List.length_range]
      omega
    · intro y hy
      obtain ⟨i, hi, rfl⟩ := List.mem_map.1 hy
      exact (hf i (List.mem_range.1 hi)).2
end

end Go.Proofs.YtnojgejcmaajmaaDoor
