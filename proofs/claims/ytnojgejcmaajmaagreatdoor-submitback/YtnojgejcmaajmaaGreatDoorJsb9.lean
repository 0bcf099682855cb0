/- The wrap of a row that lists variables, for a contract that wants the world's shape besides (that a variable of the library's own holds some number). The wrap of a row that lists variables, for a contract that wants the world's shape and the form's reach besides. An argument that is a document, opened. -/
import Derived.Test.YtnojgejcmaajmaaGreatDoorJsb2
import Derived.Handed
import Derived.Shelf.Vars
import Derived.Deep.Slices
import Derived.ChangeSame

namespace Go.Proofs.YtnojgejcmaajmaaGreatDoor
open Go
set_option maxRecDepth 100000
theorem max_of {W : World} (h : W.ShapedOpen Tryz.prog) : ∃ m, W.cell? ⟨2, 0, none⟩ = some (.int .i64 m) :=
  cell_of_shapedOpen_int (P := Tryz.prog) (g := 2) (t := 3) (zero := #[.int .i64 0]) h (of_decide_eq_true (by kernel_rfl)) (by kernel_rfl) rfl (by kernel_rfl) (by kernel_rfl) Tryz.underlying3
end Go.Proofs.YtnojgejcmaajmaaGreatDoor

namespace Go.Proofs.YtnojgejcmaajmaaGreatDoor
open Go
set_option maxRecDepth 100000
theorem handed_both {H : Type} {enc : TypeId × Value → H} {C : Checked} {os : Os} {f : FuncId} {fn : Func} {s : ChangeSpec} {conds : List PathCond} {X : World → Array Value → Prop}
    (hX : ∀ (u v : World) (xs : Array Value), u.heap = v.heap → X u xs → X v xs) (own : ownKnob C.prog.godebug = none) (started : os.Started) (noInit : C.prog.inits.idxOf? f = none) (hfn : C.prog.funcs[f]? = some fn)
    (seen : ∃ (w : World) (tape : Tape) (i : Input), w.os = os ∧ (w.forCall tape i).Shaped C.prog ∧ i.vars = [] ∧ Input.okWide C.prog (w.forCall tape i) .any w.heap.size f i ∧
      ((s.pre enc C.prog fn conds false (w.forCall tape i).memory i.args ∧ X (w.forCall tape i).memory i.args) ∧ sizedMet enc C.prog fn (OpenSpec.ofChange s) false (w.forCall tape i).memory i.args) ∧ ({} : Assume).holds C.prog (lone (Frame.enter C.prog f i.args .normal) [] (w.forCall tape i)))
    (call : ∀ (W : World) (base : Nat) (xs : Array Value) (ds gs : List (DataW H)) (before : List MemPlace),
      (∀ (j : Nat) t v, fn.params[j]? = some t → xs[j]? = some v → Value.okWide C.prog W .any base t v) → DataW.Whole enc C.prog fn.params.toList s.vars false W xs.toList ds gs before → (DataW.weightsEach C.prog (fn.params.toList ++ s.plain.varTypes C.prog) (ds ++ gs)).all (· ≤ reachBytes) = true → X W xs → W.ShapedOpen C.prog →
      Calls C.prog f xs W fun e W' => ∃ v, e = .returned v ∧ s.post enc C.prog fn false true false false W xs v W') :
    ReturnsInHanded {} C os f .any (fun w xs => (s.pre enc C.prog fn conds false w xs ∧ X w xs) ∧ sizedMet enc C.prog fn (OpenSpec.ofChange s) false w xs) (s.post enc C.prog fn false true false false) := by
  refine returnsInHanded_of_calls own started noInit seen fun w tape i _ shape _ ok pre _ => ?_
  obtain ⟨_, _, _, fn2, found, _, _, _, _, vals⟩ := ok
  cases (found.symm.trans hfn : some fn2 = some fn)
  obtain ⟨⟨⟨ds, gs, before, whole, _⟩, laid⟩, hz⟩ := pre
  have whole2 := DataW.Whole.of_heap (w' := w.forCall tape i) (by rfl) whole
  refine (call (w.forCall tape i) w.heap.size i.args ds gs before vals whole2 (hz.weights whole) (hX _ _ _ (by rfl) laid) shape).mono ?_
  rintro e W' ⟨v, rfl, post⟩
  exact ChangeSpec.post_blind post
theorem reach_first {H : Type} {P : Program} {t : TypeId} {ts : List TypeId} {d : DataW H} {ds : List (DataW H)} (h : (DataW.weightsEach P (t :: ts) (d :: ds)).all (· ≤ reachBytes) = true) : (d.weights P t).all (· ≤ reachBytes) = true := by
  simp only [DataW.weightsEach, List.all_append, Bool.and_eq_true] at h
  exact h.1
end Go.Proofs.YtnojgejcmaajmaaGreatDoor

namespace Go.Proofs.YtnojgejcmaajmaaGreatDoor
open Go.RowKit Go.ChangeShapes Go.WideShapes Go.Deep
theorem all_weights {H : Type} {P : Program} {e : TypeId} {p : Nat → Bool} : ∀ {l : List (DataW H)}, (DataW.weightsAll P e l).all p = true → ∀ {d}, d ∈ l → (d.weights P e).all p = true
  | [], _, _, hd => by cases hd
  | x :: l, h, d, hd => by
    have h : ((x.weights P e ++ DataW.weightsAll P e l).all p) = true := by simpa only [DataW.weightsAll] using h
    rw [List.all_append, Bool.and_eq_true] at h
    rcases List.mem_cons.1 hd with q | q
    · rw [q]; exact h.1
    · exact all_weights h.2 q
theorem addr_noneD {w : World} {a : Addr} {v : Value} (h : w.cell? a = some v) : a.spot = none := by
  unfold World.cell? at h
  split at h
  · split at h
    · cases h
    · rename_i q; simpa using q
  · cases h
theorem add_plain {a : Addr} (h : a.spot = none) (i : Nat) : a.add i = ⟨a.block, a.off + i, none⟩ := by
  unfold Addr.add
  split
  · rename_i q; subst q; cases a; simp_all
  · rfl
theorem cellsOfN : Tryz.prog.cellsOf 57 = 5 := by kernel_rfl
theorem cellsOfA : Tryz.prog.cellsOf 131 = 2 := by kernel_rfl
theorem cellsOfS : Tryz.prog.cellsOf 9 = 1 := by kernel_rfl
theorem cellsOfI : Tryz.prog.cellsOf 3 = 1 := by kernel_rfl
theorem cellsOfKs : Tryz.prog.cellsOf 55 = 1 := by kernel_rfl
theorem cellsOfAs : Tryz.prog.cellsOf 54 = 1 := by kernel_rfl
theorem bytesOfN : Tryz.prog.bytesOf 57 = 88 := by kernel_rfl
theorem bytesOfA : Tryz.prog.bytesOf 131 = 32 := by kernel_rfl
theorem bytesOfI : Tryz.prog.bytesOf 3 = 8 := by kernel_rfl
section
variable {H : Type} {enc : TypeId × Value → H} {w : World}
abbrev inReach (l : List Nat) : Prop := l.all (· ≤ reachBytes) = true
theorem addr_eta {a : Addr} (h : a.spot = none) : (some a : Option Addr) = some ⟨a.block, a.off, none⟩ := by cases a with | mk b o s => have h : s = none := h; rw [h]
theorem reach_slice {P : Program} {t e : TypeId} {els sp : List (DataW H)} (ht : P.underlying t = some (.slice e)) (h : inReach ((DataW.slice els sp).weights P t)) : (els.length + sp.length) * P.bytesOf e ≤ reachBytes ∧ inReach (DataW.weightsAll P e els) := by
  have h : inReach ((els.length + sp.length) * P.bytesOf e :: (DataW.weightsAll P e els ++ DataW.weightsAll P e sp)) := by simpa only [DataW.weights, ht] using h
  rw [inReach, List.all_cons, Bool.and_eq_true, List.all_append, Bool.and_eq_true] at h
  exact ⟨of_decide_eq_true h.1, h.2.1⟩
theorem open_kids {fuel : Nat} {v : Value} {x : DataW H × List MemPlace} (h : DataW.trod enc Tryz.prog w 0 (fun _ => true) true fuel 55 [v] = some x) (hr : inReach (x.1.weights Tryz.prog 55)) :
    ∃ ks, IntsV w v ks ∧ ks.length ≤ 17592186044416 := by
  rcases open_slice1 Tryz.underlying55 cellsOfI h with ⟨e, rfl⟩ | ⟨a, len, cap, m, n, V, D, Pl, e, _, hl, hm, hmm, rfl, hc⟩
  · cases e
    exact ⟨[], ⟨none, 0, rfl, .inl rfl⟩, by decide⟩
  · cases e
    have hmm : m = cap := by simpa using hmm
    subst hmm
    have hV : ∀ i, i < len → ∃ z : Int, w.cell? (a.add i) = some (.int .i64 z) := fun i hi => by
      obtain ⟨c1, c2⟩ := hc i (by omega)
      obtain ⟨z, e, _⟩ := DataW.trod_int Tryz.underlying3 c2
      have e : V i = .int .i64 z := (List.cons.inj e).1
      exact ⟨z, by rw [← e]; exact c1⟩
    obtain ⟨f, hf⟩ := choose_lt hV
    refine ⟨(List.range len).map f, ⟨some a, m, by simp, ?_⟩, ?_⟩
    · by_cases h0 : len = 0
      · exact .inl (by rw [h0]; rfl)
      · have sp := addr_noneD (hf 0 (by omega))
        have sp' : a.spot = none := by
          have : a.add 0 = a := by simp [Addr.add]
          rwa [this] at sp
        refine .inr ⟨a.block, a.off, addr_eta sp', fun i hi => ?_⟩
        have hi : i < len := by simpa using hi
        have := hf i hi
        rw [add_plain sp'] at this
        simpa using this
    · have := (reach_slice Tryz.underlying55 hr).1
      rw [bytesOfI, List.length_map, List.length_range, List.length_map, List.length_range] at this
      unfold reachBytes at this
      rw [List.length_map, List.length_range]
      omega
theorem reach_two {P : Program} {t : TypeId} {f0 f1 : Field} {x y : List UInt8} (ht : P.underlying t = some (.struct #[f0, f1])) (h : inReach ((DataW.agg [.lit (.string x), .lit (.string y)] : DataW H).weights P t)) : x.length ≤ reachBytes ∧ y.length ≤ reachBytes := by
  have h : inReach (DataW.weightsEach P [f0.type, f1.type] [(.lit (.string x) : DataW H), .lit (.string y)]) := by simpa only [DataW.weights, ht, List.map_cons, List.map_nil] using h
  have h : inReach ([x.length] ++ ([y.length] ++ [])) := h
  simp only [inReach, List.cons_append, List.nil_append, List.all_cons, List.all_nil, Bool.and_true, Bool.and_eq_true, decide_eq_true_eq] at h
  exact h
set_option maxRecDepth 100000 in
theorem open_attr {fuel : Nat} {cs : List Value} {x : DataW H × List MemPlace} (h : DataW.trod enc Tryz.prog w 0 (fun _ => true) true fuel 131 cs = some x) (hr : inReach (x.1.weights Tryz.prog 131)) :
    ∃ s t : ByteArray, cs = [.string s, .string t] ∧ s.size ≤ reachBytes ∧ t.size ≤ reachBytes := by
  obtain ⟨y0, y1, n, rfl, hl, h0, h1⟩ := trod_struct2 Tryz.underlying131 h
  rw [cellsOfA] at hl
  match cs, hl with
  | [c0, c1], _ =>
    rw [cellsOfS] at h0 h1
    obtain ⟨s, e, rfl, _⟩ := DataW.trod_string Tryz.underlying9 h0
    obtain ⟨t, e', rfl, _⟩ := DataW.trod_string Tryz.underlying9 h1
    cases e
    cases e'
    have := reach_two Tryz.underlying131 hr
    simp only [Array.length_toList] at this
    exact ⟨s, t, rfl, this.1, this.2⟩
theorem open_attrs {fuel : Nat} {v : Value} {x : DataW H × List MemPlace} (h : DataW.trod enc Tryz.prog w 0 (fun _ => true) true fuel 54 [v] = some x) (hr : inReach (x.1.weights Tryz.prog 54)) :
    ∃ ax, AttrsV w v ax ∧ CapOK v ∧ ax.length ≤ 4398046511104 ∧ ∀ a ∈ ax, a.1.size ≤ reachBytes ∧ a.2.size ≤ reachBytes := by
  rcases open_slice Tryz.underlying54 h with ⟨e, rfl⟩ | ⟨a, len, cap, m, n, D, Pl, e, _, hl, hm, hmm, rfl, hc⟩
  · cases e
    exact ⟨[], ⟨none, 0, rfl, .inl rfl⟩, (fun p n c e => by cases e; exact Nat.le_refl _), by decide, (fun a q => by cases q)⟩
  · cases e
    have hmm : m = cap := by simpa using hmm
    subst hmm
    rw [cellsOfA] at hc
    have hV : ∀ i, i < len → ∃ z : ByteArray × ByteArray, (w.cell? (a.add (i * 2)) = some (.string z.1) ∧ w.cell? ((a.add (i * 2)).add 1) = some (.string z.2)) ∧ z.1.size ≤ reachBytes ∧ z.2.size ≤ reachBytes := fun i hi => by
      obtain ⟨cs', c1, c2⟩ := hc i (by omega)
      obtain ⟨s, t, rfl, z0, z1⟩ := open_attr c2 (all_weights (reach_slice Tryz.underlying54 hr).2 (List.mem_map.2 ⟨i, List.mem_range.2 hi, rfl⟩))
      have := (World.cells?_some c1).2.2
      have q0 := this 0 (by omega)
      have q1 := this 1 (by omega)
      rw [show (a.add (i * 2)).add 0 = a.add (i * 2) by simp [Addr.add]] at q0
      exact ⟨(s, t), ⟨q0, q1⟩, z0, z1⟩
    obtain ⟨f, hf⟩ := choose_lt hV
    refine ⟨(List.range len).map f, ⟨some a, m, by simp, ?_⟩, (fun p n c e => by cases e; exact hl), ?_, ?_⟩
    · by_cases h0 : len = 0
      · exact .inl (by rw [h0]; rfl)
      · have sp := addr_noneD (hf 0 (by omega)).1.1
        have sp' : a.spot = none := by
          have : a.add (0 * 2) = a := by simp [Addr.add]
          rwa [this] at sp
        refine .inr ⟨a.block, a.off, addr_eta sp', fun i hi => ?_⟩
        have hi : i < len := by simpa using hi
        have := (hf i hi).1
        rw [add_plain sp', add_plain rfl] at this
        simpa using this
    · have := (reach_slice Tryz.underlying54 hr).1
      rw [bytesOfA, List.length_map, List.length_range, List.length_map, List.length_range] at this
      unfold reachBytes at this
      rw [List.length_map, List.length_range]
      omega
    · intro y hy
      obtain ⟨i, hi, rfl⟩ := List.mem_map.1 hy
      exact (hf i (List.mem_range.1 hi)).2
set_option maxRecDepth 100000 in
theorem open_node {fuel : Nat} {cs : List Value} {x : DataW H × List MemPlace} (h : DataW.trod enc Tryz.prog w 0 (fun _ => true) true fuel 57 cs = some x) (hr : inReach (x.1.weights Tryz.prog 57)) :
    ∃ (n : Nd) (va vk : Value), cs = [.string n.name, .string n.text, va, .int .i64 n.parent, vk] ∧ AttrsV w va n.attrs ∧ IntsV w vk n.kids ∧ CapOK va ∧ NdSz n := by
  obtain ⟨xs, n, _, rfl, hl, hlen, hf⟩ := DataW.trod_struct Tryz.underlying57 h
  rw [cellsOfN] at hl
  match xs, hlen with
  | [y0, y1, y2, y3, y4], _ =>
    match cs, hl with
    | [c0, c1, c2, c3, c4], _ =>
      have h0 : DataW.trod enc Tryz.prog w 0 (fun _ => true) true n 9 (List.take (Tryz.prog.cellsOf 9) (List.drop 0 [c0, c1, c2, c3, c4])) = some y0 := hf 0 _ rfl
      have h1 : DataW.trod enc Tryz.prog w 0 (fun _ => true) true n 9 (List.take (Tryz.prog.cellsOf 9) (List.drop 1 [c0, c1, c2, c3, c4])) = some y1 := hf 1 _ rfl
      have h2 : DataW.trod enc Tryz.prog w 0 (fun _ => true) true n 54 (List.take (Tryz.prog.cellsOf 54) (List.drop 2 [c0, c1, c2, c3, c4])) = some y2 := hf 2 _ rfl
      have h3 : DataW.trod enc Tryz.prog w 0 (fun _ => true) true n 3 (List.take (Tryz.prog.cellsOf 3) (List.drop 3 [c0, c1, c2, c3, c4])) = some y3 := hf 3 _ rfl
      have h4 : DataW.trod enc Tryz.prog w 0 (fun _ => true) true n 55 (List.take (Tryz.prog.cellsOf 55) (List.drop 4 [c0, c1, c2, c3, c4])) = some y4 := hf 4 _ rfl
      rw [cellsOfS] at h0 h1
      rw [cellsOfAs] at h2
      rw [cellsOfI] at h3
      rw [cellsOfKs] at h4
      obtain ⟨s, e0, _, z0⟩ := DataW.trod_string Tryz.underlying9 (x := y0) h0
      obtain ⟨t, e1, _, z1⟩ := DataW.trod_string Tryz.underlying9 (x := y1) h1
      obtain ⟨p, e3, _⟩ := DataW.trod_int Tryz.underlying3 (x := y3) h3
      cases e0
      cases e1
      cases e3
      simp only [inReach, List.map_cons, List.map_nil, DataW.weights, Tryz.underlying57, DataW.weightsEach, List.all_append, Bool.and_eq_true] at hr
      obtain ⟨ax, a1, a2, a3, a4⟩ := open_attrs (x := y2) h2 hr.2.2.1
      obtain ⟨ks, k1, k2⟩ := open_kids (x := y4) h4 hr.2.2.2.2.1
      exact ⟨⟨s, t, ax, p, ks⟩, c2, c4, rfl, a1, k1, a2, ⟨z0, z1, (fun a ha => by have := a4 a ha; unfold reachBytes at this; unfold maxLen; omega), a3, k2, (fun a ha => by have := (a4 a ha).2; unfold reachBytes at this; exact this)⟩⟩
/-- A document that came in. -/
theorem open_doc {fuel : Nat} {v : Value} {x : DataW H × List MemPlace} (h : DataW.trod enc Tryz.prog w 0 (fun _ => true) true fuel 22 [v] = some x) (hr : inReach (x.1.weights Tryz.prog 22)) :
    ∃ l, NodesV w v l ∧ DocSz l := by
  rcases open_slice Tryz.underlying22 h with ⟨e, rfl⟩ | ⟨a, len, cap, m, n, D, Pl, e, _, hl, hm, hmm, rfl, hc⟩
  · cases e
    exact ⟨[], ⟨none, 0, rfl, .inl rfl⟩, by decide, (fun a q => by cases q)⟩
  · cases e
    have hmm : m = cap := by simpa using hmm
    subst hmm
    rw [cellsOfN] at hc
    have hr := reach_slice Tryz.underlying22 hr
    rw [bytesOfN, List.length_map, List.length_range, List.length_map, List.length_range] at hr
    have hV : ∀ i, i < len → ∃ z : Nd, (∃ va vk, w.cell? (a.add (i * 5)) = some (.string z.name) ∧ w.cell? ((a.add (i * 5)).add 1) = some (.string z.text) ∧ w.cell? ((a.add (i * 5)).add 2) = some va ∧ w.cell? ((a.add (i * 5)).add 3) = some (.int .i64 z.parent) ∧ w.cell? ((a.add (i * 5)).add 4) = some vk ∧ AttrsV w va z.attrs ∧ IntsV w vk z.kids ∧ CapOK va) ∧ NdSz z := fun i hi => by
      obtain ⟨cs', c1, c2⟩ := hc i (by omega)
      obtain ⟨z, va, vk, rfl, a1, a2, a3, a4⟩ := open_node c2 (all_weights hr.2 (List.mem_map.2 ⟨i, List.mem_range.2 hi, rfl⟩))
      have := (World.cells?_some c1).2.2
      have q0 := this 0 (by omega)
      have q1 := this 1 (by omega)
      have q2 := this 2 (by omega)
      have q3 := this 3 (by omega)
      have q4 := this 4 (by omega)
      rw [show (a.add (i * 5)).add 0 = a.add (i * 5) by simp [Addr.add]] at q0
      exact ⟨z, ⟨va, vk, q0, q1, q2, q3, q4, a1, a2, a3⟩, a4⟩
    haveI : Inhabited Nd := ⟨nd0⟩
    obtain ⟨f, hf⟩ := choose_lt hV
    refine ⟨(List.range len).map f, ⟨some a, m, by simp, ?_⟩, ?_, ?_⟩
    · by_cases h0 : len = 0
      · exact .inl (by rw [h0]; rfl)
      · obtain ⟨va, vk, c0, _⟩ := (hf 0 (by omega)).1
        have sp := addr_noneD c0
        have sp' : a.spot = none := by
          have : a.add (0 * 5) = a := by simp [Addr.add]
          rwa [this] at sp
        refine .inr ⟨a.block, a.off, addr_eta sp', fun i hi => ?_⟩
        have hi : i < len := by simpa using hi
        obtain ⟨va, vk, c0, c1, c2, c3, c4, a1, a2, a3⟩ := (hf i hi).1
        rw [add_plain sp'] at c0
        rw [add_plain sp', add_plain rfl] at c1 c2 c3 c4
        refine ⟨va, vk, ?_⟩
        rw [show ((List.range len).map f)[i]'(by simpa using hi) = f i by simp]
        exact ⟨c0, c1, c2, c3, c4, a1, a2, a3⟩
    · have := hr.1
      unfold reachBytes at this
      rw [List.length_map, List.length_range]
      omega
    · intro y hy
      obtain ⟨i, hi, rfl⟩ := List.mem_map.1 hy
      exact (hf i (List.mem_range.1 hi)).2
end

end Go.Proofs.YtnojgejcmaajmaaGreatDoor
