/- Paths to nodes, and the listeners that an event calls, as functions of documents and listeners. Arguments that are a row of listeners, and an event that is asked for, opened. -/
import Derived.Test.YtmobcijigiacoaaJev18
import Derived.Test.YtmobcijigiacoaaJev22

namespace Go.Proofs.Ytmobcijigiacoaa
open Go.RowKit
theorem at_mem {n ph : Int} {k : ByteArray} {c : Bool} : ∀ {xs : List Ls} {i : Nat} {z : Cl}, z ∈ atF n ph k c i xs ↔ ∃ j, ∃ h : j < xs.length, z = (((i + j : Nat) : Int), n, ph) ∧ lsB n k c xs[j] = true
  | [], i, z => ⟨fun h => (by cases h), fun ⟨j, h, _⟩ => (by simp at h)⟩
  | x :: xs, i, z => by
    show z ∈ _ ++ atF n ph k c (i + 1) xs ↔ _
    rw [List.mem_append, at_mem (xs := xs)]
    constructor
    · rintro (h | ⟨j, hj, e, q⟩)
      · split at h
        · rename_i q
          rw [List.mem_singleton] at h
          exact ⟨0, by simp, h, q⟩
        · cases h
      · exact ⟨j + 1, by simpa using hj, by rw [e, show i + 1 + j = i + (j + 1) by omega], q⟩
    · rintro ⟨j, hj, e, q⟩
      cases j with
      | zero =>
        left
        have q' : lsB n k c x = true := q
        rw [if_pos q', List.mem_singleton]; exact e
      | succ j => exact .inr ⟨j, by simpa using hj, by rw [e, show i + (j + 1) = i + 1 + j by omega], q⟩
theorem at_lt {n ph : Int} {k : ByteArray} {c : Bool} : ∀ {xs : List Ls} {i : Nat}, (atF n ph k c i xs).Pairwise (fun a b => a.1 < b.1)
  | [], _ => List.Pairwise.nil
  | x :: xs, i => by
    show (_ ++ atF n ph k c (i + 1) xs).Pairwise _
    rw [List.pairwise_append]
    refine ⟨by split <;> simp, at_lt, fun a ha b hb => ?_⟩
    split at ha
    · rw [List.mem_singleton] at ha
      obtain ⟨j, _, e, _⟩ := at_mem.1 hb
      rw [ha, e]
      show (i : Int) < ((i + 1 + j : Nat) : Int)
      omega
    · cases ha
theorem at_nodup {n ph : Int} {k : ByteArray} {c : Bool} {xs : List Ls} {i : Nat} : ((atF n ph k c i xs).map (·.1)).Nodup := by
  rw [List.Nodup, List.pairwise_map]
  exact at_lt.imp fun {a b} h e => by omega
theorem drop_not {l : List Nd} {t : Int} : t ∉ (pathP l t).dropLast := by
  by_cases h : hasN l t = true
  · have n := path_nodup (l := l) (t := t)
    rw [path_drop h] at n ⊢
    rw [List.dropLast_concat]
    exact fun q => (List.nodup_append.1 n).2.2 t q t (List.mem_singleton.2 rfl) rfl
  · rw [path_none (by simpa using h)]; intro q; cases q
theorem drop_nodup {l : List Nd} {t : Int} : ((pathP l t).dropLast).Nodup := path_nodup.sublist (List.dropLast_sublist _)
theorem grp_mem {l : List Nd} {t : Int} {b : Bool} {g : Int × Int × Bool} (h : g ∈ grpE l t b) : (g.2 = (1, true) ∧ g.1 ∈ (pathP l t).dropLast) ∨ (g.2.1 = 2 ∧ g.1 = t ∧ ¬ pathP l t = []) ∨ (g.2 = (3, false) ∧ g.1 ∈ (pathP l t).dropLast ∧ b = true) := by
  unfold grpE at h
  rcases List.mem_append.1 h with h | h
  · obtain ⟨x, hx, rfl⟩ := List.mem_map.1 h
    exact .inl ⟨rfl, hx⟩
  · rcases List.mem_append.1 h with h | h
    · split at h
      · cases h
      · rename_i q
        simp only [List.mem_cons, List.not_mem_nil, or_false] at h
        rcases h with rfl | rfl
        · exact .inr (.inl ⟨rfl, rfl, q⟩)
        · exact .inr (.inl ⟨rfl, rfl, q⟩)
    · split at h
      · rename_i q
        obtain ⟨x, hx, rfl⟩ := List.mem_map.1 h
        exact .inr (.inr ⟨rfl, List.mem_reverse.1 hx, q⟩)
      · cases h
theorem grp_nodup {l : List Nd} {t : Int} {b : Bool} : ((grpE l t b).map fun g => (g.1, g.2.2)).Nodup := by
  unfold grpE
  rw [List.map_append, List.map_append, List.map_map, List.nodup_append]
  have d := drop_nodup (l := l) (t := t)
  refine ⟨?_, ?_, ?_⟩
  · rw [List.Nodup, List.pairwise_map]
    exact d.imp fun {a b} h e => h (congrArg Prod.fst e)
  · rw [List.nodup_append]
    refine ⟨?_, ?_, ?_⟩
    · split <;> simp
    · split
      · rw [List.map_map, List.Nodup, List.pairwise_map]
        have d2 : ((pathP l t).dropLast.reverse).Nodup := nodup_rev d
        exact d2.imp fun {a b} h e => h (congrArg Prod.fst e)
      · simp
    · intro x hx y hy e
      subst e
      split at hy
      · rw [List.map_map] at hy
        obtain ⟨z, hz, rfl⟩ := List.mem_map.1 hy
        split at hx
        · cases hx
        · simp only [List.map_cons, List.map_nil, List.mem_cons, List.not_mem_nil, or_false, Function.comp, Prod.mk.injEq] at hx
          rcases hx with ⟨_, q⟩ | ⟨q, _⟩
          · cases q
          · exact drop_not (q ▸ List.mem_reverse.1 hz)
      · cases hy
  · intro x hx y hy e
    subst e
    obtain ⟨z, hz, rfl⟩ := List.mem_map.1 hx
    rcases List.mem_append.1 hy with hy | hy
    · split at hy
      · cases hy
      · simp only [List.map_cons, List.map_nil, List.mem_cons, List.not_mem_nil, or_false, Function.comp, Prod.mk.injEq] at hy
        rcases hy with ⟨q, _⟩ | ⟨_, q⟩
        · exact drop_not (q ▸ hz)
        · cases q
    · split at hy
      · rw [List.map_map] at hy
        obtain ⟨u, hu, q⟩ := List.mem_map.1 hy
        have := congrArg Prod.snd q
        cases this
      · cases hy
theorem at_cap {all : List Ls} {k : ByteArray} {g : Int × Int × Bool} {z : Cl} (h : z ∈ atP all k g) : ∃ j, ∃ hj : j < all.length, z.1 = (j : Int) ∧ all[j].node = g.1 ∧ all[j].typ = k ∧ all[j].cap = g.2.2 ∧ z.2 = (g.1, g.2.1) := by
  obtain ⟨j, hj, e, q⟩ := at_mem.1 h
  unfold lsB at q
  rw [Bool.and_eq_true, Bool.and_eq_true, decide_eq_true_eq, decide_eq_true_eq, beq_iff_eq] at q
  exact ⟨j, hj, by rw [e, Nat.zero_add], q.1, q.2.1, q.2.2, by rw [e]⟩
/-- Each listener is called once at most, at its node, for its type; phases go up. -/
theorem calls_once {l : List Nd} {all : List Ls} {t : Int} {k : ByteArray} {b : Bool} : ((callsP l all t k b).map (·.1)).Nodup := by
  unfold callsP
  have G : ∀ L : List (Int × Int × Bool), (L.map fun g => (g.1, g.2.2)).Nodup → ((L.flatMap (atP all k)).map (·.1)).Nodup := fun L => by
    induction L with
    | nil => intro _; exact List.nodup_nil
    | cons g L ih =>
      intro hn
      rw [List.map_cons, List.nodup_cons] at hn
      rw [List.flatMap_cons, List.map_append, List.nodup_append]
      refine ⟨at_nodup, ih hn.2, fun x hx y hy e => ?_⟩
      subst e
      obtain ⟨z, hz, rfl⟩ := List.mem_map.1 hx
      obtain ⟨u, hu, eu⟩ := List.mem_map.1 hy
      obtain ⟨g', hg', hu'⟩ := List.mem_flatMap.1 hu
      obtain ⟨i, hi, e1, n1, _, c1, _⟩ := at_cap hz
      obtain ⟨j, hj, e2, n2, _, c2, _⟩ := at_cap hu'
      have : i = j := by rw [e1, e2] at eu; omega
      subst this
      refine hn.1 (List.mem_map.2 ⟨g', hg', ?_⟩)
      show (g'.1, g'.2.2) = (g.1, g.2.2)
      rw [← n1, ← c1, ← n2, ← c2]
  exact G _ grp_nodup
theorem calls_at {l : List Nd} {all : List Ls} {t : Int} {k : ByteArray} {b : Bool} {c : Cl} (h : c ∈ callsP l all t k b) : (∃ j, ∃ hj : j < all.length, c.1 = (j : Int) ∧ all[j].node = c.2.1 ∧ all[j].typ = k) ∧ 1 ≤ c.2.2 ∧ c.2.2 ≤ 3 ∧ (c.2.2 = 2 ↔ c.2.1 = t) ∧ (c.2.2 = 3 → b = true) := by
  unfold callsP at h
  obtain ⟨g, hg, hc⟩ := List.mem_flatMap.1 h
  obtain ⟨j, hj, e1, n1, k1, _, e2⟩ := at_cap hc
  have a1 : c.2.1 = g.1 := congrArg Prod.fst e2
  have a2 : c.2.2 = g.2.1 := congrArg Prod.snd e2
  refine ⟨⟨j, hj, e1, by rw [a1]; exact n1, k1⟩, ?_⟩
  rw [a1, a2]
  rcases grp_mem hg with ⟨q, m⟩ | ⟨q, m, _⟩ | ⟨q, m, q3⟩
  · rw [q]
    exact ⟨by decide, by decide, ⟨fun t => absurd t (by decide), fun t => absurd (t ▸ m) drop_not⟩, fun t => absurd t (by decide)⟩
  · rw [q]
    exact ⟨by decide, by decide, ⟨fun _ => m, fun _ => rfl⟩, fun t => absurd t (by decide)⟩
  · rw [q]
    exact ⟨by decide, by decide, ⟨fun t => absurd t (by decide), fun t => absurd (t ▸ m) drop_not⟩, fun _ => q3⟩
theorem calls_len {l : List Nd} {all : List Ls} {t : Int} {k : ByteArray} {b : Bool} : (callsP l all t k b).length ≤ all.length := by
  have a := nodup_sub (calls_once (l := l) (all := all) (t := t) (k := k) (b := b)) (B := (List.range all.length).map fun i : Nat => (i : Int)) (fun x hx => by
    obtain ⟨c, hc, rfl⟩ := List.mem_map.1 hx
    obtain ⟨⟨j, hj, e, _⟩, _⟩ := calls_at hc
    rw [List.mem_map]
    exact ⟨j, List.mem_range.2 hj, e.symm⟩)
  rw [List.length_map, List.length_map, List.length_range] at a
  exact a
end Go.Proofs.Ytmobcijigiacoaa

namespace Go.Proofs.Ytmobcijigiacoaa
open Go.RowKit Go.ChangeShapes Go.WideShapes Go.Deep
theorem cellsOfLst : Try.prog.cellsOf 41 = 4 := by kernel_rfl
theorem cellsOfBl : Try.prog.cellsOf 4 = 1 := by kernel_rfl
theorem cellsOfActs : Try.prog.cellsOf 39 = 1 := by kernel_rfl
theorem bytesOfLst : Try.prog.bytesOf 41 = 56 := by kernel_rfl
theorem cellsOfAsk : Try.prog.cellsOf 31 = 3 := by kernel_rfl
section
variable {H : Type} {enc : TypeId × Value → H} {w : World}
set_option maxRecDepth 100000 in
theorem open_lst {fuel : Nat} {cs : List Value} {x : DataW H × List MemPlace} (h : DataW.trod enc Try.prog w 0 (fun _ => true) true fuel 41 cs = some x) :
    ∃ (e : Ls) (p : Option Addr) (n c : Nat), cs = [.int .i64 e.node, .string e.typ, .bool e.cap, .slice p n c] := by
  obtain ⟨xs, n, _, rfl, hl, hlen, hf⟩ := DataW.trod_struct Try.underlying41 h
  rw [cellsOfLst] at hl
  match xs, hlen with
  | [y0, y1, y2, y3], _ =>
    match cs, hl with
    | [c0, c1, c2, c3], _ =>
      have h0 : DataW.trod enc Try.prog w 0 (fun _ => true) true n 3 (List.take (Try.prog.cellsOf 3) (List.drop 0 [c0, c1, c2, c3])) = some y0 := hf 0 _ rfl
      have h1 : DataW.trod enc Try.prog w 0 (fun _ => true) true n 9 (List.take (Try.prog.cellsOf 9) (List.drop 1 [c0, c1, c2, c3])) = some y1 := hf 1 _ rfl
      have h2 : DataW.trod enc Try.prog w 0 (fun _ => true) true n 4 (List.take (Try.prog.cellsOf 4) (List.drop 2 [c0, c1, c2, c3])) = some y2 := hf 2 _ rfl
      have h3 : DataW.trod enc Try.prog w 0 (fun _ => true) true n 39 (List.take (Try.prog.cellsOf 39) (List.drop 3 [c0, c1, c2, c3])) = some y3 := hf 3 _ rfl
      rw [cellsOfI] at h0
      rw [cellsOfS] at h1
      rw [cellsOfBl] at h2
      rw [cellsOfActs] at h3
      obtain ⟨n0, e0, _⟩ := DataW.trod_int Try.underlying3 (x := y0) h0
      obtain ⟨s1, e1, _⟩ := DataW.trod_string Try.underlying9 (x := y1) h1
      obtain ⟨b2, e2, _⟩ := DataW.trod_bool Try.underlying4 (x := y2) h2
      cases e0
      cases e1
      cases e2
      rcases open_slice Try.underlying39 (cs := [c3]) h3 with ⟨e, _⟩ | ⟨a, len, cap, m, n, D, Pl, e, _⟩
      · cases e
        exact ⟨⟨n0, s1, b2⟩, none, 0, 0, rfl⟩
      · cases e
        exact ⟨⟨n0, s1, b2⟩, some a, len, cap, rfl⟩
theorem open_lss {fuel : Nat} {v : Value} {x : DataW H × List MemPlace} (h : DataW.trod enc Try.prog w 0 (fun _ => true) true fuel 29 [v] = some x) (hr : inReach (x.1.weights Try.prog 29)) :
    ∃ all, LsV w v all ∧ all.length ≤ 2513169434917 := by
  rcases open_slice Try.underlying29 h with ⟨e, rfl⟩ | ⟨a, len, cap, m, n, D, Pl, e, _, hl, hm, hmm, rfl, hc⟩
  · cases e
    exact ⟨[], ⟨[], acts_nil, none, 0, rfl, .inl rfl⟩, by decide⟩
  · cases e
    have hmm : m = cap := by simpa using hmm
    subst hmm
    rw [cellsOfLst] at hc
    have hV : ∀ i, i < len → ∃ z : Ls × Value, (w.cell? (a.add (i * 4)) = some (.int .i64 z.1.node) ∧ w.cell? ((a.add (i * 4)).add 1) = some (.string z.1.typ) ∧ w.cell? ((a.add (i * 4)).add 2) = some (.bool z.1.cap) ∧ w.cell? ((a.add (i * 4)).add 3) = some z.2) ∧ ∃ p n c, z.2 = .slice p n c := fun i hi => by
      obtain ⟨cs', c1, c2⟩ := hc i (by omega)
      obtain ⟨z, p, n, c, rfl⟩ := open_lst c2
      have := (World.cells?_some c1).2.2
      have q0 := this 0 (by omega)
      have q1 := this 1 (by omega)
      have q2 := this 2 (by omega)
      have q3 := this 3 (by omega)
      rw [show (a.add (i * 4)).add 0 = a.add (i * 4) by simp [Addr.add]] at q0
      exact ⟨(z, .slice p n c), ⟨q0, q1, q2, q3⟩, p, n, c, rfl⟩
    haveI : Inhabited (Ls × Value) := ⟨(⟨0, ⟨#[]⟩, false⟩, .slice none 0 0)⟩
    obtain ⟨f, hf⟩ := choose_lt hV
    refine ⟨(List.range len).map (fun i => (f i).1), ⟨(List.range len).map (fun i => (f i).2), ⟨fun i => ?_⟩, some a, m, by simp, ?_⟩, ?_⟩
    · unfold aAt
      rw [List.getD_eq_getElem?_getD, List.getElem?_map]
      by_cases hi : i < len
      · rw [List.getElem?_range hi]
        exact (hf i hi).2
      · rw [List.getElem?_eq_none (by rw [List.length_range]; omega)]
        exact ⟨none, 0, 0, rfl⟩
    · by_cases h0 : len = 0
      · exact .inl (by rw [h0]; rfl)
      · have sp := addr_noneD (hf 0 (by omega)).1.1
        have sp' : a.spot = none := by
          have : a.add (0 * 4) = a := by simp [Addr.add]
          rwa [this] at sp
        refine .inr ⟨a.block, a.off, addr_eta sp', fun i hi j u hu => ?_⟩
        have hi : i < len := by simpa using hi
        have := (hf i hi).1
        rw [add_plain sp', add_plain rfl, add_plain rfl, add_plain rfl] at this
        have e : ((List.range len).map (fun i => (f i).1))[i]'(by simpa using hi) = (f i).1 := by simp
        have e2 : aAt ((List.range len).map (fun i => (f i).2)) i = (f i).2 := by
          unfold aAt
          rw [List.getD_eq_getElem?_getD, List.getElem?_map, List.getElem?_range hi]; rfl
        rw [e, e2] at hu
        match j, hu with
        | 0, hu => cases hu; exact this.1
        | 1, hu => cases hu; exact this.2.1
        | 2, hu => cases hu; exact this.2.2.1
        | 3, hu => cases hu; exact this.2.2.2
        | n + 4, hu => simp [lsCells] at hu
    · have := (reach_slice Try.underlying29 hr).1
      rw [bytesOfLst, List.length_map, List.length_range, List.length_map, List.length_range] at this
      unfold reachBytes at this
      rw [List.length_map, List.length_range]
      omega
set_option maxRecDepth 100000 in
theorem open_ask {fuel : Nat} {cs : List Value} {x : DataW H × List MemPlace} (h : DataW.trod enc Try.prog w 0 (fun _ => true) true fuel 31 cs = some x) (hr : inReach (x.1.weights Try.prog 31)) :
    ∃ (t : Int) (k : ByteArray) (b : Bool), cs = [.int .i64 t, .string k, .bool b] ∧ k.size ≤ reachBytes := by
  obtain ⟨xs, n, _, rfl, hl, hlen, hf⟩ := DataW.trod_struct Try.underlying31 h
  rw [cellsOfAsk] at hl
  match xs, hlen with
  | [y0, y1, y2], _ =>
    match cs, hl with
    | [c0, c1, c2], _ =>
      have h0 : DataW.trod enc Try.prog w 0 (fun _ => true) true n 3 (List.take (Try.prog.cellsOf 3) (List.drop 0 [c0, c1, c2])) = some y0 := hf 0 _ rfl
      have h1 : DataW.trod enc Try.prog w 0 (fun _ => true) true n 9 (List.take (Try.prog.cellsOf 9) (List.drop 1 [c0, c1, c2])) = some y1 := hf 1 _ rfl
      have h2 : DataW.trod enc Try.prog w 0 (fun _ => true) true n 4 (List.take (Try.prog.cellsOf 4) (List.drop 2 [c0, c1, c2])) = some y2 := hf 2 _ rfl
      rw [cellsOfI] at h0
      rw [cellsOfS] at h1
      rw [cellsOfBl] at h2
      obtain ⟨n0, e0, _⟩ := DataW.trod_int Try.underlying3 (x := y0) h0
      obtain ⟨s1, e1, r1, _⟩ := DataW.trod_string Try.underlying9 (x := y1) h1
      obtain ⟨b2, e2, _⟩ := DataW.trod_bool Try.underlying4 (x := y2) h2
      cases e0
      cases e1
      cases e2
      simp only [inReach, List.map_cons, List.map_nil, DataW.weights, Try.underlying31, DataW.weightsEach, List.all_append, Bool.and_eq_true] at hr
      have q1 := hr.2.1
      rw [r1] at q1
      simp only [DataW.weights, List.all_cons, List.all_nil, Bool.and_true, decide_eq_true_eq, Array.length_toList] at q1
      exact ⟨n0, s1, b2, rfl, q1⟩
end

end Go.Proofs.Ytmobcijigiacoaa
