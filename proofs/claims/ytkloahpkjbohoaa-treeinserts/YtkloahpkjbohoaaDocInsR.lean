/- The document's Insert of layer 10: its errors. Conditions: a document as it lies in the world; rows of at most 2^47 bytes. -/
import Derived.Test.YtkloahpkjbohoaaDocRemR
import Derived.Test.YtkloahpkjbohoaaDocAdd
namespace Go.Proofs.Ytkloahpkjbohoaa
open Go.RowKit

set_option maxHeartbeats 2000000 in
theorem refInsert_noParent (v : Value) (l : List Nd) (p c bf : Int) (w : World) (hv : NodesV w v l) (hz : DocSz l) (hh : hasN l p = false) :
    Calls Try.prog 17 #[v, .int .i64 p, .int .i64 c, .int .i64 bf] w fun e w' => e = .returned (.tuple #[.slice none 0 0, .int .i64 4]) ∧ Below w.heap.size w w' := by
  have HP := hide (refHas_any v l p w hv hz)
  rw [hh] at HP
  clear hv hz hh
  go_enter Try.func17, Try.ntmps17
  go_wp2_with fail
  refine HP.out.mono ?_
  rintro e w1 ⟨rfl, b1⟩
  go_wp2_with fail
  go_ret2
  exact ⟨rfl, b1⟩
set_option maxHeartbeats 2000000 in
theorem refInsert_noChild (v : Value) (l : List Nd) (p c bf : Int) (w : World) (hv : NodesV w v l) (hz : DocSz l) (hp : hasN l p = true) (hh : hasN l c = false) :
    Calls Try.prog 17 #[v, .int .i64 p, .int .i64 c, .int .i64 bf] w fun e w' => e = .returned (.tuple #[.slice none 0 0, .int .i64 4]) ∧ Below w.heap.size w w' := by
  have HP := hide (refHas_any v l p w hv hz)
  rw [hp] at HP
  have HC := hide (fun W (hb : Below w.heap.size w W) => refHas_any v l c W (hv.below hb) hz)
  rw [hh] at HC
  clear hv hz hh hp
  go_enter Try.func17, Try.ntmps17
  go_wp2_with fail
  refine HP.out.mono ?_
  rintro e w1 ⟨rfl, b1⟩
  go_wp2_with fail
  refine (HC.out _ b1).mono ?_
  rintro e w2 ⟨rfl, b2⟩
  go_wp2_with fail
  go_ret2
  exact ⟨rfl, chain b1 b2⟩
theorem anc_within {l : List Nd} (h : Right l) {p c : Nat} (hp : p < l.length) : (c : Int) ∈ anc l (p : Int) ↔ c = p ∨ withinB l (p : Int) (c : Int) = true := by
  rw [anc_up (h.ends p hp) (by omega), List.mem_cons]
  unfold withinB
  rw [List.contains_iff_mem]
  constructor
  · rintro (e | e)
    · exact .inl (by omega)
    · exact .inr e
  · rintro (e | e)
    · exact .inl (by omega)
    · exact .inr e

set_option maxHeartbeats 4000000 in
set_option maxRecDepth 100000 in
theorem refInsert_order (v : Value) (l : List Nd) (p c : Nat) (bf : Int) (w : World) (hv : NodesV w v l) (hz : DocSz l) (hR : Right l) (hp : p < l.length) (hc : c < l.length)
    (hbad : noName l[p].name = true ∨ c = 0 ∨ (c : Int) ∈ anc l (p : Int)) :
    Calls Try.prog 17 #[v, .int .i64 (p : Int), .int .i64 (c : Int), .int .i64 bf] w fun e w' => e = .returned (.tuple #[.slice none 0 0, .int .i64 5]) ∧ Below w.heap.size w w' := by
  have HP := hide (fun W (hb : Below w.heap.size w W) => refHas_any v l (p : Int) W (hv.below hb) hz)
  have HC := hide (fun W (hb : Below w.heap.size w W) => refHas_any v l (c : Int) W (hv.below hb) hz)
  have e1 : hasN l (p : Int) = true := by unfold hasN; rw [decide_eq_true ⟨by omega, by omega⟩, right_is.2 hR]; rfl
  have e2 : hasN l (c : Int) = true := by unfold hasN; rw [decide_eq_true ⟨by omega, by omega⟩, right_is.2 hR]; rfl
  rw [e1] at HP
  rw [e2] at HC
  have HU := hide (fun W (hb : Below w.heap.size w W) => refWithin_any v l (p : Int) p (c : Int) W (hv.below hb) ⟨hR, rfl, hp⟩)
  have AW := hide (anc_within hR (c := c) hp)
  obtain ⟨pp, cc, rfl, hv⟩ := hv
  rcases hv with hv | ⟨b, o, rfl, hv⟩
  · rw [hv] at hp; simp at hp
  obtain ⟨va, vk, N0⟩ := hv p hp
  have NW : Hid (∀ W, Below w.heap.size w W → NodeAt W b (o + p * 5) l[p] va vk) := fun W hb => N0.below hb
  have i0 : (0 : Int) ≤ (p : Int) := by omega
  have i1 : (p : Int) < (l.length : Int) := by omega
  have hlen := hR.len.2
  have HB := hide hbad
  clear hv N0 e1 e2 hbad hz
  go_enter Try.func17, Try.ntmps17
  go_wp2_with fail
  refine (HP.out _ (Below.refl _ _)).mono ?_
  rintro e w1 ⟨rfl, b1⟩
  go_wp2_with fail
  refine (HC.out _ b1).mono ?_
  rintro e w2 ⟨rfl, b2⟩
  have B2 := hide (chain b1 b2)
  have a0 := (NW.out w2 B2.out).name
  clear b1 b2
  cases q1 : noName l[p].name with
  | true =>
    have n1 := noName_size q1
    have n2 : (l[p].name.size : Int) = 0 := by omega
    have n3 : ((l[p].name.size : Int) == 0) = true := by rw [n2]; rfl
    clear HB q1
    go_wp2_with fail
    go_ret2
    exact ⟨rfl, B2.out⟩
  | false =>
    have n1 := noName_size' q1
    have n2 : ¬ (l[p].name.size : Int) = 0 := by omega
    have n3 : ((l[p].name.size : Int) == 0) = false := by rw [beq_eq_false_iff_ne]; exact n2
    by_cases q2 : c = 0
    · have f1 : ((c : Int) == 0) = true := by rw [q2]; rfl
      clear HB q1 q2
      go_wp2_with fail
      go_ret2
      exact ⟨rfl, B2.out⟩
    · have f1 : ((c : Int) == 0) = false := by rw [beq_eq_false_iff_ne]; omega
      have M : Hid ((c : Int) ∈ anc l (p : Int)) := by
        rcases HB.out with t | t | t
        · rw [q1] at t; cases t
        · exact absurd t q2
        · exact t
      by_cases q3 : c = p
      · have f2 : ((c : Int) == (p : Int)) = true := by rw [q3]; exact beq_self_eq_true _
        clear HB q1 q2 q3
        go_wp2_with fail
        go_ret2
        exact ⟨rfl, B2.out⟩
      · have f2 : ((c : Int) == (p : Int)) = false := by rw [beq_eq_false_iff_ne]; omega
        have hw : withinB l (p : Int) (c : Int) = true := by
          rcases AW.out.1 M.out with t | t
          · exact absurd t q3
          · exact t
        rw [hw] at HU
        clear HB q1 q2 q3 hw M
        go_wp2_with fail
        refine (HU.out _ B2.out).mono ?_
        rintro e w4 ⟨rfl, hw⟩
        obtain rfl : w2 = w4 := hw.symm
        go_wp2_with fail
        go_ret2
        exact ⟨rfl, B2.out⟩

set_option maxHeartbeats 4000000 in
set_option maxRecDepth 100000 in
theorem refInsert_before (v : Value) (l : List Nd) (p c : Nat) (bf : Int) (w : World) (hv : NodesV w v l) (hz : DocSz l) (hR : Right l) (hp : p < l.length) (hc : c < l.length)
    (g1 : noName l[p].name = false) (g2 : ¬ c = 0) (g3 : (c : Int) ∉ anc l (p : Int)) (g4 : ¬ bf = -1) (g5 : bf = (c : Int) ∨ bf ∉ l[p].kids) :
    Calls Try.prog 17 #[v, .int .i64 (p : Int), .int .i64 (c : Int), .int .i64 bf] w fun e w' => e = .returned (.tuple #[.slice none 0 0, .int .i64 4]) ∧ Below w.heap.size w w' := by
  have HP := hide (fun W (hb : Below w.heap.size w W) => refHas_any v l (p : Int) W (hv.below hb) hz)
  have HC := hide (fun W (hb : Below w.heap.size w W) => refHas_any v l (c : Int) W (hv.below hb) hz)
  have e1 : hasN l (p : Int) = true := by unfold hasN; rw [decide_eq_true ⟨by omega, by omega⟩, right_is.2 hR]; rfl
  have e2 : hasN l (c : Int) = true := by unfold hasN; rw [decide_eq_true ⟨by omega, by omega⟩, right_is.2 hR]; rfl
  rw [e1] at HP
  rw [e2] at HC
  have HU := hide (fun W (hb : Below w.heap.size w W) => refWithin_any v l (p : Int) p (c : Int) W (hv.below hb) ⟨hR, rfl, hp⟩)
  have n1 := noName_size' g1
  have n2 : ¬ (l[p].name.size : Int) = 0 := by omega
  have n3 : ((l[p].name.size : Int) == 0) = false := by rw [beq_eq_false_iff_ne]; exact n2
  have f0 : ((c : Int) == 0) = false := by rw [beq_eq_false_iff_ne]; omega
  have g31 : ¬ c = p := fun t => g3 ((anc_within hR hp).2 (.inl t))
  have f9 : ((c : Int) == (p : Int)) = false := by rw [beq_eq_false_iff_ne]; omega
  have hw0 : withinB l (p : Int) (c : Int) = false := by
    cases q : withinB l (p : Int) (c : Int) with
    | false => rfl
    | true => exact absurd ((anc_within hR hp).2 (.inr q)) g3
  rw [hw0] at HU
  have KL : Hid (l[p].kids.length ≤ 17592186044416) := Nat.le_trans (right_texts hR hp).2.2.2.2 (by omega)
  obtain ⟨pp, cc, rfl, hv⟩ := hv
  rcases hv with hv | ⟨b, o, rfl, hv⟩
  · rw [hv] at hp; simp at hp
  obtain ⟨va, vk, N0⟩ := hv p hp
  have NW : Hid (∀ W, Below w.heap.size w W → NodeAt W b (o + p * 5) l[p] va vk) := fun W hb => N0.below hb
  have i0 : (0 : Int) ≤ (p : Int) := by omega
  have i1 : (p : Int) < (l.length : Int) := by omega
  have hlen := hR.len.2
  have f1 : (bf == -1) = false := by rw [beq_eq_false_iff_ne]; exact g4
  clear hv N0 e1 e2 hz hw0 g31
  go_enter Try.func17, Try.ntmps17
  go_wp2_with fail
  refine (HP.out _ (Below.refl _ _)).mono ?_
  rintro e w1 ⟨rfl, b1⟩
  go_wp2_with fail
  refine (HC.out _ b1).mono ?_
  rintro e w2 ⟨rfl, b2⟩
  have B2 := hide (chain b1 b2)
  have a0 := (NW.out w2 B2.out).name
  clear b1 b2
  go_wp2_with fail
  refine (HU.out _ B2.out).mono ?_
  rintro e w4 ⟨rfl, hw⟩
  obtain rfl : w2 = w4 := hw.symm
  by_cases q : bf = (c : Int)
  · have f2 : (bf == (c : Int)) = true := by rw [q]; exact beq_self_eq_true _
    go_wp2_with fail
    go_ret2
    exact ⟨rfl, B2.out⟩
  · have f2 : (bf == (c : Int)) = false := by rw [beq_eq_false_iff_ne]; exact q
    have NM : cntI l[p].kids bf = 0 := by
      rcases g5 with t | t
      · exact absurd t q
      · have : ¬ 0 < cntI l[p].kids bf := fun z => t (cnt_pos.2 z)
        omega
    have a4 := (NW.out w2 B2.out).kids
    have HK := hide (refCount_any vk l[p].kids bf w2 (NW.out w2 B2.out).ks KL.out)
    rw [NM] at HK
    go_wp2_with fail
    refine HK.out.mono ?_
    rintro e w5 ⟨rfl, hw⟩
    obtain rfl : w2 = w5 := hw.symm
    go_wp2_with fail
    go_ret2
    exact ⟨rfl, B2.out⟩

end Go.Proofs.Ytkloahpkjbohoaa
