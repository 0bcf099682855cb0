/- The program's Insert of layer 10: its errors besides 'ErrOrder'. Conditions: as in 'DocS9'. -/
import Derived.Test.YtkloahpkjbohoaaDocS9
import Derived.Test.YtkloahpkjbohoaaDocTake
import Derived.Test.YtkloahpkjbohoaaDocIns
namespace Go.Proofs.Ytkloahpkjbohoaa
open Go.RowKit

set_option maxHeartbeats 2000000 in
theorem insert_noParent (v : Value) (l : List Nd) (p c bf : Int) (w : World) (hv : NodesV w v l) (hz : DocSz l) (hh : hasN l p = false) :
    Calls Try.prog 16 #[v, .int .i64 p, .int .i64 c, .int .i64 bf] w fun e w' => e = .returned (.tuple #[.slice none 0 0, .int .i64 4]) ∧ Below w.heap.size w w' := by
  have HP := hide (isThere_any v l p w hv hz)
  rw [hh] at HP
  clear hv hz hh
  go_enter Try.func16, Try.ntmps16
  go_wp2_with fail
  refine HP.out.mono ?_
  rintro e w1 ⟨rfl, b1⟩
  go_wp2_with fail
  go_ret2
  exact ⟨rfl, b1⟩
set_option maxHeartbeats 2000000 in
theorem insert_noChild (v : Value) (l : List Nd) (p c bf : Int) (w : World) (hv : NodesV w v l) (hz : DocSz l) (hp : hasN l p = true) (hh : hasN l c = false) :
    Calls Try.prog 16 #[v, .int .i64 p, .int .i64 c, .int .i64 bf] w fun e w' => e = .returned (.tuple #[.slice none 0 0, .int .i64 4]) ∧ Below w.heap.size w w' := by
  have HP := hide (isThere_any v l p w hv hz)
  rw [hp] at HP
  have HC := hide (fun W (hb : Below w.heap.size w W) => isThere_any v l c W (hv.below hb) hz)
  rw [hh] at HC
  clear hv hz hh hp
  go_enter Try.func16, Try.ntmps16
  go_wp2_with fail
  refine HP.out.mono ?_
  rintro e w1 ⟨rfl, b1⟩
  go_wp2_with fail
  refine (HC.out _ b1).mono ?_
  rintro e w2 ⟨rfl, b2⟩
  go_wp2_with fail
  go_ret2
  exact ⟨rfl, chain b1 b2⟩

set_option maxHeartbeats 2000000 in
set_option maxRecDepth 100000 in
theorem insert_before (v : Value) (l : List Nd) (p c : Nat) (bf : Int) (w : World) (hv : NodesV w v l) (hz : DocSz l) (hR : Right l) (hp : p < l.length) (hc : c < l.length)
    (g1 : noName l[p].name = false) (g2 : ¬ c = 0) (g3 : (c : Int) ∉ anc l (p : Int)) (g4 : ¬ bf = -1) (g5 : bf = (c : Int) ∨ bf ∉ l[p].kids) :
    Calls Try.prog 16 #[v, .int .i64 (p : Int), .int .i64 (c : Int), .int .i64 bf] w fun e w' => e = .returned (.tuple #[.slice none 0 0, .int .i64 4]) ∧ Below w.heap.size w w' := by
  have HP := hide (fun W (hb : Below w.heap.size w W) => isThere_any v l (p : Int) W (hv.below hb) hz)
  have HC := hide (fun W (hb : Below w.heap.size w W) => isThere_any v l (c : Int) W (hv.below hb) hz)
  have e1 : hasN l (p : Int) = true := by unfold hasN; rw [decide_eq_true ⟨by omega, by omega⟩, right_is.2 hR]; rfl
  have e2 : hasN l (c : Int) = true := by unfold hasN; rw [decide_eq_true ⟨by omega, by omega⟩, right_is.2 hR]; rfl
  rw [e1] at HP
  rw [e2] at HC
  have HU := hide (fun W (hb : Below w.heap.size w W) => upwards_any v l p W (hv.below hb) hR hp)
  have AL : Hid ((anc l (p : Int)).length ≤ 17592186044416) := by
    have := nodup_len l.length (anc l (p : Int)) (anc_nodup l _ _ (hR.ende (by omega))) (anc_range l (fun i hi => (hR.par i hi).2) _ _ (by omega))
    have := hR.len
    show _ ≤ _; omega
  obtain ⟨pp, cc, rfl, hv⟩ := hv
  rcases hv with hv | ⟨b, o, rfl, hv⟩
  · rw [hv] at hp; simp at hp
  obtain ⟨va, vk, N0⟩ := hv p hp
  have NW : Hid (∀ W, Below w.heap.size w W → NodeAt W b (o + p * 5) l[p] va vk) := fun W hb => N0.below hb
  have HT := hide (fun W => isText_any l[p].name l[p].text va l[p].parent vk W)
  have i0 : (0 : Int) ≤ (p : Int) := by omega
  have i1 : (p : Int) < (l.length : Int) := by omega
  have hlen := hR.len.2
  rw [g1] at HT
  have KL : Hid (l[p].kids.length ≤ 17592186044416) := Nat.le_trans (right_texts hR hp).2.2.2.2 (by omega)
  have f0 : ((c : Int) == 0) = false := by rw [beq_eq_false_iff_ne]; omega
  have f1 : (bf == -1) = false := by rw [beq_eq_false_iff_ne]; exact g4
  have G3 := hide g3
  clear hv N0 e1 e2 hz
  go_enter Try.func16, Try.ntmps16
  go_wp2_with fail
  refine (HP.out _ (Below.refl _ _)).mono ?_
  rintro e w1 ⟨rfl, b1⟩
  go_wp2_with fail
  refine (HC.out _ b1).mono ?_
  rintro e w2 ⟨rfl, b2⟩
  have B2 := hide (chain b1 b2)
  have a0 := (NW.out w2 B2.out).name
  have a1 := (NW.out w2 B2.out).text
  have a2 := (NW.out w2 B2.out).attrs
  have a3 := (NW.out w2 B2.out).parent
  have a4 := (NW.out w2 B2.out).kids
  clear b1 b2
  go_wp2_with fail
  refine (HT.out _).mono ?_
  rintro e w3 ⟨rfl, b3⟩
  have B3 := hide (chain B2.out b3)
  clear b3 a0 a1 a2 a3 a4 B2
  go_wp2_with fail
  refine (HU.out _ B3.out).mono ?_
  rintro e w4 ⟨v4, rfl, k4, b4⟩
  have HI := hide (containsI_any v4 (anc l (p : Int)) (c : Int) w4 k4.ints AL.out)
  rw [decide_eq_false G3.out] at HI
  have B4 := hide (chain B3.out b4)
  clear b4 k4
  go_wp2_with fail
  refine HI.out.mono ?_
  rintro e w5 ⟨rfl, hw⟩
  obtain rfl : w4 = w5 := hw.symm
  by_cases q : bf = (c : Int)
  · have f2 : (bf == (c : Int)) = true := by rw [q]; exact beq_self_eq_true _
    go_wp2_with fail
    go_ret2
    exact ⟨rfl, B4.out⟩
  · have f2 : (bf == (c : Int)) = false := by rw [beq_eq_false_iff_ne]; exact q
    have NM : Hid (bf ∉ l[p].kids) := by
      rcases g5 with t | t
      · exact absurd t q
      · exact t
    have a4 := (NW.out w4 B4.out).kids
    have HK := hide (containsI_any vk l[p].kids bf w4 (NW.out w4 B4.out).ks KL.out)
    rw [decide_eq_false NM.out] at HK
    go_wp2_with fail
    refine HK.out.mono ?_
    rintro e w5 ⟨rfl, hw⟩
    obtain rfl : w4 = w5 := hw.symm
    go_wp2_with fail
    go_ret2
    exact ⟨rfl, B4.out⟩

end Go.Proofs.Ytkloahpkjbohoaa
