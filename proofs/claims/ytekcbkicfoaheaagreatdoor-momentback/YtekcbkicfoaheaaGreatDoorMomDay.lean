/- The document's Day (a day's text) answers by dateL; blocks are laid behind, and no more. Condition: a day of six digits' year at most. -/
import Derived.Test.YtekcbkicfoaheaaGreatDoorMomDig
namespace Go.Proofs.YtekcbkicfoaheaaGreatDoor
open Go.RowKit Go.Sort

theorem cell3 (w : World) (a b c : Value) (t : TypeId) (i : Nat) (v : Value) (h : #[a, b, c][i]? = some v) : (w.alloc (.cells #[a, b, c] t)).cell? ⟨w.heap.size, i, none⟩ = some v := by
  have hi : i < 3 := by
    rcases Nat.lt_or_ge i 3 with g | g
    · exact g
    · rw [Array.getElem?_eq_none (by first | (simp; done) | (simp; omega))] at h; cases h
  rw [World.cell?_alloc_at _ _ _ _ (by first | (simp; done) | (simp; omega))]
  exact h

set_option maxHeartbeats 1000000 in
theorem dayTxt_any (y m d : Nat) (w : World) (hy : y < 1000000000) (hm : m < 100) (hd : d < 100) :
    Calls Tryz.prog 27 #[.agg #[.int .i64 y, .int .i64 m, .int .i64 d]] w fun e w' => e = .returned (.string (txt (dateL y m d))) ∧ Grew w w' := by
  have hmix : Tryz.prog.follows .mixedOrders = true := by kernel_rfl
  have hA : ∀ w, Calls Tryz.prog 28 #[.int .i64 y, .int .i64 4] w fun e w' => e = .returned (.string (txt (padL y 4))) ∧ ∃ q os, w' = grow (w.drewN q) os := fun w => pad_any y 4 w hy (by decide)
  have hB : ∀ w, Calls Tryz.prog 28 #[.int .i64 m, .int .i64 2] w fun e w' => e = .returned (.string (txt (padL m 2))) ∧ ∃ q os, w' = grow (w.drewN q) os := fun w => pad_any m 2 w (by omega) (by decide)
  have hC : ∀ w, Calls Tryz.prog 28 #[.int .i64 d, .int .i64 2] w fun e w' => e = .returned (.string (txt (padL d 2))) ∧ ∃ q os, w' = grow (w.drewN q) os := fun w => pad_any d 2 w (by omega) (by decide)
  have z1 : (txt (padL y 4)).size ≤ 9 := by rw [txt_size]; exact pad_most (k := 9) (by omega) (by decide) (by decide)
  have z2 : (txt (padL m 2)).size ≤ 2 := by rw [txt_size]; exact pad_most (k := 2) (by omega) (by decide) (by decide)
  have z3 : (txt (padL d 2)).size ≤ 2 := by rw [txt_size]; exact pad_most (k := 2) (by omega) (by decide) (by decide)
  have E : Hid (txt (dateL y m d) = txt (padL y 4) ++ ⟨#[45]⟩ ++ txt (padL m 2) ++ ⟨#[45]⟩ ++ txt (padL d 2)) := by
    show _ = _
    unfold dateL
    rw [show (⟨#[45]⟩ : ByteArray) = txt [45] from rfl, txt_app, txt_app, txt_app, txt_app]
    simp
  have c0 := cell3 w (.int .i64 y) (.int .i64 m) (.int .i64 d) 47 0 _ rfl
  have c1 := cell3 w (.int .i64 y) (.int .i64 m) (.int .i64 d) 47 1 _ rfl
  have c2 := cell3 w (.int .i64 y) (.int .i64 m) (.int .i64 d) 47 2 _ rfl
  have g0 := fun n os => cell_grown (by show w.heap.size < _; simp) c0 n os
  have g1 := fun n os => cell_grown (by show w.heap.size < _; simp) c1 n os
  have g2 := fun n os => cell_grown (by show w.heap.size < _; simp) c2 n os
  generalize txt (padL y 4) = a at *
  generalize txt (padL m 2) = b at *
  generalize txt (padL d 2) = c at *
  have HA := hide hA
  have HB := hide hB
  have HC := hide hC
  have ze : (⟨#[45]⟩ : ByteArray).size = 1 := rfl
  have p1 := fun w => run_string_add_sum (P := Tryz.prog) w a ⟨#[45]⟩ (by omega)
  have p2 := fun w => run_string_add_sum (P := Tryz.prog) w (a ++ ⟨#[45]⟩) b (by rw [ByteArray.size_append]; omega)
  have p3 := fun w => run_string_add_sum (P := Tryz.prog) w (a ++ ⟨#[45]⟩ ++ b) ⟨#[45]⟩ (by rw [ByteArray.size_append, ByteArray.size_append]; omega)
  have p4 := fun w => run_string_add_sum (P := Tryz.prog) w (a ++ ⟨#[45]⟩ ++ b ++ ⟨#[45]⟩) c (by rw [ByteArray.size_append, ByteArray.size_append, ByteArray.size_append]; omega)
  clear ze z1 z2 z3
  generalize a ++ ⟨#[45]⟩ ++ b ++ ⟨#[45]⟩ ++ c = s4 at *
  generalize a ++ ⟨#[45]⟩ ++ b ++ ⟨#[45]⟩ = s3 at *
  generalize a ++ ⟨#[45]⟩ ++ b = s2 at *
  generalize a ++ ⟨#[45]⟩ = s1 at *
  have Q1 := hide p1
  have Q2 := hide p2
  have Q3 := hide p3
  have Q4 := hide p4
  clear p1 p2 p3 p4
  clear hA hB hC c0 c1 c2 hy hm hd
  generalize (y : Int) = Y at *
  generalize (m : Int) = M at *
  generalize (d : Int) = D at *
  go_enter Tryz.func27, Tryz.ntmps27
  go_wp2
  have p1 := Q1.out
  have p2 := Q2.out
  have p3 := Q3.out
  have p4 := Q4.out
  clear Q1 Q2 Q3 Q4
  go_quiet_grown (first | with_reducible exact Calls.grown_of (HA.out _) | with_reducible exact Calls.grown_of (HB.out _) | with_reducible exact Calls.grown_of (HC.out _))
  go_wp2
  go_ret
  exact ⟨ret_str E.out.symm, Grew.trans ((Grew.refl w).alloc _) ⟨nq, osq, rfl⟩⟩

end Go.Proofs.YtekcbkicfoaheaaGreatDoor
