/- Ways and questions of kinds, of the program and of the document. -/
import Derived.Test.YtlppocdhfeejkaaGreatDoorRows
import Derived.Test.YtlppocdhfeejkaaGreatDoorJvv1
import Derived.Test.YtlppocdhfeejkaaGreatDoorJvv8

namespace Go.Proofs.YtlppocdhfeejkaaGreatDoor
open Go.RowKit
set_option maxRecDepth 100000
set_option maxHeartbeats 4000000 in
set_option maxRecDepth 100000 in
theorem between_any (k a b : Int) (w : World) :
    Calls Tryz.prog 101 #[.int .i64 k, .int .i64 a, .int .i64 b] w fun e w' => e = .returned (.bool (btwB k a b)) ∧ w' = w := by
  by_cases h1 : a ≤ k
  · by_cases h2 : k ≤ b
    · have E := hide (show btwB k a b = true from decide_eq_true ⟨h1, h2⟩)
      go_enter Tryz.func101, Tryz.ntmps101
      go_wp2_with fail
      go_ret
      exact ⟨ret_bool E.out.symm, rfl⟩
    · have E := hide (show btwB k a b = false from decide_eq_false (fun q => h2 q.2))
      have d2 : decide (k ≤ b) = false := decide_eq_false h2
      go_enter Tryz.func101, Tryz.ntmps101
      go_wp2_with fail
      go_ret
      exact ⟨ret_bool E.out.symm, rfl⟩
  · have E := hide (show btwB k a b = false from decide_eq_false (fun q => h1 q.1))
    have d1 : decide (a ≤ k) = false := decide_eq_false h1
    go_enter Tryz.func101, Tryz.ntmps101
    go_wp2_with fail
    go_ret
    exact ⟨ret_bool E.out.symm, rfl⟩
set_option maxHeartbeats 4000000 in
set_option maxRecDepth 100000 in
theorem isInput_any (k : Int) (w : World) :
    Calls Tryz.prog 69 #[.int .i64 k] w fun e w' => e = .returned (.bool (btwB k 1 22)) ∧ w' = w := by
  have HB := hide (between_any k 1 22)
  generalize btwB k 1 22 = r at *
  go_enter Tryz.func69, Tryz.ntmps69
  go_wp2_with fail
  refine (HB.out _).mono ?_
  rintro e u ⟨rfl, rfl⟩
  go_wp2_with fail
  go_ret
  exact ⟨rfl, rfl⟩
set_option maxHeartbeats 4000000 in
set_option maxRecDepth 100000 in
theorem isButton_any (k : Int) (w : World) :
    Calls Tryz.prog 70 #[.int .i64 k] w fun e w' => e = .returned (.bool (btwB k 25 27)) ∧ w' = w := by
  have HB := hide (between_any k 25 27)
  generalize btwB k 25 27 = r at *
  go_enter Tryz.func70, Tryz.ntmps70
  go_wp2_with fail
  refine (HB.out _).mono ?_
  rintro e u ⟨rfl, rfl⟩
  go_wp2_with fail
  go_ret
  exact ⟨rfl, rfl⟩
set_option maxHeartbeats 4000000 in
set_option maxRecDepth 100000 in
theorem isLine_any (k : Int) (w : World) :
    Calls Tryz.prog 144 #[.int .i64 k] w fun e w' => e = .returned (.bool (btwB k 2 7)) ∧ w' = w := by
  have HB := hide (between_any k 2 7)
  generalize btwB k 2 7 = r at *
  go_enter Tryz.func144, Tryz.ntmps144
  go_wp2_with fail
  refine (HB.out _).mono ?_
  rintro e u ⟨rfl, rfl⟩
  go_wp2_with fail
  go_ret
  exact ⟨rfl, rfl⟩
set_option maxHeartbeats 4000000 in
set_option maxRecDepth 100000 in
theorem isWritten_any (k : Int) (w : World) :
    Calls Tryz.prog 143 #[.int .i64 k] w fun e w' => e = .returned (.bool (btwB k 2 13)) ∧ w' = w := by
  have HB := hide (between_any k 2 13)
  generalize btwB k 2 13 = r at *
  go_enter Tryz.func143, Tryz.ntmps143
  go_wp2_with fail
  refine (HB.out _).mono ?_
  rintro e u ⟨rfl, rfl⟩
  go_wp2_with fail
  go_ret
  exact ⟨rfl, rfl⟩
set_option maxHeartbeats 4000000 in
set_option maxRecDepth 100000 in
theorem isTicked_any (k : Int) (w : World) :
    Calls Tryz.prog 106 #[.int .i64 k] w fun e w' => e = .returned (.bool (tickB k)) ∧ w' = w := by
  rcases (show (k ≤ 15) ∨ (k = 16) ∨ (k = 17) ∨ (18 ≤ k) by omega) with q | q | q | q
  all_goals
    first | (have e1 : (k == 16) = false := by rw [beq_eq_false_iff_ne]; omega) | (have e1 : (k == 16) = true := by rw [beq_iff_eq]; omega)
    first | (have n1 : ¬ k = 16 := by omega) | (have n1 : (k != 16) = false := by unfold bne; rw [e1]; rfl)
    first | (have e2 : (k == 17) = false := by rw [beq_eq_false_iff_ne]; omega) | (have e2 : (k == 17) = true := by rw [beq_iff_eq]; omega)
    first | (have n2 : ¬ k = 17 := by omega) | (have n2 : (k != 17) = false := by unfold bne; rw [e2]; rfl)
    first | (have E := hide (show tickB k = false from decide_eq_false (by omega))) | (have E := hide (show tickB k = true from decide_eq_true (by omega)))
    clear q
    go_enter Tryz.func106, Tryz.ntmps106
    go_wp2_with fail
    go_ret
    exact ⟨ret_bool E.out.symm, rfl⟩
set_option maxHeartbeats 4000000 in
set_option maxRecDepth 100000 in
theorem submits_any (k : Int) (w : World) :
    Calls Tryz.prog 40 #[.int .i64 k] w fun e w' => e = .returned (.bool (subB k)) ∧ w' = w := by
  rcases (show (k ≤ 0) ∨ (1 ≤ k ∧ k ≤ 22) ∨ (k = 23) ∨ (k = 24) ∨ (25 ≤ k ∧ k ≤ 27) ∨ (28 ≤ k) by omega) with q | q | q | q | q | q
  · have H1 := hide (isInput_any k)
    rw [show btwB k 1 22 = false from decide_eq_false (by omega)] at H1
    have e2 : (k == 23) = false := by rw [beq_eq_false_iff_ne]; omega
    have n2 : ¬ k = 23 := by omega
    have e3 : (k == 24) = false := by rw [beq_eq_false_iff_ne]; omega
    have n3 : ¬ k = 24 := by omega
    have H4 := hide (isButton_any k)
    rw [show btwB k 25 27 = false from decide_eq_false (by omega)] at H4
    have E := hide (show subB k = false from decide_eq_false (by omega))
    clear q
    go_enter Tryz.func40, Tryz.ntmps40
    go_wp2_with fail
    refine (H1.out _).mono ?_
    rintro e u ⟨rfl, rfl⟩
    go_wp2_with fail
    refine (H4.out _).mono ?_
    rintro e u ⟨rfl, rfl⟩
    go_wp2_with fail
    go_ret
    exact ⟨ret_bool E.out.symm, rfl⟩
  · have H1 := hide (isInput_any k)
    rw [show btwB k 1 22 = true from decide_eq_true (by omega)] at H1
    have e2 : (k == 23) = false := by rw [beq_eq_false_iff_ne]; omega
    have n2 : ¬ k = 23 := by omega
    have e3 : (k == 24) = false := by rw [beq_eq_false_iff_ne]; omega
    have n3 : ¬ k = 24 := by omega
    have H4 := hide (isButton_any k)
    rw [show btwB k 25 27 = false from decide_eq_false (by omega)] at H4
    have E := hide (show subB k = true from decide_eq_true (by omega))
    clear q
    go_enter Tryz.func40, Tryz.ntmps40
    go_wp2_with fail
    refine (H1.out _).mono ?_
    rintro e u ⟨rfl, rfl⟩
    go_wp2_with fail
    go_ret
    exact ⟨ret_bool E.out.symm, rfl⟩
  · have H1 := hide (isInput_any k)
    rw [show btwB k 1 22 = false from decide_eq_false (by omega)] at H1
    have e2 : (k == 23) = true := by rw [beq_iff_eq]; omega
    have n2 : (k != 23) = false := by unfold bne; rw [e2]; rfl
    have e3 : (k == 24) = false := by rw [beq_eq_false_iff_ne]; omega
    have n3 : ¬ k = 24 := by omega
    have H4 := hide (isButton_any k)
    rw [show btwB k 25 27 = false from decide_eq_false (by omega)] at H4
    have E := hide (show subB k = true from decide_eq_true (by omega))
    clear q
    go_enter Tryz.func40, Tryz.ntmps40
    go_wp2_with fail
    refine (H1.out _).mono ?_
    rintro e u ⟨rfl, rfl⟩
    go_wp2_with fail
    go_ret
    exact ⟨ret_bool E.out.symm, rfl⟩
  · have H1 := hide (isInput_any k)
    rw [show btwB k 1 22 = false from decide_eq_false (by omega)] at H1
    have e2 : (k == 23) = false := by rw [beq_eq_false_iff_ne]; omega
    have n2 : ¬ k = 23 := by omega
    have e3 : (k == 24) = true := by rw [beq_iff_eq]; omega
    have n3 : (k != 24) = false := by unfold bne; rw [e3]; rfl
    have H4 := hide (isButton_any k)
    rw [show btwB k 25 27 = false from decide_eq_false (by omega)] at H4
    have E := hide (show subB k = true from decide_eq_true (by omega))
    clear q
    go_enter Tryz.func40, Tryz.ntmps40
    go_wp2_with fail
    refine (H1.out _).mono ?_
    rintro e u ⟨rfl, rfl⟩
    go_wp2_with fail
    go_ret
    exact ⟨ret_bool E.out.symm, rfl⟩
  · have H1 := hide (isInput_any k)
    rw [show btwB k 1 22 = false from decide_eq_false (by omega)] at H1
    have e2 : (k == 23) = false := by rw [beq_eq_false_iff_ne]; omega
    have n2 : ¬ k = 23 := by omega
    have e3 : (k == 24) = false := by rw [beq_eq_false_iff_ne]; omega
    have n3 : ¬ k = 24 := by omega
    have H4 := hide (isButton_any k)
    rw [show btwB k 25 27 = true from decide_eq_true (by omega)] at H4
    have E := hide (show subB k = true from decide_eq_true (by omega))
    clear q
    go_enter Tryz.func40, Tryz.ntmps40
    go_wp2_with fail
    refine (H1.out _).mono ?_
    rintro e u ⟨rfl, rfl⟩
    go_wp2_with fail
    refine (H4.out _).mono ?_
    rintro e u ⟨rfl, rfl⟩
    go_wp2_with fail
    go_ret
    exact ⟨ret_bool E.out.symm, rfl⟩
  · have H1 := hide (isInput_any k)
    rw [show btwB k 1 22 = false from decide_eq_false (by omega)] at H1
    have e2 : (k == 23) = false := by rw [beq_eq_false_iff_ne]; omega
    have n2 : ¬ k = 23 := by omega
    have e3 : (k == 24) = false := by rw [beq_eq_false_iff_ne]; omega
    have n3 : ¬ k = 24 := by omega
    have H4 := hide (isButton_any k)
    rw [show btwB k 25 27 = false from decide_eq_false (by omega)] at H4
    have E := hide (show subB k = false from decide_eq_false (by omega))
    clear q
    go_enter Tryz.func40, Tryz.ntmps40
    go_wp2_with fail
    refine (H1.out _).mono ?_
    rintro e u ⟨rfl, rfl⟩
    go_wp2_with fail
    refine (H4.out _).mono ?_
    rintro e u ⟨rfl, rfl⟩
    go_wp2_with fail
    go_ret
    exact ⟨ret_bool E.out.symm, rfl⟩
set_option maxHeartbeats 4000000 in
set_option maxRecDepth 100000 in
theorem mode_any (k : Int) (w : World) :
    Calls Tryz.prog 58 #[.int .i64 k] w fun e w' => e = .returned (.int .i64 (modeV k)) ∧ w' = w := by
  rcases (show (k ≤ 0) ∨ (k = 1) ∨ (2 ≤ k ∧ k ≤ 15) ∨ (16 ≤ k ∧ k ≤ 17) ∨ (k = 18) ∨ (19 ≤ k ∧ k ≤ 22) ∨ (k = 23) ∨ (k = 24) ∨ (25 ≤ k ∧ k ≤ 27) ∨ (k = 28) ∨ (29 ≤ k) by omega) with q | q | q | q | q | q | q | q | q | q | q
  · have H1 := hide (between_any k 2 15)
    rw [show btwB k 2 15 = false from decide_eq_false (by omega)] at H1
    have e2 : (k == 24) = false := by rw [beq_eq_false_iff_ne]; omega
    have n2 : ¬ k = 24 := by omega
    have e3 : (k == 28) = false := by rw [beq_eq_false_iff_ne]; omega
    have n3 : ¬ k = 28 := by omega
    have e4 : (k == 1) = false := by rw [beq_eq_false_iff_ne]; omega
    have n4 : ¬ k = 1 := by omega
    have H5 := hide (between_any k 19 22)
    rw [show btwB k 19 22 = false from decide_eq_false (by omega)] at H5
    have H6 := hide (isTicked_any k)
    rw [show tickB k = false from decide_eq_false (by omega)] at H6
    have e7 : (k == 18) = false := by rw [beq_eq_false_iff_ne]; omega
    have n7 : ¬ k = 18 := by omega
    have E : Hid (modeV k = 0) := by
      show _ = _
      unfold modeV
      rw [if_neg (by omega), if_neg (by omega), if_neg (by omega), if_neg (by omega)]
    clear q
    go_enter Tryz.func58, Tryz.ntmps58
    go_wp2_with fail
    refine (H1.out _).mono ?_
    rintro e u ⟨rfl, rfl⟩
    go_wp2_with fail
    refine (H5.out _).mono ?_
    rintro e u ⟨rfl, rfl⟩
    go_wp2_with fail
    refine (H6.out _).mono ?_
    rintro e u ⟨rfl, rfl⟩
    go_wp2_with fail
    go_ret
    exact ⟨ret_int E.out.symm, rfl⟩
  · have H1 := hide (between_any k 2 15)
    rw [show btwB k 2 15 = false from decide_eq_false (by omega)] at H1
    have e2 : (k == 24) = false := by rw [beq_eq_false_iff_ne]; omega
    have n2 : ¬ k = 24 := by omega
    have e3 : (k == 28) = false := by rw [beq_eq_false_iff_ne]; omega
    have n3 : ¬ k = 28 := by omega
    have e4 : (k == 1) = true := by rw [beq_iff_eq]; omega
    have n4 : (k != 1) = false := by unfold bne; rw [e4]; rfl
    have H5 := hide (between_any k 19 22)
    rw [show btwB k 19 22 = false from decide_eq_false (by omega)] at H5
    have H6 := hide (isTicked_any k)
    rw [show tickB k = false from decide_eq_false (by omega)] at H6
    have e7 : (k == 18) = false := by rw [beq_eq_false_iff_ne]; omega
    have n7 : ¬ k = 18 := by omega
    have E : Hid (modeV k = 2) := by
      show _ = _
      unfold modeV
      rw [if_neg (by omega), if_pos (by omega)]
    clear q
    go_enter Tryz.func58, Tryz.ntmps58
    go_wp2_with fail
    refine (H1.out _).mono ?_
    rintro e u ⟨rfl, rfl⟩
    go_wp2_with fail
    go_ret
    exact ⟨ret_int E.out.symm, rfl⟩
  · have H1 := hide (between_any k 2 15)
    rw [show btwB k 2 15 = true from decide_eq_true (by omega)] at H1
    have e2 : (k == 24) = false := by rw [beq_eq_false_iff_ne]; omega
    have n2 : ¬ k = 24 := by omega
    have e3 : (k == 28) = false := by rw [beq_eq_false_iff_ne]; omega
    have n3 : ¬ k = 28 := by omega
    have e4 : (k == 1) = false := by rw [beq_eq_false_iff_ne]; omega
    have n4 : ¬ k = 1 := by omega
    have H5 := hide (between_any k 19 22)
    rw [show btwB k 19 22 = false from decide_eq_false (by omega)] at H5
    have H6 := hide (isTicked_any k)
    rw [show tickB k = false from decide_eq_false (by omega)] at H6
    have e7 : (k == 18) = false := by rw [beq_eq_false_iff_ne]; omega
    have n7 : ¬ k = 18 := by omega
    have E : Hid (modeV k = 1) := by
      show _ = _
      unfold modeV
      rw [if_pos (by omega)]
    clear q
    go_enter Tryz.func58, Tryz.ntmps58
    go_wp2_with fail
    refine (H1.out _).mono ?_
    rintro e u ⟨rfl, rfl⟩
    go_wp2_with fail
    go_ret
    exact ⟨ret_int E.out.symm, rfl⟩
  · have H1 := hide (between_any k 2 15)
    rw [show btwB k 2 15 = false from decide_eq_false (by omega)] at H1
    have e2 : (k == 24) = false := by rw [beq_eq_false_iff_ne]; omega
    have n2 : ¬ k = 24 := by omega
    have e3 : (k == 28) = false := by rw [beq_eq_false_iff_ne]; omega
    have n3 : ¬ k = 28 := by omega
    have e4 : (k == 1) = false := by rw [beq_eq_false_iff_ne]; omega
    have n4 : ¬ k = 1 := by omega
    have H5 := hide (between_any k 19 22)
    rw [show btwB k 19 22 = false from decide_eq_false (by omega)] at H5
    have H6 := hide (isTicked_any k)
    rw [show tickB k = true from decide_eq_true (by omega)] at H6
    have e7 : (k == 18) = false := by rw [beq_eq_false_iff_ne]; omega
    have n7 : ¬ k = 18 := by omega
    have E : Hid (modeV k = 3) := by
      show _ = _
      unfold modeV
      rw [if_neg (by omega), if_neg (by omega), if_pos (by omega)]
    clear q
    go_enter Tryz.func58, Tryz.ntmps58
    go_wp2_with fail
    refine (H1.out _).mono ?_
    rintro e u ⟨rfl, rfl⟩
    go_wp2_with fail
    refine (H5.out _).mono ?_
    rintro e u ⟨rfl, rfl⟩
    go_wp2_with fail
    refine (H6.out _).mono ?_
    rintro e u ⟨rfl, rfl⟩
    go_wp2_with fail
    go_ret
    exact ⟨ret_int E.out.symm, rfl⟩
  · have H1 := hide (between_any k 2 15)
    rw [show btwB k 2 15 = false from decide_eq_false (by omega)] at H1
    have e2 : (k == 24) = false := by rw [beq_eq_false_iff_ne]; omega
    have n2 : ¬ k = 24 := by omega
    have e3 : (k == 28) = false := by rw [beq_eq_false_iff_ne]; omega
    have n3 : ¬ k = 28 := by omega
    have e4 : (k == 1) = false := by rw [beq_eq_false_iff_ne]; omega
    have n4 : ¬ k = 1 := by omega
    have H5 := hide (between_any k 19 22)
    rw [show btwB k 19 22 = false from decide_eq_false (by omega)] at H5
    have H6 := hide (isTicked_any k)
    rw [show tickB k = false from decide_eq_false (by omega)] at H6
    have e7 : (k == 18) = true := by rw [beq_iff_eq]; omega
    have n7 : (k != 18) = false := by unfold bne; rw [e7]; rfl
    have E : Hid (modeV k = 4) := by
      show _ = _
      unfold modeV
      rw [if_neg (by omega), if_neg (by omega), if_neg (by omega), if_pos (by omega)]
    clear q
    go_enter Tryz.func58, Tryz.ntmps58
    go_wp2_with fail
    refine (H1.out _).mono ?_
    rintro e u ⟨rfl, rfl⟩
    go_wp2_with fail
    refine (H5.out _).mono ?_
    rintro e u ⟨rfl, rfl⟩
    go_wp2_with fail
    refine (H6.out _).mono ?_
    rintro e u ⟨rfl, rfl⟩
    go_wp2_with fail
    go_ret
    exact ⟨ret_int E.out.symm, rfl⟩
  · have H1 := hide (between_any k 2 15)
    rw [show btwB k 2 15 = false from decide_eq_false (by omega)] at H1
    have e2 : (k == 24) = false := by rw [beq_eq_false_iff_ne]; omega
    have n2 : ¬ k = 24 := by omega
    have e3 : (k == 28) = false := by rw [beq_eq_false_iff_ne]; omega
    have n3 : ¬ k = 28 := by omega
    have e4 : (k == 1) = false := by rw [beq_eq_false_iff_ne]; omega
    have n4 : ¬ k = 1 := by omega
    have H5 := hide (between_any k 19 22)
    rw [show btwB k 19 22 = true from decide_eq_true (by omega)] at H5
    have H6 := hide (isTicked_any k)
    rw [show tickB k = false from decide_eq_false (by omega)] at H6
    have e7 : (k == 18) = false := by rw [beq_eq_false_iff_ne]; omega
    have n7 : ¬ k = 18 := by omega
    have E : Hid (modeV k = 2) := by
      show _ = _
      unfold modeV
      rw [if_neg (by omega), if_pos (by omega)]
    clear q
    go_enter Tryz.func58, Tryz.ntmps58
    go_wp2_with fail
    refine (H1.out _).mono ?_
    rintro e u ⟨rfl, rfl⟩
    go_wp2_with fail
    refine (H5.out _).mono ?_
    rintro e u ⟨rfl, rfl⟩
    go_wp2_with fail
    go_ret
    exact ⟨ret_int E.out.symm, rfl⟩
  · have H1 := hide (between_any k 2 15)
    rw [show btwB k 2 15 = false from decide_eq_false (by omega)] at H1
    have e2 : (k == 24) = false := by rw [beq_eq_false_iff_ne]; omega
    have n2 : ¬ k = 24 := by omega
    have e3 : (k == 28) = false := by rw [beq_eq_false_iff_ne]; omega
    have n3 : ¬ k = 28 := by omega
    have e4 : (k == 1) = false := by rw [beq_eq_false_iff_ne]; omega
    have n4 : ¬ k = 1 := by omega
    have H5 := hide (between_any k 19 22)
    rw [show btwB k 19 22 = false from decide_eq_false (by omega)] at H5
    have H6 := hide (isTicked_any k)
    rw [show tickB k = false from decide_eq_false (by omega)] at H6
    have e7 : (k == 18) = false := by rw [beq_eq_false_iff_ne]; omega
    have n7 : ¬ k = 18 := by omega
    have E : Hid (modeV k = 0) := by
      show _ = _
      unfold modeV
      rw [if_neg (by omega), if_neg (by omega), if_neg (by omega), if_neg (by omega)]
    clear q
    go_enter Tryz.func58, Tryz.ntmps58
    go_wp2_with fail
    refine (H1.out _).mono ?_
    rintro e u ⟨rfl, rfl⟩
    go_wp2_with fail
    refine (H5.out _).mono ?_
    rintro e u ⟨rfl, rfl⟩
    go_wp2_with fail
    refine (H6.out _).mono ?_
    rintro e u ⟨rfl, rfl⟩
    go_wp2_with fail
    go_ret
    exact ⟨ret_int E.out.symm, rfl⟩
  · have H1 := hide (between_any k 2 15)
    rw [show btwB k 2 15 = false from decide_eq_false (by omega)] at H1
    have e2 : (k == 24) = true := by rw [beq_iff_eq]; omega
    have n2 : (k != 24) = false := by unfold bne; rw [e2]; rfl
    have e3 : (k == 28) = false := by rw [beq_eq_false_iff_ne]; omega
    have n3 : ¬ k = 28 := by omega
    have e4 : (k == 1) = false := by rw [beq_eq_false_iff_ne]; omega
    have n4 : ¬ k = 1 := by omega
    have H5 := hide (between_any k 19 22)
    rw [show btwB k 19 22 = false from decide_eq_false (by omega)] at H5
    have H6 := hide (isTicked_any k)
    rw [show tickB k = false from decide_eq_false (by omega)] at H6
    have e7 : (k == 18) = false := by rw [beq_eq_false_iff_ne]; omega
    have n7 : ¬ k = 18 := by omega
    have E : Hid (modeV k = 1) := by
      show _ = _
      unfold modeV
      rw [if_pos (by omega)]
    clear q
    go_enter Tryz.func58, Tryz.ntmps58
    go_wp2_with fail
    refine (H1.out _).mono ?_
    rintro e u ⟨rfl, rfl⟩
    go_wp2_with fail
    go_ret
    exact ⟨ret_int E.out.symm, rfl⟩
  · have H1 := hide (between_any k 2 15)
    rw [show btwB k 2 15 = false from decide_eq_false (by omega)] at H1
    have e2 : (k == 24) = false := by rw [beq_eq_false_iff_ne]; omega
    have n2 : ¬ k = 24 := by omega
    have e3 : (k == 28) = false := by rw [beq_eq_false_iff_ne]; omega
    have n3 : ¬ k = 28 := by omega
    have e4 : (k == 1) = false := by rw [beq_eq_false_iff_ne]; omega
    have n4 : ¬ k = 1 := by omega
    have H5 := hide (between_any k 19 22)
    rw [show btwB k 19 22 = false from decide_eq_false (by omega)] at H5
    have H6 := hide (isTicked_any k)
    rw [show tickB k = false from decide_eq_false (by omega)] at H6
    have e7 : (k == 18) = false := by rw [beq_eq_false_iff_ne]; omega
    have n7 : ¬ k = 18 := by omega
    have E : Hid (modeV k = 0) := by
      show _ = _
      unfold modeV
      rw [if_neg (by omega), if_neg (by omega), if_neg (by omega), if_neg (by omega)]
    clear q
    go_enter Tryz.func58, Tryz.ntmps58
    go_wp2_with fail
    refine (H1.out _).mono ?_
    rintro e u ⟨rfl, rfl⟩
    go_wp2_with fail
    refine (H5.out _).mono ?_
    rintro e u ⟨rfl, rfl⟩
    go_wp2_with fail
    refine (H6.out _).mono ?_
    rintro e u ⟨rfl, rfl⟩
    go_wp2_with fail
    go_ret
    exact ⟨ret_int E.out.symm, rfl⟩
  · have H1 := hide (between_any k 2 15)
    rw [show btwB k 2 15 = false from decide_eq_false (by omega)] at H1
    have e2 : (k == 24) = false := by rw [beq_eq_false_iff_ne]; omega
    have n2 : ¬ k = 24 := by omega
    have e3 : (k == 28) = true := by rw [beq_iff_eq]; omega
    have n3 : (k != 28) = false := by unfold bne; rw [e3]; rfl
    have e4 : (k == 1) = false := by rw [beq_eq_false_iff_ne]; omega
    have n4 : ¬ k = 1 := by omega
    have H5 := hide (between_any k 19 22)
    rw [show btwB k 19 22 = false from decide_eq_false (by omega)] at H5
    have H6 := hide (isTicked_any k)
    rw [show tickB k = false from decide_eq_false (by omega)] at H6
    have e7 : (k == 18) = false := by rw [beq_eq_false_iff_ne]; omega
    have n7 : ¬ k = 18 := by omega
    have E : Hid (modeV k = 1) := by
      show _ = _
      unfold modeV
      rw [if_pos (by omega)]
    clear q
    go_enter Tryz.func58, Tryz.ntmps58
    go_wp2_with fail
    refine (H1.out _).mono ?_
    rintro e u ⟨rfl, rfl⟩
    go_wp2_with fail
    go_ret
    exact ⟨ret_int E.out.symm, rfl⟩
  · have H1 := hide (between_any k 2 15)
    rw [show btwB k 2 15 = false from decide_eq_false (by omega)] at H1
    have e2 : (k == 24) = false := by rw [beq_eq_false_iff_ne]; omega
    have n2 : ¬ k = 24 := by omega
    have e3 : (k == 28) = false := by rw [beq_eq_false_iff_ne]; omega
    have n3 : ¬ k = 28 := by omega
    have e4 : (k == 1) = false := by rw [beq_eq_false_iff_ne]; omega
    have n4 : ¬ k = 1 := by omega
    have H5 := hide (between_any k 19 22)
    rw [show btwB k 19 22 = false from decide_eq_false (by omega)] at H5
    have H6 := hide (isTicked_any k)
    rw [show tickB k = false from decide_eq_false (by omega)] at H6
    have e7 : (k == 18) = false := by rw [beq_eq_false_iff_ne]; omega
    have n7 : ¬ k = 18 := by omega
    have E : Hid (modeV k = 0) := by
      show _ = _
      unfold modeV
      rw [if_neg (by omega), if_neg (by omega), if_neg (by omega), if_neg (by omega)]
    clear q
    go_enter Tryz.func58, Tryz.ntmps58
    go_wp2_with fail
    refine (H1.out _).mono ?_
    rintro e u ⟨rfl, rfl⟩
    go_wp2_with fail
    refine (H5.out _).mono ?_
    rintro e u ⟨rfl, rfl⟩
    go_wp2_with fail
    refine (H6.out _).mono ?_
    rintro e u ⟨rfl, rfl⟩
    go_wp2_with fail
    go_ret
    exact ⟨ret_int E.out.symm, rfl⟩

end Go.Proofs.YtlppocdhfeejkaaGreatDoor
