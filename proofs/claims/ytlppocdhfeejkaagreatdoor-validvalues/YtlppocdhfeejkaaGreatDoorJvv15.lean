/- The document's Mode of layer 11 alone. Which attributes apply to which kinds, of the program and of the document. -/
import Derived.Test.YtlppocdhfeejkaaGreatDoorJvv7
import Derived.Test.YtlppocdhfeejkaaGreatDoorJvv16

namespace Go.Proofs.YtlppocdhfeejkaaGreatDoor
open Go.RowKit
set_option maxHeartbeats 4000000 in
set_option maxRecDepth 100000 in
theorem refMode_any (k : Int) (w : World) :
    Calls Tryz.prog 38 #[.int .i64 k] w fun e w' => e = .returned (.int .i64 (modeV k)) ∧ w' = w := by
  go_enter Tryz.func38, Tryz.ntmps38
  go_wp2_with fail
  all_goals (go_ret; refine ⟨ret_int ?_, rfl⟩; simp only [beq_iff_eq, beq_eq_false_iff_ne, ne_eq] at *; unfold modeV; (repeat' split) <;> omega)
end Go.Proofs.YtlppocdhfeejkaaGreatDoor

namespace Go.Proofs.YtlppocdhfeejkaaGreatDoor
open Go.RowKit
def reqB (k : Int) : Bool := decide ((2 ≤ k ∧ k ≤ 13) ∨ k = 16 ∨ k = 17 ∨ k = 18 ∨ k = 23 ∨ k = 24)
def roB (k : Int) : Bool := decide ((2 ≤ k ∧ k ≤ 13) ∨ k = 24)
def lenB (k : Int) : Bool := decide ((2 ≤ k ∧ k ≤ 7) ∨ k = 24)
def patB (k : Int) : Bool := decide (2 ≤ k ∧ k ≤ 7)
def minB (k : Int) : Bool := decide (8 ≤ k ∧ k ≤ 14)
def mulB (k : Int) : Bool := decide (k = 6 ∨ k = 18 ∨ k = 23)
def appB (k : Int) (a : ByteArray) : Bool :=
  if a = ⟨#[114, 101, 113, 117, 105, 114, 101, 100]⟩ then reqB k else if a = ⟨#[114, 101, 97, 100, 111, 110, 108, 121]⟩ then roB k else if a = ⟨#[109, 105, 110, 108, 101, 110, 103, 116, 104]⟩ then lenB k else if a = ⟨#[109, 97, 120, 108, 101, 110, 103, 116, 104]⟩ then lenB k else if a = ⟨#[112, 97, 116, 116, 101, 114, 110]⟩ then patB k else if a = ⟨#[109, 105, 110]⟩ then minB k else if a = ⟨#[109, 97, 120]⟩ then minB k else if a = ⟨#[115, 116, 101, 112]⟩ then minB k else if a = ⟨#[109, 117, 108, 116, 105, 112, 108, 101]⟩ then mulB k else if a = ⟨#[99, 104, 101, 99, 107, 101, 100]⟩ then tickB k else false
set_option maxHeartbeats 4000000 in
set_option maxRecDepth 100000 in
theorem applies_required (k : Int) (a : ByteArray) (w : World) (h : a = ⟨#[114, 101, 113, 117, 105, 114, 101, 100]⟩) :
    Calls Tryz.prog 96 #[.int .i64 k, .string a] w fun e w' => e = .returned (.bool (reqB k)) ∧ w' = w := by
  have t0 : (a.toList == [114, 101, 113, 117, 105, 114, 101, 100]) = true := lit_yes h
  have t1 : (a.toList == [114, 101, 97, 100, 111, 110, 108, 121]) = false := by rw [h, ByteArray.toList_eq]; rfl
  have t2 : (a.toList == [109, 105, 110, 108, 101, 110, 103, 116, 104]) = false := by rw [h, ByteArray.toList_eq]; rfl
  have t3 : (a.toList == [109, 97, 120, 108, 101, 110, 103, 116, 104]) = false := by rw [h, ByteArray.toList_eq]; rfl
  have t4 : (a.toList == [112, 97, 116, 116, 101, 114, 110]) = false := by rw [h, ByteArray.toList_eq]; rfl
  have t5 : (a.toList == [109, 105, 110]) = false := by rw [h, ByteArray.toList_eq]; rfl
  have t6 : (a.toList == [109, 97, 120]) = false := by rw [h, ByteArray.toList_eq]; rfl
  have t7 : (a.toList == [115, 116, 101, 112]) = false := by rw [h, ByteArray.toList_eq]; rfl
  have t8 : (a.toList == [109, 117, 108, 116, 105, 112, 108, 101]) = false := by rw [h, ByteArray.toList_eq]; rfl
  have t9 : (a.toList == [99, 104, 101, 99, 107, 101, 100]) = false := by rw [h, ByteArray.toList_eq]; rfl
  clear h
  rcases (show (k ≤ 1) ∨ (2 ≤ k ∧ k ≤ 13) ∨ (14 ≤ k ∧ k ≤ 15) ∨ (16 ≤ k ∧ k ≤ 17) ∨ (k = 18) ∨ (19 ≤ k ∧ k ≤ 22) ∨ (k = 23) ∨ (k = 24) ∨ (25 ≤ k) by omega) with q | q | q | q | q | q | q | q | q
  · have H1 := hide (isWritten_any k)
    rw [show btwB k 2 13 = false from decide_eq_false (by omega)] at H1
    have H2 := hide (isTicked_any k)
    rw [show tickB k = false from decide_eq_false (by omega)] at H2
    have e3 : (k == 18) = false := by rw [beq_eq_false_iff_ne]; omega
    have n3 : ¬ k = 18 := by omega
    have e4 : (k == 23) = false := by rw [beq_eq_false_iff_ne]; omega
    have n4 : ¬ k = 23 := by omega
    have e5 : (k == 24) = false := by rw [beq_eq_false_iff_ne]; omega
    have n5 : ¬ k = 24 := by omega
    have E := hide (show reqB k = false from decide_eq_false (by omega))
    clear q
    go_enter Tryz.func96, Tryz.ntmps96
    go_wp2_with fail
    refine (H1.out _).mono ?_
    rintro e u ⟨rfl, rfl⟩
    go_wp2_with fail
    refine (H2.out _).mono ?_
    rintro e u ⟨rfl, rfl⟩
    go_wp2_with fail
    go_ret
    exact ⟨ret_bool E.out.symm, rfl⟩
  · have H1 := hide (isWritten_any k)
    rw [show btwB k 2 13 = true from decide_eq_true (by omega)] at H1
    have H2 := hide (isTicked_any k)
    rw [show tickB k = false from decide_eq_false (by omega)] at H2
    have e3 : (k == 18) = false := by rw [beq_eq_false_iff_ne]; omega
    have n3 : ¬ k = 18 := by omega
    have e4 : (k == 23) = false := by rw [beq_eq_false_iff_ne]; omega
    have n4 : ¬ k = 23 := by omega
    have e5 : (k == 24) = false := by rw [beq_eq_false_iff_ne]; omega
    have n5 : ¬ k = 24 := by omega
    have E := hide (show reqB k = true from decide_eq_true (by omega))
    clear q
    go_enter Tryz.func96, Tryz.ntmps96
    go_wp2_with fail
    refine (H1.out _).mono ?_
    rintro e u ⟨rfl, rfl⟩
    go_wp2_with fail
    go_ret
    exact ⟨ret_bool E.out.symm, rfl⟩
  · have H1 := hide (isWritten_any k)
    rw [show btwB k 2 13 = false from decide_eq_false (by omega)] at H1
    have H2 := hide (isTicked_any k)
    rw [show tickB k = false from decide_eq_false (by omega)] at H2
    have e3 : (k == 18) = false := by rw [beq_eq_false_iff_ne]; omega
    have n3 : ¬ k = 18 := by omega
    have e4 : (k == 23) = false := by rw [beq_eq_false_iff_ne]; omega
    have n4 : ¬ k = 23 := by omega
    have e5 : (k == 24) = false := by rw [beq_eq_false_iff_ne]; omega
    have n5 : ¬ k = 24 := by omega
    have E := hide (show reqB k = false from decide_eq_false (by omega))
    clear q
    go_enter Tryz.func96, Tryz.ntmps96
    go_wp2_with fail
    refine (H1.out _).mono ?_
    rintro e u ⟨rfl, rfl⟩
    go_wp2_with fail
    refine (H2.out _).mono ?_
    rintro e u ⟨rfl, rfl⟩
    go_wp2_with fail
    go_ret
    exact ⟨ret_bool E.out.symm, rfl⟩
  · have H1 := hide (isWritten_any k)
    rw [show btwB k 2 13 = false from decide_eq_false (by omega)] at H1
    have H2 := hide (isTicked_any k)
    rw [show tickB k = true from decide_eq_true (by omega)] at H2
    have e3 : (k == 18) = false := by rw [beq_eq_false_iff_ne]; omega
    have n3 : ¬ k = 18 := by omega
    have e4 : (k == 23) = false := by rw [beq_eq_false_iff_ne]; omega
    have n4 : ¬ k = 23 := by omega
    have e5 : (k == 24) = false := by rw [beq_eq_false_iff_ne]; omega
    have n5 : ¬ k = 24 := by omega
    have E := hide (show reqB k = true from decide_eq_true (by omega))
    clear q
    go_enter Tryz.func96, Tryz.ntmps96
    go_wp2_with fail
    refine (H1.out _).mono ?_
    rintro e u ⟨rfl, rfl⟩
    go_wp2_with fail
    refine (H2.out _).mono ?_
    rintro e u ⟨rfl, rfl⟩
    go_wp2_with fail
    go_ret
    exact ⟨ret_bool E.out.symm, rfl⟩
  · have H1 := hide (isWritten_any k)
    rw [show btwB k 2 13 = false from decide_eq_false (by omega)] at H1
    have H2 := hide (isTicked_any k)
    rw [show tickB k = false from decide_eq_false (by omega)] at H2
    have e3 : (k == 18) = true := by rw [beq_iff_eq]; omega
    have n3 : (k != 18) = false := by unfold bne; rw [e3]; rfl
    have e4 : (k == 23) = false := by rw [beq_eq_false_iff_ne]; omega
    have n4 : ¬ k = 23 := by omega
    have e5 : (k == 24) = false := by rw [beq_eq_false_iff_ne]; omega
    have n5 : ¬ k = 24 := by omega
    have E := hide (show reqB k = true from decide_eq_true (by omega))
    clear q
    go_enter Tryz.func96, Tryz.ntmps96
    go_wp2_with fail
    refine (H1.out _).mono ?_
    rintro e u ⟨rfl, rfl⟩
    go_wp2_with fail
    refine (H2.out _).mono ?_
    rintro e u ⟨rfl, rfl⟩
    go_wp2_with fail
    go_ret
    exact ⟨ret_bool E.out.symm, rfl⟩
  · have H1 := hide (isWritten_any k)
    rw [show btwB k 2 13 = false from decide_eq_false (by omega)] at H1
    have H2 := hide (isTicked_any k)
    rw [show tickB k = false from decide_eq_false (by omega)] at H2
    have e3 : (k == 18) = false := by rw [beq_eq_false_iff_ne]; omega
    have n3 : ¬ k = 18 := by omega
    have e4 : (k == 23) = false := by rw [beq_eq_false_iff_ne]; omega
    have n4 : ¬ k = 23 := by omega
    have e5 : (k == 24) = false := by rw [beq_eq_false_iff_ne]; omega
    have n5 : ¬ k = 24 := by omega
    have E := hide (show reqB k = false from decide_eq_false (by omega))
    clear q
    go_enter Tryz.func96, Tryz.ntmps96
    go_wp2_with fail
    refine (H1.out _).mono ?_
    rintro e u ⟨rfl, rfl⟩
    go_wp2_with fail
    refine (H2.out _).mono ?_
    rintro e u ⟨rfl, rfl⟩
    go_wp2_with fail
    go_ret
    exact ⟨ret_bool E.out.symm, rfl⟩
  · have H1 := hide (isWritten_any k)
    rw [show btwB k 2 13 = false from decide_eq_false (by omega)] at H1
    have H2 := hide (isTicked_any k)
    rw [show tickB k = false from decide_eq_false (by omega)] at H2
    have e3 : (k == 18) = false := by rw [beq_eq_false_iff_ne]; omega
    have n3 : ¬ k = 18 := by omega
    have e4 : (k == 23) = true := by rw [beq_iff_eq]; omega
    have n4 : (k != 23) = false := by unfold bne; rw [e4]; rfl
    have e5 : (k == 24) = false := by rw [beq_eq_false_iff_ne]; omega
    have n5 : ¬ k = 24 := by omega
    have E := hide (show reqB k = true from decide_eq_true (by omega))
    clear q
    go_enter Tryz.func96, Tryz.ntmps96
    go_wp2_with fail
    refine (H1.out _).mono ?_
    rintro e u ⟨rfl, rfl⟩
    go_wp2_with fail
    refine (H2.out _).mono ?_
    rintro e u ⟨rfl, rfl⟩
    go_wp2_with fail
    go_ret
    exact ⟨ret_bool E.out.symm, rfl⟩
  · have H1 := hide (isWritten_any k)
    rw [show btwB k 2 13 = false from decide_eq_false (by omega)] at H1
    have H2 := hide (isTicked_any k)
    rw [show tickB k = false from decide_eq_false (by omega)] at H2
    have e3 : (k == 18) = false := by rw [beq_eq_false_iff_ne]; omega
    have n3 : ¬ k = 18 := by omega
    have e4 : (k == 23) = false := by rw [beq_eq_false_iff_ne]; omega
    have n4 : ¬ k = 23 := by omega
    have e5 : (k == 24) = true := by rw [beq_iff_eq]; omega
    have n5 : (k != 24) = false := by unfold bne; rw [e5]; rfl
    have E := hide (show reqB k = true from decide_eq_true (by omega))
    clear q
    go_enter Tryz.func96, Tryz.ntmps96
    go_wp2_with fail
    refine (H1.out _).mono ?_
    rintro e u ⟨rfl, rfl⟩
    go_wp2_with fail
    refine (H2.out _).mono ?_
    rintro e u ⟨rfl, rfl⟩
    go_wp2_with fail
    go_ret
    exact ⟨ret_bool E.out.symm, rfl⟩
  · have H1 := hide (isWritten_any k)
    rw [show btwB k 2 13 = false from decide_eq_false (by omega)] at H1
    have H2 := hide (isTicked_any k)
    rw [show tickB k = false from decide_eq_false (by omega)] at H2
    have e3 : (k == 18) = false := by rw [beq_eq_false_iff_ne]; omega
    have n3 : ¬ k = 18 := by omega
    have e4 : (k == 23) = false := by rw [beq_eq_false_iff_ne]; omega
    have n4 : ¬ k = 23 := by omega
    have e5 : (k == 24) = false := by rw [beq_eq_false_iff_ne]; omega
    have n5 : ¬ k = 24 := by omega
    have E := hide (show reqB k = false from decide_eq_false (by omega))
    clear q
    go_enter Tryz.func96, Tryz.ntmps96
    go_wp2_with fail
    refine (H1.out _).mono ?_
    rintro e u ⟨rfl, rfl⟩
    go_wp2_with fail
    refine (H2.out _).mono ?_
    rintro e u ⟨rfl, rfl⟩
    go_wp2_with fail
    go_ret
    exact ⟨ret_bool E.out.symm, rfl⟩
set_option maxHeartbeats 4000000 in
set_option maxRecDepth 100000 in
theorem applies_readonly (k : Int) (a : ByteArray) (w : World) (h : a = ⟨#[114, 101, 97, 100, 111, 110, 108, 121]⟩) :
    Calls Tryz.prog 96 #[.int .i64 k, .string a] w fun e w' => e = .returned (.bool (roB k)) ∧ w' = w := by
  have t0 : (a.toList == [114, 101, 113, 117, 105, 114, 101, 100]) = false := by rw [h, ByteArray.toList_eq]; rfl
  have t1 : (a.toList == [114, 101, 97, 100, 111, 110, 108, 121]) = true := lit_yes h
  have t2 : (a.toList == [109, 105, 110, 108, 101, 110, 103, 116, 104]) = false := by rw [h, ByteArray.toList_eq]; rfl
  have t3 : (a.toList == [109, 97, 120, 108, 101, 110, 103, 116, 104]) = false := by rw [h, ByteArray.toList_eq]; rfl
  have t4 : (a.toList == [112, 97, 116, 116, 101, 114, 110]) = false := by rw [h, ByteArray.toList_eq]; rfl
  have t5 : (a.toList == [109, 105, 110]) = false := by rw [h, ByteArray.toList_eq]; rfl
  have t6 : (a.toList == [109, 97, 120]) = false := by rw [h, ByteArray.toList_eq]; rfl
  have t7 : (a.toList == [115, 116, 101, 112]) = false := by rw [h, ByteArray.toList_eq]; rfl
  have t8 : (a.toList == [109, 117, 108, 116, 105, 112, 108, 101]) = false := by rw [h, ByteArray.toList_eq]; rfl
  have t9 : (a.toList == [99, 104, 101, 99, 107, 101, 100]) = false := by rw [h, ByteArray.toList_eq]; rfl
  clear h
  rcases (show (k ≤ 1) ∨ (2 ≤ k ∧ k ≤ 13) ∨ (14 ≤ k ∧ k ≤ 23) ∨ (k = 24) ∨ (25 ≤ k) by omega) with q | q | q | q | q
  · have H1 := hide (isWritten_any k)
    rw [show btwB k 2 13 = false from decide_eq_false (by omega)] at H1
    have e2 : (k == 24) = false := by rw [beq_eq_false_iff_ne]; omega
    have n2 : ¬ k = 24 := by omega
    have E := hide (show roB k = false from decide_eq_false (by omega))
    clear q
    go_enter Tryz.func96, Tryz.ntmps96
    go_wp2_with fail
    refine (H1.out _).mono ?_
    rintro e u ⟨rfl, rfl⟩
    go_wp2_with fail
    go_ret
    exact ⟨ret_bool E.out.symm, rfl⟩
  · have H1 := hide (isWritten_any k)
    rw [show btwB k 2 13 = true from decide_eq_true (by omega)] at H1
    have e2 : (k == 24) = false := by rw [beq_eq_false_iff_ne]; omega
    have n2 : ¬ k = 24 := by omega
    have E := hide (show roB k = true from decide_eq_true (by omega))
    clear q
    go_enter Tryz.func96, Tryz.ntmps96
    go_wp2_with fail
    refine (H1.out _).mono ?_
    rintro e u ⟨rfl, rfl⟩
    go_wp2_with fail
    go_ret
    exact ⟨ret_bool E.out.symm, rfl⟩
  · have H1 := hide (isWritten_any k)
    rw [show btwB k 2 13 = false from decide_eq_false (by omega)] at H1
    have e2 : (k == 24) = false := by rw [beq_eq_false_iff_ne]; omega
    have n2 : ¬ k = 24 := by omega
    have E := hide (show roB k = false from decide_eq_false (by omega))
    clear q
    go_enter Tryz.func96, Tryz.ntmps96
    go_wp2_with fail
    refine (H1.out _).mono ?_
    rintro e u ⟨rfl, rfl⟩
    go_wp2_with fail
    go_ret
    exact ⟨ret_bool E.out.symm, rfl⟩
  · have H1 := hide (isWritten_any k)
    rw [show btwB k 2 13 = false from decide_eq_false (by omega)] at H1
    have e2 : (k == 24) = true := by rw [beq_iff_eq]; omega
    have n2 : (k != 24) = false := by unfold bne; rw [e2]; rfl
    have E := hide (show roB k = true from decide_eq_true (by omega))
    clear q
    go_enter Tryz.func96, Tryz.ntmps96
    go_wp2_with fail
    refine (H1.out _).mono ?_
    rintro e u ⟨rfl, rfl⟩
    go_wp2_with fail
    go_ret
    exact ⟨ret_bool E.out.symm, rfl⟩
  · have H1 := hide (isWritten_any k)
    rw [show btwB k 2 13 = false from decide_eq_false (by omega)] at H1
    have e2 : (k == 24) = false := by rw [beq_eq_false_iff_ne]; omega
    have n2 : ¬ k = 24 := by omega
    have E := hide (show roB k = false from decide_eq_false (by omega))
    clear q
    go_enter Tryz.func96, Tryz.ntmps96
    go_wp2_with fail
    refine (H1.out _).mono ?_
    rintro e u ⟨rfl, rfl⟩
    go_wp2_with fail
    go_ret
    exact ⟨ret_bool E.out.symm, rfl⟩
set_option maxHeartbeats 4000000 in
set_option maxRecDepth 100000 in
theorem applies_minlength (k : Int) (a : ByteArray) (w : World) (h : a = ⟨#[109, 105, 110, 108, 101, 110, 103, 116, 104]⟩) :
    Calls Tryz.prog 96 #[.int .i64 k, .string a] w fun e w' => e = .returned (.bool (lenB k)) ∧ w' = w := by
  have t0 : (a.toList == [114, 101, 113, 117, 105, 114, 101, 100]) = false := by rw [h, ByteArray.toList_eq]; rfl
  have t1 : (a.toList == [114, 101, 97, 100, 111, 110, 108, 121]) = false := by rw [h, ByteArray.toList_eq]; rfl
  have t2 : (a.toList == [109, 105, 110, 108, 101, 110, 103, 116, 104]) = true := lit_yes h
  have t3 : (a.toList == [109, 97, 120, 108, 101, 110, 103, 116, 104]) = false := by rw [h, ByteArray.toList_eq]; rfl
  have t4 : (a.toList == [112, 97, 116, 116, 101, 114, 110]) = false := by rw [h, ByteArray.toList_eq]; rfl
  have t5 : (a.toList == [109, 105, 110]) = false := by rw [h, ByteArray.toList_eq]; rfl
  have t6 : (a.toList == [109, 97, 120]) = false := by rw [h, ByteArray.toList_eq]; rfl
  have t7 : (a.toList == [115, 116, 101, 112]) = false := by rw [h, ByteArray.toList_eq]; rfl
  have t8 : (a.toList == [109, 117, 108, 116, 105, 112, 108, 101]) = false := by rw [h, ByteArray.toList_eq]; rfl
  have t9 : (a.toList == [99, 104, 101, 99, 107, 101, 100]) = false := by rw [h, ByteArray.toList_eq]; rfl
  clear h
  rcases (show (k ≤ 1) ∨ (2 ≤ k ∧ k ≤ 7) ∨ (8 ≤ k ∧ k ≤ 23) ∨ (k = 24) ∨ (25 ≤ k) by omega) with q | q | q | q | q
  · have H1 := hide (isLine_any k)
    rw [show btwB k 2 7 = false from decide_eq_false (by omega)] at H1
    have e2 : (k == 24) = false := by rw [beq_eq_false_iff_ne]; omega
    have n2 : ¬ k = 24 := by omega
    have E := hide (show lenB k = false from decide_eq_false (by omega))
    clear q
    go_enter Tryz.func96, Tryz.ntmps96
    go_wp2_with fail
    refine (H1.out _).mono ?_
    rintro e u ⟨rfl, rfl⟩
    go_wp2_with fail
    go_ret
    exact ⟨ret_bool E.out.symm, rfl⟩
  · have H1 := hide (isLine_any k)
    rw [show btwB k 2 7 = true from decide_eq_true (by omega)] at H1
    have e2 : (k == 24) = false := by rw [beq_eq_false_iff_ne]; omega
    have n2 : ¬ k = 24 := by omega
    have E := hide (show lenB k = true from decide_eq_true (by omega))
    clear q
    go_enter Tryz.func96, Tryz.ntmps96
    go_wp2_with fail
    refine (H1.out _).mono ?_
    rintro e u ⟨rfl, rfl⟩
    go_wp2_with fail
    go_ret
    exact ⟨ret_bool E.out.symm, rfl⟩
  · have H1 := hide (isLine_any k)
    rw [show btwB k 2 7 = false from decide_eq_false (by omega)] at H1
    have e2 : (k == 24) = false := by rw [beq_eq_false_iff_ne]; omega
    have n2 : ¬ k = 24 := by omega
    have E := hide (show lenB k = false from decide_eq_false (by omega))
    clear q
    go_enter Tryz.func96, Tryz.ntmps96
    go_wp2_with fail
    refine (H1.out _).mono ?_
    rintro e u ⟨rfl, rfl⟩
    go_wp2_with fail
    go_ret
    exact ⟨ret_bool E.out.symm, rfl⟩
  · have H1 := hide (isLine_any k)
    rw [show btwB k 2 7 = false from decide_eq_false (by omega)] at H1
    have e2 : (k == 24) = true := by rw [beq_iff_eq]; omega
    have n2 : (k != 24) = false := by unfold bne; rw [e2]; rfl
    have E := hide (show lenB k = true from decide_eq_true (by omega))
    clear q
    go_enter Tryz.func96, Tryz.ntmps96
    go_wp2_with fail
    refine (H1.out _).mono ?_
    rintro e u ⟨rfl, rfl⟩
    go_wp2_with fail
    go_ret
    exact ⟨ret_bool E.out.symm, rfl⟩
  · have H1 := hide (isLine_any k)
    rw [show btwB k 2 7 = false from decide_eq_false (by omega)] at H1
    have e2 : (k == 24) = false := by rw [beq_eq_false_iff_ne]; omega
    have n2 : ¬ k = 24 := by omega
    have E := hide (show lenB k = false from decide_eq_false (by omega))
    clear q
    go_enter Tryz.func96, Tryz.ntmps96
    go_wp2_with fail
    refine (H1.out _).mono ?_
    rintro e u ⟨rfl, rfl⟩
    go_wp2_with fail
    go_ret
    exact ⟨ret_bool E.out.symm, rfl⟩
set_option maxHeartbeats 4000000 in
set_option maxRecDepth 100000 in
theorem applies_maxlength (k : Int) (a : ByteArray) (w : World) (h : a = ⟨#[109, 97, 120, 108, 101, 110, 103, 116, 104]⟩) :
    Calls Tryz.prog 96 #[.int .i64 k, .string a] w fun e w' => e = .returned (.bool (lenB k)) ∧ w' = w := by
  have t0 : (a.toList == [114, 101, 113, 117, 105, 114, 101, 100]) = false := by rw [h, ByteArray.toList_eq]; rfl
  have t1 : (a.toList == [114, 101, 97, 100, 111, 110, 108, 121]) = false := by rw [h, ByteArray.toList_eq]; rfl
  have t2 : (a.toList == [109, 105, 110, 108, 101, 110, 103, 116, 104]) = false := by rw [h, ByteArray.toList_eq]; rfl
  have t3 : (a.toList == [109, 97, 120, 108, 101, 110, 103, 116, 104]) = true := lit_yes h
  have t4 : (a.toList == [112, 97, 116, 116, 101, 114, 110]) = false := by rw [h, ByteArray.toList_eq]; rfl
  have t5 : (a.toList == [109, 105, 110]) = false := by rw [h, ByteArray.toList_eq]; rfl
  have t6 : (a.toList == [109, 97, 120]) = false := by rw [h, ByteArray.toList_eq]; rfl
  have t7 : (a.toList == [115, 116, 101, 112]) = false := by rw [h, ByteArray.toList_eq]; rfl
  have t8 : (a.toList == [109, 117, 108, 116, 105, 112, 108, 101]) = false := by rw [h, ByteArray.toList_eq]; rfl
  have t9 : (a.toList == [99, 104, 101, 99, 107, 101, 100]) = false := by rw [h, ByteArray.toList_eq]; rfl
  clear h
  rcases (show (k ≤ 1) ∨ (2 ≤ k ∧ k ≤ 7) ∨ (8 ≤ k ∧ k ≤ 23) ∨ (k = 24) ∨ (25 ≤ k) by omega) with q | q | q | q | q
  · have H1 := hide (isLine_any k)
    rw [show btwB k 2 7 = false from decide_eq_false (by omega)] at H1
    have e2 : (k == 24) = false := by rw [beq_eq_false_iff_ne]; omega
    have n2 : ¬ k = 24 := by omega
    have E := hide (show lenB k = false from decide_eq_false (by omega))
    clear q
    go_enter Tryz.func96, Tryz.ntmps96
    go_wp2_with fail
    refine (H1.out _).mono ?_
    rintro e u ⟨rfl, rfl⟩
    go_wp2_with fail
    go_ret
    exact ⟨ret_bool E.out.symm, rfl⟩
  · have H1 := hide (isLine_any k)
    rw [show btwB k 2 7 = true from decide_eq_true (by omega)] at H1
    have e2 : (k == 24) = false := by rw [beq_eq_false_iff_ne]; omega
    have n2 : ¬ k = 24 := by omega
    have E := hide (show lenB k = true from decide_eq_true (by omega))
    clear q
    go_enter Tryz.func96, Tryz.ntmps96
    go_wp2_with fail
    refine (H1.out _).mono ?_
    rintro e u ⟨rfl, rfl⟩
    go_wp2_with fail
    go_ret
    exact ⟨ret_bool E.out.symm, rfl⟩
  · have H1 := hide (isLine_any k)
    rw [show btwB k 2 7 = false from decide_eq_false (by omega)] at H1
    have e2 : (k == 24) = false := by rw [beq_eq_false_iff_ne]; omega
    have n2 : ¬ k = 24 := by omega
    have E := hide (show lenB k = false from decide_eq_false (by omega))
    clear q
    go_enter Tryz.func96, Tryz.ntmps96
    go_wp2_with fail
    refine (H1.out _).mono ?_
    rintro e u ⟨rfl, rfl⟩
    go_wp2_with fail
    go_ret
    exact ⟨ret_bool E.out.symm, rfl⟩
  · have H1 := hide (isLine_any k)
    rw [show btwB k 2 7 = false from decide_eq_false (by omega)] at H1
    have e2 : (k == 24) = true := by rw [beq_iff_eq]; omega
    have n2 : (k != 24) = false := by unfold bne; rw [e2]; rfl
    have E := hide (show lenB k = true from decide_eq_true (by omega))
    clear q
    go_enter Tryz.func96, Tryz.ntmps96
    go_wp2_with fail
    refine (H1.out _).mono ?_
    rintro e u ⟨rfl, rfl⟩
    go_wp2_with fail
    go_ret
    exact ⟨ret_bool E.out.symm, rfl⟩
  · have H1 := hide (isLine_any k)
    rw [show btwB k 2 7 = false from decide_eq_false (by omega)] at H1
    have e2 : (k == 24) = false := by rw [beq_eq_false_iff_ne]; omega
    have n2 : ¬ k = 24 := by omega
    have E := hide (show lenB k = false from decide_eq_false (by omega))
    clear q
    go_enter Tryz.func96, Tryz.ntmps96
    go_wp2_with fail
    refine (H1.out _).mono ?_
    rintro e u ⟨rfl, rfl⟩
    go_wp2_with fail
    go_ret
    exact ⟨ret_bool E.out.symm, rfl⟩
set_option maxHeartbeats 4000000 in
set_option maxRecDepth 100000 in
theorem applies_pattern (k : Int) (a : ByteArray) (w : World) (h : a = ⟨#[112, 97, 116, 116, 101, 114, 110]⟩) :
    Calls Tryz.prog 96 #[.int .i64 k, .string a] w fun e w' => e = .returned (.bool (patB k)) ∧ w' = w := by
  have t0 : (a.toList == [114, 101, 113, 117, 105, 114, 101, 100]) = false := by rw [h, ByteArray.toList_eq]; rfl
  have t1 : (a.toList == [114, 101, 97, 100, 111, 110, 108, 121]) = false := by rw [h, ByteArray.toList_eq]; rfl
  have t2 : (a.toList == [109, 105, 110, 108, 101, 110, 103, 116, 104]) = false := by rw [h, ByteArray.toList_eq]; rfl
  have t3 : (a.toList == [109, 97, 120, 108, 101, 110, 103, 116, 104]) = false := by rw [h, ByteArray.toList_eq]; rfl
  have t4 : (a.toList == [112, 97, 116, 116, 101, 114, 110]) = true := lit_yes h
  have t5 : (a.toList == [109, 105, 110]) = false := by rw [h, ByteArray.toList_eq]; rfl
  have t6 : (a.toList == [109, 97, 120]) = false := by rw [h, ByteArray.toList_eq]; rfl
  have t7 : (a.toList == [115, 116, 101, 112]) = false := by rw [h, ByteArray.toList_eq]; rfl
  have t8 : (a.toList == [109, 117, 108, 116, 105, 112, 108, 101]) = false := by rw [h, ByteArray.toList_eq]; rfl
  have t9 : (a.toList == [99, 104, 101, 99, 107, 101, 100]) = false := by rw [h, ByteArray.toList_eq]; rfl
  clear h
  rcases (show (k ≤ 1) ∨ (2 ≤ k ∧ k ≤ 7) ∨ (8 ≤ k) by omega) with q | q | q
  · have H1 := hide (isLine_any k)
    rw [show btwB k 2 7 = false from decide_eq_false (by omega)] at H1
    have E := hide (show patB k = false from decide_eq_false (by omega))
    go_enter Tryz.func96, Tryz.ntmps96
    go_wp2_with fail
    refine (H1.out _).mono ?_
    rintro e u ⟨rfl, rfl⟩
    go_wp2_with fail
    go_ret
    exact ⟨ret_bool E.out.symm, rfl⟩
  · have H1 := hide (isLine_any k)
    rw [show btwB k 2 7 = true from decide_eq_true (by omega)] at H1
    have E := hide (show patB k = true from decide_eq_true (by omega))
    go_enter Tryz.func96, Tryz.ntmps96
    go_wp2_with fail
    refine (H1.out _).mono ?_
    rintro e u ⟨rfl, rfl⟩
    go_wp2_with fail
    go_ret
    exact ⟨ret_bool E.out.symm, rfl⟩
  · have H1 := hide (isLine_any k)
    rw [show btwB k 2 7 = false from decide_eq_false (by omega)] at H1
    have E := hide (show patB k = false from decide_eq_false (by omega))
    go_enter Tryz.func96, Tryz.ntmps96
    go_wp2_with fail
    refine (H1.out _).mono ?_
    rintro e u ⟨rfl, rfl⟩
    go_wp2_with fail
    go_ret
    exact ⟨ret_bool E.out.symm, rfl⟩
set_option maxHeartbeats 4000000 in
set_option maxRecDepth 100000 in
theorem applies_min (k : Int) (a : ByteArray) (w : World) (h : a = ⟨#[109, 105, 110]⟩) :
    Calls Tryz.prog 96 #[.int .i64 k, .string a] w fun e w' => e = .returned (.bool (minB k)) ∧ w' = w := by
  have t0 : (a.toList == [114, 101, 113, 117, 105, 114, 101, 100]) = false := by rw [h, ByteArray.toList_eq]; rfl
  have t1 : (a.toList == [114, 101, 97, 100, 111, 110, 108, 121]) = false := by rw [h, ByteArray.toList_eq]; rfl
  have t2 : (a.toList == [109, 105, 110, 108, 101, 110, 103, 116, 104]) = false := by rw [h, ByteArray.toList_eq]; rfl
  have t3 : (a.toList == [109, 97, 120, 108, 101, 110, 103, 116, 104]) = false := by rw [h, ByteArray.toList_eq]; rfl
  have t4 : (a.toList == [112, 97, 116, 116, 101, 114, 110]) = false := by rw [h, ByteArray.toList_eq]; rfl
  have t5 : (a.toList == [109, 105, 110]) = true := lit_yes h
  have t6 : (a.toList == [109, 97, 120]) = false := by rw [h, ByteArray.toList_eq]; rfl
  have t7 : (a.toList == [115, 116, 101, 112]) = false := by rw [h, ByteArray.toList_eq]; rfl
  have t8 : (a.toList == [109, 117, 108, 116, 105, 112, 108, 101]) = false := by rw [h, ByteArray.toList_eq]; rfl
  have t9 : (a.toList == [99, 104, 101, 99, 107, 101, 100]) = false := by rw [h, ByteArray.toList_eq]; rfl
  clear h
  rcases (show (k ≤ 7) ∨ (8 ≤ k ∧ k ≤ 14) ∨ (15 ≤ k) by omega) with q | q | q
  · have H1 := hide (between_any k 8 14)
    rw [show btwB k 8 14 = false from decide_eq_false (by omega)] at H1
    have E := hide (show minB k = false from decide_eq_false (by omega))
    go_enter Tryz.func96, Tryz.ntmps96
    go_wp2_with fail
    refine (H1.out _).mono ?_
    rintro e u ⟨rfl, rfl⟩
    go_wp2_with fail
    go_ret
    exact ⟨ret_bool E.out.symm, rfl⟩
  · have H1 := hide (between_any k 8 14)
    rw [show btwB k 8 14 = true from decide_eq_true (by omega)] at H1
    have E := hide (show minB k = true from decide_eq_true (by omega))
    go_enter Tryz.func96, Tryz.ntmps96
    go_wp2_with fail
    refine (H1.out _).mono ?_
    rintro e u ⟨rfl, rfl⟩
    go_wp2_with fail
    go_ret
    exact ⟨ret_bool E.out.symm, rfl⟩
  · have H1 := hide (between_any k 8 14)
    rw [show btwB k 8 14 = false from decide_eq_false (by omega)] at H1
    have E := hide (show minB k = false from decide_eq_false (by omega))
    go_enter Tryz.func96, Tryz.ntmps96
    go_wp2_with fail
    refine (H1.out _).mono ?_
    rintro e u ⟨rfl, rfl⟩
    go_wp2_with fail
    go_ret
    exact ⟨ret_bool E.out.symm, rfl⟩
set_option maxHeartbeats 4000000 in
set_option maxRecDepth 100000 in
theorem applies_max (k : Int) (a : ByteArray) (w : World) (h : a = ⟨#[109, 97, 120]⟩) :
    Calls Tryz.prog 96 #[.int .i64 k, .string a] w fun e w' => e = .returned (.bool (minB k)) ∧ w' = w := by
  have t0 : (a.toList == [114, 101, 113, 117, 105, 114, 101, 100]) = false := by rw [h, ByteArray.toList_eq]; rfl
  have t1 : (a.toList == [114, 101, 97, 100, 111, 110, 108, 121]) = false := by rw [h, ByteArray.toList_eq]; rfl
  have t2 : (a.toList == [109, 105, 110, 108, 101, 110, 103, 116, 104]) = false := by rw [h, ByteArray.toList_eq]; rfl
  have t3 : (a.toList == [109, 97, 120, 108, 101, 110, 103, 116, 104]) = false := by rw [h, ByteArray.toList_eq]; rfl
  have t4 : (a.toList == [112, 97, 116, 116, 101, 114, 110]) = false := by rw [h, ByteArray.toList_eq]; rfl
  have t5 : (a.toList == [109, 105, 110]) = false := by rw [h, ByteArray.toList_eq]; rfl
  have t6 : (a.toList == [109, 97, 120]) = true := lit_yes h
  have t7 : (a.toList == [115, 116, 101, 112]) = false := by rw [h, ByteArray.toList_eq]; rfl
  have t8 : (a.toList == [109, 117, 108, 116, 105, 112, 108, 101]) = false := by rw [h, ByteArray.toList_eq]; rfl
  have t9 : (a.toList == [99, 104, 101, 99, 107, 101, 100]) = false := by rw [h, ByteArray.toList_eq]; rfl
  clear h
  rcases (show (k ≤ 7) ∨ (8 ≤ k ∧ k ≤ 14) ∨ (15 ≤ k) by omega) with q | q | q
  · have H1 := hide (between_any k 8 14)
    rw [show btwB k 8 14 = false from decide_eq_false (by omega)] at H1
    have E := hide (show minB k = false from decide_eq_false (by omega))
    go_enter Tryz.func96, Tryz.ntmps96
    go_wp2_with fail
    refine (H1.out _).mono ?_
    rintro e u ⟨rfl, rfl⟩
    go_wp2_with fail
    go_ret
    exact ⟨ret_bool E.out.symm, rfl⟩
  · have H1 := hide (between_any k 8 14)
    rw [show btwB k 8 14 = true from decide_eq_true (by omega)] at H1
    have E := hide (show minB k = true from decide_eq_true (by omega))
    go_enter Tryz.func96, Tryz.ntmps96
    go_wp2_with fail
    refine (H1.out _).mono ?_
    rintro e u ⟨rfl, rfl⟩
    go_wp2_with fail
    go_ret
    exact ⟨ret_bool E.out.symm, rfl⟩
  · have H1 := hide (between_any k 8 14)
    rw [show btwB k 8 14 = false from decide_eq_false (by omega)] at H1
    have E := hide (show minB k = false from decide_eq_false (by omega))
    go_enter Tryz.func96, Tryz.ntmps96
    go_wp2_with fail
    refine (H1.out _).mono ?_
    rintro e u ⟨rfl, rfl⟩
    go_wp2_with fail
    go_ret
    exact ⟨ret_bool E.out.symm, rfl⟩
set_option maxHeartbeats 4000000 in
set_option maxRecDepth 100000 in
theorem applies_step (k : Int) (a : ByteArray) (w : World) (h : a = ⟨#[115, 116, 101, 112]⟩) :
    Calls Tryz.prog 96 #[.int .i64 k, .string a] w fun e w' => e = .returned (.bool (minB k)) ∧ w' = w := by
  have t0 : (a.toList == [114, 101, 113, 117, 105, 114, 101, 100]) = false := by rw [h, ByteArray.toList_eq]; rfl
  have t1 : (a.toList == [114, 101, 97, 100, 111, 110, 108, 121]) = false := by rw [h, ByteArray.toList_eq]; rfl
  have t2 : (a.toList == [109, 105, 110, 108, 101, 110, 103, 116, 104]) = false := by rw [h, ByteArray.toList_eq]; rfl
  have t3 : (a.toList == [109, 97, 120, 108, 101, 110, 103, 116, 104]) = false := by rw [h, ByteArray.toList_eq]; rfl
  have t4 : (a.toList == [112, 97, 116, 116, 101, 114, 110]) = false := by rw [h, ByteArray.toList_eq]; rfl
  have t5 : (a.toList == [109, 105, 110]) = false := by rw [h, ByteArray.toList_eq]; rfl
  have t6 : (a.toList == [109, 97, 120]) = false := by rw [h, ByteArray.toList_eq]; rfl
  have t7 : (a.toList == [115, 116, 101, 112]) = true := lit_yes h
  have t8 : (a.toList == [109, 117, 108, 116, 105, 112, 108, 101]) = false := by rw [h, ByteArray.toList_eq]; rfl
  have t9 : (a.toList == [99, 104, 101, 99, 107, 101, 100]) = false := by rw [h, ByteArray.toList_eq]; rfl
  clear h
  rcases (show (k ≤ 7) ∨ (8 ≤ k ∧ k ≤ 14) ∨ (15 ≤ k) by omega) with q | q | q
  · have H1 := hide (between_any k 8 14)
    rw [show btwB k 8 14 = false from decide_eq_false (by omega)] at H1
    have E := hide (show minB k = false from decide_eq_false (by omega))
    go_enter Tryz.func96, Tryz.ntmps96
    go_wp2_with fail
    refine (H1.out _).mono ?_
    rintro e u ⟨rfl, rfl⟩
    go_wp2_with fail
    go_ret
    exact ⟨ret_bool E.out.symm, rfl⟩
  · have H1 := hide (between_any k 8 14)
    rw [show btwB k 8 14 = true from decide_eq_true (by omega)] at H1
    have E := hide (show minB k = true from decide_eq_true (by omega))
    go_enter Tryz.func96, Tryz.ntmps96
    go_wp2_with fail
    refine (H1.out _).mono ?_
    rintro e u ⟨rfl, rfl⟩
    go_wp2_with fail
    go_ret
    exact ⟨ret_bool E.out.symm, rfl⟩
  · have H1 := hide (between_any k 8 14)
    rw [show btwB k 8 14 = false from decide_eq_false (by omega)] at H1
    have E := hide (show minB k = false from decide_eq_false (by omega))
    go_enter Tryz.func96, Tryz.ntmps96
    go_wp2_with fail
    refine (H1.out _).mono ?_
    rintro e u ⟨rfl, rfl⟩
    go_wp2_with fail
    go_ret
    exact ⟨ret_bool E.out.symm, rfl⟩
set_option maxHeartbeats 4000000 in
set_option maxRecDepth 100000 in
theorem applies_multiple (k : Int) (a : ByteArray) (w : World) (h : a = ⟨#[109, 117, 108, 116, 105, 112, 108, 101]⟩) :
    Calls Tryz.prog 96 #[.int .i64 k, .string a] w fun e w' => e = .returned (.bool (mulB k)) ∧ w' = w := by
  have t0 : (a.toList == [114, 101, 113, 117, 105, 114, 101, 100]) = false := by rw [h, ByteArray.toList_eq]; rfl
  have t1 : (a.toList == [114, 101, 97, 100, 111, 110, 108, 121]) = false := by rw [h, ByteArray.toList_eq]; rfl
  have t2 : (a.toList == [109, 105, 110, 108, 101, 110, 103, 116, 104]) = false := by rw [h, ByteArray.toList_eq]; rfl
  have t3 : (a.toList == [109, 97, 120, 108, 101, 110, 103, 116, 104]) = false := by rw [h, ByteArray.toList_eq]; rfl
  have t4 : (a.toList == [112, 97, 116, 116, 101, 114, 110]) = false := by rw [h, ByteArray.toList_eq]; rfl
  have t5 : (a.toList == [109, 105, 110]) = false := by rw [h, ByteArray.toList_eq]; rfl
  have t6 : (a.toList == [109, 97, 120]) = false := by rw [h, ByteArray.toList_eq]; rfl
  have t7 : (a.toList == [115, 116, 101, 112]) = false := by rw [h, ByteArray.toList_eq]; rfl
  have t8 : (a.toList == [109, 117, 108, 116, 105, 112, 108, 101]) = true := lit_yes h
  have t9 : (a.toList == [99, 104, 101, 99, 107, 101, 100]) = false := by rw [h, ByteArray.toList_eq]; rfl
  clear h
  rcases (show (k ≤ 5) ∨ (k = 6) ∨ (7 ≤ k ∧ k ≤ 17) ∨ (k = 18) ∨ (19 ≤ k ∧ k ≤ 22) ∨ (k = 23) ∨ (24 ≤ k) by omega) with q | q | q | q | q | q | q
  · have e1 : (k == 6) = false := by rw [beq_eq_false_iff_ne]; omega
    have n1 : ¬ k = 6 := by omega
    have e2 : (k == 18) = false := by rw [beq_eq_false_iff_ne]; omega
    have n2 : ¬ k = 18 := by omega
    have e3 : (k == 23) = false := by rw [beq_eq_false_iff_ne]; omega
    have n3 : ¬ k = 23 := by omega
    have E := hide (show mulB k = false from decide_eq_false (by omega))
    clear q
    go_enter Tryz.func96, Tryz.ntmps96
    go_wp2_with fail
    go_ret
    exact ⟨ret_bool E.out.symm, rfl⟩
  · have e1 : (k == 6) = true := by rw [beq_iff_eq]; omega
    have n1 : (k != 6) = false := by unfold bne; rw [e1]; rfl
    have e2 : (k == 18) = false := by rw [beq_eq_false_iff_ne]; omega
    have n2 : ¬ k = 18 := by omega
    have e3 : (k == 23) = false := by rw [beq_eq_false_iff_ne]; omega
    have n3 : ¬ k = 23 := by omega
    have E := hide (show mulB k = true from decide_eq_true (by omega))
    clear q
    go_enter Tryz.func96, Tryz.ntmps96
    go_wp2_with fail
    go_ret
    exact ⟨ret_bool E.out.symm, rfl⟩
  · have e1 : (k == 6) = false := by rw [beq_eq_false_iff_ne]; omega
    have n1 : ¬ k = 6 := by omega
    have e2 : (k == 18) = false := by rw [beq_eq_false_iff_ne]; omega
    have n2 : ¬ k = 18 := by omega
    have e3 : (k == 23) = false := by rw [beq_eq_false_iff_ne]; omega
    have n3 : ¬ k = 23 := by omega
    have E := hide (show mulB k = false from decide_eq_false (by omega))
    clear q
    go_enter Tryz.func96, Tryz.ntmps96
    go_wp2_with fail
    go_ret
    exact ⟨ret_bool E.out.symm, rfl⟩
  · have e1 : (k == 6) = false := by rw [beq_eq_false_iff_ne]; omega
    have n1 : ¬ k = 6 := by omega
    have e2 : (k == 18) = true := by rw [beq_iff_eq]; omega
    have n2 : (k != 18) = false := by unfold bne; rw [e2]; rfl
    have e3 : (k == 23) = false := by rw [beq_eq_false_iff_ne]; omega
    have n3 : ¬ k = 23 := by omega
    have E := hide (show mulB k = true from decide_eq_true (by omega))
    clear q
    go_enter Tryz.func96, Tryz.ntmps96
    go_wp2_with fail
    go_ret
    exact ⟨ret_bool E.out.symm, rfl⟩
  · have e1 : (k == 6) = false := by rw [beq_eq_false_iff_ne]; omega
    have n1 : ¬ k = 6 := by omega
    have e2 : (k == 18) = false := by rw [beq_eq_false_iff_ne]; omega
    have n2 : ¬ k = 18 := by omega
    have e3 : (k == 23) = false := by rw [beq_eq_false_iff_ne]; omega
    have n3 : ¬ k = 23 := by omega
    have E := hide (show mulB k = false from decide_eq_false (by omega))
    clear q
    go_enter Tryz.func96, Tryz.ntmps96
    go_wp2_with fail
    go_ret
    exact ⟨ret_bool E.out.symm, rfl⟩
  · have e1 : (k == 6) = false := by rw [beq_eq_false_iff_ne]; omega
    have n1 : ¬ k = 6 := by omega
    have e2 : (k == 18) = false := by rw [beq_eq_false_iff_ne]; omega
    have n2 : ¬ k = 18 := by omega
    have e3 : (k == 23) = true := by rw [beq_iff_eq]; omega
    have n3 : (k != 23) = false := by unfold bne; rw [e3]; rfl
    have E := hide (show mulB k = true from decide_eq_true (by omega))
    clear q
    go_enter Tryz.func96, Tryz.ntmps96
    go_wp2_with fail
    go_ret
    exact ⟨ret_bool E.out.symm, rfl⟩
  · have e1 : (k == 6) = false := by rw [beq_eq_false_iff_ne]; omega
    have n1 : ¬ k = 6 := by omega
    have e2 : (k == 18) = false := by rw [beq_eq_false_iff_ne]; omega
    have n2 : ¬ k = 18 := by omega
    have e3 : (k == 23) = false := by rw [beq_eq_false_iff_ne]; omega
    have n3 : ¬ k = 23 := by omega
    have E := hide (show mulB k = false from decide_eq_false (by omega))
    clear q
    go_enter Tryz.func96, Tryz.ntmps96
    go_wp2_with fail
    go_ret
    exact ⟨ret_bool E.out.symm, rfl⟩
set_option maxHeartbeats 4000000 in
set_option maxRecDepth 100000 in
theorem applies_checked (k : Int) (a : ByteArray) (w : World) (h : a = ⟨#[99, 104, 101, 99, 107, 101, 100]⟩) :
    Calls Tryz.prog 96 #[.int .i64 k, .string a] w fun e w' => e = .returned (.bool (tickB k)) ∧ w' = w := by
  have t0 : (a.toList == [114, 101, 113, 117, 105, 114, 101, 100]) = false := by rw [h, ByteArray.toList_eq]; rfl
  have t1 : (a.toList == [114, 101, 97, 100, 111, 110, 108, 121]) = false := by rw [h, ByteArray.toList_eq]; rfl
  have t2 : (a.toList == [109, 105, 110, 108, 101, 110, 103, 116, 104]) = false := by rw [h, ByteArray.toList_eq]; rfl
  have t3 : (a.toList == [109, 97, 120, 108, 101, 110, 103, 116, 104]) = false := by rw [h, ByteArray.toList_eq]; rfl
  have t4 : (a.toList == [112, 97, 116, 116, 101, 114, 110]) = false := by rw [h, ByteArray.toList_eq]; rfl
  have t5 : (a.toList == [109, 105, 110]) = false := by rw [h, ByteArray.toList_eq]; rfl
  have t6 : (a.toList == [109, 97, 120]) = false := by rw [h, ByteArray.toList_eq]; rfl
  have t7 : (a.toList == [115, 116, 101, 112]) = false := by rw [h, ByteArray.toList_eq]; rfl
  have t8 : (a.toList == [109, 117, 108, 116, 105, 112, 108, 101]) = false := by rw [h, ByteArray.toList_eq]; rfl
  have t9 : (a.toList == [99, 104, 101, 99, 107, 101, 100]) = true := lit_yes h
  clear h
  rcases (show (k ≤ 15) ∨ (16 ≤ k ∧ k ≤ 17) ∨ (18 ≤ k) by omega) with q | q | q
  · have H1 := hide (isTicked_any k)
    rw [show tickB k = false from decide_eq_false (by omega)] at H1
    have E := hide (show tickB k = false from decide_eq_false (by omega))
    go_enter Tryz.func96, Tryz.ntmps96
    go_wp2_with fail
    refine (H1.out _).mono ?_
    rintro e u ⟨rfl, rfl⟩
    go_wp2_with fail
    go_ret
    exact ⟨ret_bool E.out.symm, rfl⟩
  · have H1 := hide (isTicked_any k)
    rw [show tickB k = true from decide_eq_true (by omega)] at H1
    have E := hide (show tickB k = true from decide_eq_true (by omega))
    go_enter Tryz.func96, Tryz.ntmps96
    go_wp2_with fail
    refine (H1.out _).mono ?_
    rintro e u ⟨rfl, rfl⟩
    go_wp2_with fail
    go_ret
    exact ⟨ret_bool E.out.symm, rfl⟩
  · have H1 := hide (isTicked_any k)
    rw [show tickB k = false from decide_eq_false (by omega)] at H1
    have E := hide (show tickB k = false from decide_eq_false (by omega))
    go_enter Tryz.func96, Tryz.ntmps96
    go_wp2_with fail
    refine (H1.out _).mono ?_
    rintro e u ⟨rfl, rfl⟩
    go_wp2_with fail
    go_ret
    exact ⟨ret_bool E.out.symm, rfl⟩
set_option maxHeartbeats 4000000 in
set_option maxRecDepth 100000 in
theorem applies_any (k : Int) (a : ByteArray) (w : World) :
    Calls Tryz.prog 96 #[.int .i64 k, .string a] w fun e w' => e = .returned (.bool (appB k a)) ∧ w' = w := by
  by_cases h0 : a = ⟨#[114, 101, 113, 117, 105, 114, 101, 100]⟩
  · rw [show appB k a = reqB k from by rw [h0]; rfl]
    exact applies_required k a w h0
  by_cases h1 : a = ⟨#[114, 101, 97, 100, 111, 110, 108, 121]⟩
  · rw [show appB k a = roB k from by rw [h1]; rfl]
    exact applies_readonly k a w h1
  by_cases h2 : a = ⟨#[109, 105, 110, 108, 101, 110, 103, 116, 104]⟩
  · rw [show appB k a = lenB k from by rw [h2]; rfl]
    exact applies_minlength k a w h2
  by_cases h3 : a = ⟨#[109, 97, 120, 108, 101, 110, 103, 116, 104]⟩
  · rw [show appB k a = lenB k from by rw [h3]; rfl]
    exact applies_maxlength k a w h3
  by_cases h4 : a = ⟨#[112, 97, 116, 116, 101, 114, 110]⟩
  · rw [show appB k a = patB k from by rw [h4]; rfl]
    exact applies_pattern k a w h4
  by_cases h5 : a = ⟨#[109, 105, 110]⟩
  · rw [show appB k a = minB k from by rw [h5]; rfl]
    exact applies_min k a w h5
  by_cases h6 : a = ⟨#[109, 97, 120]⟩
  · rw [show appB k a = minB k from by rw [h6]; rfl]
    exact applies_max k a w h6
  by_cases h7 : a = ⟨#[115, 116, 101, 112]⟩
  · rw [show appB k a = minB k from by rw [h7]; rfl]
    exact applies_step k a w h7
  by_cases h8 : a = ⟨#[109, 117, 108, 116, 105, 112, 108, 101]⟩
  · rw [show appB k a = mulB k from by rw [h8]; rfl]
    exact applies_multiple k a w h8
  by_cases h9 : a = ⟨#[99, 104, 101, 99, 107, 101, 100]⟩
  · rw [show appB k a = tickB k from by rw [h9]; rfl]
    exact applies_checked k a w h9
  have E : Hid (appB k a = false) := by show _ = _; unfold appB; rw [if_neg h0, if_neg h1, if_neg h2, if_neg h3, if_neg h4, if_neg h5, if_neg h6, if_neg h7, if_neg h8, if_neg h9]
  have t0 := lit_no (l := [114, 101, 113, 117, 105, 114, 101, 100]) h0
  have t1 := lit_no (l := [114, 101, 97, 100, 111, 110, 108, 121]) h1
  have t2 := lit_no (l := [109, 105, 110, 108, 101, 110, 103, 116, 104]) h2
  have t3 := lit_no (l := [109, 97, 120, 108, 101, 110, 103, 116, 104]) h3
  have t4 := lit_no (l := [112, 97, 116, 116, 101, 114, 110]) h4
  have t5 := lit_no (l := [109, 105, 110]) h5
  have t6 := lit_no (l := [109, 97, 120]) h6
  have t7 := lit_no (l := [115, 116, 101, 112]) h7
  have t8 := lit_no (l := [109, 117, 108, 116, 105, 112, 108, 101]) h8
  have t9 := lit_no (l := [99, 104, 101, 99, 107, 101, 100]) h9
  clear h0 h1 h2 h3 h4 h5 h6 h7 h8 h9
  go_enter Tryz.func96, Tryz.ntmps96
  go_wp2_with fail
  go_ret
  exact ⟨ret_bool E.out.symm, rfl⟩

end Go.Proofs.YtlppocdhfeejkaaGreatDoor
