/- The document's Attr, SameFiles, Same of layer 14. Which attributes apply to which kinds, of the document. The document's kind and Form of layer 16. -/
import Derived.Test.YtdbabciafifnaaaGreatDoorJvb15
import Derived.Test.YtdbabciafifnaaaGreatDoorJvb17
import Derived.Test.YtdbabciafifnaaaGreatDoorJvb21

namespace Go.Proofs.YtdbabciafifnaaaGreatDoor
open Go.RowKit
set_option maxRecDepth 100000
theorem belR {B : Nat} {a w : World} (h : Below B a w) (n : Nat) : Below B a (w.drewN n) := ⟨h.os, h.tape, h.output, h.size, h.block⟩
end Go.Proofs.YtdbabciafifnaaaGreatDoor

namespace Go.Proofs.YtdbabciafifnaaaGreatDoor
open Go.RowKit
set_option maxHeartbeats 4000000 in
set_option maxRecDepth 100000 in
theorem refApplies_required (k : Int) (a : ByteArray) (w : World) (h : a = ⟨#[114, 101, 113, 117, 105, 114, 101, 100]⟩) :
    Calls Tryz.prog 34 #[.int .i64 k, .string a] w fun e w' => e = .returned (.bool (reqB k)) ∧ w' = w := by
  have t0 : (a.toList == [114, 101, 113, 117, 105, 114, 101, 100]) = true := lit_yes h
  have t1 : (a.toList == [114, 101, 97, 100, 111, 110, 108, 121]) = false := by rw [h, ByteArray.toList_eq]; rfl
  have t2 : (a.toList == [109, 105, 110, 108, 101, 110, 103, 116, 104]) = false := by rw [h, ByteArray.toList_eq]; rfl
  have t3 : (a.toList == [109, 97, 120, 108, 101, 110, 103, 116, 104]) = false := by rw [h, ByteArray.toList_eq]; rfl
  have t4 : (a.toList == [112, 97, 116, 116, 101, 114, 110]) = false := by rw [h, ByteArray.toList_eq]; rfl
  have t5 : (a.toList == [109, 105, 110]) = false := by rw [h, ByteArray.toList_eq]; rfl
  have t6 : (a.toList == [109, 97, 120]) = false := by rw [h, ByteArray.toList_eq]; rfl
  have t7 : (a.toList == [115, 116, 101, 112]) = false := by rw [h, ByteArray.toList_eq]; rfl
  have t8 : (a.toList == [109, 117, 108, 116, 105, 112, 108, 101]) = false := by rw [h, ByteArray.toList_eq]; rfl
  have t9 : (a.toList == [99, 104, 101, 99, 107, 101, 100]) = false := by rw [h, ByteArray.toList_eq]; rfl
  clear h
  rcases (show (k ≤ 1) ∨ (2 ≤ k ∧ k ≤ 13) ∨ (14 ≤ k ∧ k ≤ 15) ∨ (k = 16) ∨ (k = 17) ∨ (k = 18) ∨ (19 ≤ k ∧ k ≤ 22) ∨ (k = 23) ∨ (k = 24) ∨ (25 ≤ k) by omega) with q | q | q | q | q | q | q | q | q | q
  · have e1 : ¬ (2 ≤ k) := by omega
    have d1 : decide (2 ≤ k) = false := decide_eq_false e1
    have e2 : k ≤ 13 := by omega
    have d2 : decide (k ≤ 13) = true := decide_eq_true e2
    have e3 : (k == 16) = false := by rw [beq_eq_false_iff_ne]; omega
    have n3 : ¬ k = 16 := by omega
    have e4 : (k == 17) = false := by rw [beq_eq_false_iff_ne]; omega
    have n4 : ¬ k = 17 := by omega
    have e5 : (k == 18) = false := by rw [beq_eq_false_iff_ne]; omega
    have n5 : ¬ k = 18 := by omega
    have e6 : (k == 23) = false := by rw [beq_eq_false_iff_ne]; omega
    have n6 : ¬ k = 23 := by omega
    have e7 : (k == 24) = false := by rw [beq_eq_false_iff_ne]; omega
    have n7 : ¬ k = 24 := by omega
    have E := hide (show reqB k = false from decide_eq_false (by omega))
    clear q
    go_enter Tryz.func34, Tryz.ntmps34
    go_wp2_with fail
    go_ret
    exact ⟨ret_bool E.out.symm, rfl⟩
  · have e1 : 2 ≤ k := by omega
    have d1 : decide (2 ≤ k) = true := decide_eq_true e1
    have e2 : k ≤ 13 := by omega
    have d2 : decide (k ≤ 13) = true := decide_eq_true e2
    have e3 : (k == 16) = false := by rw [beq_eq_false_iff_ne]; omega
    have n3 : ¬ k = 16 := by omega
    have e4 : (k == 17) = false := by rw [beq_eq_false_iff_ne]; omega
    have n4 : ¬ k = 17 := by omega
    have e5 : (k == 18) = false := by rw [beq_eq_false_iff_ne]; omega
    have n5 : ¬ k = 18 := by omega
    have e6 : (k == 23) = false := by rw [beq_eq_false_iff_ne]; omega
    have n6 : ¬ k = 23 := by omega
    have e7 : (k == 24) = false := by rw [beq_eq_false_iff_ne]; omega
    have n7 : ¬ k = 24 := by omega
    have E := hide (show reqB k = true from decide_eq_true (by omega))
    clear q
    go_enter Tryz.func34, Tryz.ntmps34
    go_wp2_with fail
    go_ret
    exact ⟨ret_bool E.out.symm, rfl⟩
  · have e1 : 2 ≤ k := by omega
    have d1 : decide (2 ≤ k) = true := decide_eq_true e1
    have e2 : ¬ (k ≤ 13) := by omega
    have d2 : decide (k ≤ 13) = false := decide_eq_false e2
    have e3 : (k == 16) = false := by rw [beq_eq_false_iff_ne]; omega
    have n3 : ¬ k = 16 := by omega
    have e4 : (k == 17) = false := by rw [beq_eq_false_iff_ne]; omega
    have n4 : ¬ k = 17 := by omega
    have e5 : (k == 18) = false := by rw [beq_eq_false_iff_ne]; omega
    have n5 : ¬ k = 18 := by omega
    have e6 : (k == 23) = false := by rw [beq_eq_false_iff_ne]; omega
    have n6 : ¬ k = 23 := by omega
    have e7 : (k == 24) = false := by rw [beq_eq_false_iff_ne]; omega
    have n7 : ¬ k = 24 := by omega
    have E := hide (show reqB k = false from decide_eq_false (by omega))
    clear q
    go_enter Tryz.func34, Tryz.ntmps34
    go_wp2_with fail
    go_ret
    exact ⟨ret_bool E.out.symm, rfl⟩
  · have e1 : 2 ≤ k := by omega
    have d1 : decide (2 ≤ k) = true := decide_eq_true e1
    have e2 : ¬ (k ≤ 13) := by omega
    have d2 : decide (k ≤ 13) = false := decide_eq_false e2
    have e3 : (k == 16) = true := by rw [beq_iff_eq]; omega
    have n3 : (k != 16) = false := by unfold bne; rw [e3]; rfl
    have e4 : (k == 17) = false := by rw [beq_eq_false_iff_ne]; omega
    have n4 : ¬ k = 17 := by omega
    have e5 : (k == 18) = false := by rw [beq_eq_false_iff_ne]; omega
    have n5 : ¬ k = 18 := by omega
    have e6 : (k == 23) = false := by rw [beq_eq_false_iff_ne]; omega
    have n6 : ¬ k = 23 := by omega
    have e7 : (k == 24) = false := by rw [beq_eq_false_iff_ne]; omega
    have n7 : ¬ k = 24 := by omega
    have E := hide (show reqB k = true from decide_eq_true (by omega))
    clear q
    go_enter Tryz.func34, Tryz.ntmps34
    go_wp2_with fail
    go_ret
    exact ⟨ret_bool E.out.symm, rfl⟩
  · have e1 : 2 ≤ k := by omega
    have d1 : decide (2 ≤ k) = true := decide_eq_true e1
    have e2 : ¬ (k ≤ 13) := by omega
    have d2 : decide (k ≤ 13) = false := decide_eq_false e2
    have e3 : (k == 16) = false := by rw [beq_eq_false_iff_ne]; omega
    have n3 : ¬ k = 16 := by omega
    have e4 : (k == 17) = true := by rw [beq_iff_eq]; omega
    have n4 : (k != 17) = false := by unfold bne; rw [e4]; rfl
    have e5 : (k == 18) = false := by rw [beq_eq_false_iff_ne]; omega
    have n5 : ¬ k = 18 := by omega
    have e6 : (k == 23) = false := by rw [beq_eq_false_iff_ne]; omega
    have n6 : ¬ k = 23 := by omega
    have e7 : (k == 24) = false := by rw [beq_eq_false_iff_ne]; omega
    have n7 : ¬ k = 24 := by omega
    have E := hide (show reqB k = true from decide_eq_true (by omega))
    clear q
    go_enter Tryz.func34, Tryz.ntmps34
    go_wp2_with fail
    go_ret
    exact ⟨ret_bool E.out.symm, rfl⟩
  · have e1 : 2 ≤ k := by omega
    have d1 : decide (2 ≤ k) = true := decide_eq_true e1
    have e2 : ¬ (k ≤ 13) := by omega
    have d2 : decide (k ≤ 13) = false := decide_eq_false e2
    have e3 : (k == 16) = false := by rw [beq_eq_false_iff_ne]; omega
    have n3 : ¬ k = 16 := by omega
    have e4 : (k == 17) = false := by rw [beq_eq_false_iff_ne]; omega
    have n4 : ¬ k = 17 := by omega
    have e5 : (k == 18) = true := by rw [beq_iff_eq]; omega
    have n5 : (k != 18) = false := by unfold bne; rw [e5]; rfl
    have e6 : (k == 23) = false := by rw [beq_eq_false_iff_ne]; omega
    have n6 : ¬ k = 23 := by omega
    have e7 : (k == 24) = false := by rw [beq_eq_false_iff_ne]; omega
    have n7 : ¬ k = 24 := by omega
    have E := hide (show reqB k = true from decide_eq_true (by omega))
    clear q
    go_enter Tryz.func34, Tryz.ntmps34
    go_wp2_with fail
    go_ret
    exact ⟨ret_bool E.out.symm, rfl⟩
  · have e1 : 2 ≤ k := by omega
    have d1 : decide (2 ≤ k) = true := decide_eq_true e1
    have e2 : ¬ (k ≤ 13) := by omega
    have d2 : decide (k ≤ 13) = false := decide_eq_false e2
    have e3 : (k == 16) = false := by rw [beq_eq_false_iff_ne]; omega
    have n3 : ¬ k = 16 := by omega
    have e4 : (k == 17) = false := by rw [beq_eq_false_iff_ne]; omega
    have n4 : ¬ k = 17 := by omega
    have e5 : (k == 18) = false := by rw [beq_eq_false_iff_ne]; omega
    have n5 : ¬ k = 18 := by omega
    have e6 : (k == 23) = false := by rw [beq_eq_false_iff_ne]; omega
    have n6 : ¬ k = 23 := by omega
    have e7 : (k == 24) = false := by rw [beq_eq_false_iff_ne]; omega
    have n7 : ¬ k = 24 := by omega
    have E := hide (show reqB k = false from decide_eq_false (by omega))
    clear q
    go_enter Tryz.func34, Tryz.ntmps34
    go_wp2_with fail
    go_ret
    exact ⟨ret_bool E.out.symm, rfl⟩
  · have e1 : 2 ≤ k := by omega
    have d1 : decide (2 ≤ k) = true := decide_eq_true e1
    have e2 : ¬ (k ≤ 13) := by omega
    have d2 : decide (k ≤ 13) = false := decide_eq_false e2
    have e3 : (k == 16) = false := by rw [beq_eq_false_iff_ne]; omega
    have n3 : ¬ k = 16 := by omega
    have e4 : (k == 17) = false := by rw [beq_eq_false_iff_ne]; omega
    have n4 : ¬ k = 17 := by omega
    have e5 : (k == 18) = false := by rw [beq_eq_false_iff_ne]; omega
    have n5 : ¬ k = 18 := by omega
    have e6 : (k == 23) = true := by rw [beq_iff_eq]; omega
    have n6 : (k != 23) = false := by unfold bne; rw [e6]; rfl
    have e7 : (k == 24) = false := by rw [beq_eq_false_iff_ne]; omega
    have n7 : ¬ k = 24 := by omega
    have E := hide (show reqB k = true from decide_eq_true (by omega))
    clear q
    go_enter Tryz.func34, Tryz.ntmps34
    go_wp2_with fail
    go_ret
    exact ⟨ret_bool E.out.symm, rfl⟩
  · have e1 : 2 ≤ k := by omega
    have d1 : decide (2 ≤ k) = true := decide_eq_true e1
    have e2 : ¬ (k ≤ 13) := by omega
    have d2 : decide (k ≤ 13) = false := decide_eq_false e2
    have e3 : (k == 16) = false := by rw [beq_eq_false_iff_ne]; omega
    have n3 : ¬ k = 16 := by omega
    have e4 : (k == 17) = false := by rw [beq_eq_false_iff_ne]; omega
    have n4 : ¬ k = 17 := by omega
    have e5 : (k == 18) = false := by rw [beq_eq_false_iff_ne]; omega
    have n5 : ¬ k = 18 := by omega
    have e6 : (k == 23) = false := by rw [beq_eq_false_iff_ne]; omega
    have n6 : ¬ k = 23 := by omega
    have e7 : (k == 24) = true := by rw [beq_iff_eq]; omega
    have n7 : (k != 24) = false := by unfold bne; rw [e7]; rfl
    have E := hide (show reqB k = true from decide_eq_true (by omega))
    clear q
    go_enter Tryz.func34, Tryz.ntmps34
    go_wp2_with fail
    go_ret
    exact ⟨ret_bool E.out.symm, rfl⟩
  · have e1 : 2 ≤ k := by omega
    have d1 : decide (2 ≤ k) = true := decide_eq_true e1
    have e2 : ¬ (k ≤ 13) := by omega
    have d2 : decide (k ≤ 13) = false := decide_eq_false e2
    have e3 : (k == 16) = false := by rw [beq_eq_false_iff_ne]; omega
    have n3 : ¬ k = 16 := by omega
    have e4 : (k == 17) = false := by rw [beq_eq_false_iff_ne]; omega
    have n4 : ¬ k = 17 := by omega
    have e5 : (k == 18) = false := by rw [beq_eq_false_iff_ne]; omega
    have n5 : ¬ k = 18 := by omega
    have e6 : (k == 23) = false := by rw [beq_eq_false_iff_ne]; omega
    have n6 : ¬ k = 23 := by omega
    have e7 : (k == 24) = false := by rw [beq_eq_false_iff_ne]; omega
    have n7 : ¬ k = 24 := by omega
    have E := hide (show reqB k = false from decide_eq_false (by omega))
    clear q
    go_enter Tryz.func34, Tryz.ntmps34
    go_wp2_with fail
    go_ret
    exact ⟨ret_bool E.out.symm, rfl⟩
set_option maxHeartbeats 4000000 in
set_option maxRecDepth 100000 in
theorem refApplies_readonly (k : Int) (a : ByteArray) (w : World) (h : a = ⟨#[114, 101, 97, 100, 111, 110, 108, 121]⟩) :
    Calls Tryz.prog 34 #[.int .i64 k, .string a] w fun e w' => e = .returned (.bool (roB k)) ∧ w' = w := by
  have t0 : (a.toList == [114, 101, 113, 117, 105, 114, 101, 100]) = false := by rw [h, ByteArray.toList_eq]; rfl
  have t1 : (a.toList == [114, 101, 97, 100, 111, 110, 108, 121]) = true := lit_yes h
  have t2 : (a.toList == [109, 105, 110, 108, 101, 110, 103, 116, 104]) = false := by rw [h, ByteArray.toList_eq]; rfl
  have t3 : (a.toList == [109, 97, 120, 108, 101, 110, 103, 116, 104]) = false := by rw [h, ByteArray.toList_eq]; rfl
  have t4 : (a.toList == [112, 97, 116, 116, 101, 114, 110]) = false := by rw [h, ByteArray.toList_eq]; rfl
  have t5 : (a.toList == [109, 105, 110]) = false := by rw [h, ByteArray.toList_eq]; rfl
  have t6 : (a.toList == [109, 97, 120]) = false := by rw [h, ByteArray.toList_eq]; rfl
  have t7 : (a.toList == [115, 116, 101, 112]) = false := by rw [h, ByteArray.toList_eq]; rfl
  have t8 : (a.toList == [109, 117, 108, 116, 105, 112, 108, 101]) = false := by rw [h, ByteArray.toList_eq]; rfl
  have t9 : (a.toList == [99, 104, 101, 99, 107, 101, 100]) = false := by rw [h, ByteArray.toList_eq]; rfl
  clear h
  rcases (show (k ≤ 1) ∨ (2 ≤ k ∧ k ≤ 13) ∨ (14 ≤ k ∧ k ≤ 23) ∨ (k = 24) ∨ (25 ≤ k) by omega) with q | q | q | q | q
  · have e1 : ¬ (2 ≤ k) := by omega
    have d1 : decide (2 ≤ k) = false := decide_eq_false e1
    have e2 : k ≤ 13 := by omega
    have d2 : decide (k ≤ 13) = true := decide_eq_true e2
    have e3 : (k == 24) = false := by rw [beq_eq_false_iff_ne]; omega
    have n3 : ¬ k = 24 := by omega
    have E := hide (show roB k = false from decide_eq_false (by omega))
    clear q
    go_enter Tryz.func34, Tryz.ntmps34
    go_wp2_with fail
    go_ret
    exact ⟨ret_bool E.out.symm, rfl⟩
  · have e1 : 2 ≤ k := by omega
    have d1 : decide (2 ≤ k) = true := decide_eq_true e1
    have e2 : k ≤ 13 := by omega
    have d2 : decide (k ≤ 13) = true := decide_eq_true e2
    have e3 : (k == 24) = false := by rw [beq_eq_false_iff_ne]; omega
    have n3 : ¬ k = 24 := by omega
    have E := hide (show roB k = true from decide_eq_true (by omega))
    clear q
    go_enter Tryz.func34, Tryz.ntmps34
    go_wp2_with fail
    go_ret
    exact ⟨ret_bool E.out.symm, rfl⟩
  · have e1 : 2 ≤ k := by omega
    have d1 : decide (2 ≤ k) = true := decide_eq_true e1
    have e2 : ¬ (k ≤ 13) := by omega
    have d2 : decide (k ≤ 13) = false := decide_eq_false e2
    have e3 : (k == 24) = false := by rw [beq_eq_false_iff_ne]; omega
    have n3 : ¬ k = 24 := by omega
    have E := hide (show roB k = false from decide_eq_false (by omega))
    clear q
    go_enter Tryz.func34, Tryz.ntmps34
    go_wp2_with fail
    go_ret
    exact ⟨ret_bool E.out.symm, rfl⟩
  · have e1 : 2 ≤ k := by omega
    have d1 : decide (2 ≤ k) = true := decide_eq_true e1
    have e2 : ¬ (k ≤ 13) := by omega
    have d2 : decide (k ≤ 13) = false := decide_eq_false e2
    have e3 : (k == 24) = true := by rw [beq_iff_eq]; omega
    have n3 : (k != 24) = false := by unfold bne; rw [e3]; rfl
    have E := hide (show roB k = true from decide_eq_true (by omega))
    clear q
    go_enter Tryz.func34, Tryz.ntmps34
    go_wp2_with fail
    go_ret
    exact ⟨ret_bool E.out.symm, rfl⟩
  · have e1 : 2 ≤ k := by omega
    have d1 : decide (2 ≤ k) = true := decide_eq_true e1
    have e2 : ¬ (k ≤ 13) := by omega
    have d2 : decide (k ≤ 13) = false := decide_eq_false e2
    have e3 : (k == 24) = false := by rw [beq_eq_false_iff_ne]; omega
    have n3 : ¬ k = 24 := by omega
    have E := hide (show roB k = false from decide_eq_false (by omega))
    clear q
    go_enter Tryz.func34, Tryz.ntmps34
    go_wp2_with fail
    go_ret
    exact ⟨ret_bool E.out.symm, rfl⟩
set_option maxHeartbeats 4000000 in
set_option maxRecDepth 100000 in
theorem refApplies_minlength (k : Int) (a : ByteArray) (w : World) (h : a = ⟨#[109, 105, 110, 108, 101, 110, 103, 116, 104]⟩) :
    Calls Tryz.prog 34 #[.int .i64 k, .string a] w fun e w' => e = .returned (.bool (lenB k)) ∧ w' = w := by
  have t0 : (a.toList == [114, 101, 113, 117, 105, 114, 101, 100]) = false := by rw [h, ByteArray.toList_eq]; rfl
  have t1 : (a.toList == [114, 101, 97, 100, 111, 110, 108, 121]) = false := by rw [h, ByteArray.toList_eq]; rfl
  have t2 : (a.toList == [109, 105, 110, 108, 101, 110, 103, 116, 104]) = true := lit_yes h
  have t3 : (a.toList == [109, 97, 120, 108, 101, 110, 103, 116, 104]) = false := by rw [h, ByteArray.toList_eq]; rfl
  have t4 : (a.toList == [112, 97, 116, 116, 101, 114, 110]) = false := by rw [h, ByteArray.toList_eq]; rfl
  have t5 : (a.toList == [109, 105, 110]) = false := by rw [h, ByteArray.toList_eq]; rfl
  have t6 : (a.toList == [109, 97, 120]) = false := by rw [h, ByteArray.toList_eq]; rfl
  have t7 : (a.toList == [115, 116, 101, 112]) = false := by rw [h, ByteArray.toList_eq]; rfl
  have t8 : (a.toList == [109, 117, 108, 116, 105, 112, 108, 101]) = false := by rw [h, ByteArray.toList_eq]; rfl
  have t9 : (a.toList == [99, 104, 101, 99, 107, 101, 100]) = false := by rw [h, ByteArray.toList_eq]; rfl
  clear h
  rcases (show (k ≤ 1) ∨ (2 ≤ k ∧ k ≤ 7) ∨ (8 ≤ k ∧ k ≤ 23) ∨ (k = 24) ∨ (25 ≤ k) by omega) with q | q | q | q | q
  · have e1 : ¬ (2 ≤ k) := by omega
    have d1 : decide (2 ≤ k) = false := decide_eq_false e1
    have e2 : k ≤ 7 := by omega
    have d2 : decide (k ≤ 7) = true := decide_eq_true e2
    have e3 : (k == 24) = false := by rw [beq_eq_false_iff_ne]; omega
    have n3 : ¬ k = 24 := by omega
    have E := hide (show lenB k = false from decide_eq_false (by omega))
    clear q
    go_enter Tryz.func34, Tryz.ntmps34
    go_wp2_with fail
    go_ret
    exact ⟨ret_bool E.out.symm, rfl⟩
  · have e1 : 2 ≤ k := by omega
    have d1 : decide (2 ≤ k) = true := decide_eq_true e1
    have e2 : k ≤ 7 := by omega
    have d2 : decide (k ≤ 7) = true := decide_eq_true e2
    have e3 : (k == 24) = false := by rw [beq_eq_false_iff_ne]; omega
    have n3 : ¬ k = 24 := by omega
    have E := hide (show lenB k = true from decide_eq_true (by omega))
    clear q
    go_enter Tryz.func34, Tryz.ntmps34
    go_wp2_with fail
    go_ret
    exact ⟨ret_bool E.out.symm, rfl⟩
  · have e1 : 2 ≤ k := by omega
    have d1 : decide (2 ≤ k) = true := decide_eq_true e1
    have e2 : ¬ (k ≤ 7) := by omega
    have d2 : decide (k ≤ 7) = false := decide_eq_false e2
    have e3 : (k == 24) = false := by rw [beq_eq_false_iff_ne]; omega
    have n3 : ¬ k = 24 := by omega
    have E := hide (show lenB k = false from decide_eq_false (by omega))
    clear q
    go_enter Tryz.func34, Tryz.ntmps34
    go_wp2_with fail
    go_ret
    exact ⟨ret_bool E.out.symm, rfl⟩
  · have e1 : 2 ≤ k := by omega
    have d1 : decide (2 ≤ k) = true := decide_eq_true e1
    have e2 : ¬ (k ≤ 7) := by omega
    have d2 : decide (k ≤ 7) = false := decide_eq_false e2
    have e3 : (k == 24) = true := by rw [beq_iff_eq]; omega
    have n3 : (k != 24) = false := by unfold bne; rw [e3]; rfl
    have E := hide (show lenB k = true from decide_eq_true (by omega))
    clear q
    go_enter Tryz.func34, Tryz.ntmps34
    go_wp2_with fail
    go_ret
    exact ⟨ret_bool E.out.symm, rfl⟩
  · have e1 : 2 ≤ k := by omega
    have d1 : decide (2 ≤ k) = true := decide_eq_true e1
    have e2 : ¬ (k ≤ 7) := by omega
    have d2 : decide (k ≤ 7) = false := decide_eq_false e2
    have e3 : (k == 24) = false := by rw [beq_eq_false_iff_ne]; omega
    have n3 : ¬ k = 24 := by omega
    have E := hide (show lenB k = false from decide_eq_false (by omega))
    clear q
    go_enter Tryz.func34, Tryz.ntmps34
    go_wp2_with fail
    go_ret
    exact ⟨ret_bool E.out.symm, rfl⟩
set_option maxHeartbeats 4000000 in
set_option maxRecDepth 100000 in
theorem refApplies_maxlength (k : Int) (a : ByteArray) (w : World) (h : a = ⟨#[109, 97, 120, 108, 101, 110, 103, 116, 104]⟩) :
    Calls Tryz.prog 34 #[.int .i64 k, .string a] w fun e w' => e = .returned (.bool (lenB k)) ∧ w' = w := by
  have t0 : (a.toList == [114, 101, 113, 117, 105, 114, 101, 100]) = false := by rw [h, ByteArray.toList_eq]; rfl
  have t1 : (a.toList == [114, 101, 97, 100, 111, 110, 108, 121]) = false := by rw [h, ByteArray.toList_eq]; rfl
  have t2 : (a.toList == [109, 105, 110, 108, 101, 110, 103, 116, 104]) = false := by rw [h, ByteArray.toList_eq]; rfl
  have t3 : (a.toList == [109, 97, 120, 108, 101, 110, 103, 116, 104]) = true := lit_yes h
  have t4 : (a.toList == [112, 97, 116, 116, 101, 114, 110]) = false := by rw [h, ByteArray.toList_eq]; rfl
  have t5 : (a.toList == [109, 105, 110]) = false := by rw [h, ByteArray.toList_eq]; rfl
  have t6 : (a.toList == [109, 97, 120]) = false := by rw [h, ByteArray.toList_eq]; rfl
  have t7 : (a.toList == [115, 116, 101, 112]) = false := by rw [h, ByteArray.toList_eq]; rfl
  have t8 : (a.toList == [109, 117, 108, 116, 105, 112, 108, 101]) = false := by rw [h, ByteArray.toList_eq]; rfl
  have t9 : (a.toList == [99, 104, 101, 99, 107, 101, 100]) = false := by rw [h, ByteArray.toList_eq]; rfl
  clear h
  rcases (show (k ≤ 1) ∨ (2 ≤ k ∧ k ≤ 7) ∨ (8 ≤ k ∧ k ≤ 23) ∨ (k = 24) ∨ (25 ≤ k) by omega) with q | q | q | q | q
  · have e1 : ¬ (2 ≤ k) := by omega
    have d1 : decide (2 ≤ k) = false := decide_eq_false e1
    have e2 : k ≤ 7 := by omega
    have d2 : decide (k ≤ 7) = true := decide_eq_true e2
    have e3 : (k == 24) = false := by rw [beq_eq_false_iff_ne]; omega
    have n3 : ¬ k = 24 := by omega
    have E := hide (show lenB k = false from decide_eq_false (by omega))
    clear q
    go_enter Tryz.func34, Tryz.ntmps34
    go_wp2_with fail
    go_ret
    exact ⟨ret_bool E.out.symm, rfl⟩
  · have e1 : 2 ≤ k := by omega
    have d1 : decide (2 ≤ k) = true := decide_eq_true e1
    have e2 : k ≤ 7 := by omega
    have d2 : decide (k ≤ 7) = true := decide_eq_true e2
    have e3 : (k == 24) = false := by rw [beq_eq_false_iff_ne]; omega
    have n3 : ¬ k = 24 := by omega
    have E := hide (show lenB k = true from decide_eq_true (by omega))
    clear q
    go_enter Tryz.func34, Tryz.ntmps34
    go_wp2_with fail
    go_ret
    exact ⟨ret_bool E.out.symm, rfl⟩
  · have e1 : 2 ≤ k := by omega
    have d1 : decide (2 ≤ k) = true := decide_eq_true e1
    have e2 : ¬ (k ≤ 7) := by omega
    have d2 : decide (k ≤ 7) = false := decide_eq_false e2
    have e3 : (k == 24) = false := by rw [beq_eq_false_iff_ne]; omega
    have n3 : ¬ k = 24 := by omega
    have E := hide (show lenB k = false from decide_eq_false (by omega))
    clear q
    go_enter Tryz.func34, Tryz.ntmps34
    go_wp2_with fail
    go_ret
    exact ⟨ret_bool E.out.symm, rfl⟩
  · have e1 : 2 ≤ k := by omega
    have d1 : decide (2 ≤ k) = true := decide_eq_true e1
    have e2 : ¬ (k ≤ 7) := by omega
    have d2 : decide (k ≤ 7) = false := decide_eq_false e2
    have e3 : (k == 24) = true := by rw [beq_iff_eq]; omega
    have n3 : (k != 24) = false := by unfold bne; rw [e3]; rfl
    have E := hide (show lenB k = true from decide_eq_true (by omega))
    clear q
    go_enter Tryz.func34, Tryz.ntmps34
    go_wp2_with fail
    go_ret
    exact ⟨ret_bool E.out.symm, rfl⟩
  · have e1 : 2 ≤ k := by omega
    have d1 : decide (2 ≤ k) = true := decide_eq_true e1
    have e2 : ¬ (k ≤ 7) := by omega
    have d2 : decide (k ≤ 7) = false := decide_eq_false e2
    have e3 : (k == 24) = false := by rw [beq_eq_false_iff_ne]; omega
    have n3 : ¬ k = 24 := by omega
    have E := hide (show lenB k = false from decide_eq_false (by omega))
    clear q
    go_enter Tryz.func34, Tryz.ntmps34
    go_wp2_with fail
    go_ret
    exact ⟨ret_bool E.out.symm, rfl⟩
set_option maxHeartbeats 4000000 in
set_option maxRecDepth 100000 in
theorem refApplies_pattern (k : Int) (a : ByteArray) (w : World) (h : a = ⟨#[112, 97, 116, 116, 101, 114, 110]⟩) :
    Calls Tryz.prog 34 #[.int .i64 k, .string a] w fun e w' => e = .returned (.bool (patB k)) ∧ w' = w := by
  have t0 : (a.toList == [114, 101, 113, 117, 105, 114, 101, 100]) = false := by rw [h, ByteArray.toList_eq]; rfl
  have t1 : (a.toList == [114, 101, 97, 100, 111, 110, 108, 121]) = false := by rw [h, ByteArray.toList_eq]; rfl
  have t2 : (a.toList == [109, 105, 110, 108, 101, 110, 103, 116, 104]) = false := by rw [h, ByteArray.toList_eq]; rfl
  have t3 : (a.toList == [109, 97, 120, 108, 101, 110, 103, 116, 104]) = false := by rw [h, ByteArray.toList_eq]; rfl
  have t4 : (a.toList == [112, 97, 116, 116, 101, 114, 110]) = true := lit_yes h
  have t5 : (a.toList == [109, 105, 110]) = false := by rw [h, ByteArray.toList_eq]; rfl
  have t6 : (a.toList == [109, 97, 120]) = false := by rw [h, ByteArray.toList_eq]; rfl
  have t7 : (a.toList == [115, 116, 101, 112]) = false := by rw [h, ByteArray.toList_eq]; rfl
  have t8 : (a.toList == [109, 117, 108, 116, 105, 112, 108, 101]) = false := by rw [h, ByteArray.toList_eq]; rfl
  have t9 : (a.toList == [99, 104, 101, 99, 107, 101, 100]) = false := by rw [h, ByteArray.toList_eq]; rfl
  clear h
  rcases (show (k ≤ 1) ∨ (2 ≤ k ∧ k ≤ 7) ∨ (8 ≤ k) by omega) with q | q | q
  · have e1 : ¬ (2 ≤ k) := by omega
    have d1 : decide (2 ≤ k) = false := decide_eq_false e1
    have e2 : k ≤ 7 := by omega
    have d2 : decide (k ≤ 7) = true := decide_eq_true e2
    have E := hide (show patB k = false from decide_eq_false (by omega))
    clear q
    go_enter Tryz.func34, Tryz.ntmps34
    go_wp2_with fail
    go_ret
    exact ⟨ret_bool E.out.symm, rfl⟩
  · have e1 : 2 ≤ k := by omega
    have d1 : decide (2 ≤ k) = true := decide_eq_true e1
    have e2 : k ≤ 7 := by omega
    have d2 : decide (k ≤ 7) = true := decide_eq_true e2
    have E := hide (show patB k = true from decide_eq_true (by omega))
    clear q
    go_enter Tryz.func34, Tryz.ntmps34
    go_wp2_with fail
    go_ret
    exact ⟨ret_bool E.out.symm, rfl⟩
  · have e1 : 2 ≤ k := by omega
    have d1 : decide (2 ≤ k) = true := decide_eq_true e1
    have e2 : ¬ (k ≤ 7) := by omega
    have d2 : decide (k ≤ 7) = false := decide_eq_false e2
    have E := hide (show patB k = false from decide_eq_false (by omega))
    clear q
    go_enter Tryz.func34, Tryz.ntmps34
    go_wp2_with fail
    go_ret
    exact ⟨ret_bool E.out.symm, rfl⟩
set_option maxHeartbeats 4000000 in
set_option maxRecDepth 100000 in
theorem refApplies_min (k : Int) (a : ByteArray) (w : World) (h : a = ⟨#[109, 105, 110]⟩) :
    Calls Tryz.prog 34 #[.int .i64 k, .string a] w fun e w' => e = .returned (.bool (minB k)) ∧ w' = w := by
  have t0 : (a.toList == [114, 101, 113, 117, 105, 114, 101, 100]) = false := by rw [h, ByteArray.toList_eq]; rfl
  have t1 : (a.toList == [114, 101, 97, 100, 111, 110, 108, 121]) = false := by rw [h, ByteArray.toList_eq]; rfl
  have t2 : (a.toList == [109, 105, 110, 108, 101, 110, 103, 116, 104]) = false := by rw [h, ByteArray.toList_eq]; rfl
  have t3 : (a.toList == [109, 97, 120, 108, 101, 110, 103, 116, 104]) = false := by rw [h, ByteArray.toList_eq]; rfl
  have t4 : (a.toList == [112, 97, 116, 116, 101, 114, 110]) = false := by rw [h, ByteArray.toList_eq]; rfl
  have t5 : (a.toList == [109, 105, 110]) = true := lit_yes h
  have t6 : (a.toList == [109, 97, 120]) = false := by rw [h, ByteArray.toList_eq]; rfl
  have t7 : (a.toList == [115, 116, 101, 112]) = false := by rw [h, ByteArray.toList_eq]; rfl
  have t8 : (a.toList == [109, 117, 108, 116, 105, 112, 108, 101]) = false := by rw [h, ByteArray.toList_eq]; rfl
  have t9 : (a.toList == [99, 104, 101, 99, 107, 101, 100]) = false := by rw [h, ByteArray.toList_eq]; rfl
  clear h
  rcases (show (k ≤ 7) ∨ (8 ≤ k ∧ k ≤ 14) ∨ (15 ≤ k) by omega) with q | q | q
  · have e1 : ¬ (8 ≤ k) := by omega
    have d1 : decide (8 ≤ k) = false := decide_eq_false e1
    have e2 : k ≤ 14 := by omega
    have d2 : decide (k ≤ 14) = true := decide_eq_true e2
    have E := hide (show minB k = false from decide_eq_false (by omega))
    clear q
    go_enter Tryz.func34, Tryz.ntmps34
    go_wp2_with fail
    go_ret
    exact ⟨ret_bool E.out.symm, rfl⟩
  · have e1 : 8 ≤ k := by omega
    have d1 : decide (8 ≤ k) = true := decide_eq_true e1
    have e2 : k ≤ 14 := by omega
    have d2 : decide (k ≤ 14) = true := decide_eq_true e2
    have E := hide (show minB k = true from decide_eq_true (by omega))
    clear q
    go_enter Tryz.func34, Tryz.ntmps34
    go_wp2_with fail
    go_ret
    exact ⟨ret_bool E.out.symm, rfl⟩
  · have e1 : 8 ≤ k := by omega
    have d1 : decide (8 ≤ k) = true := decide_eq_true e1
    have e2 : ¬ (k ≤ 14) := by omega
    have d2 : decide (k ≤ 14) = false := decide_eq_false e2
    have E := hide (show minB k = false from decide_eq_false (by omega))
    clear q
    go_enter Tryz.func34, Tryz.ntmps34
    go_wp2_with fail
    go_ret
    exact ⟨ret_bool E.out.symm, rfl⟩
set_option maxHeartbeats 4000000 in
set_option maxRecDepth 100000 in
theorem refApplies_max (k : Int) (a : ByteArray) (w : World) (h : a = ⟨#[109, 97, 120]⟩) :
    Calls Tryz.prog 34 #[.int .i64 k, .string a] w fun e w' => e = .returned (.bool (minB k)) ∧ w' = w := by
  have t0 : (a.toList == [114, 101, 113, 117, 105, 114, 101, 100]) = false := by rw [h, ByteArray.toList_eq]; rfl
  have t1 : (a.toList == [114, 101, 97, 100, 111, 110, 108, 121]) = false := by rw [h, ByteArray.toList_eq]; rfl
  have t2 : (a.toList == [109, 105, 110, 108, 101, 110, 103, 116, 104]) = false := by rw [h, ByteArray.toList_eq]; rfl
  have t3 : (a.toList == [109, 97, 120, 108, 101, 110, 103, 116, 104]) = false := by rw [h, ByteArray.toList_eq]; rfl
  have t4 : (a.toList == [112, 97, 116, 116, 101, 114, 110]) = false := by rw [h, ByteArray.toList_eq]; rfl
  have t5 : (a.toList == [109, 105, 110]) = false := by rw [h, ByteArray.toList_eq]; rfl
  have t6 : (a.toList == [109, 97, 120]) = true := lit_yes h
  have t7 : (a.toList == [115, 116, 101, 112]) = false := by rw [h, ByteArray.toList_eq]; rfl
  have t8 : (a.toList == [109, 117, 108, 116, 105, 112, 108, 101]) = false := by rw [h, ByteArray.toList_eq]; rfl
  have t9 : (a.toList == [99, 104, 101, 99, 107, 101, 100]) = false := by rw [h, ByteArray.toList_eq]; rfl
  clear h
  rcases (show (k ≤ 7) ∨ (8 ≤ k ∧ k ≤ 14) ∨ (15 ≤ k) by omega) with q | q | q
  · have e1 : ¬ (8 ≤ k) := by omega
    have d1 : decide (8 ≤ k) = false := decide_eq_false e1
    have e2 : k ≤ 14 := by omega
    have d2 : decide (k ≤ 14) = true := decide_eq_true e2
    have E := hide (show minB k = false from decide_eq_false (by omega))
    clear q
    go_enter Tryz.func34, Tryz.ntmps34
    go_wp2_with fail
    go_ret
    exact ⟨ret_bool E.out.symm, rfl⟩
  · have e1 : 8 ≤ k := by omega
    have d1 : decide (8 ≤ k) = true := decide_eq_true e1
    have e2 : k ≤ 14 := by omega
    have d2 : decide (k ≤ 14) = true := decide_eq_true e2
    have E := hide (show minB k = true from decide_eq_true (by omega))
    clear q
    go_enter Tryz.func34, Tryz.ntmps34
    go_wp2_with fail
    go_ret
    exact ⟨ret_bool E.out.symm, rfl⟩
  · have e1 : 8 ≤ k := by omega
    have d1 : decide (8 ≤ k) = true := decide_eq_true e1
    have e2 : ¬ (k ≤ 14) := by omega
    have d2 : decide (k ≤ 14) = false := decide_eq_false e2
    have E := hide (show minB k = false from decide_eq_false (by omega))
    clear q
    go_enter Tryz.func34, Tryz.ntmps34
    go_wp2_with fail
    go_ret
    exact ⟨ret_bool E.out.symm, rfl⟩
set_option maxHeartbeats 4000000 in
set_option maxRecDepth 100000 in
theorem refApplies_step (k : Int) (a : ByteArray) (w : World) (h : a = ⟨#[115, 116, 101, 112]⟩) :
    Calls Tryz.prog 34 #[.int .i64 k, .string a] w fun e w' => e = .returned (.bool (minB k)) ∧ w' = w := by
  have t0 : (a.toList == [114, 101, 113, 117, 105, 114, 101, 100]) = false := by rw [h, ByteArray.toList_eq]; rfl
  have t1 : (a.toList == [114, 101, 97, 100, 111, 110, 108, 121]) = false := by rw [h, ByteArray.toList_eq]; rfl
  have t2 : (a.toList == [109, 105, 110, 108, 101, 110, 103, 116, 104]) = false := by rw [h, ByteArray.toList_eq]; rfl
  have t3 : (a.toList == [109, 97, 120, 108, 101, 110, 103, 116, 104]) = false := by rw [h, ByteArray.toList_eq]; rfl
  have t4 : (a.toList == [112, 97, 116, 116, 101, 114, 110]) = false := by rw [h, ByteArray.toList_eq]; rfl
  have t5 : (a.toList == [109, 105, 110]) = false := by rw [h, ByteArray.toList_eq]; rfl
  have t6 : (a.toList == [109, 97, 120]) = false := by rw [h, ByteArray.toList_eq]; rfl
  have t7 : (a.toList == [115, 116, 101, 112]) = true := lit_yes h
  have t8 : (a.toList == [109, 117, 108, 116, 105, 112, 108, 101]) = false := by rw [h, ByteArray.toList_eq]; rfl
  have t9 : (a.toList == [99, 104, 101, 99, 107, 101, 100]) = false := by rw [h, ByteArray.toList_eq]; rfl
  clear h
  rcases (show (k ≤ 7) ∨ (8 ≤ k ∧ k ≤ 14) ∨ (15 ≤ k) by omega) with q | q | q
  · have e1 : ¬ (8 ≤ k) := by omega
    have d1 : decide (8 ≤ k) = false := decide_eq_false e1
    have e2 : k ≤ 14 := by omega
    have d2 : decide (k ≤ 14) = true := decide_eq_true e2
    have E := hide (show minB k = false from decide_eq_false (by omega))
    clear q
    go_enter Tryz.func34, Tryz.ntmps34
    go_wp2_with fail
    go_ret
    exact ⟨ret_bool E.out.symm, rfl⟩
  · have e1 : 8 ≤ k := by omega
    have d1 : decide (8 ≤ k) = true := decide_eq_true e1
    have e2 : k ≤ 14 := by omega
    have d2 : decide (k ≤ 14) = true := decide_eq_true e2
    have E := hide (show minB k = true from decide_eq_true (by omega))
    clear q
    go_enter Tryz.func34, Tryz.ntmps34
    go_wp2_with fail
    go_ret
    exact ⟨ret_bool E.out.symm, rfl⟩
  · have e1 : 8 ≤ k := by omega
    have d1 : decide (8 ≤ k) = true := decide_eq_true e1
    have e2 : ¬ (k ≤ 14) := by omega
    have d2 : decide (k ≤ 14) = false := decide_eq_false e2
    have E := hide (show minB k = false from decide_eq_false (by omega))
    clear q
    go_enter Tryz.func34, Tryz.ntmps34
    go_wp2_with fail
    go_ret
    exact ⟨ret_bool E.out.symm, rfl⟩
set_option maxHeartbeats 4000000 in
set_option maxRecDepth 100000 in
theorem refApplies_multiple (k : Int) (a : ByteArray) (w : World) (h : a = ⟨#[109, 117, 108, 116, 105, 112, 108, 101]⟩) :
    Calls Tryz.prog 34 #[.int .i64 k, .string a] w fun e w' => e = .returned (.bool (mulB k)) ∧ w' = w := by
  have t0 : (a.toList == [114, 101, 113, 117, 105, 114, 101, 100]) = false := by rw [h, ByteArray.toList_eq]; rfl
  have t1 : (a.toList == [114, 101, 97, 100, 111, 110, 108, 121]) = false := by rw [h, ByteArray.toList_eq]; rfl
  have t2 : (a.toList == [109, 105, 110, 108, 101, 110, 103, 116, 104]) = false := by rw [h, ByteArray.toList_eq]; rfl
  have t3 : (a.toList == [109, 97, 120, 108, 101, 110, 103, 116, 104]) = false := by rw [h, ByteArray.toList_eq]; rfl
  have t4 : (a.toList == [112, 97, 116, 116, 101, 114, 110]) = false := by rw [h, ByteArray.toList_eq]; rfl
  have t5 : (a.toList == [109, 105, 110]) = false := by rw [h, ByteArray.toList_eq]; rfl
  have t6 : (a.toList == [109, 97, 120]) = false := by rw [h, ByteArray.toList_eq]; rfl
  have t7 : (a.toList == [115, 116, 101, 112]) = false := by rw [h, ByteArray.toList_eq]; rfl
  have t8 : (a.toList == [109, 117, 108, 116, 105, 112, 108, 101]) = true := lit_yes h
  have t9 : (a.toList == [99, 104, 101, 99, 107, 101, 100]) = false := by rw [h, ByteArray.toList_eq]; rfl
  clear h
  rcases (show (k ≤ 5) ∨ (k = 6) ∨ (7 ≤ k ∧ k ≤ 17) ∨ (k = 18) ∨ (19 ≤ k ∧ k ≤ 22) ∨ (k = 23) ∨ (24 ≤ k) by omega) with q | q | q | q | q | q | q
  · have e1 : (k == 6) = false := by rw [beq_eq_false_iff_ne]; omega
    have n1 : ¬ k = 6 := by omega
    have e2 : (k == 18) = false := by rw [beq_eq_false_iff_ne]; omega
    have n2 : ¬ k = 18 := by omega
    have e3 : (k == 23) = false := by rw [beq_eq_false_iff_ne]; omega
    have n3 : ¬ k = 23 := by omega
    have E := hide (show mulB k = false from decide_eq_false (by omega))
    clear q
    go_enter Tryz.func34, Tryz.ntmps34
    go_wp2_with fail
    go_ret
    exact ⟨ret_bool E.out.symm, rfl⟩
  · have e1 : (k == 6) = true := by rw [beq_iff_eq]; omega
    have n1 : (k != 6) = false := by unfold bne; rw [e1]; rfl
    have e2 : (k == 18) = false := by rw [beq_eq_false_iff_ne]; omega
    have n2 : ¬ k = 18 := by omega
    have e3 : (k == 23) = false := by rw [beq_eq_false_iff_ne]; omega
    have n3 : ¬ k = 23 := by omega
    have E := hide (show mulB k = true from decide_eq_true (by omega))
    clear q
    go_enter Tryz.func34, Tryz.ntmps34
    go_wp2_with fail
    go_ret
    exact ⟨ret_bool E.out.symm, rfl⟩
  · have e1 : (k == 6) = false := by rw [beq_eq_false_iff_ne]; omega
    have n1 : ¬ k = 6 := by omega
    have e2 : (k == 18) = false := by rw [beq_eq_false_iff_ne]; omega
    have n2 : ¬ k = 18 := by omega
    have e3 : (k == 23) = false := by rw [beq_eq_false_iff_ne]; omega
    have n3 : ¬ k = 23 := by omega
    have E := hide (show mulB k = false from decide_eq_false (by omega))
    clear q
    go_enter Tryz.func34, Tryz.ntmps34
    go_wp2_with fail
    go_ret
    exact ⟨ret_bool E.out.symm, rfl⟩
  · have e1 : (k == 6) = false := by rw [beq_eq_false_iff_ne]; omega
    have n1 : ¬ k = 6 := by omega
    have e2 : (k == 18) = true := by rw [beq_iff_eq]; omega
    have n2 : (k != 18) = false := by unfold bne; rw [e2]; rfl
    have e3 : (k == 23) = false := by rw [beq_eq_false_iff_ne]; omega
    have n3 : ¬ k = 23 := by omega
    have E := hide (show mulB k = true from decide_eq_true (by omega))
    clear q
    go_enter Tryz.func34, Tryz.ntmps34
    go_wp2_with fail
    go_ret
    exact ⟨ret_bool E.out.symm, rfl⟩
  · have e1 : (k == 6) = false := by rw [beq_eq_false_iff_ne]; omega
    have n1 : ¬ k = 6 := by omega
    have e2 : (k == 18) = false := by rw [beq_eq_false_iff_ne]; omega
    have n2 : ¬ k = 18 := by omega
    have e3 : (k == 23) = false := by rw [beq_eq_false_iff_ne]; omega
    have n3 : ¬ k = 23 := by omega
    have E := hide (show mulB k = false from decide_eq_false (by omega))
    clear q
    go_enter Tryz.func34, Tryz.ntmps34
    go_wp2_with fail
    go_ret
    exact ⟨ret_bool E.out.symm, rfl⟩
  · have e1 : (k == 6) = false := by rw [beq_eq_false_iff_ne]; omega
    have n1 : ¬ k = 6 := by omega
    have e2 : (k == 18) = false := by rw [beq_eq_false_iff_ne]; omega
    have n2 : ¬ k = 18 := by omega
    have e3 : (k == 23) = true := by rw [beq_iff_eq]; omega
    have n3 : (k != 23) = false := by unfold bne; rw [e3]; rfl
    have E := hide (show mulB k = true from decide_eq_true (by omega))
    clear q
    go_enter Tryz.func34, Tryz.ntmps34
    go_wp2_with fail
    go_ret
    exact ⟨ret_bool E.out.symm, rfl⟩
  · have e1 : (k == 6) = false := by rw [beq_eq_false_iff_ne]; omega
    have n1 : ¬ k = 6 := by omega
    have e2 : (k == 18) = false := by rw [beq_eq_false_iff_ne]; omega
    have n2 : ¬ k = 18 := by omega
    have e3 : (k == 23) = false := by rw [beq_eq_false_iff_ne]; omega
    have n3 : ¬ k = 23 := by omega
    have E := hide (show mulB k = false from decide_eq_false (by omega))
    clear q
    go_enter Tryz.func34, Tryz.ntmps34
    go_wp2_with fail
    go_ret
    exact ⟨ret_bool E.out.symm, rfl⟩
set_option maxHeartbeats 4000000 in
set_option maxRecDepth 100000 in
theorem refApplies_checked (k : Int) (a : ByteArray) (w : World) (h : a = ⟨#[99, 104, 101, 99, 107, 101, 100]⟩) :
    Calls Tryz.prog 34 #[.int .i64 k, .string a] w fun e w' => e = .returned (.bool (tickB k)) ∧ w' = w := by
  have t0 : (a.toList == [114, 101, 113, 117, 105, 114, 101, 100]) = false := by rw [h, ByteArray.toList_eq]; rfl
  have t1 : (a.toList == [114, 101, 97, 100, 111, 110, 108, 121]) = false := by rw [h, ByteArray.toList_eq]; rfl
  have t2 : (a.toList == [109, 105, 110, 108, 101, 110, 103, 116, 104]) = false := by rw [h, ByteArray.toList_eq]; rfl
  have t3 : (a.toList == [109, 97, 120, 108, 101, 110, 103, 116, 104]) = false := by rw [h, ByteArray.toList_eq]; rfl
  have t4 : (a.toList == [112, 97, 116, 116, 101, 114, 110]) = false := by rw [h, ByteArray.toList_eq]; rfl
  have t5 : (a.toList == [109, 105, 110]) = false := by rw [h, ByteArray.toList_eq]; rfl
  have t6 : (a.toList == [109, 97, 120]) = false := by rw [h, ByteArray.toList_eq]; rfl
  have t7 : (a.toList == [115, 116, 101, 112]) = false := by rw [h, ByteArray.toList_eq]; rfl
  have t8 : (a.toList == [109, 117, 108, 116, 105, 112, 108, 101]) = false := by rw [h, ByteArray.toList_eq]; rfl
  have t9 : (a.toList == [99, 104, 101, 99, 107, 101, 100]) = true := lit_yes h
  clear h
  rcases (show (k ≤ 15) ∨ (k = 16) ∨ (k = 17) ∨ (18 ≤ k) by omega) with q | q | q | q
  · have e1 : (k == 16) = false := by rw [beq_eq_false_iff_ne]; omega
    have n1 : ¬ k = 16 := by omega
    have e2 : (k == 17) = false := by rw [beq_eq_false_iff_ne]; omega
    have n2 : ¬ k = 17 := by omega
    have E := hide (show tickB k = false from decide_eq_false (by omega))
    clear q
    go_enter Tryz.func34, Tryz.ntmps34
    go_wp2_with fail
    go_ret
    exact ⟨ret_bool E.out.symm, rfl⟩
  · have e1 : (k == 16) = true := by rw [beq_iff_eq]; omega
    have n1 : (k != 16) = false := by unfold bne; rw [e1]; rfl
    have e2 : (k == 17) = false := by rw [beq_eq_false_iff_ne]; omega
    have n2 : ¬ k = 17 := by omega
    have E := hide (show tickB k = true from decide_eq_true (by omega))
    clear q
    go_enter Tryz.func34, Tryz.ntmps34
    go_wp2_with fail
    go_ret
    exact ⟨ret_bool E.out.symm, rfl⟩
  · have e1 : (k == 16) = false := by rw [beq_eq_false_iff_ne]; omega
    have n1 : ¬ k = 16 := by omega
    have e2 : (k == 17) = true := by rw [beq_iff_eq]; omega
    have n2 : (k != 17) = false := by unfold bne; rw [e2]; rfl
    have E := hide (show tickB k = true from decide_eq_true (by omega))
    clear q
    go_enter Tryz.func34, Tryz.ntmps34
    go_wp2_with fail
    go_ret
    exact ⟨ret_bool E.out.symm, rfl⟩
  · have e1 : (k == 16) = false := by rw [beq_eq_false_iff_ne]; omega
    have n1 : ¬ k = 16 := by omega
    have e2 : (k == 17) = false := by rw [beq_eq_false_iff_ne]; omega
    have n2 : ¬ k = 17 := by omega
    have E := hide (show tickB k = false from decide_eq_false (by omega))
    clear q
    go_enter Tryz.func34, Tryz.ntmps34
    go_wp2_with fail
    go_ret
    exact ⟨ret_bool E.out.symm, rfl⟩
set_option maxHeartbeats 4000000 in
set_option maxRecDepth 100000 in
theorem refApplies_any (k : Int) (a : ByteArray) (w : World) :
    Calls Tryz.prog 34 #[.int .i64 k, .string a] w fun e w' => e = .returned (.bool (appB k a)) ∧ w' = w := by
  by_cases h0 : a = ⟨#[114, 101, 113, 117, 105, 114, 101, 100]⟩
  · rw [show appB k a = reqB k from by rw [h0]; rfl]
    exact refApplies_required k a w h0
  by_cases h1 : a = ⟨#[114, 101, 97, 100, 111, 110, 108, 121]⟩
  · rw [show appB k a = roB k from by rw [h1]; rfl]
    exact refApplies_readonly k a w h1
  by_cases h2 : a = ⟨#[109, 105, 110, 108, 101, 110, 103, 116, 104]⟩
  · rw [show appB k a = lenB k from by rw [h2]; rfl]
    exact refApplies_minlength k a w h2
  by_cases h3 : a = ⟨#[109, 97, 120, 108, 101, 110, 103, 116, 104]⟩
  · rw [show appB k a = lenB k from by rw [h3]; rfl]
    exact refApplies_maxlength k a w h3
  by_cases h4 : a = ⟨#[112, 97, 116, 116, 101, 114, 110]⟩
  · rw [show appB k a = patB k from by rw [h4]; rfl]
    exact refApplies_pattern k a w h4
  by_cases h5 : a = ⟨#[109, 105, 110]⟩
  · rw [show appB k a = minB k from by rw [h5]; rfl]
    exact refApplies_min k a w h5
  by_cases h6 : a = ⟨#[109, 97, 120]⟩
  · rw [show appB k a = minB k from by rw [h6]; rfl]
    exact refApplies_max k a w h6
  by_cases h7 : a = ⟨#[115, 116, 101, 112]⟩
  · rw [show appB k a = minB k from by rw [h7]; rfl]
    exact refApplies_step k a w h7
  by_cases h8 : a = ⟨#[109, 117, 108, 116, 105, 112, 108, 101]⟩
  · rw [show appB k a = mulB k from by rw [h8]; rfl]
    exact refApplies_multiple k a w h8
  by_cases h9 : a = ⟨#[99, 104, 101, 99, 107, 101, 100]⟩
  · rw [show appB k a = tickB k from by rw [h9]; rfl]
    exact refApplies_checked k a w h9
  have E : Hid (appB k a = false) := by show _ = _; unfold appB; rw [if_neg h0, if_neg h1, if_neg h2, if_neg h3, if_neg h4, if_neg h5, if_neg h6, if_neg h7, if_neg h8, if_neg h9]
  have t0 := lit_no (l := [114, 101, 113, 117, 105, 114, 101, 100]) h0
  have t1 := lit_no (l := [114, 101, 97, 100, 111, 110, 108, 121]) h1
  have t2 := lit_no (l := [109, 105, 110, 108, 101, 110, 103, 116, 104]) h2
  have t3 := lit_no (l := [109, 97, 120, 108, 101, 110, 103, 116, 104]) h3
  have t4 := lit_no (l := [112, 97, 116, 116, 101, 114, 110]) h4
  have t5 := lit_no (l := [109, 105, 110]) h5
  have t6 := lit_no (l := [109, 97, 120]) h6
  have t7 := lit_no (l := [115, 116, 101, 112]) h7
  have t8 := lit_no (l := [109, 117, 108, 116, 105, 112, 108, 101]) h8
  have t9 := lit_no (l := [99, 104, 101, 99, 107, 101, 100]) h9
  clear h0 h1 h2 h3 h4 h5 h6 h7 h8 h9
  go_enter Tryz.func34, Tryz.ntmps34
  go_wp2_with fail
  go_ret
  exact ⟨ret_bool E.out.symm, rfl⟩
end Go.Proofs.YtdbabciafifnaaaGreatDoor

namespace Go.Proofs.YtdbabciafifnaaaGreatDoor
open Go.RowKit
set_option maxRecDepth 100000
/-- A node's cells, opened. -/
theorem nd_open {w : World} {p : Option Addr} {c : Nat} {l : List Nd} (hv : NodesV w (.slice p l.length c) l) {m : Nat} (h0 : m < l.length) : ∃ b o, p = some ⟨b, o, none⟩ ∧ ∃ va vk, NodeAt w b (o + m * 5) l[m] va vk := by
  obtain ⟨p', c', e, h⟩ := hv
  cases e
  rcases h with h | ⟨b, o, rfl, h⟩
  · rw [h] at h0; cases h0
  · exact ⟨b, o, rfl, h m h0⟩
set_option maxHeartbeats 8000000 in
theorem refKind_any (v : Value) (l : List Nd) (m : Nat) (w : World) (hv : NodesV w v l) (hR : Right l) (h0 : m < l.length) :
    Calls Tryz.prog 56 #[v, .int .i64 (m : Int)] w fun e w' => e = .returned (.int .i64 (kI l (m : Int))) ∧ Below w.heap.size w w' := by
  have sz := right_attrsO hR h0
  have hlen := hR.len.2
  rw [nd_at h0] at sz
  have E : Hid (kI l (m : Int) = kOf l[m].name (tyOf l[m].attrs)) := by show _ = _; unfold kI kN; rw [Int.toNat_natCast, nd_at h0]
  obtain ⟨p, c, rfl⟩ : ∃ p c, v = .slice p l.length c := by obtain ⟨p, c, e, _⟩ := hv; exact ⟨p, c, e⟩
  obtain ⟨b, o, rfl, va, vk, N0⟩ := nd_open hv h0
  have HO := hide (refOf_any l[m] va vk w N0.at_ (by omega) (fun a q => by have := sz.2 a q; omega))
  have a0 := N0.name
  have a1 := N0.text
  have a2 := N0.attrs
  have a3 := N0.parent
  have a4 := N0.kids
  have i0 : (0 : Int) ≤ (m : Int) := by omega
  have i1 : (m : Int) < (l.length : Int) := by omega
  clear hv hR N0 sz hlen
  generalize kOf l[m].name (tyOf l[m].attrs) = z at *
  generalize kI l (m : Int) = z2 at *
  go_enter Tryz.func56, Tryz.ntmps56
  go_wp2_with fail
  refine HO.out.mono ?_
  rintro e w2 ⟨rfl, b2⟩
  go_wp2_with fail
  go_ret
  exact ⟨ret_int E.out.symm, b2⟩

end Go.Proofs.YtdbabciafifnaaaGreatDoor
