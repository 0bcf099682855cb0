/- What a control has, as a structure. Kinds of elements. What a control has, and how it changes, as functions of kinds, attributes and texts. Ways and questions of kinds, of the program and of the document. The program's find, has, startsByAttribute, inAttribute of layer 14. A control's state as it lies in the world. The program's copied of layer 14. -/
import Derived.Test.YtfjfkkbgkjmghaaGreatDoorJct26
import Derived.Test.YtfjfkkbgkjmghaaGreatDoorJct31
import Derived.Deep.RegionHeld3
import Derived.BigRegion

namespace Go.Proofs.YtfjfkkbgkjmghaaGreatDoor
open Go.RowKit
/-- One of a form's entries. -/
structure En where
  name : ByteArray
  val : ByteArray
  file : Bool
  fname : ByteArray
  typ : ByteArray
/-- What a control has. -/
structure Ct where
  val : ByteArray
  dirty : Bool
  typed : Bool
  chk : Bool
  dchk : Bool
  mixed : Bool
  sel : Bool
  dsel : Bool
  custom : ByteArray
  files : List En
def ct0 : Ct := ⟨⟨#[]⟩, false, false, false, false, false, false, false, ⟨#[]⟩, []⟩
end Go.Proofs.YtfjfkkbgkjmghaaGreatDoor

namespace Go.Proofs.YtfjfkkbgkjmghaaGreatDoor
open Go.RowKit
/-- In which way a kind has its value. -/
def modeV (k : Int) : Int := if (2 ≤ k ∧ k ≤ 15) ∨ k = 24 ∨ k = 28 then 1 else if k = 1 ∨ (19 ≤ k ∧ k ≤ 22) then 2 else if k = 16 ∨ k = 17 then 3 else if k = 18 then 4 else 0
def btwB (k a b : Int) : Bool := decide (a ≤ k ∧ k ≤ b)
def tickB (k : Int) : Bool := decide (k = 16 ∨ k = 17)
end Go.Proofs.YtfjfkkbgkjmghaaGreatDoor

namespace Go.Proofs.YtfjfkkbgkjmghaaGreatDoor
open Go.RowKit
def chkS : ByteArray := ⟨#[99, 104, 101, 99, 107, 101, 100]⟩
def selS : ByteArray := ⟨#[115, 101, 108, 101, 99, 116, 101, 100]⟩
def onS : ByteArray := ⟨#[111, 110]⟩
def fakeS : ByteArray := ⟨#[67, 58, 92, 102, 97, 107, 101, 112, 97, 116, 104, 92]⟩
/-- What a kind makes of a text. -/
def ClnIs (k : Int) (ax : List (ByteArray × ByteArray)) (s t : ByteArray) : Prop := (k = 24 ∧ t = linesS s) ∨ (¬ k = 24 ∧ CleanIs k ax s.data.toList t.data.toList)
theorem cln_some (k : Int) (ax : List (ByteArray × ByteArray)) (s : ByteArray) : ∃ t, ClnIs k ax s t := by
  by_cases h : k = 24
  · exact ⟨_, .inl ⟨h, rfl⟩⟩
  · obtain ⟨t, ht⟩ := clean_some k ax s.data.toList
    exact ⟨txt t, .inr ⟨h, by rw [txt_data]; exact ht⟩⟩
def isPush (k : Int) : Bool := decide (25 ≤ k ∧ k ≤ 27)
/-- The text that a control begins with, ahead of cleaning. -/
def srcS (k : Int) (ax : List (ByteArray × ByteArray)) (text : ByteArray) : ByteArray := if k = 24 then text else fndS ax valS
/-- How a control begins; t: what is made of the text. -/
def startP (k : Int) (ax : List (ByteArray × ByteArray)) (text t : ByteArray) : Ct :=
  if k = 28 then { ct0 with val := text } else if modeV k = 1 then { ct0 with val := t } else if modeV k = 3 then { ct0 with chk := (findA ax chkS).isSome }
  else if k = 32 then { ct0 with sel := (findA ax selS).isSome } else ct0
def fileT (fs : List En) : ByteArray := match fs with
  | [] => ⟨#[]⟩
  | e :: _ => fakeS ++ e.fname
def valueP (k : Int) (c : Ct) (ax : List (ByteArray × ByteArray)) : ByteArray :=
  if modeV k = 1 then c.val else if modeV k = 2 then fndS ax valS else if modeV k = 3 then (if (findA ax valS).isSome then fndS ax valS else onS)
  else if modeV k = 4 then fileT c.files else if isPush k = true then fndS ax valS else ⟨#[]⟩
def writeP (k : Int) (c : Ct) (s t : ByteArray) : Ct × Bool × Int :=
  if 4000 < s.size then (ct0, false, 2) else if modeV k = 1 then ({ c with val := t, dirty := true, typed := false }, false, 0)
  else if modeV k = 2 ∨ modeV k = 3 ∨ isPush k = true then (c, true, 0) else if modeV k = 4 then (if 0 < s.size then (ct0, false, 8) else ({ c with files := [] }, false, 0)) else (ct0, false, 3)
end Go.Proofs.YtfjfkkbgkjmghaaGreatDoor

namespace Go.Proofs.YtfjfkkbgkjmghaaGreatDoor
open Go.RowKit
set_option maxRecDepth 100000
set_option maxHeartbeats 4000000 in
set_option maxRecDepth 100000 in
theorem between_any (k a b : Int) (w : World) :
    Calls Tryz.prog 52 #[.int .i64 k, .int .i64 a, .int .i64 b] w fun e w' => e = .returned (.bool (btwB k a b)) ∧ w' = w := by
  by_cases h1 : a ≤ k
  · by_cases h2 : k ≤ b
    · have E := hide (show btwB k a b = true from decide_eq_true ⟨h1, h2⟩)
      go_enter Tryz.func52, Tryz.ntmps52
      go_wp2_with fail
      go_ret
      exact ⟨ret_bool E.out.symm, rfl⟩
    · have E := hide (show btwB k a b = false from decide_eq_false (fun q => h2 q.2))
      have d2 : decide (k ≤ b) = false := decide_eq_false h2
      go_enter Tryz.func52, Tryz.ntmps52
      go_wp2_with fail
      go_ret
      exact ⟨ret_bool E.out.symm, rfl⟩
  · have E := hide (show btwB k a b = false from decide_eq_false (fun q => h1 q.1))
    have d1 : decide (a ≤ k) = false := decide_eq_false h1
    go_enter Tryz.func52, Tryz.ntmps52
    go_wp2_with fail
    go_ret
    exact ⟨ret_bool E.out.symm, rfl⟩
set_option maxHeartbeats 4000000 in
set_option maxRecDepth 100000 in
theorem isTicked_any (k : Int) (w : World) :
    Calls Tryz.prog 53 #[.int .i64 k] w fun e w' => e = .returned (.bool (tickB k)) ∧ w' = w := by
  rcases (show (k ≤ 15) ∨ (k = 16) ∨ (k = 17) ∨ (18 ≤ k) by omega) with q | q | q | q
  · have e1 : (k == 16) = false := by rw [beq_eq_false_iff_ne]; omega
    have n1 : ¬ k = 16 := by omega
    have e2 : (k == 17) = false := by rw [beq_eq_false_iff_ne]; omega
    have n2 : ¬ k = 17 := by omega
    have E := hide (show tickB k = false from decide_eq_false (by omega))
    clear q
    go_enter Tryz.func53, Tryz.ntmps53
    go_wp2_with fail
    go_ret
    exact ⟨ret_bool E.out.symm, rfl⟩
  · have e1 : (k == 16) = true := by rw [beq_iff_eq]; omega
    have n1 : (k != 16) = false := by unfold bne; rw [e1]; rfl
    have e2 : (k == 17) = false := by rw [beq_eq_false_iff_ne]; omega
    have n2 : ¬ k = 17 := by omega
    have E := hide (show tickB k = true from decide_eq_true (by omega))
    clear q
    go_enter Tryz.func53, Tryz.ntmps53
    go_wp2_with fail
    go_ret
    exact ⟨ret_bool E.out.symm, rfl⟩
  · have e1 : (k == 16) = false := by rw [beq_eq_false_iff_ne]; omega
    have n1 : ¬ k = 16 := by omega
    have e2 : (k == 17) = true := by rw [beq_iff_eq]; omega
    have n2 : (k != 17) = false := by unfold bne; rw [e2]; rfl
    have E := hide (show tickB k = true from decide_eq_true (by omega))
    clear q
    go_enter Tryz.func53, Tryz.ntmps53
    go_wp2_with fail
    go_ret
    exact ⟨ret_bool E.out.symm, rfl⟩
  · have e1 : (k == 16) = false := by rw [beq_eq_false_iff_ne]; omega
    have n1 : ¬ k = 16 := by omega
    have e2 : (k == 17) = false := by rw [beq_eq_false_iff_ne]; omega
    have n2 : ¬ k = 17 := by omega
    have E := hide (show tickB k = false from decide_eq_false (by omega))
    clear q
    go_enter Tryz.func53, Tryz.ntmps53
    go_wp2_with fail
    go_ret
    exact ⟨ret_bool E.out.symm, rfl⟩
set_option maxHeartbeats 4000000 in
set_option maxRecDepth 100000 in
theorem mode_any (k : Int) (w : World) :
    Calls Tryz.prog 28 #[.int .i64 k] w fun e w' => e = .returned (.int .i64 (modeV k)) ∧ w' = w := by
  rcases (show (k ≤ 0) ∨ (k = 1) ∨ (2 ≤ k ∧ k ≤ 15) ∨ (16 ≤ k ∧ k ≤ 17) ∨ (k = 18) ∨ (19 ≤ k ∧ k ≤ 22) ∨ (k = 23) ∨ (k = 24) ∨ (25 ≤ k ∧ k ≤ 27) ∨ (k = 28) ∨ (29 ≤ k) by omega) with q | q | q | q | q | q | q | q | q | q | q
  · have H1 := hide (between_any k 2 15)
    rw [show btwB k 2 15 = false from decide_eq_false (by omega)] at H1
    have e2 : (k == 24) = false := by rw [beq_eq_false_iff_ne]; omega
    have n2 : ¬ k = 24 := by omega
    have e3 : (k == 28) = false := by rw [beq_eq_false_iff_ne]; omega
    have n3 : ¬ k = 28 := by omega
    have e4 : (k == 1) = false := by rw [beq_eq_false_iff_ne]; omega
    have n4 : ¬ k = 1 := by omega
    have H5 := hide (between_any k 19 22)
    rw [show btwB k 19 22 = false from decide_eq_false (by omega)] at H5
    have H6 := hide (isTicked_any k)
    rw [show tickB k = false from decide_eq_false (by omega)] at H6
    have e7 : (k == 18) = false := by rw [beq_eq_false_iff_ne]; omega
    have n7 : ¬ k = 18 := by omega
    have E : Hid (modeV k = 0) := by
      show _ = _
      unfold modeV
      rw [if_neg (by omega), if_neg (by omega), if_neg (by omega), if_neg (by omega)]
    clear q
    go_enter Tryz.func28, Tryz.ntmps28
    go_wp2_with fail
    refine (H1.out _).mono ?_
    rintro e u ⟨rfl, rfl⟩
    go_wp2_with fail
    refine (H5.out _).mono ?_
    rintro e u ⟨rfl, rfl⟩
    go_wp2_with fail
    refine (H6.out _).mono ?_
    rintro e u ⟨rfl, rfl⟩
    go_wp2_with fail
    go_ret
    exact ⟨ret_int E.out.symm, rfl⟩
  · have H1 := hide (between_any k 2 15)
    rw [show btwB k 2 15 = false from decide_eq_false (by omega)] at H1
    have e2 : (k == 24) = false := by rw [beq_eq_false_iff_ne]; omega
    have n2 : ¬ k = 24 := by omega
    have e3 : (k == 28) = false := by rw [beq_eq_false_iff_ne]; omega
    have n3 : ¬ k = 28 := by omega
    have e4 : (k == 1) = true := by rw [beq_iff_eq]; omega
    have n4 : (k != 1) = false := by unfold bne; rw [e4]; rfl
    have H5 := hide (between_any k 19 22)
    rw [show btwB k 19 22 = false from decide_eq_false (by omega)] at H5
    have H6 := hide (isTicked_any k)
    rw [show tickB k = false from decide_eq_false (by omega)] at H6
    have e7 : (k == 18) = false := by rw [beq_eq_false_iff_ne]; omega
    have n7 : ¬ k = 18 := by omega
    have E : Hid (modeV k = 2) := by
      show _ = _
      unfold modeV
      rw [if_neg (by omega), if_pos (by omega)]
    clear q
    go_enter Tryz.func28, Tryz.ntmps28
    go_wp2_with fail
    refine (H1.out _).mono ?_
    rintro e u ⟨rfl, rfl⟩
    go_wp2_with fail
    go_ret
    exact ⟨ret_int E.out.symm, rfl⟩
  · have H1 := hide (between_any k 2 15)
    rw [show btwB k 2 15 = true from decide_eq_true (by omega)] at H1
    have e2 : (k == 24) = false := by rw [beq_eq_false_iff_ne]; omega
    have n2 : ¬ k = 24 := by omega
    have e3 : (k == 28) = false := by rw [beq_eq_false_iff_ne]; omega
    have n3 : ¬ k = 28 := by omega
    have e4 : (k == 1) = false := by rw [beq_eq_false_iff_ne]; omega
    have n4 : ¬ k = 1 := by omega
    have H5 := hide (between_any k 19 22)
    rw [show btwB k 19 22 = false from decide_eq_false (by omega)] at H5
    have H6 := hide (isTicked_any k)
    rw [show tickB k = false from decide_eq_false (by omega)] at H6
    have e7 : (k == 18) = false := by rw [beq_eq_false_iff_ne]; omega
    have n7 : ¬ k = 18 := by omega
    have E : Hid (modeV k = 1) := by
      show _ = _
      unfold modeV
      rw [if_pos (by omega)]
    clear q
    go_enter Tryz.func28, Tryz.ntmps28
    go_wp2_with fail
    refine (H1.out _).mono ?_
    rintro e u ⟨rfl, rfl⟩
    go_wp2_with fail
    go_ret
    exact ⟨ret_int E.out.symm, rfl⟩
  · have H1 := hide (between_any k 2 15)
    rw [show btwB k 2 15 = false from decide_eq_false (by omega)] at H1
    have e2 : (k == 24) = false := by rw [beq_eq_false_iff_ne]; omega
    have n2 : ¬ k = 24 := by omega
    have e3 : (k == 28) = false := by rw [beq_eq_false_iff_ne]; omega
    have n3 : ¬ k = 28 := by omega
    have e4 : (k == 1) = false := by rw [beq_eq_false_iff_ne]; omega
    have n4 : ¬ k = 1 := by omega
    have H5 := hide (between_any k 19 22)
    rw [show btwB k 19 22 = false from decide_eq_false (by omega)] at H5
    have H6 := hide (isTicked_any k)
    rw [show tickB k = true from decide_eq_true (by omega)] at H6
    have e7 : (k == 18) = false := by rw [beq_eq_false_iff_ne]; omega
    have n7 : ¬ k = 18 := by omega
    have E : Hid (modeV k = 3) := by
      show _ = _
      unfold modeV
      rw [if_neg (by omega), if_neg (by omega), if_pos (by omega)]
    clear q
    go_enter Tryz.func28, Tryz.ntmps28
    go_wp2_with fail
    refine (H1.out _).mono ?_
    rintro e u ⟨rfl, rfl⟩
    go_wp2_with fail
    refine (H5.out _).mono ?_
    rintro e u ⟨rfl, rfl⟩
    go_wp2_with fail
    refine (H6.out _).mono ?_
    rintro e u ⟨rfl, rfl⟩
    go_wp2_with fail
    go_ret
    exact ⟨ret_int E.out.symm, rfl⟩
  · have H1 := hide (between_any k 2 15)
    rw [show btwB k 2 15 = false from decide_eq_false (by omega)] at H1
    have e2 : (k == 24) = false := by rw [beq_eq_false_iff_ne]; omega
    have n2 : ¬ k = 24 := by omega
    have e3 : (k == 28) = false := by rw [beq_eq_false_iff_ne]; omega
    have n3 : ¬ k = 28 := by omega
    have e4 : (k == 1) = false := by rw [beq_eq_false_iff_ne]; omega
    have n4 : ¬ k = 1 := by omega
    have H5 := hide (between_any k 19 22)
    rw [show btwB k 19 22 = false from decide_eq_false (by omega)] at H5
    have H6 := hide (isTicked_any k)
    rw [show tickB k = false from decide_eq_false (by omega)] at H6
    have e7 : (k == 18) = true := by rw [beq_iff_eq]; omega
    have n7 : (k != 18) = false := by unfold bne; rw [e7]; rfl
    have E : Hid (modeV k = 4) := by
      show _ = _
      unfold modeV
      rw [if_neg (by omega), if_neg (by omega), if_neg (by omega), if_pos (by omega)]
    clear q
    go_enter Tryz.func28, Tryz.ntmps28
    go_wp2_with fail
    refine (H1.out _).mono ?_
    rintro e u ⟨rfl, rfl⟩
    go_wp2_with fail
    refine (H5.out _).mono ?_
    rintro e u ⟨rfl, rfl⟩
    go_wp2_with fail
    refine (H6.out _).mono ?_
    rintro e u ⟨rfl, rfl⟩
    go_wp2_with fail
    go_ret
    exact ⟨ret_int E.out.symm, rfl⟩
  · have H1 := hide (between_any k 2 15)
    rw [show btwB k 2 15 = false from decide_eq_false (by omega)] at H1
    have e2 : (k == 24) = false := by rw [beq_eq_false_iff_ne]; omega
    have n2 : ¬ k = 24 := by omega
    have e3 : (k == 28) = false := by rw [beq_eq_false_iff_ne]; omega
    have n3 : ¬ k = 28 := by omega
    have e4 : (k == 1) = false := by rw [beq_eq_false_iff_ne]; omega
    have n4 : ¬ k = 1 := by omega
    have H5 := hide (between_any k 19 22)
    rw [show btwB k 19 22 = true from decide_eq_true (by omega)] at H5
    have H6 := hide (isTicked_any k)
    rw [show tickB k = false from decide_eq_false (by omega)] at H6
    have e7 : (k == 18) = false := by rw [beq_eq_false_iff_ne]; omega
    have n7 : ¬ k = 18 := by omega
    have E : Hid (modeV k = 2) := by
      show _ = _
      unfold modeV
      rw [if_neg (by omega), if_pos (by omega)]
    clear q
    go_enter Tryz.func28, Tryz.ntmps28
    go_wp2_with fail
    refine (H1.out _).mono ?_
    rintro e u ⟨rfl, rfl⟩
    go_wp2_with fail
    refine (H5.out _).mono ?_
    rintro e u ⟨rfl, rfl⟩
    go_wp2_with fail
    go_ret
    exact ⟨ret_int E.out.symm, rfl⟩
  · have H1 := hide (between_any k 2 15)
    rw [show btwB k 2 15 = false from decide_eq_false (by omega)] at H1
    have e2 : (k == 24) = false := by rw [beq_eq_false_iff_ne]; omega
    have n2 : ¬ k = 24 := by omega
    have e3 : (k == 28) = false := by rw [beq_eq_false_iff_ne]; omega
    have n3 : ¬ k = 28 := by omega
    have e4 : (k == 1) = false := by rw [beq_eq_false_iff_ne]; omega
    have n4 : ¬ k = 1 := by omega
    have H5 := hide (between_any k 19 22)
    rw [show btwB k 19 22 = false from decide_eq_false (by omega)] at H5
    have H6 := hide (isTicked_any k)
    rw [show tickB k = false from decide_eq_false (by omega)] at H6
    have e7 : (k == 18) = false := by rw [beq_eq_false_iff_ne]; omega
    have n7 : ¬ k = 18 := by omega
    have E : Hid (modeV k = 0) := by
      show _ = _
      unfold modeV
      rw [if_neg (by omega), if_neg (by omega), if_neg (by omega), if_neg (by omega)]
    clear q
    go_enter Tryz.func28, Tryz.ntmps28
    go_wp2_with fail
    refine (H1.out _).mono ?_
    rintro e u ⟨rfl, rfl⟩
    go_wp2_with fail
    refine (H5.out _).mono ?_
    rintro e u ⟨rfl, rfl⟩
    go_wp2_with fail
    refine (H6.out _).mono ?_
    rintro e u ⟨rfl, rfl⟩
    go_wp2_with fail
    go_ret
    exact ⟨ret_int E.out.symm, rfl⟩
  · have H1 := hide (between_any k 2 15)
    rw [show btwB k 2 15 = false from decide_eq_false (by omega)] at H1
    have e2 : (k == 24) = true := by rw [beq_iff_eq]; omega
    have n2 : (k != 24) = false := by unfold bne; rw [e2]; rfl
    have e3 : (k == 28) = false := by rw [beq_eq_false_iff_ne]; omega
    have n3 : ¬ k = 28 := by omega
    have e4 : (k == 1) = false := by rw [beq_eq_false_iff_ne]; omega
    have n4 : ¬ k = 1 := by omega
    have H5 := hide (between_any k 19 22)
    rw [show btwB k 19 22 = false from decide_eq_false (by omega)] at H5
    have H6 := hide (isTicked_any k)
    rw [show tickB k = false from decide_eq_false (by omega)] at H6
    have e7 : (k == 18) = false := by rw [beq_eq_false_iff_ne]; omega
    have n7 : ¬ k = 18 := by omega
    have E : Hid (modeV k = 1) := by
      show _ = _
      unfold modeV
      rw [if_pos (by omega)]
    clear q
    go_enter Tryz.func28, Tryz.ntmps28
    go_wp2_with fail
    refine (H1.out _).mono ?_
    rintro e u ⟨rfl, rfl⟩
    go_wp2_with fail
    go_ret
    exact ⟨ret_int E.out.symm, rfl⟩
  · have H1 := hide (between_any k 2 15)
    rw [show btwB k 2 15 = false from decide_eq_false (by omega)] at H1
    have e2 : (k == 24) = false := by rw [beq_eq_false_iff_ne]; omega
    have n2 : ¬ k = 24 := by omega
    have e3 : (k == 28) = false := by rw [beq_eq_false_iff_ne]; omega
    have n3 : ¬ k = 28 := by omega
    have e4 : (k == 1) = false := by rw [beq_eq_false_iff_ne]; omega
    have n4 : ¬ k = 1 := by omega
    have H5 := hide (between_any k 19 22)
    rw [show btwB k 19 22 = false from decide_eq_false (by omega)] at H5
    have H6 := hide (isTicked_any k)
    rw [show tickB k = false from decide_eq_false (by omega)] at H6
    have e7 : (k == 18) = false := by rw [beq_eq_false_iff_ne]; omega
    have n7 : ¬ k = 18 := by omega
    have E : Hid (modeV k = 0) := by
      show _ = _
      unfold modeV
      rw [if_neg (by omega), if_neg (by omega), if_neg (by omega), if_neg (by omega)]
    clear q
    go_enter Tryz.func28, Tryz.ntmps28
    go_wp2_with fail
    refine (H1.out _).mono ?_
    rintro e u ⟨rfl, rfl⟩
    go_wp2_with fail
    refine (H5.out _).mono ?_
    rintro e u ⟨rfl, rfl⟩
    go_wp2_with fail
    refine (H6.out _).mono ?_
    rintro e u ⟨rfl, rfl⟩
    go_wp2_with fail
    go_ret
    exact ⟨ret_int E.out.symm, rfl⟩
  · have H1 := hide (between_any k 2 15)
    rw [show btwB k 2 15 = false from decide_eq_false (by omega)] at H1
    have e2 : (k == 24) = false := by rw [beq_eq_false_iff_ne]; omega
    have n2 : ¬ k = 24 := by omega
    have e3 : (k == 28) = true := by rw [beq_iff_eq]; omega
    have n3 : (k != 28) = false := by unfold bne; rw [e3]; rfl
    have e4 : (k == 1) = false := by rw [beq_eq_false_iff_ne]; omega
    have n4 : ¬ k = 1 := by omega
    have H5 := hide (between_any k 19 22)
    rw [show btwB k 19 22 = false from decide_eq_false (by omega)] at H5
    have H6 := hide (isTicked_any k)
    rw [show tickB k = false from decide_eq_false (by omega)] at H6
    have e7 : (k == 18) = false := by rw [beq_eq_false_iff_ne]; omega
    have n7 : ¬ k = 18 := by omega
    have E : Hid (modeV k = 1) := by
      show _ = _
      unfold modeV
      rw [if_pos (by omega)]
    clear q
    go_enter Tryz.func28, Tryz.ntmps28
    go_wp2_with fail
    refine (H1.out _).mono ?_
    rintro e u ⟨rfl, rfl⟩
    go_wp2_with fail
    go_ret
    exact ⟨ret_int E.out.symm, rfl⟩
  · have H1 := hide (between_any k 2 15)
    rw [show btwB k 2 15 = false from decide_eq_false (by omega)] at H1
    have e2 : (k == 24) = false := by rw [beq_eq_false_iff_ne]; omega
    have n2 : ¬ k = 24 := by omega
    have e3 : (k == 28) = false := by rw [beq_eq_false_iff_ne]; omega
    have n3 : ¬ k = 28 := by omega
    have e4 : (k == 1) = false := by rw [beq_eq_false_iff_ne]; omega
    have n4 : ¬ k = 1 := by omega
    have H5 := hide (between_any k 19 22)
    rw [show btwB k 19 22 = false from decide_eq_false (by omega)] at H5
    have H6 := hide (isTicked_any k)
    rw [show tickB k = false from decide_eq_false (by omega)] at H6
    have e7 : (k == 18) = false := by rw [beq_eq_false_iff_ne]; omega
    have n7 : ¬ k = 18 := by omega
    have E : Hid (modeV k = 0) := by
      show _ = _
      unfold modeV
      rw [if_neg (by omega), if_neg (by omega), if_neg (by omega), if_neg (by omega)]
    clear q
    go_enter Tryz.func28, Tryz.ntmps28
    go_wp2_with fail
    refine (H1.out _).mono ?_
    rintro e u ⟨rfl, rfl⟩
    go_wp2_with fail
    refine (H5.out _).mono ?_
    rintro e u ⟨rfl, rfl⟩
    go_wp2_with fail
    refine (H6.out _).mono ?_
    rintro e u ⟨rfl, rfl⟩
    go_wp2_with fail
    go_ret
    exact ⟨ret_int E.out.symm, rfl⟩
end Go.Proofs.YtfjfkkbgkjmghaaGreatDoor

namespace Go.Proofs.YtfjfkkbgkjmghaaGreatDoor
open Go.RowKit
set_option maxRecDepth 100000
def sbB (k : Int) : Bool := decide (modeV k = 1 ∧ ¬ k = 24 ∧ ¬ k = 28)
def iaB (k : Int) : Bool := decide (isPush k = true ∨ modeV k = 2)
theorem ret_fndC {a b : ByteArray} {c d : Bool} (h : a = b) (g : c = d) : Ending.returned (.tuple #[.string a, .bool c]) = .returned (.tuple #[.string b, .bool d]) := by rw [h, g]
set_option maxHeartbeats 4000000 in
theorem ctFind1_any (n : ByteArray) (B : Nat) (x : ByteArray × ByteArray) (W : World) (hc : W.cell? ⟨B, 0, none⟩ = some (.string n)) :
    Calls Tryz.prog 57 #[.agg #[.string x.1, .string x.2], .pointer (some ⟨B, 0, none⟩)] W fun e w' => e = .returned (.bool (isN n x)) ∧ Below W.heap.size W w' := by
  have hB := World.block_lt_of_cell? _ _ hc
  have hne : B ≠ W.heap.size := by have : B < W.heap.size := hB; omega
  have E := hide (txt_beq x.1 n)
  unfold isN
  generalize x.1 = a at *
  generalize x.2 = b at *
  generalize hR : decide (a = n) = R at *
  clear hR
  go_enter Tryz.func57, Tryz.ntmps57
  go_wp2_with fail
  go_ret
  exact ⟨ret_bool E.out, (Below.refl _ W).alloc (Nat.le_refl _) _⟩
theorem ctFind_pred (n : ByteArray) (w : World) : PredA 57 #[.pointer (some ⟨w.heap.size, 0, none⟩)] (isN n) (w.alloc (.cells #[.string n] 9)) := fun W x hb =>
  ctFind1_any n w.heap.size x W ((hb.cell (by simp)).trans (by simp))
theorem entersCtFind : ∀ args w, (callFunc 57 args).run Tryz.prog w = .ok (.enter 57 args) w := Go.Proofs.enters_of Tryz.func57 (by kernel_rfl) rfl
set_option maxHeartbeats 4000000 in
theorem ctFind_any (v : Value) (ax : List (ByteArray × ByteArray)) (n : ByteArray) (w : World) (hv : AttrsV w v ax) (hl : ax.length ≤ 4398046511104) :
    Calls Tryz.prog 34 #[v, .string n] w fun e w' => e = .returned (.tuple #[.string (fndS ax n), .bool (findA ax n).isSome]) ∧ Below w.heap.size w w' := by
  have B0 : Hid (Below w.heap.size w (w.alloc (.cells #[.string n] 9))) := (Below.refl _ w).alloc (Nat.le_refl _) _
  have HC := hide (indexFuncA_any v ax (isN n) 57 #[.pointer (some ⟨w.heap.size, 0, none⟩)] entersCtFind (w.alloc (.cells #[.string n] 9)) (hv.below B0.out) (ctFind_pred n w) hl)
  have HIT := hide (fun k hk (h : ax.findIdx? (isN n) = some k) => fnd_hit (ax := ax) (n := n) (k := k) hk h)
  have MISS := hide (fun (h : ax.findIdx? (isN n) = none) => fnd_miss (ax := ax) (n := n) h)
  generalize fndS ax n = R1 at *
  generalize (findA ax n).isSome = R2 at *
  obtain ⟨p, c, rfl, hk⟩ := hv
  cases h : ax.findIdx? (isN n) with
  | none =>
    have E := hide (MISS.out h)
    rw [h, show findV none = -1 from rfl] at HC
    clear hk HIT MISS h
    go_enter Tryz.func34, Tryz.ntmps34
    go_wp2_with fail
    refine HC.out.mono ?_
    rintro e w1 ⟨rfl, b1⟩
    go_wp2_with fail
    go_ret2
    exact ⟨ret_fndC E.out.1.symm E.out.2.symm, chain B0.out b1⟩
  | some i =>
    obtain ⟨hi, _, _⟩ := List.findIdx?_eq_some_iff_getElem.1 h
    have E := hide (HIT.out i hi h)
    rw [h, show findV (some i) = (i : Int) from rfl] at HC
    have i0 : (0 : Int) ≤ (i : Int) := by omega
    have i1 : (i : Int) < (ax.length : Int) := by omega
    have i2 : ¬ (i : Int) < 0 := by omega
    obtain ⟨b, o, rfl, hc⟩ : ∃ b o, p = some ⟨b, o, none⟩ ∧ ∀ i (h : i < ax.length), w.cell? ⟨b, o + i * 2, none⟩ = some (.string ax[i].1) ∧ w.cell? ⟨b, o + i * 2 + 1, none⟩ = some (.string ax[i].2) := by
      rcases hk with t | t
      · rw [t] at hi; simp at hi
      · exact t
    have c1 := hide (hc i hi).2
    clear hc HIT MISS h
    generalize ax[i].2 = t at *
    go_enter Tryz.func34, Tryz.ntmps34
    go_wp2_with fail
    refine HC.out.mono ?_
    rintro e w1 ⟨rfl, b1⟩
    have y1 := cell_below (cell_below c1.out B0.out) b1
    go_wp2_with fail
    go_ret2
    exact ⟨ret_fndC E.out.1.symm E.out.2.symm, chain B0.out b1⟩
set_option maxHeartbeats 4000000 in
theorem ctHas_any (v : Value) (ax : List (ByteArray × ByteArray)) (n : ByteArray) (w : World) (hv : AttrsV w v ax) (hl : ax.length ≤ 4398046511104) :
    Calls Tryz.prog 29 #[v, .string n] w fun e w' => e = .returned (.bool (findA ax n).isSome) ∧ Below w.heap.size w w' := by
  have HC := hide (ctFind_any v ax n w hv hl)
  generalize fndS ax n = R1 at *
  generalize (findA ax n).isSome = R2 at *
  obtain ⟨p, c, rfl, _⟩ := hv
  go_enter Tryz.func29, Tryz.ntmps29
  go_wp2_with fail
  refine HC.out.mono ?_
  rintro e w1 ⟨rfl, b1⟩
  go_wp2_with fail
  go_ret
  exact ⟨rfl, b1⟩
set_option maxHeartbeats 4000000 in
theorem ctStartsBy_any (k : Int) (w : World) :
    Calls Tryz.prog 40 #[.int .i64 k] w fun e w' => e = .returned (.bool (sbB k)) ∧ w' = w := by
  have HM := hide (mode_any k)
  by_cases m : modeV k = 1
  · by_cases h24 : k = 24
    · subst h24
      have E := hide (show sbB 24 = false from by decide)
      rw [m] at HM
      go_enter Tryz.func40, Tryz.ntmps40
      go_wp2_with fail
      refine (HM.out _).mono ?_
      rintro e u ⟨rfl, rfl⟩
      go_wp2_with fail
      go_ret
      exact ⟨ret_bool E.out.symm, rfl⟩
    · by_cases h28 : k = 28
      · subst h28
        have E := hide (show sbB 28 = false from by decide)
        rw [m] at HM
        go_enter Tryz.func40, Tryz.ntmps40
        go_wp2_with fail
        refine (HM.out _).mono ?_
        rintro e u ⟨rfl, rfl⟩
        go_wp2_with fail
        go_ret
        exact ⟨ret_bool E.out.symm, rfl⟩
      · have E := hide (show sbB k = (k != 24 && k != 28) from by rw [show sbB k = true from decide_eq_true ⟨m, h24, h28⟩, bne_iff_ne.2 h24, bne_iff_ne.2 h28]; rfl)
        have b24 : (k == 24) = false := beq_eq_false_iff_ne.2 h24
        have b28 : (k == 28) = false := beq_eq_false_iff_ne.2 h28
        rw [m] at HM
        clear m
        go_enter Tryz.func40, Tryz.ntmps40
        go_wp2_with fail
        refine (HM.out _).mono ?_
        rintro e u ⟨rfl, rfl⟩
        go_wp2_with fail
        go_ret
        exact ⟨ret_bool E.out.symm, rfl⟩
  · have E := hide (show sbB k = false from decide_eq_false (fun q => m q.1))
    have b1 : (modeV k == 1) = false := beq_eq_false_iff_ne.2 m
    generalize modeV k = M at *
    go_enter Tryz.func40, Tryz.ntmps40
    go_wp2_with fail
    refine (HM.out _).mono ?_
    rintro e u ⟨rfl, rfl⟩
    go_wp2_with fail
    go_ret
    exact ⟨ret_bool E.out.symm, rfl⟩
set_option maxHeartbeats 4000000 in
theorem ctInAttr_any (k : Int) (w : World) :
    Calls Tryz.prog 36 #[.int .i64 k] w fun e w' => e = .returned (.bool (iaB k)) ∧ w' = w := by
  have HM := hide (mode_any k)
  rcases (show k = 25 ∨ k = 26 ∨ k = 27 ∨ (¬ k = 25 ∧ ¬ k = 26 ∧ ¬ k = 27) by omega) with q | q | q | ⟨n1, n2, n3⟩
  · subst q
    have E := hide (show iaB 25 = true from by decide)
    clear HM
    go_enter Tryz.func36, Tryz.ntmps36
    go_wp2_with fail
    go_ret
    exact ⟨ret_bool E.out.symm, rfl⟩
  · subst q
    have E := hide (show iaB 26 = true from by decide)
    clear HM
    go_enter Tryz.func36, Tryz.ntmps36
    go_wp2_with fail
    go_ret
    exact ⟨ret_bool E.out.symm, rfl⟩
  · subst q
    have E := hide (show iaB 27 = true from by decide)
    clear HM
    go_enter Tryz.func36, Tryz.ntmps36
    go_wp2_with fail
    go_ret
    exact ⟨ret_bool E.out.symm, rfl⟩
  · have E : Hid (iaB k = (modeV k == 2)) := by
      show _ = _
      unfold iaB isPush
      rw [Bool.eq_iff_iff, decide_eq_true_eq, decide_eq_true_eq, beq_iff_eq]
      constructor
      · rintro (t | t)
        · omega
        · exact t
      · exact .inr
    have b1 : (k == 25) = false := beq_eq_false_iff_ne.2 n1
    have b2 : (k == 26) = false := beq_eq_false_iff_ne.2 n2
    have b3 : (k == 27) = false := beq_eq_false_iff_ne.2 n3
    generalize modeV k = M at *
    generalize iaB k = R at *
    go_enter Tryz.func36, Tryz.ntmps36
    go_wp2_with fail
    refine (HM.out _).mono ?_
    rintro e u ⟨rfl, rfl⟩
    go_wp2_with fail
    go_ret
    exact ⟨ret_bool E.out.symm, rfl⟩
end Go.Proofs.YtfjfkkbgkjmghaaGreatDoor

namespace Go.Proofs.YtfjfkkbgkjmghaaGreatDoor
open Go.RowKit
/-- An entry at a place of a block. -/
structure EnAt (w : World) (b o : Nat) (e : En) : Prop where
  c0 : w.cell? ⟨b, o, none⟩ = some (.string e.name)
  c1 : w.cell? ⟨b, o + 1, none⟩ = some (.string e.val)
  c2 : w.cell? ⟨b, o + 2, none⟩ = some (.bool e.file)
  c3 : w.cell? ⟨b, o + 3, none⟩ = some (.string e.fname)
  c4 : w.cell? ⟨b, o + 4, none⟩ = some (.string e.typ)
theorem EnAt.below {w w' : World} {b o : Nat} {e : En} (h : EnAt w b o e) (hb : Below w.heap.size w w') : EnAt w' b o e := ⟨cell_below h.c0 hb, cell_below h.c1 hb, cell_below h.c2 hb, cell_below h.c3 hb, cell_below h.c4 hb⟩
/-- Entries behind a slice. -/
def FilesV (w : World) (v : Value) (fs : List En) : Prop := ∃ p c, v = .slice p fs.length c ∧ (fs = [] ∨ ∃ b o, p = some ⟨b, o, none⟩ ∧ ∀ i (h : i < fs.length), EnAt w b (o + i * 5) fs[i])
theorem FilesV.below {w w' : World} {v : Value} {fs : List En} (h : FilesV w v fs) (hb : Below w.heap.size w w') : FilesV w' v fs := by
  obtain ⟨p, c, e, h⟩ := h
  refine ⟨p, c, e, ?_⟩
  rcases h with h | ⟨b, o, e, h⟩
  · exact .inl h
  · exact .inr ⟨b, o, e, fun i hi => (h i hi).below hb⟩
/-- Files that a statement takes. -/
structure FsOK (fs : List En) : Prop where
  len : fs.length ≤ 4398046511104
  few : fs.length * 72 ≤ 140737488355328
  name : ∀ e ∈ fs, e.fname.size ≤ 140737488355328
  rest : ∀ e ∈ fs, e.name.size ≤ 140737488355328 ∧ e.val.size ≤ 140737488355328 ∧ e.typ.size ≤ 140737488355328
/-- A control's state that a statement takes. -/
structure CtOK (C : Ct) : Prop where
  files : FsOK C.files
  custom : C.custom.size ≤ 140737488355328
  val : C.val.size ≤ 100000
theorem ct0_ok : CtOK ct0 := ⟨⟨by decide, by decide, fun e q => (by cases q), fun e q => (by cases q)⟩, by decide, by decide⟩
theorem files_nil (w : World) : FilesV w (.slice none 0 0) [] := ⟨none, 0, rfl, .inl rfl⟩
/-- The cells of a control's state, but for its files. -/
def ctCells (c : Ct) (fv : Value) : List Value := [.string c.val, .bool c.dirty, .bool c.typed, .bool c.chk, .bool c.dchk, .bool c.mixed, .bool c.sel, .bool c.dsel, .string c.custom, fv]
def ctV (c : Ct) (fv : Value) : Value := .agg (ctCells c fv).toArray
/-- A control's state. -/
def CtlV (w : World) (v : Value) (c : Ct) : Prop := ∃ fv, v = ctV c fv ∧ FilesV w fv c.files
theorem CtlV.below {w w' : World} {v : Value} {c : Ct} (h : CtlV w v c) (hb : Below w.heap.size w w') : CtlV w' v c := by
  obtain ⟨fv, e, h⟩ := h
  exact ⟨fv, e, h.below hb⟩
end Go.Proofs.YtfjfkkbgkjmghaaGreatDoor

namespace Go.Proofs.YtfjfkkbgkjmghaaGreatDoor
open Go.RowKit
set_option maxRecDepth 100000
/-- The cells of a file. -/
def enCells (e : En) : List Value := [.string e.name, .string e.val, .bool e.file, .string e.fname, .string e.typ]
def cellsE (fs : List En) : List Value := fs.flatMap enCells
theorem cellsE_app (x y : List En) : cellsE (x ++ y) = cellsE x ++ cellsE y := by simp [cellsE]
theorem cellsE_at : ∀ {fs : List En} {i : Nat} (h : i < fs.length) {j : Nat}, j < 5 → (cellsE fs)[i * 5 + j]? = (enCells fs[i])[j]?
  | e :: fs, 0, _, j, hj => by
    show (enCells e ++ cellsE fs)[0 * 5 + j]? = _
    rw [Nat.zero_mul, Nat.zero_add, List.getElem?_append_left (by show j < 5; exact hj)]
    rfl
  | e :: fs, i + 1, h, j, hj => by
    show (enCells e ++ cellsE fs)[(i + 1) * 5 + j]? = _
    rw [List.getElem?_append_right (by show 5 ≤ _; omega), show (i + 1) * 5 + j - (enCells e).length = i * 5 + j by show (i + 1) * 5 + j - 5 = _; omega]
    exact cellsE_at (fs := fs) (by simpa using h) hj
theorem files_own {w : World} {base : Nat} {v : Value} {fs : List En} (h : w.ownsRow base 59 5 v fs.length (cellsE fs)) : FilesV w v fs := by
  rcases h.2 with ⟨e, q⟩ | ⟨g, cap, cur, e, hb, hg, h1, h2, _⟩
  · have : fs = [] := List.eq_nil_of_length_eq_zero q
    subst this
    exact ⟨none, 0, e, .inl rfl⟩
  · refine ⟨_, cap, e, .inr ⟨g, 0, rfl, fun i hi => ?_⟩⟩
    subst e
    have C : ∀ j u, j < 5 → (enCells fs[i])[j]? = some u → w.cell? ⟨g, 0 + i * 5 + j, none⟩ = some u := fun j u hj hu => by
      rw [Nat.zero_add]
      exact owns_cell h rfl ((cellsE_at hi hj).trans hu)
    exact ⟨C 0 _ (by omega) rfl, C 1 _ (by omega) rfl, C 2 _ (by omega) rfl, C 3 _ (by omega) rfl, C 4 _ (by omega) rfl⟩
/-- Files in a row of the call's own. -/
def OwnR (B : Nat) (w : World) (v : Value) (fs : List En) : Prop := w.ownsRow B 59 5 v fs.length (cellsE fs)
theorem OwnR.files {B : Nat} {w : World} {v : Value} {fs : List En} (h : OwnR B w v fs) : FilesV w v fs := files_own h
theorem OwnR.below {B : Nat} {w w' : World} {v : Value} {fs : List En} (h : OwnR B w v fs) (hb : Below w.heap.size w w') : OwnR B w' v fs := owns_below h hb
theorem OwnR.mono {B B' : Nat} {w : World} {v : Value} {fs : List En} (h : OwnR B w v fs) (hb : B' ≤ B) : OwnR B' w v fs := by
  refine ⟨h.1, ?_⟩
  rcases h.2 with hn' | ⟨g, cap, cur, rfl, hb', rest⟩
  · exact .inl hn'
  · exact .inr ⟨g, cap, cur, rfl, by omega, rest⟩
theorem OwnR.at_ {B : Nat} {w : World} {v : Value} {fs : List En} (h : OwnR B w v fs) (g : Nat) (hg : v.ownBlock = some g) : B ≤ g ∧ g < w.heap.size := ⟨(h.lt g hg).1, (h.lt g hg).2⟩
theorem OwnR.form {B : Nat} {w : World} {v : Value} {fs : List En} (h : OwnR B w v fs) : ∃ p c, v = .slice p fs.length c := by
  obtain ⟨p, c, e, _⟩ := h.files
  exact ⟨p, c, e⟩
theorem OwnR.set {B : Nat} {w : World} {v : Value} {fs : List En} (h : OwnR B w v fs) {m : Nat} (hm : ∀ g, v.ownBlock = some g → g ≠ m) (k : Nat) (u : Value) : OwnR B (w.setCell ⟨m, k, none⟩ u) v fs := by
  refine ⟨h.1, ?_⟩
  rcases h.2 with q | ⟨g, cap, cur, e1, h1, h2, h3⟩
  · exact .inl q
  · exact .inr ⟨g, cap, cur, e1, h1, (Below.heap_setCell _ _ _ _ (hm g (by rw [e1]; rfl))).trans h2, h3⟩
theorem OwnR.set10 {B : Nat} {w : World} {v : Value} {fs : List En} (h : OwnR B w v fs) {m : Nat} (hm : ∀ g, v.ownBlock = some g → g ≠ m) (a0 a1 a2 a3 a4 a5 a6 a7 a8 a9 : Value) :
    OwnR B ((((((((((w.setCell ⟨m, 0, none⟩ a0).setCell ⟨m, 1, none⟩ a1).setCell ⟨m, 2, none⟩ a2).setCell ⟨m, 3, none⟩ a3).setCell ⟨m, 4, none⟩ a4).setCell ⟨m, 5, none⟩ a5).setCell ⟨m, 6, none⟩ a6).setCell ⟨m, 7, none⟩ a7).setCell ⟨m, 8, none⟩ a8).setCell ⟨m, 9, none⟩ a9) v fs :=
  (((((((((h.set hm _ _).set hm _ _).set hm _ _).set hm _ _).set hm _ _).set hm _ _).set hm _ _).set hm _ _).set hm _ _).set hm _ _
theorem info_en : (Tryz.prog.info? 59).map (fun i => (i.zero, i.size, i.bytes)) = some (some (.agg #[.string ⟨#[]⟩, .string ⟨#[]⟩, .bool false, .string ⟨#[]⟩, .string ⟨#[]⟩]), 5, 72) := by kernel_rfl
theorem list_same : ∀ {l : List Value} {k : Nat} {u : Value}, l[k]? = some u → l.set k u = l
  | _ :: _, 0, _, h => by cases h; rfl
  | a :: l, k + 1, u, h => by show a :: l.set k u = _; rw [list_same (l := l) (k := k) h]
theorem Bk.same {w : World} {n : Nat} {cs : List Value} {t : TypeId} (h : Bk w n cs t) (k : Nat) {u : Value} (hu : cs[k]? = some u) : Bk (w.setCell ⟨n, k, none⟩ u) n cs t := by
  have := h.set k u
  rwa [list_same hu] at this
theorem bk_low {B : Nat} {w w' : World} {n : Nat} {cs : List Value} {t : TypeId} (h : Bk w n cs t) (hn : n < B) (hb : Below B w w') : Bk w' n cs t := ⟨(hb.block n hn).trans h.lies⟩
theorem undrewB {B : Nat} {a b : World} (h : Below B a.drew b) : Below B a b := ⟨h.os, h.tape, h.output, h.size, h.block⟩
/-- Two cells that may be stored into stay so. -/
theorem kept2 {W W' : World} {p q : Addr} {x y : Value} (h : W.cell? p = some x ∧ W.frozen? p = false ∧ W.cell? q = some y ∧ W.frozen? q = false) (hb : Below W.heap.size W W') : W'.cell? p = some x ∧ W'.frozen? p = false ∧ W'.cell? q = some y ∧ W'.frozen? q = false :=
  ⟨cell_below h.1 hb, (hb.frozen (World.block_lt_of_cell? _ _ h.1)).trans h.2.1, cell_below h.2.2.1 hb, (hb.frozen (World.block_lt_of_cell? _ _ h.2.2.1)).trans h.2.2.2⟩
theorem kept2p {W : World} {p q : Addr} {x y : Value} (h : W.cell? p = some x ∧ W.frozen? p = false ∧ W.cell? q = some y ∧ W.frozen? q = false) (hne : q ≠ p) : (W.setCell p x).cell? p = some x ∧ (W.setCell p x).frozen? p = false ∧ (W.setCell p x).cell? q = some y ∧ (W.setCell p x).frozen? q = false :=
  ⟨World.cell?_setCell_same _ _ _ (by rw [h.1]), (World.frozen?_setCell ..).trans h.2.1, (World.cell?_setCell_other _ _ _ _ hne.symm).trans h.2.2.1, (World.frozen?_setCell ..).trans h.2.2.2⟩
theorem kept2q {W : World} {p q : Addr} {x y : Value} (h : W.cell? p = some x ∧ W.frozen? p = false ∧ W.cell? q = some y ∧ W.frozen? q = false) (hne : p ≠ q) : (W.setCell q y).cell? p = some x ∧ (W.setCell q y).frozen? p = false ∧ (W.setCell q y).cell? q = some y ∧ (W.setCell q y).frozen? q = false :=
  ⟨(World.cell?_setCell_other _ _ _ _ hne.symm).trans h.1, (World.frozen?_setCell ..).trans h.2.1, World.cell?_setCell_same _ _ _ (by rw [h.2.2.1]), (World.frozen?_setCell ..).trans h.2.2.2⟩
theorem addr_neB {b o o' : Nat} (h : o ≠ o') : (⟨b, o, none⟩ : Addr) ≠ ⟨b, o', none⟩ := fun e => h (by cases e; rfl)
theorem owns_low {w : World} {base : Nat} {e : TypeId} {size : Nat} {v : Value} {n : Nat} {xs : List Value} (h : w.ownsRow base e size v n xs) {m : Nat} (hm : m < base) (k : Nat) (u : Value) : (w.setCell ⟨m, k, none⟩ u).ownsRow base e size v n xs := by
  refine ⟨h.1, ?_⟩
  rcases h.2 with q | ⟨g, cap, cur, e1, h1, h2, h3⟩
  · exact .inl q
  · exact .inr ⟨g, cap, cur, e1, h1, (Below.heap_setCell _ _ _ _ (fun q => by have : g = m := q; omega)).trans h2, h3⟩
theorem owns_low10 {w : World} {base : Nat} {e : TypeId} {size : Nat} {v : Value} {n : Nat} {xs : List Value} (h : w.ownsRow base e size v n xs) {m : Nat} (hm : m < base) (a0 a1 a2 a3 a4 a5 a6 a7 a8 a9 : Value) :
    ((((((((((w.setCell ⟨m, 0, none⟩ a0).setCell ⟨m, 1, none⟩ a1).setCell ⟨m, 2, none⟩ a2).setCell ⟨m, 3, none⟩ a3).setCell ⟨m, 4, none⟩ a4).setCell ⟨m, 5, none⟩ a5).setCell ⟨m, 6, none⟩ a6).setCell ⟨m, 7, none⟩ a7).setCell ⟨m, 8, none⟩ a8).setCell ⟨m, 9, none⟩ a9).ownsRow base e size v n xs :=
  owns_low (owns_low (owns_low (owns_low (owns_low (owns_low (owns_low (owns_low (owns_low (owns_low h hm _ _) hm _ _) hm _ _) hm _ _) hm _ _) hm _ _) hm _ _) hm _ _) hm _ _) hm _ _
theorem low_set10 {B : Nat} {w0 w : World} {b : Nat} (hb : B ≤ b) (h : Below B w0 w) (a0 a1 a2 a3 a4 a5 a6 a7 a8 a9 : Value) :
    Below B w0 ((((((((((w.setCell ⟨b, 0, none⟩ a0).setCell ⟨b, 1, none⟩ a1).setCell ⟨b, 2, none⟩ a2).setCell ⟨b, 3, none⟩ a3).setCell ⟨b, 4, none⟩ a4).setCell ⟨b, 5, none⟩ a5).setCell ⟨b, 6, none⟩ a6).setCell ⟨b, 7, none⟩ a7).setCell ⟨b, 8, none⟩ a8).setCell ⟨b, 9, none⟩ a9) :=
  (((((((((h.setCell hb _).setCell hb _).setCell hb _).setCell hb _).setCell hb _).setCell hb _).setCell hb _).setCell hb _).setCell hb _).setCell hb _
theorem low_set {B : Nat} {a b : World} (h : Below B a b) {n : Nat} (hn : B ≤ n) (k : Nat) (u : Value) : Below B a (b.setCell ⟨n, k, none⟩ u) := h.setCell hn _
set_option maxHeartbeats 8000000 in
theorem ctCopied_big (C : Ct) (fv : Value) (w : World) (hf : FilesV w fv C.files) (hF : FsOK C.files) (hv : C.val.size ≤ 140737488355328) (hc : C.custom.size ≤ 140737488355328) :
    Calls Tryz.prog 39 #[ctV C fv] w fun e w' => ∃ fv', e = .returned (ctV C fv') ∧ OwnR w.heap.size w' fv' C.files ∧ Below w.heap.size w w' := by
  obtain ⟨fp, fc, rfl, hk⟩ := hf
  obtain ⟨c0, c1, c2, c3, c4, c5, c6, c7, c8, c9⟩ := C
  have H0 := hide (fun W => clone_any c0 W (by have : c0.size ≤ 140737488355328 := hv; omega))
  have H8 := hide (fun W => clone_any c8 W (by have : c8.size ≤ 140737488355328 := hc; omega))
  have HF : Hid (FsOK c9) := hF
  have HK : Hid (c9 = [] ∨ ∃ b o, fp = some ⟨b, o, none⟩ ∧ ∀ i (h : i < c9.length), EnAt w b (o + i * 5) c9[i]) := hk
  have hlen : c9.length * 72 ≤ 140737488355328 := HF.out.few
  have B0 : Hid (Below w.heap.size w ((w.alloc (.cells #[.string c0, .bool c1, .bool c2, .bool c3, .bool c4, .bool c5, .bool c6, .bool c7, .string c8, .slice fp c9.length fc] 24)).alloc (.cells #[.string ⟨#[]⟩, .bool false, .bool false, .bool false, .bool false, .bool false, .bool false, .bool false, .string ⟨#[]⟩, .slice none 0 0] 24))) := ((Below.refl _ w).alloc (Nat.le_refl _) _).alloc ((Below.refl _ w).alloc (Nat.le_refl _) (.cells #[.string c0, .bool c1, .bool c2, .bool c3, .bool c4, .bool c5, .bool c6, .bool c7, .string c8, .slice fp c9.length fc] 24)).size _
  have NC := hide ((Bk.new w [.string c0, .bool c1, .bool c2, .bool c3, .bool c4, .bool c5, .bool c6, .bool c7, .string c8, .slice fp c9.length fc] 24).below ((Below.refl _ (w.alloc (.cells #[.string c0, .bool c1, .bool c2, .bool c3, .bool c4, .bool c5, .bool c6, .bool c7, .string c8, .slice fp c9.length fc] 24))).alloc (Nat.le_refl _) (.cells #[.string ⟨#[]⟩, .bool false, .bool false, .bool false, .bool false, .bool false, .bool false, .bool false, .string ⟨#[]⟩, .slice none 0 0] 24)))
  have NR0 := hide (Bk.new (w.alloc (.cells #[.string c0, .bool c1, .bool c2, .bool c3, .bool c4, .bool c5, .bool c6, .bool c7, .string c8, .slice fp c9.length fc] 24)) [.string ⟨#[]⟩, .bool false, .bool false, .bool false, .bool false, .bool false, .bool false, .bool false, .string ⟨#[]⟩, .slice none 0 0] 24)
  have NR : Hid (Bk ((w.alloc (.cells #[.string c0, .bool c1, .bool c2, .bool c3, .bool c4, .bool c5, .bool c6, .bool c7, .string c8, .slice fp c9.length fc] 24)).alloc (.cells #[.string ⟨#[]⟩, .bool false, .bool false, .bool false, .bool false, .bool false, .bool false, .bool false, .string ⟨#[]⟩, .slice none 0 0] 24)) (w.heap.size + 1) [.string ⟨#[]⟩, .bool false, .bool false, .bool false, .bool false, .bool false, .bool false, .bool false, .string ⟨#[]⟩, .slice none 0 0] 24) := by
    have e : (w.alloc (.cells #[.string c0, .bool c1, .bool c2, .bool c3, .bool c4, .bool c5, .bool c6, .bool c7, .string c8, .slice fp c9.length fc] 24)).heap.size = w.heap.size + 1 := by simp
    rw [e] at NR0; exact NR0
  clear NR0
  have LOW : Hid (w.heap.size ≤ ((w.alloc (.cells #[.string c0, .bool c1, .bool c2, .bool c3, .bool c4, .bool c5, .bool c6, .bool c7, .string c8, .slice fp c9.length fc] 24)).alloc (.cells #[.string ⟨#[]⟩, .bool false, .bool false, .bool false, .bool false, .bool false, .bool false, .bool false, .string ⟨#[]⟩, .slice none 0 0] 24)).heap.size) := B0.out.size
  clear hk hF hv hc
  unfold ctV ctCells
  go_enter Tryz.func39, Tryz.ntmps39
  go_upto_region 1 with fail
  generalize hBn : w.heap.size = B at *
  generalize (w.alloc (.cells #[.string c0, .bool c1, .bool c2, .bool c3, .bool c4, .bool c5, .bool c6, .bool c7, .string c8, .slice fp c9.length fc] 24)).alloc (.cells #[.string ⟨#[]⟩, .bool false, .bool false, .bool false, .bool false, .bool false, .bool false, .bool false, .string ⟨#[]⟩, .slice none 0 0] 24) = w0 at *
  go_cut [8] (fun _ wx => Hid (Bk wx B [.string c0, .bool c1, .bool c2, .bool c3, .bool c4, .bool c5, .bool c6, .bool c7, .string c8, .slice fp c9.length fc] 24) ∧ Hid (Bk wx (B + 1) [.string ⟨#[]⟩, .bool false, .bool false, .bool false, .bool false, .bool false, .bool false, .bool false, .string ⟨#[]⟩, .slice none 0 0] 24) ∧ Hid (Below B w0 wx))
  case first =>
    have z0 := NC.out.cell 0 rfl
    have z1 := NC.out.cell 8 rfl
    have y0 := NC.out.free 0
    have y1 := NC.out.free 8
    go_region_held3 (fun w' => w'.cell? ⟨B, 0, none⟩ = some (.string c0) ∧ w'.frozen? ⟨B, 0, none⟩ = false ∧ w'.cell? ⟨B, 8, none⟩ = some (.string c8) ∧ w'.frozen? ⟨B, 8, none⟩ = false)
      (first | exact kept2p (by assumption) (addr_neB (by omega)) | exact kept2q (by assumption) (addr_neB (by omega)) | exact kept2 (by assumption) b1 | exact kept2 (by assumption) b2 | go_keep)
      (first | (go_at_call 33; refine (H0.out _).mono ?_; rintro e wa ⟨rfl, b1⟩) | (go_at_call 33; refine (H8.out _).mono ?_; rintro e wb ⟨rfl, b2⟩))
    all_goals
      go_wp2_with fail
      go_meet
      case rel =>
        first
          | (have bb : Below w0.heap.size w0 wb := undrewB (chain b1 b2)
             have k1 := NC.out.below bb
             have l1 := bb.mono LOW.out
             first
               | exact ⟨(k1.same 0 rfl).same 8 rfl, (((NR.out.below bb).other (Nat.ne_of_lt (Nat.lt_succ_self _)) _ _).other (Nat.ne_of_lt (Nat.lt_succ_self _)) _ _), low_set (low_set l1 (Nat.le_refl _) _ _) (Nat.le_refl _) _ _⟩
               | exact ⟨(k1.same 8 rfl).same 0 rfl, (((NR.out.below bb).other (Nat.ne_of_lt (Nat.lt_succ_self _)) _ _).other (Nat.ne_of_lt (Nat.lt_succ_self _)) _ _), low_set (low_set l1 (Nat.le_refl _) _ _) (Nat.le_refl _) _ _⟩)
          | (have bb : Below w0.heap.size w0 wa := undrewB (chain b2 b1)
             have k1 := NC.out.below bb
             have l1 := bb.mono LOW.out
             first
               | exact ⟨(k1.same 0 rfl).same 8 rfl, (((NR.out.below bb).other (Nat.ne_of_lt (Nat.lt_succ_self _)) _ _).other (Nat.ne_of_lt (Nat.lt_succ_self _)) _ _), low_set (low_set l1 (Nat.le_refl _) _ _) (Nat.le_refl _) _ _⟩
               | exact ⟨(k1.same 8 rfl).same 0 rfl, (((NR.out.below bb).other (Nat.ne_of_lt (Nat.lt_succ_self _)) _ _).other (Nat.ne_of_lt (Nat.lt_succ_self _)) _ _), low_set (low_set l1 (Nat.le_refl _) _ _) (Nat.le_refl _) _ _⟩)
  case rest =>
    obtain ⟨K1, R1, L1⟩ := hcut
    rename World => w1
    have B1 : Hid (Below B w w1) := B0.out.trans L1.out
    have x9 := K1.out.cell 9 rfl
    have ln : B < w1.heap.size := K1.out.lt
    have ln2 : B + 1 < w1.heap.size := R1.out.lt
    obtain ⟨iE, hE0, hE1, hE2, hE3⟩ := info_parts info_en
    clear NC NR L1 B0 LOW H0 H8
    go_wp2_with fail
    go_loopw [3, 17] (fun ov iv wr => ∃ (j : Nat) (q : Option Addr) (cp : Nat), j ≤ c9.length ∧ iv = .int .i64 j ∧ ov = .slice q j cp ∧ Hid (wr.ownsRow w1.heap.size 59 5 (.slice q j cp) j (cellsE (c9.take j))) ∧ Hid (Below w1.heap.size w1 wr)) (fun _ iv _ => c9.length - (intOf iv).toNat)
    case atStart => exact ⟨0, none, 0, Nat.zero_le _, rfl, rfl, by show World.ownsRow _ _ _ _ _ _ _; rw [List.take_zero]; exact World.ownsRow_nil _ _ _ _, Below.refl _ _⟩
    case round =>
      rename World => wr
      obtain ⟨j, qv, cv, hj, rfl, rfl, OW, BW⟩ := hrel
      by_cases h : j < c9.length
      · have i1 : (j : Int) < (c9.length : Int) := by omega
        have i0 : (0 : Int) ≤ (j : Int) := by omega
        obtain ⟨b, o, rfl, hc⟩ : ∃ b o, fp = some ⟨b, o, none⟩ ∧ ∀ i (h : i < c9.length), EnAt w b (o + i * 5) c9[i] := by
          rcases HK.out with t | t
          · rw [t] at h; simp at h
          · exact t
        have BR : Hid (Below B w wr) := B1.out.trans (BW.out.mono (by omega))
        have EA := (hc j h).below (by rw [hBn]; exact BR.out)
        have a0 := EA.c0
        have a1 := EA.c1
        have a2 := EA.c2
        have a3 := EA.c3
        have a4 := EA.c4
        have mj := List.getElem_mem h
        have r0 := HF.out.rest _ mj
        have r3 := HF.out.name _ mj
        have H0 := hide (fun W => clone_any c9[j].name W (by omega))
        have H1 := hide (fun W => clone_any c9[j].val W (by omega))
        have H3 := hide (fun W => clone_any c9[j].fname W (by omega))
        have H4 := hide (fun W => clone_any c9[j].typ W (by omega))
        have TK : Hid (cellsE (c9.take (j + 1)) = cellsE (c9.take j) ++ [.string c9[j].name, .string c9[j].val, .bool c9[j].file, .string c9[j].fname, .string c9[j].typ]) := by
          show _ = _
          rw [List.take_succ_eq_append_getElem h, cellsE_app]
          congr 1
        have bl : b < wr.heap.size := World.block_lt_of_cell? _ _ a0
        have bn : b ≠ wr.heap.size := by omega
        clear hc EA mj r0 r3 HK HF x9 BR
        generalize c9[j].name = e0 at *
        generalize c9[j].val = e1 at *
        generalize c9[j].file = e2 at *
        generalize c9[j].fname = e3 at *
        generalize c9[j].typ = e4 at *
        have NE := hide (Bk.new wr [.string e0, .string e1, .bool e2, .string e3, .string e4] 59)
        have LW : Hid (Below wr.heap.size wr (wr.alloc (.cells #[.string e0, .string e1, .bool e2, .string e3, .string e4] 59))) := (Below.refl _ wr).alloc (Nat.le_refl _) _
        have LOW : Hid (wr.heap.size ≤ (wr.alloc (.cells #[.string e0, .string e1, .bool e2, .string e3, .string e4] 59)).heap.size) := LW.out.size
        have MW : Hid (w1.heap.size ≤ wr.heap.size) := BW.out.size
        go_upto_region 6 with fail
        generalize hG : wr.heap.size = G at *
        generalize wr.alloc (.cells #[.string e0, .string e1, .bool e2, .string e3, .string e4] 59) = yE at *
        clear a0 a1 a2 a3 a4 bl bn
        go_cut [23] (fun _ wx => Hid (Bk wx G [.string e0, .string e1, .bool e2, .string e3, .string e4] 59) ∧ Hid (Below G yE wx))
        case first =>
          have z0 := NE.out.cell 0 rfl
          have z1 := NE.out.cell 1 rfl
          have y0 := NE.out.free 0
          have y1 := NE.out.free 1
          go_region_held3 (fun w' => w'.cell? ⟨G, 0, none⟩ = some (.string e0) ∧ w'.frozen? ⟨G, 0, none⟩ = false ∧ w'.cell? ⟨G, 1, none⟩ = some (.string e1) ∧ w'.frozen? ⟨G, 1, none⟩ = false)
            (first | exact kept2p (by assumption) (addr_neB (by omega)) | exact kept2q (by assumption) (addr_neB (by omega)) | exact kept2 (by assumption) b1 | exact kept2 (by assumption) b2 | go_keep)
            (first | (go_at_call 33; refine (H0.out _).mono ?_; rintro e wa ⟨rfl, b1⟩) | (go_at_call 33; refine (H1.out _).mono ?_; rintro e wb ⟨rfl, b2⟩))
          all_goals
            go_wp2_with fail
            go_meet
            case rel =>
              first
                | (have bb : Below yE.heap.size yE wb := undrewB (chain b1 b2)
                   have k1 := NE.out.below bb
                   have l1 := bb.mono LOW.out
                   first
                     | exact ⟨(k1.same 0 rfl).same 1 rfl, low_set (low_set l1 (Nat.le_refl _) _ _) (Nat.le_refl _) _ _⟩
                     | exact ⟨(k1.same 1 rfl).same 0 rfl, low_set (low_set l1 (Nat.le_refl _) _ _) (Nat.le_refl _) _ _⟩)
                | (have bb : Below yE.heap.size yE wa := undrewB (chain b2 b1)
                   have k1 := NE.out.below bb
                   have l1 := bb.mono LOW.out
                   first
                     | exact ⟨(k1.same 0 rfl).same 1 rfl, low_set (low_set l1 (Nat.le_refl _) _ _) (Nat.le_refl _) _ _⟩
                     | exact ⟨(k1.same 1 rfl).same 0 rfl, low_set (low_set l1 (Nat.le_refl _) _ _) (Nat.le_refl _) _ _⟩)
        case rest =>
          obtain ⟨K6, L6⟩ := hcut
          rename World => w6
          have LX : Hid (Below G wr w6) := LW.out.trans L6.out
          have LOX : Hid (G ≤ w6.heap.size) := Nat.le_trans LOW.out L6.out.size
          clear NE LW LOW H0 H1 L6
          go_upto_region 7 with fail
          go_cut [31] (fun _ wx => Hid (Bk wx G [.string e0, .string e1, .bool e2, .string e3, .string e4] 59) ∧ Hid (Below G w6 wx))
          case first =>
            have z0 := K6.out.cell 3 rfl
            have z1 := K6.out.cell 4 rfl
            have y0 := K6.out.free 3
            have y1 := K6.out.free 4
            go_region_held3 (fun w' => w'.cell? ⟨G, 3, none⟩ = some (.string e3) ∧ w'.frozen? ⟨G, 3, none⟩ = false ∧ w'.cell? ⟨G, 4, none⟩ = some (.string e4) ∧ w'.frozen? ⟨G, 4, none⟩ = false)
              (first | exact kept2p (by assumption) (addr_neB (by omega)) | exact kept2q (by assumption) (addr_neB (by omega)) | exact kept2 (by assumption) b1 | exact kept2 (by assumption) b2 | go_keep)
              (first | (go_at_call 33; refine (H3.out _).mono ?_; rintro e wa ⟨rfl, b1⟩) | (go_at_call 33; refine (H4.out _).mono ?_; rintro e wb ⟨rfl, b2⟩))
            all_goals
              go_wp2_with fail
              go_meet
              case rel =>
                first
                  | (have bb : Below w6.heap.size w6 wb := undrewB (chain b1 b2)
                     have k1 := K6.out.below bb
                     have l1 := bb.mono LOX.out
                     first
                       | exact ⟨(k1.same 3 rfl).same 4 rfl, low_set (low_set l1 (Nat.le_refl _) _ _) (Nat.le_refl _) _ _⟩
                       | exact ⟨(k1.same 4 rfl).same 3 rfl, low_set (low_set l1 (Nat.le_refl _) _ _) (Nat.le_refl _) _ _⟩)
                  | (have bb : Below w6.heap.size w6 wa := undrewB (chain b2 b1)
                     have k1 := K6.out.below bb
                     have l1 := bb.mono LOX.out
                     first
                       | exact ⟨(k1.same 3 rfl).same 4 rfl, low_set (low_set l1 (Nat.le_refl _) _ _) (Nat.le_refl _) _ _⟩
                       | exact ⟨(k1.same 4 rfl).same 3 rfl, low_set (low_set l1 (Nat.le_refl _) _ _) (Nat.le_refl _) _ _⟩)
          case rest =>
            obtain ⟨K7, L7⟩ := hcut
            rename World => w7
            have LY : Hid (Below G wr w7) := LX.out.trans L7.out
            have d0 := K7.out.cell 0 rfl
            have d1 := K7.out.cell 1 rfl
            have d2 := K7.out.cell 2 rfl
            have d3 := K7.out.cell 3 rfl
            have d4 := K7.out.cell 4 rfl
            have AL : Hid (Below w7.heap.size w7 (w7.alloc (.cells #[.string e0, .string e1, .bool e2, .string e3, .string e4] 59))) := (Below.refl _ w7).alloc (Nat.le_refl _) _
            have OZ := hide (owns_below (owns_below OW.out (by rw [hG]; exact LY.out)) AL.out)
            have RAW := hide ((Bk.new w7 [.string e0, .string e1, .bool e2, .string e3, .string e4] 59).raw 1 5 rfl 1)
            have g7 : G < w7.heap.size := K7.out.lt
            have WZ : Hid (w1.heap.size ≤ (w7.alloc (.cells #[.string e0, .string e1, .bool e2, .string e3, .string e4] 59)).heap.size) := by
              have h1 := MW.out
              have h2 := AL.out.size
              show _ ≤ _
              omega
            have L9 : Hid (Below w1.heap.size w1 (w7.alloc (.cells #[.string e0, .string e1, .bool e2, .string e3, .string e4] 59))) := (BW.out.trans (LY.out.mono MW.out)).trans (AL.out.mono (by have := MW.out; omega))
            clear LX LOX L7 H3 H4 K6
            go_wp2_with (at_builtin; refine wpList_append_raw rfl _ _ _ rfl w1.heap.size 59 iE _ 5 72 Tryz.underlying22 hE0 hE1 hE2 hE3 rfl (by omega) _ j (cellsE (c9.take j)) rfl OZ.out _ 1 _ rfl RAW.out (by simp [Value.oneCell']) (by unfold maxLen; omega) (by omega) WZ.out ?_; intro q8 k8 w8 own8 gr8 at8)
            rw [← TK.out] at own8
            have L8 := hide (rowGrown_below L9.out WZ.out gr8 (fun k e => (OZ.out.lt k e).1))
            have O8 := hide own8
            clear own8 gr8 at8 OZ RAW L9 d0 d1 d2 d3 d4
            go_roundw
            case rel => exact ⟨j + 1, q8, k8, by omega, by go_num, rfl, O8, L8⟩
            case measure => simp [intOf]; omega
      · obtain rfl : j = c9.length := by omega
        rw [List.take_length] at OW
        have BR : Hid (Below B w wr) := B1.out.trans (BW.out.mono (by omega))
        have K2 := hide (bk_low K1.out ln BW.out)
        have R2 := hide (bk_low R1.out ln2 BW.out)
        have p0 := K2.out.cell 0 rfl
        have q0 := K2.out.free 0
        have p1 := K2.out.cell 1 rfl
        have q1 := K2.out.free 1
        have p2 := K2.out.cell 2 rfl
        have q2 := K2.out.free 2
        have p3 := K2.out.cell 3 rfl
        have q3 := K2.out.free 3
        have p4 := K2.out.cell 4 rfl
        have q4 := K2.out.free 4
        have p5 := K2.out.cell 5 rfl
        have q5 := K2.out.free 5
        have p6 := K2.out.cell 6 rfl
        have q6 := K2.out.free 6
        have p7 := K2.out.cell 7 rfl
        have q7 := K2.out.free 7
        have p8 := K2.out.cell 8 rfl
        have q8 := K2.out.free 8
        have p9 := K2.out.cell 9 rfl
        have q9 := K2.out.free 9
        have r0 := R2.out.cell 0 rfl
        have s0 := R2.out.free 0
        have r1 := R2.out.cell 1 rfl
        have s1 := R2.out.free 1
        have r2 := R2.out.cell 2 rfl
        have s2 := R2.out.free 2
        have r3 := R2.out.cell 3 rfl
        have s3 := R2.out.free 3
        have r4 := R2.out.cell 4 rfl
        have s4 := R2.out.free 4
        have r5 := R2.out.cell 5 rfl
        have s5 := R2.out.free 5
        have r6 := R2.out.cell 6 rfl
        have s6 := R2.out.free 6
        have r7 := R2.out.cell 7 rfl
        have s7 := R2.out.free 7
        have r8 := R2.out.cell 8 rfl
        have s8 := R2.out.free 8
        have r9 := R2.out.cell 9 rfl
        have s9 := R2.out.free 9
        have LE : Hid (B ≤ B + 1) := Nat.le_succ _
        clear HK HF x9 h
        go_wp2_with fail
        refine bodyPost_ret (v := .agg #[.string c0, .bool c1, .bool c2, .bool c3, .bool c4, .bool c5, .bool c6, .bool c7, .string c8, .slice qv c9.length cv]) (by simp [results, go_sem, r0, r1, r2, r3, r4, r5, r6, r7, r8, r9]) rfl ?_
        exact ⟨_, rfl, OwnR.mono (B := w1.heap.size) (owns_low10 (owns_low OW.out ln _ _) ln2 _ _ _ _ _ _ _ _ _ _) (by rw [hBn]; omega), by rw [hBn]; exact low_set10 LE.out (low_set BR.out (Nat.le_refl _) _ _) _ _ _ _ _ _ _ _ _ _⟩
theorem ctCopied_any (C : Ct) (fv : Value) (w : World) (hf : FilesV w fv C.files) (hO : CtOK C) :
    Calls Tryz.prog 39 #[ctV C fv] w fun e w' => ∃ fv', e = .returned (ctV C fv') ∧ OwnR w.heap.size w' fv' C.files ∧ Below w.heap.size w w' := ctCopied_big C fv w hf hO.files (by have := hO.val; omega) hO.custom

end Go.Proofs.YtfjfkkbgkjmghaaGreatDoor
