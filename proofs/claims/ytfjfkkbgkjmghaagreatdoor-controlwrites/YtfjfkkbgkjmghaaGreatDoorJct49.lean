/- The document's Write and Type of layer 14. Stage 14's laws ControlWrites, ControlTypes, ControlChanges, ControlRetypes, ControlResets, walked. -/
import Derived.Test.YtfjfkkbgkjmghaaGreatDoorJct34
import Derived.Test.YtfjfkkbgkjmghaaGreatDoorJct38
import Derived.Test.YtfjfkkbgkjmghaaGreatDoorJct39
import Derived.Test.YtfjfkkbgkjmghaaGreatDoorJct40
import Derived.Test.YtfjfkkbgkjmghaaGreatDoorJct43
import Derived.Test.YtfjfkkbgkjmghaaGreatDoorJct46

namespace Go.Proofs.YtfjfkkbgkjmghaaGreatDoor
open Go.RowKit
theorem push_file {k : Int} (h : modeV k = 4) : isPush k = false := by
  unfold isPush
  refine decide_eq_false fun q => ?_
  unfold modeV at h
  rw [if_neg (by omega), if_neg (by omega), if_neg (by omega), if_neg (by omega)] at h
  cases h
set_option maxHeartbeats 4000000 in
set_option maxRecDepth 100000 in
theorem refWrite_long (k : Int) (C : Ct) (fv v : Value) (ax : List (ByteArray × ByteArray)) (w : World) (hf : FilesV w fv C.files) (hv : AttrsV w v ax) (_hz : AxOK ax) (s : ByteArray) (hs : s.size ≤ 100000) (hl : 4000 < s.size) :
    Calls Tryz.prog 17 #[.int .i64 k, ctV C fv, v, .string s] w fun e w' => e = .returned (.tuple #[ctV ct0 (.slice none 0 0), .bool false, .int .i64 2]) ∧ Below w.heap.size w w' := by
  have HM := hide (fun W => refMode_any k W)
  have HQ := hide (fun W => refPush_any k W)
  have l1 : (4000 : Int) < (s.size : Int) := by omega
  generalize modeV k = mm at *
  clear HQ hs hl
  obtain ⟨p, c, rfl, _⟩ := hv
  obtain ⟨fp, fc, rfl, _⟩ := hf
  obtain ⟨c0, c1, c2, c3, c4, c5, c6, c7, c8, c9⟩ := C
  unfold ctV ctCells
  have B0 : Hid (Below w.heap.size w ((w.alloc (.cells #[.string c0, .bool c1, .bool c2, .bool c3, .bool c4, .bool c5, .bool c6, .bool c7, .string c8, .slice fp c9.length fc] 24)).alloc (.cells #[.string ⟨#[]⟩, .bool false, .bool false, .bool false, .bool false, .bool false, .bool false, .bool false, .string ⟨#[]⟩, .slice none 0 0] 24))) := ((Below.refl _ w).alloc (Nat.le_refl _) _).alloc ((Below.refl _ w).alloc (Nat.le_refl _) (.cells #[.string c0, .bool c1, .bool c2, .bool c3, .bool c4, .bool c5, .bool c6, .bool c7, .string c8, .slice fp c9.length fc] 24)).size _
  have NP := hide ((Bk.new w [.string c0, .bool c1, .bool c2, .bool c3, .bool c4, .bool c5, .bool c6, .bool c7, .string c8, .slice fp c9.length fc] 24).below ((Below.refl _ (w.alloc (.cells #[.string c0, .bool c1, .bool c2, .bool c3, .bool c4, .bool c5, .bool c6, .bool c7, .string c8, .slice fp c9.length fc] 24))).alloc (Nat.le_refl _) (.cells #[.string ⟨#[]⟩, .bool false, .bool false, .bool false, .bool false, .bool false, .bool false, .bool false, .string ⟨#[]⟩, .slice none 0 0] 24)))
  have NR0 := hide (Bk.new (w.alloc (.cells #[.string c0, .bool c1, .bool c2, .bool c3, .bool c4, .bool c5, .bool c6, .bool c7, .string c8, .slice fp c9.length fc] 24)) [.string ⟨#[]⟩, .bool false, .bool false, .bool false, .bool false, .bool false, .bool false, .bool false, .string ⟨#[]⟩, .slice none 0 0] 24)
  have NR : Hid (Bk ((w.alloc (.cells #[.string c0, .bool c1, .bool c2, .bool c3, .bool c4, .bool c5, .bool c6, .bool c7, .string c8, .slice fp c9.length fc] 24)).alloc (.cells #[.string ⟨#[]⟩, .bool false, .bool false, .bool false, .bool false, .bool false, .bool false, .bool false, .string ⟨#[]⟩, .slice none 0 0] 24)) (w.heap.size + 1) [.string ⟨#[]⟩, .bool false, .bool false, .bool false, .bool false, .bool false, .bool false, .bool false, .string ⟨#[]⟩, .slice none 0 0] 24) := by
    have e : (w.alloc (.cells #[.string c0, .bool c1, .bool c2, .bool c3, .bool c4, .bool c5, .bool c6, .bool c7, .string c8, .slice fp c9.length fc] 24)).heap.size = w.heap.size + 1 := by simp
    rw [e] at NR0; exact NR0
  clear NR0
  go_enter Tryz.func17, Tryz.ntmps17
  go_upto_region 1 with fail
  generalize (w.alloc (.cells #[.string c0, .bool c1, .bool c2, .bool c3, .bool c4, .bool c5, .bool c6, .bool c7, .string c8, .slice fp c9.length fc] 24)).alloc (.cells #[.string ⟨#[]⟩, .bool false, .bool false, .bool false, .bool false, .bool false, .bool false, .bool false, .string ⟨#[]⟩, .slice none 0 0] 24) = w0 at *
  go_wp2_with fail
  refine (HM.out _).mono ?_
  rintro e wm ⟨rfl, hwm⟩
  obtain rfl : w0 = wm := hwm.symm
  have p0 := NP.out.cell 0 rfl
  have p1 := NP.out.cell 1 rfl
  have p2 := NP.out.cell 2 rfl
  have p3 := NP.out.cell 3 rfl
  have p4 := NP.out.cell 4 rfl
  have p5 := NP.out.cell 5 rfl
  have p6 := NP.out.cell 6 rfl
  have p7 := NP.out.cell 7 rfl
  have p8 := NP.out.cell 8 rfl
  have p9 := NP.out.cell 9 rfl
  have q0 := NP.out.free 0
  have q1 := NP.out.free 1
  have q2 := NP.out.free 2
  have q3 := NP.out.free 3
  have q4 := NP.out.free 4
  have q5 := NP.out.free 5
  have q6 := NP.out.free 6
  have q7 := NP.out.free 7
  have q8 := NP.out.free 8
  have q9 := NP.out.free 9
  have r0 := NR.out.cell 0 rfl
  have r1 := NR.out.cell 1 rfl
  have r2 := NR.out.cell 2 rfl
  have r3 := NR.out.cell 3 rfl
  have r4 := NR.out.cell 4 rfl
  have r5 := NR.out.cell 5 rfl
  have r6 := NR.out.cell 6 rfl
  have r7 := NR.out.cell 7 rfl
  have r8 := NR.out.cell 8 rfl
  have r9 := NR.out.cell 9 rfl
  have s0 := NR.out.free 0
  have s1 := NR.out.free 1
  have s2 := NR.out.free 2
  have s3 := NR.out.free 3
  have s4 := NR.out.free 4
  have s5 := NR.out.free 5
  have s6 := NR.out.free 6
  have s7 := NR.out.free 7
  have s8 := NR.out.free 8
  have s9 := NR.out.free 9
  go_wp2_with fail
  refine bodyPost_ret (v := .tuple #[.agg #[.string ⟨#[]⟩, .bool false, .bool false, .bool false, .bool false, .bool false, .bool false, .bool false, .string ⟨#[]⟩, .slice none 0 0], .bool false, .int .i64 2]) (by simp [results, go_sem, r0, r1, r2, r3, r4, r5, r6, r7, r8, r9]) rfl ?_
  exact ⟨rfl, ct_endB (Nat.le_succ _) B0.out _ _ _ _ _ _ _ _ _ _⟩
set_option maxHeartbeats 4000000 in
set_option maxRecDepth 100000 in
theorem refWrite_m1 (k : Int) (C : Ct) (fv v : Value) (ax : List (ByteArray × ByteArray)) (w : World) (hf : FilesV w fv C.files) (hv : AttrsV w v ax) (hz : AxOK ax) (s : ByteArray) (hs : s.size ≤ 100000) (hl : ¬ 4000 < s.size) (hm : modeV k = 1) (t : ByteArray) (ht : ClnIs k ax s t) :
    Calls Tryz.prog 17 #[.int .i64 k, ctV C fv, v, .string s] w fun e w' => e = .returned (.tuple #[ctV { C with val := t, dirty := true, typed := false } fv, .bool false, .int .i64 0]) ∧ Below w.heap.size w w' := by
  have HM := hide (fun W => refMode_any k W)
  have HQ := hide (fun W => refPush_any k W)
  have l1 : ¬ (4000 : Int) < (s.size : Int) := by omega
  have l2 : decide ((4000 : Int) < (s.size : Int)) = false := decide_eq_false l1
  rw [hm] at HM
  have HC := hide (fun W (hb : Below w.heap.size w W) => refCleaned_any v ax W (hv.below hb) hz ht hs)
  clear HQ ht hm hl hs hz
  obtain ⟨p, c, rfl, _⟩ := hv
  obtain ⟨fp, fc, rfl, _⟩ := hf
  obtain ⟨c0, c1, c2, c3, c4, c5, c6, c7, c8, c9⟩ := C
  unfold ctV ctCells
  have B0 : Hid (Below w.heap.size w ((w.alloc (.cells #[.string c0, .bool c1, .bool c2, .bool c3, .bool c4, .bool c5, .bool c6, .bool c7, .string c8, .slice fp c9.length fc] 24)).alloc (.cells #[.string ⟨#[]⟩, .bool false, .bool false, .bool false, .bool false, .bool false, .bool false, .bool false, .string ⟨#[]⟩, .slice none 0 0] 24))) := ((Below.refl _ w).alloc (Nat.le_refl _) _).alloc ((Below.refl _ w).alloc (Nat.le_refl _) (.cells #[.string c0, .bool c1, .bool c2, .bool c3, .bool c4, .bool c5, .bool c6, .bool c7, .string c8, .slice fp c9.length fc] 24)).size _
  have NP := hide ((Bk.new w [.string c0, .bool c1, .bool c2, .bool c3, .bool c4, .bool c5, .bool c6, .bool c7, .string c8, .slice fp c9.length fc] 24).below ((Below.refl _ (w.alloc (.cells #[.string c0, .bool c1, .bool c2, .bool c3, .bool c4, .bool c5, .bool c6, .bool c7, .string c8, .slice fp c9.length fc] 24))).alloc (Nat.le_refl _) (.cells #[.string ⟨#[]⟩, .bool false, .bool false, .bool false, .bool false, .bool false, .bool false, .bool false, .string ⟨#[]⟩, .slice none 0 0] 24)))
  have NR0 := hide (Bk.new (w.alloc (.cells #[.string c0, .bool c1, .bool c2, .bool c3, .bool c4, .bool c5, .bool c6, .bool c7, .string c8, .slice fp c9.length fc] 24)) [.string ⟨#[]⟩, .bool false, .bool false, .bool false, .bool false, .bool false, .bool false, .bool false, .string ⟨#[]⟩, .slice none 0 0] 24)
  have NR : Hid (Bk ((w.alloc (.cells #[.string c0, .bool c1, .bool c2, .bool c3, .bool c4, .bool c5, .bool c6, .bool c7, .string c8, .slice fp c9.length fc] 24)).alloc (.cells #[.string ⟨#[]⟩, .bool false, .bool false, .bool false, .bool false, .bool false, .bool false, .bool false, .string ⟨#[]⟩, .slice none 0 0] 24)) (w.heap.size + 1) [.string ⟨#[]⟩, .bool false, .bool false, .bool false, .bool false, .bool false, .bool false, .bool false, .string ⟨#[]⟩, .slice none 0 0] 24) := by
    have e : (w.alloc (.cells #[.string c0, .bool c1, .bool c2, .bool c3, .bool c4, .bool c5, .bool c6, .bool c7, .string c8, .slice fp c9.length fc] 24)).heap.size = w.heap.size + 1 := by simp
    rw [e] at NR0; exact NR0
  clear NR0
  go_enter Tryz.func17, Tryz.ntmps17
  go_upto_region 1 with fail
  generalize (w.alloc (.cells #[.string c0, .bool c1, .bool c2, .bool c3, .bool c4, .bool c5, .bool c6, .bool c7, .string c8, .slice fp c9.length fc] 24)).alloc (.cells #[.string ⟨#[]⟩, .bool false, .bool false, .bool false, .bool false, .bool false, .bool false, .bool false, .string ⟨#[]⟩, .slice none 0 0] 24) = w0 at *
  go_wp2_with fail
  refine (HM.out _).mono ?_
  rintro e wm ⟨rfl, hwm⟩
  obtain rfl : w0 = wm := hwm.symm
  go_wp2_with fail
  refine (HC.out _ B0.out).mono ?_
  rintro e wx ⟨rfl, bx⟩
  replace NR := hide (NR.out.below bx)
  replace NP := hide (NP.out.below bx)
  have BX := hide (chain B0.out bx)
  have p0 := NP.out.cell 0 rfl
  have p1 := NP.out.cell 1 rfl
  have p2 := NP.out.cell 2 rfl
  have p3 := NP.out.cell 3 rfl
  have p4 := NP.out.cell 4 rfl
  have p5 := NP.out.cell 5 rfl
  have p6 := NP.out.cell 6 rfl
  have p7 := NP.out.cell 7 rfl
  have p8 := NP.out.cell 8 rfl
  have p9 := NP.out.cell 9 rfl
  have q0 := NP.out.free 0
  have q1 := NP.out.free 1
  have q2 := NP.out.free 2
  have q3 := NP.out.free 3
  have q4 := NP.out.free 4
  have q5 := NP.out.free 5
  have q6 := NP.out.free 6
  have q7 := NP.out.free 7
  have q8 := NP.out.free 8
  have q9 := NP.out.free 9
  have r0 := NR.out.cell 0 rfl
  have r1 := NR.out.cell 1 rfl
  have r2 := NR.out.cell 2 rfl
  have r3 := NR.out.cell 3 rfl
  have r4 := NR.out.cell 4 rfl
  have r5 := NR.out.cell 5 rfl
  have r6 := NR.out.cell 6 rfl
  have r7 := NR.out.cell 7 rfl
  have r8 := NR.out.cell 8 rfl
  have r9 := NR.out.cell 9 rfl
  have s0 := NR.out.free 0
  have s1 := NR.out.free 1
  have s2 := NR.out.free 2
  have s3 := NR.out.free 3
  have s4 := NR.out.free 4
  have s5 := NR.out.free 5
  have s6 := NR.out.free 6
  have s7 := NR.out.free 7
  have s8 := NR.out.free 8
  have s9 := NR.out.free 9
  go_wp2_with fail
  refine bodyPost_ret (v := .tuple #[.agg #[.string t, .bool true, .bool false, .bool c3, .bool c4, .bool c5, .bool c6, .bool c7, .string c8, .slice fp c9.length fc], .bool false, .int .i64 0]) (by simp [results, go_sem, r0, r1, r2, r3, r4, r5, r6, r7, r8, r9]) rfl ?_
  exact ⟨rfl, ct_endB (Nat.le_succ _) (((BX.out.setCell (Nat.le_refl _) _).setCell (Nat.le_refl _) _).setCell (Nat.le_refl _) _) _ _ _ _ _ _ _ _ _ _⟩
set_option maxHeartbeats 4000000 in
set_option maxRecDepth 100000 in
theorem refWrite_m2 (k : Int) (C : Ct) (fv v : Value) (ax : List (ByteArray × ByteArray)) (w : World) (hf : FilesV w fv C.files) (hv : AttrsV w v ax) (_hz : AxOK ax) (s : ByteArray) (hs : s.size ≤ 100000) (hl : ¬ 4000 < s.size) (hm : modeV k = 2) :
    Calls Tryz.prog 17 #[.int .i64 k, ctV C fv, v, .string s] w fun e w' => e = .returned (.tuple #[ctV C fv, .bool true, .int .i64 0]) ∧ Below w.heap.size w w' := by
  have HM := hide (fun W => refMode_any k W)
  have HQ := hide (fun W => refPush_any k W)
  have l1 : ¬ (4000 : Int) < (s.size : Int) := by omega
  have l2 : decide ((4000 : Int) < (s.size : Int)) = false := decide_eq_false l1
  rw [hm] at HM
  clear HQ hm hl hs
  obtain ⟨p, c, rfl, _⟩ := hv
  obtain ⟨fp, fc, rfl, _⟩ := hf
  obtain ⟨c0, c1, c2, c3, c4, c5, c6, c7, c8, c9⟩ := C
  unfold ctV ctCells
  have B0 : Hid (Below w.heap.size w ((w.alloc (.cells #[.string c0, .bool c1, .bool c2, .bool c3, .bool c4, .bool c5, .bool c6, .bool c7, .string c8, .slice fp c9.length fc] 24)).alloc (.cells #[.string ⟨#[]⟩, .bool false, .bool false, .bool false, .bool false, .bool false, .bool false, .bool false, .string ⟨#[]⟩, .slice none 0 0] 24))) := ((Below.refl _ w).alloc (Nat.le_refl _) _).alloc ((Below.refl _ w).alloc (Nat.le_refl _) (.cells #[.string c0, .bool c1, .bool c2, .bool c3, .bool c4, .bool c5, .bool c6, .bool c7, .string c8, .slice fp c9.length fc] 24)).size _
  have NP := hide ((Bk.new w [.string c0, .bool c1, .bool c2, .bool c3, .bool c4, .bool c5, .bool c6, .bool c7, .string c8, .slice fp c9.length fc] 24).below ((Below.refl _ (w.alloc (.cells #[.string c0, .bool c1, .bool c2, .bool c3, .bool c4, .bool c5, .bool c6, .bool c7, .string c8, .slice fp c9.length fc] 24))).alloc (Nat.le_refl _) (.cells #[.string ⟨#[]⟩, .bool false, .bool false, .bool false, .bool false, .bool false, .bool false, .bool false, .string ⟨#[]⟩, .slice none 0 0] 24)))
  have NR0 := hide (Bk.new (w.alloc (.cells #[.string c0, .bool c1, .bool c2, .bool c3, .bool c4, .bool c5, .bool c6, .bool c7, .string c8, .slice fp c9.length fc] 24)) [.string ⟨#[]⟩, .bool false, .bool false, .bool false, .bool false, .bool false, .bool false, .bool false, .string ⟨#[]⟩, .slice none 0 0] 24)
  have NR : Hid (Bk ((w.alloc (.cells #[.string c0, .bool c1, .bool c2, .bool c3, .bool c4, .bool c5, .bool c6, .bool c7, .string c8, .slice fp c9.length fc] 24)).alloc (.cells #[.string ⟨#[]⟩, .bool false, .bool false, .bool false, .bool false, .bool false, .bool false, .bool false, .string ⟨#[]⟩, .slice none 0 0] 24)) (w.heap.size + 1) [.string ⟨#[]⟩, .bool false, .bool false, .bool false, .bool false, .bool false, .bool false, .bool false, .string ⟨#[]⟩, .slice none 0 0] 24) := by
    have e : (w.alloc (.cells #[.string c0, .bool c1, .bool c2, .bool c3, .bool c4, .bool c5, .bool c6, .bool c7, .string c8, .slice fp c9.length fc] 24)).heap.size = w.heap.size + 1 := by simp
    rw [e] at NR0; exact NR0
  clear NR0
  go_enter Tryz.func17, Tryz.ntmps17
  go_upto_region 1 with fail
  generalize (w.alloc (.cells #[.string c0, .bool c1, .bool c2, .bool c3, .bool c4, .bool c5, .bool c6, .bool c7, .string c8, .slice fp c9.length fc] 24)).alloc (.cells #[.string ⟨#[]⟩, .bool false, .bool false, .bool false, .bool false, .bool false, .bool false, .bool false, .string ⟨#[]⟩, .slice none 0 0] 24) = w0 at *
  go_wp2_with fail
  refine (HM.out _).mono ?_
  rintro e wm ⟨rfl, hwm⟩
  obtain rfl : w0 = wm := hwm.symm
  have p0 := NP.out.cell 0 rfl
  have p1 := NP.out.cell 1 rfl
  have p2 := NP.out.cell 2 rfl
  have p3 := NP.out.cell 3 rfl
  have p4 := NP.out.cell 4 rfl
  have p5 := NP.out.cell 5 rfl
  have p6 := NP.out.cell 6 rfl
  have p7 := NP.out.cell 7 rfl
  have p8 := NP.out.cell 8 rfl
  have p9 := NP.out.cell 9 rfl
  have q0 := NP.out.free 0
  have q1 := NP.out.free 1
  have q2 := NP.out.free 2
  have q3 := NP.out.free 3
  have q4 := NP.out.free 4
  have q5 := NP.out.free 5
  have q6 := NP.out.free 6
  have q7 := NP.out.free 7
  have q8 := NP.out.free 8
  have q9 := NP.out.free 9
  have r0 := NR.out.cell 0 rfl
  have r1 := NR.out.cell 1 rfl
  have r2 := NR.out.cell 2 rfl
  have r3 := NR.out.cell 3 rfl
  have r4 := NR.out.cell 4 rfl
  have r5 := NR.out.cell 5 rfl
  have r6 := NR.out.cell 6 rfl
  have r7 := NR.out.cell 7 rfl
  have r8 := NR.out.cell 8 rfl
  have r9 := NR.out.cell 9 rfl
  have s0 := NR.out.free 0
  have s1 := NR.out.free 1
  have s2 := NR.out.free 2
  have s3 := NR.out.free 3
  have s4 := NR.out.free 4
  have s5 := NR.out.free 5
  have s6 := NR.out.free 6
  have s7 := NR.out.free 7
  have s8 := NR.out.free 8
  have s9 := NR.out.free 9
  go_wp2_with fail
  refine bodyPost_ret (v := .tuple #[.agg #[.string c0, .bool c1, .bool c2, .bool c3, .bool c4, .bool c5, .bool c6, .bool c7, .string c8, .slice fp c9.length fc], .bool true, .int .i64 0]) (by simp [results, go_sem, r0, r1, r2, r3, r4, r5, r6, r7, r8, r9]) rfl ?_
  exact ⟨rfl, ct_endB (Nat.le_succ _) B0.out _ _ _ _ _ _ _ _ _ _⟩
set_option maxHeartbeats 4000000 in
set_option maxRecDepth 100000 in
theorem refWrite_m3 (k : Int) (C : Ct) (fv v : Value) (ax : List (ByteArray × ByteArray)) (w : World) (hf : FilesV w fv C.files) (hv : AttrsV w v ax) (_hz : AxOK ax) (s : ByteArray) (hs : s.size ≤ 100000) (hl : ¬ 4000 < s.size) (hm : modeV k = 3) :
    Calls Tryz.prog 17 #[.int .i64 k, ctV C fv, v, .string s] w fun e w' => e = .returned (.tuple #[ctV C fv, .bool true, .int .i64 0]) ∧ Below w.heap.size w w' := by
  have HM := hide (fun W => refMode_any k W)
  have HQ := hide (fun W => refPush_any k W)
  have l1 : ¬ (4000 : Int) < (s.size : Int) := by omega
  have l2 : decide ((4000 : Int) < (s.size : Int)) = false := decide_eq_false l1
  rw [hm] at HM
  clear HQ hm hl hs
  obtain ⟨p, c, rfl, _⟩ := hv
  obtain ⟨fp, fc, rfl, _⟩ := hf
  obtain ⟨c0, c1, c2, c3, c4, c5, c6, c7, c8, c9⟩ := C
  unfold ctV ctCells
  have B0 : Hid (Below w.heap.size w ((w.alloc (.cells #[.string c0, .bool c1, .bool c2, .bool c3, .bool c4, .bool c5, .bool c6, .bool c7, .string c8, .slice fp c9.length fc] 24)).alloc (.cells #[.string ⟨#[]⟩, .bool false, .bool false, .bool false, .bool false, .bool false, .bool false, .bool false, .string ⟨#[]⟩, .slice none 0 0] 24))) := ((Below.refl _ w).alloc (Nat.le_refl _) _).alloc ((Below.refl _ w).alloc (Nat.le_refl _) (.cells #[.string c0, .bool c1, .bool c2, .bool c3, .bool c4, .bool c5, .bool c6, .bool c7, .string c8, .slice fp c9.length fc] 24)).size _
  have NP := hide ((Bk.new w [.string c0, .bool c1, .bool c2, .bool c3, .bool c4, .bool c5, .bool c6, .bool c7, .string c8, .slice fp c9.length fc] 24).below ((Below.refl _ (w.alloc (.cells #[.string c0, .bool c1, .bool c2, .bool c3, .bool c4, .bool c5, .bool c6, .bool c7, .string c8, .slice fp c9.length fc] 24))).alloc (Nat.le_refl _) (.cells #[.string ⟨#[]⟩, .bool false, .bool false, .bool false, .bool false, .bool false, .bool false, .bool false, .string ⟨#[]⟩, .slice none 0 0] 24)))
  have NR0 := hide (Bk.new (w.alloc (.cells #[.string c0, .bool c1, .bool c2, .bool c3, .bool c4, .bool c5, .bool c6, .bool c7, .string c8, .slice fp c9.length fc] 24)) [.string ⟨#[]⟩, .bool false, .bool false, .bool false, .bool false, .bool false, .bool false, .bool false, .string ⟨#[]⟩, .slice none 0 0] 24)
  have NR : Hid (Bk ((w.alloc (.cells #[.string c0, .bool c1, .bool c2, .bool c3, .bool c4, .bool c5, .bool c6, .bool c7, .string c8, .slice fp c9.length fc] 24)).alloc (.cells #[.string ⟨#[]⟩, .bool false, .bool false, .bool false, .bool false, .bool false, .bool false, .bool false, .string ⟨#[]⟩, .slice none 0 0] 24)) (w.heap.size + 1) [.string ⟨#[]⟩, .bool false, .bool false, .bool false, .bool false, .bool false, .bool false, .bool false, .string ⟨#[]⟩, .slice none 0 0] 24) := by
    have e : (w.alloc (.cells #[.string c0, .bool c1, .bool c2, .bool c3, .bool c4, .bool c5, .bool c6, .bool c7, .string c8, .slice fp c9.length fc] 24)).heap.size = w.heap.size + 1 := by simp
    rw [e] at NR0; exact NR0
  clear NR0
  go_enter Tryz.func17, Tryz.ntmps17
  go_upto_region 1 with fail
  generalize (w.alloc (.cells #[.string c0, .bool c1, .bool c2, .bool c3, .bool c4, .bool c5, .bool c6, .bool c7, .string c8, .slice fp c9.length fc] 24)).alloc (.cells #[.string ⟨#[]⟩, .bool false, .bool false, .bool false, .bool false, .bool false, .bool false, .bool false, .string ⟨#[]⟩, .slice none 0 0] 24) = w0 at *
  go_wp2_with fail
  refine (HM.out _).mono ?_
  rintro e wm ⟨rfl, hwm⟩
  obtain rfl : w0 = wm := hwm.symm
  have p0 := NP.out.cell 0 rfl
  have p1 := NP.out.cell 1 rfl
  have p2 := NP.out.cell 2 rfl
  have p3 := NP.out.cell 3 rfl
  have p4 := NP.out.cell 4 rfl
  have p5 := NP.out.cell 5 rfl
  have p6 := NP.out.cell 6 rfl
  have p7 := NP.out.cell 7 rfl
  have p8 := NP.out.cell 8 rfl
  have p9 := NP.out.cell 9 rfl
  have q0 := NP.out.free 0
  have q1 := NP.out.free 1
  have q2 := NP.out.free 2
  have q3 := NP.out.free 3
  have q4 := NP.out.free 4
  have q5 := NP.out.free 5
  have q6 := NP.out.free 6
  have q7 := NP.out.free 7
  have q8 := NP.out.free 8
  have q9 := NP.out.free 9
  have r0 := NR.out.cell 0 rfl
  have r1 := NR.out.cell 1 rfl
  have r2 := NR.out.cell 2 rfl
  have r3 := NR.out.cell 3 rfl
  have r4 := NR.out.cell 4 rfl
  have r5 := NR.out.cell 5 rfl
  have r6 := NR.out.cell 6 rfl
  have r7 := NR.out.cell 7 rfl
  have r8 := NR.out.cell 8 rfl
  have r9 := NR.out.cell 9 rfl
  have s0 := NR.out.free 0
  have s1 := NR.out.free 1
  have s2 := NR.out.free 2
  have s3 := NR.out.free 3
  have s4 := NR.out.free 4
  have s5 := NR.out.free 5
  have s6 := NR.out.free 6
  have s7 := NR.out.free 7
  have s8 := NR.out.free 8
  have s9 := NR.out.free 9
  go_wp2_with fail
  refine bodyPost_ret (v := .tuple #[.agg #[.string c0, .bool c1, .bool c2, .bool c3, .bool c4, .bool c5, .bool c6, .bool c7, .string c8, .slice fp c9.length fc], .bool true, .int .i64 0]) (by simp [results, go_sem, r0, r1, r2, r3, r4, r5, r6, r7, r8, r9]) rfl ?_
  exact ⟨rfl, ct_endB (Nat.le_succ _) B0.out _ _ _ _ _ _ _ _ _ _⟩
set_option maxHeartbeats 4000000 in
set_option maxRecDepth 100000 in
theorem refWrite_push (k : Int) (C : Ct) (fv v : Value) (ax : List (ByteArray × ByteArray)) (w : World) (hf : FilesV w fv C.files) (hv : AttrsV w v ax) (_hz : AxOK ax) (s : ByteArray) (hs : s.size ≤ 100000) (hl : ¬ 4000 < s.size) (hm : modeV k = 0) (hq : isPush k = true) :
    Calls Tryz.prog 17 #[.int .i64 k, ctV C fv, v, .string s] w fun e w' => e = .returned (.tuple #[ctV C fv, .bool true, .int .i64 0]) ∧ Below w.heap.size w w' := by
  have HM := hide (fun W => refMode_any k W)
  have HQ := hide (fun W => refPush_any k W)
  have l1 : ¬ (4000 : Int) < (s.size : Int) := by omega
  have l2 : decide ((4000 : Int) < (s.size : Int)) = false := decide_eq_false l1
  rw [hm] at HM
  rw [hq] at HQ
  clear hq hm hl hs
  obtain ⟨p, c, rfl, _⟩ := hv
  obtain ⟨fp, fc, rfl, _⟩ := hf
  obtain ⟨c0, c1, c2, c3, c4, c5, c6, c7, c8, c9⟩ := C
  unfold ctV ctCells
  have B0 : Hid (Below w.heap.size w ((w.alloc (.cells #[.string c0, .bool c1, .bool c2, .bool c3, .bool c4, .bool c5, .bool c6, .bool c7, .string c8, .slice fp c9.length fc] 24)).alloc (.cells #[.string ⟨#[]⟩, .bool false, .bool false, .bool false, .bool false, .bool false, .bool false, .bool false, .string ⟨#[]⟩, .slice none 0 0] 24))) := ((Below.refl _ w).alloc (Nat.le_refl _) _).alloc ((Below.refl _ w).alloc (Nat.le_refl _) (.cells #[.string c0, .bool c1, .bool c2, .bool c3, .bool c4, .bool c5, .bool c6, .bool c7, .string c8, .slice fp c9.length fc] 24)).size _
  have NP := hide ((Bk.new w [.string c0, .bool c1, .bool c2, .bool c3, .bool c4, .bool c5, .bool c6, .bool c7, .string c8, .slice fp c9.length fc] 24).below ((Below.refl _ (w.alloc (.cells #[.string c0, .bool c1, .bool c2, .bool c3, .bool c4, .bool c5, .bool c6, .bool c7, .string c8, .slice fp c9.length fc] 24))).alloc (Nat.le_refl _) (.cells #[.string ⟨#[]⟩, .bool false, .bool false, .bool false, .bool false, .bool false, .bool false, .bool false, .string ⟨#[]⟩, .slice none 0 0] 24)))
  have NR0 := hide (Bk.new (w.alloc (.cells #[.string c0, .bool c1, .bool c2, .bool c3, .bool c4, .bool c5, .bool c6, .bool c7, .string c8, .slice fp c9.length fc] 24)) [.string ⟨#[]⟩, .bool false, .bool false, .bool false, .bool false, .bool false, .bool false, .bool false, .string ⟨#[]⟩, .slice none 0 0] 24)
  have NR : Hid (Bk ((w.alloc (.cells #[.string c0, .bool c1, .bool c2, .bool c3, .bool c4, .bool c5, .bool c6, .bool c7, .string c8, .slice fp c9.length fc] 24)).alloc (.cells #[.string ⟨#[]⟩, .bool false, .bool false, .bool false, .bool false, .bool false, .bool false, .bool false, .string ⟨#[]⟩, .slice none 0 0] 24)) (w.heap.size + 1) [.string ⟨#[]⟩, .bool false, .bool false, .bool false, .bool false, .bool false, .bool false, .bool false, .string ⟨#[]⟩, .slice none 0 0] 24) := by
    have e : (w.alloc (.cells #[.string c0, .bool c1, .bool c2, .bool c3, .bool c4, .bool c5, .bool c6, .bool c7, .string c8, .slice fp c9.length fc] 24)).heap.size = w.heap.size + 1 := by simp
    rw [e] at NR0; exact NR0
  clear NR0
  go_enter Tryz.func17, Tryz.ntmps17
  go_upto_region 1 with fail
  generalize (w.alloc (.cells #[.string c0, .bool c1, .bool c2, .bool c3, .bool c4, .bool c5, .bool c6, .bool c7, .string c8, .slice fp c9.length fc] 24)).alloc (.cells #[.string ⟨#[]⟩, .bool false, .bool false, .bool false, .bool false, .bool false, .bool false, .bool false, .string ⟨#[]⟩, .slice none 0 0] 24) = w0 at *
  go_wp2_with fail
  refine (HM.out _).mono ?_
  rintro e wm ⟨rfl, hwm⟩
  obtain rfl : w0 = wm := hwm.symm
  go_wp2_with fail
  refine (HQ.out _).mono ?_
  rintro e wq ⟨rfl, hwq⟩
  obtain rfl : w0 = wq := hwq.symm
  have p0 := NP.out.cell 0 rfl
  have p1 := NP.out.cell 1 rfl
  have p2 := NP.out.cell 2 rfl
  have p3 := NP.out.cell 3 rfl
  have p4 := NP.out.cell 4 rfl
  have p5 := NP.out.cell 5 rfl
  have p6 := NP.out.cell 6 rfl
  have p7 := NP.out.cell 7 rfl
  have p8 := NP.out.cell 8 rfl
  have p9 := NP.out.cell 9 rfl
  have q0 := NP.out.free 0
  have q1 := NP.out.free 1
  have q2 := NP.out.free 2
  have q3 := NP.out.free 3
  have q4 := NP.out.free 4
  have q5 := NP.out.free 5
  have q6 := NP.out.free 6
  have q7 := NP.out.free 7
  have q8 := NP.out.free 8
  have q9 := NP.out.free 9
  have r0 := NR.out.cell 0 rfl
  have r1 := NR.out.cell 1 rfl
  have r2 := NR.out.cell 2 rfl
  have r3 := NR.out.cell 3 rfl
  have r4 := NR.out.cell 4 rfl
  have r5 := NR.out.cell 5 rfl
  have r6 := NR.out.cell 6 rfl
  have r7 := NR.out.cell 7 rfl
  have r8 := NR.out.cell 8 rfl
  have r9 := NR.out.cell 9 rfl
  have s0 := NR.out.free 0
  have s1 := NR.out.free 1
  have s2 := NR.out.free 2
  have s3 := NR.out.free 3
  have s4 := NR.out.free 4
  have s5 := NR.out.free 5
  have s6 := NR.out.free 6
  have s7 := NR.out.free 7
  have s8 := NR.out.free 8
  have s9 := NR.out.free 9
  go_wp2_with fail
  refine bodyPost_ret (v := .tuple #[.agg #[.string c0, .bool c1, .bool c2, .bool c3, .bool c4, .bool c5, .bool c6, .bool c7, .string c8, .slice fp c9.length fc], .bool true, .int .i64 0]) (by simp [results, go_sem, r0, r1, r2, r3, r4, r5, r6, r7, r8, r9]) rfl ?_
  exact ⟨rfl, ct_endB (Nat.le_succ _) B0.out _ _ _ _ _ _ _ _ _ _⟩
set_option maxHeartbeats 4000000 in
set_option maxRecDepth 100000 in
theorem refWrite_m4y (k : Int) (C : Ct) (fv v : Value) (ax : List (ByteArray × ByteArray)) (w : World) (hf : FilesV w fv C.files) (hv : AttrsV w v ax) (_hz : AxOK ax) (s : ByteArray) (hs : s.size ≤ 100000) (hl : ¬ 4000 < s.size) (hm : modeV k = 4) (h0 : 0 < s.size) :
    Calls Tryz.prog 17 #[.int .i64 k, ctV C fv, v, .string s] w fun e w' => e = .returned (.tuple #[ctV ct0 (.slice none 0 0), .bool false, .int .i64 8]) ∧ Below w.heap.size w w' := by
  have HM := hide (fun W => refMode_any k W)
  have HQ := hide (fun W => refPush_any k W)
  have l1 : ¬ (4000 : Int) < (s.size : Int) := by omega
  have l2 : decide ((4000 : Int) < (s.size : Int)) = false := decide_eq_false l1
  have hq : isPush k = false := push_file hm
  have l3 : (0 : Int) < (s.size : Int) := by omega
  rw [hm] at HM
  rw [hq] at HQ
  clear hq hm hl hs
  obtain ⟨p, c, rfl, _⟩ := hv
  obtain ⟨fp, fc, rfl, _⟩ := hf
  obtain ⟨c0, c1, c2, c3, c4, c5, c6, c7, c8, c9⟩ := C
  unfold ctV ctCells
  have B0 : Hid (Below w.heap.size w ((w.alloc (.cells #[.string c0, .bool c1, .bool c2, .bool c3, .bool c4, .bool c5, .bool c6, .bool c7, .string c8, .slice fp c9.length fc] 24)).alloc (.cells #[.string ⟨#[]⟩, .bool false, .bool false, .bool false, .bool false, .bool false, .bool false, .bool false, .string ⟨#[]⟩, .slice none 0 0] 24))) := ((Below.refl _ w).alloc (Nat.le_refl _) _).alloc ((Below.refl _ w).alloc (Nat.le_refl _) (.cells #[.string c0, .bool c1, .bool c2, .bool c3, .bool c4, .bool c5, .bool c6, .bool c7, .string c8, .slice fp c9.length fc] 24)).size _
  have NP := hide ((Bk.new w [.string c0, .bool c1, .bool c2, .bool c3, .bool c4, .bool c5, .bool c6, .bool c7, .string c8, .slice fp c9.length fc] 24).below ((Below.refl _ (w.alloc (.cells #[.string c0, .bool c1, .bool c2, .bool c3, .bool c4, .bool c5, .bool c6, .bool c7, .string c8, .slice fp c9.length fc] 24))).alloc (Nat.le_refl _) (.cells #[.string ⟨#[]⟩, .bool false, .bool false, .bool false, .bool false, .bool false, .bool false, .bool false, .string ⟨#[]⟩, .slice none 0 0] 24)))
  have NR0 := hide (Bk.new (w.alloc (.cells #[.string c0, .bool c1, .bool c2, .bool c3, .bool c4, .bool c5, .bool c6, .bool c7, .string c8, .slice fp c9.length fc] 24)) [.string ⟨#[]⟩, .bool false, .bool false, .bool false, .bool false, .bool false, .bool false, .bool false, .string ⟨#[]⟩, .slice none 0 0] 24)
  have NR : Hid (Bk ((w.alloc (.cells #[.string c0, .bool c1, .bool c2, .bool c3, .bool c4, .bool c5, .bool c6, .bool c7, .string c8, .slice fp c9.length fc] 24)).alloc (.cells #[.string ⟨#[]⟩, .bool false, .bool false, .bool false, .bool false, .bool false, .bool false, .bool false, .string ⟨#[]⟩, .slice none 0 0] 24)) (w.heap.size + 1) [.string ⟨#[]⟩, .bool false, .bool false, .bool false, .bool false, .bool false, .bool false, .bool false, .string ⟨#[]⟩, .slice none 0 0] 24) := by
    have e : (w.alloc (.cells #[.string c0, .bool c1, .bool c2, .bool c3, .bool c4, .bool c5, .bool c6, .bool c7, .string c8, .slice fp c9.length fc] 24)).heap.size = w.heap.size + 1 := by simp
    rw [e] at NR0; exact NR0
  clear NR0
  go_enter Tryz.func17, Tryz.ntmps17
  go_upto_region 1 with fail
  generalize (w.alloc (.cells #[.string c0, .bool c1, .bool c2, .bool c3, .bool c4, .bool c5, .bool c6, .bool c7, .string c8, .slice fp c9.length fc] 24)).alloc (.cells #[.string ⟨#[]⟩, .bool false, .bool false, .bool false, .bool false, .bool false, .bool false, .bool false, .string ⟨#[]⟩, .slice none 0 0] 24) = w0 at *
  go_wp2_with fail
  refine (HM.out _).mono ?_
  rintro e wm ⟨rfl, hwm⟩
  obtain rfl : w0 = wm := hwm.symm
  go_wp2_with fail
  refine (HQ.out _).mono ?_
  rintro e wq ⟨rfl, hwq⟩
  obtain rfl : w0 = wq := hwq.symm
  have p0 := NP.out.cell 0 rfl
  have p1 := NP.out.cell 1 rfl
  have p2 := NP.out.cell 2 rfl
  have p3 := NP.out.cell 3 rfl
  have p4 := NP.out.cell 4 rfl
  have p5 := NP.out.cell 5 rfl
  have p6 := NP.out.cell 6 rfl
  have p7 := NP.out.cell 7 rfl
  have p8 := NP.out.cell 8 rfl
  have p9 := NP.out.cell 9 rfl
  have q0 := NP.out.free 0
  have q1 := NP.out.free 1
  have q2 := NP.out.free 2
  have q3 := NP.out.free 3
  have q4 := NP.out.free 4
  have q5 := NP.out.free 5
  have q6 := NP.out.free 6
  have q7 := NP.out.free 7
  have q8 := NP.out.free 8
  have q9 := NP.out.free 9
  have r0 := NR.out.cell 0 rfl
  have r1 := NR.out.cell 1 rfl
  have r2 := NR.out.cell 2 rfl
  have r3 := NR.out.cell 3 rfl
  have r4 := NR.out.cell 4 rfl
  have r5 := NR.out.cell 5 rfl
  have r6 := NR.out.cell 6 rfl
  have r7 := NR.out.cell 7 rfl
  have r8 := NR.out.cell 8 rfl
  have r9 := NR.out.cell 9 rfl
  have s0 := NR.out.free 0
  have s1 := NR.out.free 1
  have s2 := NR.out.free 2
  have s3 := NR.out.free 3
  have s4 := NR.out.free 4
  have s5 := NR.out.free 5
  have s6 := NR.out.free 6
  have s7 := NR.out.free 7
  have s8 := NR.out.free 8
  have s9 := NR.out.free 9
  go_wp2_with fail
  refine bodyPost_ret (v := .tuple #[.agg #[.string ⟨#[]⟩, .bool false, .bool false, .bool false, .bool false, .bool false, .bool false, .bool false, .string ⟨#[]⟩, .slice none 0 0], .bool false, .int .i64 8]) (by simp [results, go_sem, r0, r1, r2, r3, r4, r5, r6, r7, r8, r9]) rfl ?_
  exact ⟨rfl, ct_endB (Nat.le_succ _) B0.out _ _ _ _ _ _ _ _ _ _⟩
set_option maxHeartbeats 4000000 in
set_option maxRecDepth 100000 in
theorem refWrite_m4n (k : Int) (C : Ct) (fv v : Value) (ax : List (ByteArray × ByteArray)) (w : World) (hf : FilesV w fv C.files) (hv : AttrsV w v ax) (_hz : AxOK ax) (s : ByteArray) (hs : s.size ≤ 100000) (hl : ¬ 4000 < s.size) (hm : modeV k = 4) (h0 : ¬ 0 < s.size) :
    Calls Tryz.prog 17 #[.int .i64 k, ctV C fv, v, .string s] w fun e w' => e = .returned (.tuple #[ctV { C with files := [] } (.slice none 0 0), .bool false, .int .i64 0]) ∧ Below w.heap.size w w' := by
  have HM := hide (fun W => refMode_any k W)
  have HQ := hide (fun W => refPush_any k W)
  have l1 : ¬ (4000 : Int) < (s.size : Int) := by omega
  have l2 : decide ((4000 : Int) < (s.size : Int)) = false := decide_eq_false l1
  have hq : isPush k = false := push_file hm
  have l3 : ¬ (0 : Int) < (s.size : Int) := by omega
  have l4 : decide ((0 : Int) < (s.size : Int)) = false := decide_eq_false l3
  rw [hm] at HM
  rw [hq] at HQ
  clear hq hm hl hs
  obtain ⟨p, c, rfl, _⟩ := hv
  obtain ⟨fp, fc, rfl, _⟩ := hf
  obtain ⟨c0, c1, c2, c3, c4, c5, c6, c7, c8, c9⟩ := C
  unfold ctV ctCells
  have B0 : Hid (Below w.heap.size w ((w.alloc (.cells #[.string c0, .bool c1, .bool c2, .bool c3, .bool c4, .bool c5, .bool c6, .bool c7, .string c8, .slice fp c9.length fc] 24)).alloc (.cells #[.string ⟨#[]⟩, .bool false, .bool false, .bool false, .bool false, .bool false, .bool false, .bool false, .string ⟨#[]⟩, .slice none 0 0] 24))) := ((Below.refl _ w).alloc (Nat.le_refl _) _).alloc ((Below.refl _ w).alloc (Nat.le_refl _) (.cells #[.string c0, .bool c1, .bool c2, .bool c3, .bool c4, .bool c5, .bool c6, .bool c7, .string c8, .slice fp c9.length fc] 24)).size _
  have NP := hide ((Bk.new w [.string c0, .bool c1, .bool c2, .bool c3, .bool c4, .bool c5, .bool c6, .bool c7, .string c8, .slice fp c9.length fc] 24).below ((Below.refl _ (w.alloc (.cells #[.string c0, .bool c1, .bool c2, .bool c3, .bool c4, .bool c5, .bool c6, .bool c7, .string c8, .slice fp c9.length fc] 24))).alloc (Nat.le_refl _) (.cells #[.string ⟨#[]⟩, .bool false, .bool false, .bool false, .bool false, .bool false, .bool false, .bool false, .string ⟨#[]⟩, .slice none 0 0] 24)))
  have NR0 := hide (Bk.new (w.alloc (.cells #[.string c0, .bool c1, .bool c2, .bool c3, .bool c4, .bool c5, .bool c6, .bool c7, .string c8, .slice fp c9.length fc] 24)) [.string ⟨#[]⟩, .bool false, .bool false, .bool false, .bool false, .bool false, .bool false, .bool false, .string ⟨#[]⟩, .slice none 0 0] 24)
  have NR : Hid (Bk ((w.alloc (.cells #[.string c0, .bool c1, .bool c2, .bool c3, .bool c4, .bool c5, .bool c6, .bool c7, .string c8, .slice fp c9.length fc] 24)).alloc (.cells #[.string ⟨#[]⟩, .bool false, .bool false, .bool false, .bool false, .bool false, .bool false, .bool false, .string ⟨#[]⟩, .slice none 0 0] 24)) (w.heap.size + 1) [.string ⟨#[]⟩, .bool false, .bool false, .bool false, .bool false, .bool false, .bool false, .bool false, .string ⟨#[]⟩, .slice none 0 0] 24) := by
    have e : (w.alloc (.cells #[.string c0, .bool c1, .bool c2, .bool c3, .bool c4, .bool c5, .bool c6, .bool c7, .string c8, .slice fp c9.length fc] 24)).heap.size = w.heap.size + 1 := by simp
    rw [e] at NR0; exact NR0
  clear NR0
  go_enter Tryz.func17, Tryz.ntmps17
  go_upto_region 1 with fail
  generalize (w.alloc (.cells #[.string c0, .bool c1, .bool c2, .bool c3, .bool c4, .bool c5, .bool c6, .bool c7, .string c8, .slice fp c9.length fc] 24)).alloc (.cells #[.string ⟨#[]⟩, .bool false, .bool false, .bool false, .bool false, .bool false, .bool false, .bool false, .string ⟨#[]⟩, .slice none 0 0] 24) = w0 at *
  go_wp2_with fail
  refine (HM.out _).mono ?_
  rintro e wm ⟨rfl, hwm⟩
  obtain rfl : w0 = wm := hwm.symm
  go_wp2_with fail
  refine (HQ.out _).mono ?_
  rintro e wq ⟨rfl, hwq⟩
  obtain rfl : w0 = wq := hwq.symm
  have p0 := NP.out.cell 0 rfl
  have p1 := NP.out.cell 1 rfl
  have p2 := NP.out.cell 2 rfl
  have p3 := NP.out.cell 3 rfl
  have p4 := NP.out.cell 4 rfl
  have p5 := NP.out.cell 5 rfl
  have p6 := NP.out.cell 6 rfl
  have p7 := NP.out.cell 7 rfl
  have p8 := NP.out.cell 8 rfl
  have p9 := NP.out.cell 9 rfl
  have q0 := NP.out.free 0
  have q1 := NP.out.free 1
  have q2 := NP.out.free 2
  have q3 := NP.out.free 3
  have q4 := NP.out.free 4
  have q5 := NP.out.free 5
  have q6 := NP.out.free 6
  have q7 := NP.out.free 7
  have q8 := NP.out.free 8
  have q9 := NP.out.free 9
  have r0 := NR.out.cell 0 rfl
  have r1 := NR.out.cell 1 rfl
  have r2 := NR.out.cell 2 rfl
  have r3 := NR.out.cell 3 rfl
  have r4 := NR.out.cell 4 rfl
  have r5 := NR.out.cell 5 rfl
  have r6 := NR.out.cell 6 rfl
  have r7 := NR.out.cell 7 rfl
  have r8 := NR.out.cell 8 rfl
  have r9 := NR.out.cell 9 rfl
  have s0 := NR.out.free 0
  have s1 := NR.out.free 1
  have s2 := NR.out.free 2
  have s3 := NR.out.free 3
  have s4 := NR.out.free 4
  have s5 := NR.out.free 5
  have s6 := NR.out.free 6
  have s7 := NR.out.free 7
  have s8 := NR.out.free 8
  have s9 := NR.out.free 9
  go_wp2_with fail
  refine bodyPost_ret (v := .tuple #[.agg #[.string c0, .bool c1, .bool c2, .bool c3, .bool c4, .bool c5, .bool c6, .bool c7, .string c8, .slice none 0 0], .bool false, .int .i64 0]) (by simp [results, go_sem, r0, r1, r2, r3, r4, r5, r6, r7, r8, r9]) rfl ?_
  exact ⟨rfl, ct_endB (Nat.le_succ _) (B0.out.setCell (Nat.le_refl _) _) _ _ _ _ _ _ _ _ _ _⟩
set_option maxHeartbeats 4000000 in
set_option maxRecDepth 100000 in
theorem refWrite_else (k : Int) (C : Ct) (fv v : Value) (ax : List (ByteArray × ByteArray)) (w : World) (hf : FilesV w fv C.files) (hv : AttrsV w v ax) (_hz : AxOK ax) (s : ByteArray) (hs : s.size ≤ 100000) (hl : ¬ 4000 < s.size) (hm : modeV k = 0) (hq : isPush k = false) :
    Calls Tryz.prog 17 #[.int .i64 k, ctV C fv, v, .string s] w fun e w' => e = .returned (.tuple #[ctV ct0 (.slice none 0 0), .bool false, .int .i64 3]) ∧ Below w.heap.size w w' := by
  have HM := hide (fun W => refMode_any k W)
  have HQ := hide (fun W => refPush_any k W)
  have l1 : ¬ (4000 : Int) < (s.size : Int) := by omega
  have l2 : decide ((4000 : Int) < (s.size : Int)) = false := decide_eq_false l1
  rw [hm] at HM
  rw [hq] at HQ
  clear hq hm hl hs
  obtain ⟨p, c, rfl, _⟩ := hv
  obtain ⟨fp, fc, rfl, _⟩ := hf
  obtain ⟨c0, c1, c2, c3, c4, c5, c6, c7, c8, c9⟩ := C
  unfold ctV ctCells
  have B0 : Hid (Below w.heap.size w ((w.alloc (.cells #[.string c0, .bool c1, .bool c2, .bool c3, .bool c4, .bool c5, .bool c6, .bool c7, .string c8, .slice fp c9.length fc] 24)).alloc (.cells #[.string ⟨#[]⟩, .bool false, .bool false, .bool false, .bool false, .bool false, .bool false, .bool false, .string ⟨#[]⟩, .slice none 0 0] 24))) := ((Below.refl _ w).alloc (Nat.le_refl _) _).alloc ((Below.refl _ w).alloc (Nat.le_refl _) (.cells #[.string c0, .bool c1, .bool c2, .bool c3, .bool c4, .bool c5, .bool c6, .bool c7, .string c8, .slice fp c9.length fc] 24)).size _
  have NP := hide ((Bk.new w [.string c0, .bool c1, .bool c2, .bool c3, .bool c4, .bool c5, .bool c6, .bool c7, .string c8, .slice fp c9.length fc] 24).below ((Below.refl _ (w.alloc (.cells #[.string c0, .bool c1, .bool c2, .bool c3, .bool c4, .bool c5, .bool c6, .bool c7, .string c8, .slice fp c9.length fc] 24))).alloc (Nat.le_refl _) (.cells #[.string ⟨#[]⟩, .bool false, .bool false, .bool false, .bool false, .bool false, .bool false, .bool false, .string ⟨#[]⟩, .slice none 0 0] 24)))
  have NR0 := hide (Bk.new (w.alloc (.cells #[.string c0, .bool c1, .bool c2, .bool c3, .bool c4, .bool c5, .bool c6, .bool c7, .string c8, .slice fp c9.length fc] 24)) [.string ⟨#[]⟩, .bool false, .bool false, .bool false, .bool false, .bool false, .bool false, .bool false, .string ⟨#[]⟩, .slice none 0 0] 24)
  have NR : Hid (Bk ((w.alloc (.cells #[.string c0, .bool c1, .bool c2, .bool c3, .bool c4, .bool c5, .bool c6, .bool c7, .string c8, .slice fp c9.length fc] 24)).alloc (.cells #[.string ⟨#[]⟩, .bool false, .bool false, .bool false, .bool false, .bool false, .bool false, .bool false, .string ⟨#[]⟩, .slice none 0 0] 24)) (w.heap.size + 1) [.string ⟨#[]⟩, .bool false, .bool false, .bool false, .bool false, .bool false, .bool false, .bool false, .string ⟨#[]⟩, .slice none 0 0] 24) := by
    have e : (w.alloc (.cells #[.string c0, .bool c1, .bool c2, .bool c3, .bool c4, .bool c5, .bool c6, .bool c7, .string c8, .slice fp c9.length fc] 24)).heap.size = w.heap.size + 1 := by simp
    rw [e] at NR0; exact NR0
  clear NR0
  go_enter Tryz.func17, Tryz.ntmps17
  go_upto_region 1 with fail
  generalize (w.alloc (.cells #[.string c0, .bool c1, .bool c2, .bool c3, .bool c4, .bool c5, .bool c6, .bool c7, .string c8, .slice fp c9.length fc] 24)).alloc (.cells #[.string ⟨#[]⟩, .bool false, .bool false, .bool false, .bool false, .bool false, .bool false, .bool false, .string ⟨#[]⟩, .slice none 0 0] 24) = w0 at *
  go_wp2_with fail
  refine (HM.out _).mono ?_
  rintro e wm ⟨rfl, hwm⟩
  obtain rfl : w0 = wm := hwm.symm
  go_wp2_with fail
  refine (HQ.out _).mono ?_
  rintro e wq ⟨rfl, hwq⟩
  obtain rfl : w0 = wq := hwq.symm
  have p0 := NP.out.cell 0 rfl
  have p1 := NP.out.cell 1 rfl
  have p2 := NP.out.cell 2 rfl
  have p3 := NP.out.cell 3 rfl
  have p4 := NP.out.cell 4 rfl
  have p5 := NP.out.cell 5 rfl
  have p6 := NP.out.cell 6 rfl
  have p7 := NP.out.cell 7 rfl
  have p8 := NP.out.cell 8 rfl
  have p9 := NP.out.cell 9 rfl
  have q0 := NP.out.free 0
  have q1 := NP.out.free 1
  have q2 := NP.out.free 2
  have q3 := NP.out.free 3
  have q4 := NP.out.free 4
  have q5 := NP.out.free 5
  have q6 := NP.out.free 6
  have q7 := NP.out.free 7
  have q8 := NP.out.free 8
  have q9 := NP.out.free 9
  have r0 := NR.out.cell 0 rfl
  have r1 := NR.out.cell 1 rfl
  have r2 := NR.out.cell 2 rfl
  have r3 := NR.out.cell 3 rfl
  have r4 := NR.out.cell 4 rfl
  have r5 := NR.out.cell 5 rfl
  have r6 := NR.out.cell 6 rfl
  have r7 := NR.out.cell 7 rfl
  have r8 := NR.out.cell 8 rfl
  have r9 := NR.out.cell 9 rfl
  have s0 := NR.out.free 0
  have s1 := NR.out.free 1
  have s2 := NR.out.free 2
  have s3 := NR.out.free 3
  have s4 := NR.out.free 4
  have s5 := NR.out.free 5
  have s6 := NR.out.free 6
  have s7 := NR.out.free 7
  have s8 := NR.out.free 8
  have s9 := NR.out.free 9
  go_wp2_with fail
  refine bodyPost_ret (v := .tuple #[.agg #[.string ⟨#[]⟩, .bool false, .bool false, .bool false, .bool false, .bool false, .bool false, .bool false, .string ⟨#[]⟩, .slice none 0 0], .bool false, .int .i64 3]) (by simp [results, go_sem, r0, r1, r2, r3, r4, r5, r6, r7, r8, r9]) rfl ?_
  exact ⟨rfl, ct_endB (Nat.le_succ _) B0.out _ _ _ _ _ _ _ _ _ _⟩
/-- A call that answers a control's state and more. -/
theorem refWrite_any (k : Int) (C : Ct) (fv v : Value) (ax : List (ByteArray × ByteArray)) (w : World) (hf : FilesV w fv C.files) (hv : AttrsV w v ax) (hz : AxOK ax) (s : ByteArray) (hs : s.size ≤ 100000) (t : ByteArray) (ht : ClnIs k ax s t) :
    Calls Tryz.prog 17 #[.int .i64 k, ctV C fv, v, .string s] w fun e w' => ∃ fv', e = .returned (.tuple #[ctV (writeP k C s t).1 fv', .bool (writeP k C s t).2.1, .int .i64 (writeP k C s t).2.2]) ∧ FilesV w' fv' (writeP k C s t).1.files ∧ Below w.heap.size w w' := by
  have n0 : ∀ w', FilesV w' (.slice none 0 0) ct0.files := fun w' => files_nil w'
  unfold writeP
  by_cases hl : 4000 < s.size
  · rw [if_pos hl]
    exact (refWrite_long k C fv v ax w hf hv hz s hs hl).mono fun e w' ⟨h, b⟩ => ⟨_, h, n0 _, b⟩
  · rw [if_neg hl]
    by_cases h1 : modeV k = 1
    · rw [if_pos h1]
      exact (refWrite_m1 k C fv v ax w hf hv hz s hs hl h1 t ht).mono fun e w' ⟨h, b⟩ => ⟨_, h, hf.below b, b⟩
    · rw [if_neg h1]
      by_cases h2 : modeV k = 2 ∨ modeV k = 3 ∨ isPush k = true
      · rw [if_pos h2]
        by_cases q2 : modeV k = 2
        · exact (refWrite_m2 k C fv v ax w hf hv hz s hs hl q2).mono fun e w' ⟨h, b⟩ => ⟨_, h, hf.below b, b⟩
        · by_cases q3 : modeV k = 3
          · exact (refWrite_m3 k C fv v ax w hf hv hz s hs hl q3).mono fun e w' ⟨h, b⟩ => ⟨_, h, hf.below b, b⟩
          · have hp : isPush k = true := by
              rcases h2 with q | q | q
              · exact absurd q q2
              · exact absurd q q3
              · exact q
            have m0 : modeV k = 0 := by
              rcases mode_cases k with q | q | q | q | q
              · exact q
              · exact absurd q h1
              · exact absurd q q2
              · exact absurd q q3
              · rw [push_file q] at hp; cases hp
            exact (refWrite_push k C fv v ax w hf hv hz s hs hl m0 hp).mono fun e w' ⟨h, b⟩ => ⟨_, h, hf.below b, b⟩
      · rw [if_neg h2]
        by_cases h4 : modeV k = 4
        · rw [if_pos h4]
          by_cases h0 : 0 < s.size
          · rw [if_pos h0]
            exact (refWrite_m4y k C fv v ax w hf hv hz s hs hl h4 h0).mono fun e w' ⟨h, b⟩ => ⟨_, h, n0 _, b⟩
          · rw [if_neg h0]
            exact (refWrite_m4n k C fv v ax w hf hv hz s hs hl h4 h0).mono fun e w' ⟨h, b⟩ => ⟨_, h, files_nil _, b⟩
        · rw [if_neg h4]
          have m0 : modeV k = 0 := by
            rcases mode_cases k with q | q | q | q | q
            · exact q
            · exact absurd q h1
            · exact absurd (.inl q) h2
            · exact absurd (.inr (.inl q)) h2
            · exact absurd q h4
          have hp : isPush k = false := by
            cases q : isPush k with
            | false => rfl
            | true => exact absurd (.inr (.inr q)) h2
          exact (refWrite_else k C fv v ax w hf hv hz s hs hl m0 hp).mono fun e w' ⟨h, b⟩ => ⟨_, h, n0 _, b⟩
end Go.Proofs.YtfjfkkbgkjmghaaGreatDoor

namespace Go.Proofs.YtfjfkkbgkjmghaaGreatDoor
open Go.RowKit
theorem write_files (k : Int) (C : Ct) (s t : ByteArray) : (writeP k C s t).1.files = C.files ∨ (writeP k C s t).1.files = [] := by
  unfold writeP
  (repeat' split) <;> first | exact .inl rfl | exact .inr rfl
set_option maxHeartbeats 4000000 in
set_option maxRecDepth 100000 in
theorem controlWrites_walk (k : Int) (C : Ct) (fv v : Value) (ax : List (ByteArray × ByteArray)) (w : World) (hf : FilesV w fv C.files) (hF : FsOK C.files) (hcu : C.custom.size ≤ 140737488355328) (hv : AttrsV w v ax) (hl : ax.length ≤ 4398046511104) (s : ByteArray) (hT : CtTabs w) :
    Calls Tryz.prog 4 #[itV k C fv v, .string s] w fun e w' => e = .returned (.bool true) ∧ Below w.heap.size w w' := by
  have HW := hide (fun W (hb : Below w.heap.size w W) => ctWakes_any W (hT.below hb))
  have HG := hide (fun W (hb : Below w.heap.size w W) => ctLong_any k C fv v ax s W (hf.below hb) (hv.below hb) hl)
  have HT := hide hT
  have HV := hide hv
  have HFV := hide hf
  clear hT
  cases q : longI C ax s with
  | true =>
    rw [q] at HG
    clear q HV HFV HT hF hcu
    obtain ⟨p, c, rfl, _⟩ := hv
    obtain ⟨fp, fc, rfl, _⟩ := hf
    obtain ⟨c0, c1, c2, c3, c4, c5, c6, c7, c8, c9⟩ := C
    unfold itV
    have B0 : Hid (Below w.heap.size w (w.alloc (.cells #[.int .i64 k, .string c0, .bool c1, .bool c2, .bool c3, .bool c4, .bool c5, .bool c6, .bool c7, .string c8, .slice fp c9.length fc, .slice p ax.length c] 27))) := (Below.refl _ w).alloc (Nat.le_refl _) _
    have NX := hide (Bk.new w [.int .i64 k, .string c0, .bool c1, .bool c2, .bool c3, .bool c4, .bool c5, .bool c6, .bool c7, .string c8, .slice fp c9.length fc, .slice p ax.length c] 27)
    unfold itV at HG
    go_enter Tryz.func4, Tryz.ntmps4
    go_upto_region 1 with fail
    generalize w.alloc (.cells #[.int .i64 k, .string c0, .bool c1, .bool c2, .bool c3, .bool c4, .bool c5, .bool c6, .bool c7, .string c8, .slice fp c9.length fc, .slice p ax.length c] 27) = w0 at *
    have x0 := NX.out.cell 0 rfl
    have x1 := NX.out.cell 1 rfl
    have x2 := NX.out.cell 2 rfl
    have x3 := NX.out.cell 3 rfl
    have x4 := NX.out.cell 4 rfl
    have x5 := NX.out.cell 5 rfl
    have x6 := NX.out.cell 6 rfl
    have x7 := NX.out.cell 7 rfl
    have x8 := NX.out.cell 8 rfl
    have x9 := NX.out.cell 9 rfl
    have x10 := NX.out.cell 10 rfl
    have x11 := NX.out.cell 11 rfl
    go_wp2_with fail
    refine (HW.out _ B0.out).mono ?_
    rintro e w1 ⟨rfl, b1⟩
    have B1 := hide (chain B0.out b1)
    replace NX := hide (NX.out.below b1)
    clear x0 x1 x2 x3 x4 x5 x6 x7 x8 x9 x10 x11
    have x0 := NX.out.cell 0 rfl
    have x1 := NX.out.cell 1 rfl
    have x2 := NX.out.cell 2 rfl
    have x3 := NX.out.cell 3 rfl
    have x4 := NX.out.cell 4 rfl
    have x5 := NX.out.cell 5 rfl
    have x6 := NX.out.cell 6 rfl
    have x7 := NX.out.cell 7 rfl
    have x8 := NX.out.cell 8 rfl
    have x9 := NX.out.cell 9 rfl
    have x10 := NX.out.cell 10 rfl
    have x11 := NX.out.cell 11 rfl
    go_wp2_with fail
    refine (HG.out _ B1.out).mono ?_
    rintro e w2 ⟨rfl, b2⟩
    go_wp2_with fail
    go_ret
    exact ⟨rfl, chain B1.out b2⟩
  | false =>
    rw [q] at HG
    have S := longI_no q
    have CO : CtOK C := ⟨hF, hcu, Nat.le_trans S.val (by decide)⟩
    clear q
    obtain ⟨t, ht⟩ := cln_some k ax s
    have H1 := hide (fun W (hb : Below w.heap.size w W) => ctWrite_any k C fv v ax W (HFV.out.below hb) (HV.out.below hb) S.ax s (Nat.le_trans S.s (by decide)) t ht CO (HT.out.below hb))
    have H2 := hide (fun W (hb : Below w.heap.size w W) => refWrite_any k C fv v ax W (HFV.out.below hb) (HV.out.below hb) S.ax s (Nat.le_trans S.s (by decide)) t ht)
    have few := few_of hF (write_files k C s t)
    generalize writeP k C s t = WP at *
    obtain ⟨SP, wb, wz⟩ := WP
    have H5 := hide (fun W va vb (ha : CtlV W va SP) (hb : CtlV W vb SP) => refCtSame_yes va vb SP W ha hb few)
    clear S ht hF hcu CO HT HV HFV
    obtain ⟨p, c, rfl, _⟩ := hv
    obtain ⟨fp, fc, rfl, _⟩ := hf
    obtain ⟨c0, c1, c2, c3, c4, c5, c6, c7, c8, c9⟩ := C
    unfold itV
    have B0 : Hid (Below w.heap.size w (w.alloc (.cells #[.int .i64 k, .string c0, .bool c1, .bool c2, .bool c3, .bool c4, .bool c5, .bool c6, .bool c7, .string c8, .slice fp c9.length fc, .slice p ax.length c] 27))) := (Below.refl _ w).alloc (Nat.le_refl _) _
    have NX := hide (Bk.new w [.int .i64 k, .string c0, .bool c1, .bool c2, .bool c3, .bool c4, .bool c5, .bool c6, .bool c7, .string c8, .slice fp c9.length fc, .slice p ax.length c] 27)
    unfold itV at HG
    go_enter Tryz.func4, Tryz.ntmps4
    go_upto_region 1 with fail
    generalize w.alloc (.cells #[.int .i64 k, .string c0, .bool c1, .bool c2, .bool c3, .bool c4, .bool c5, .bool c6, .bool c7, .string c8, .slice fp c9.length fc, .slice p ax.length c] 27) = w0 at *
    have x0 := NX.out.cell 0 rfl
    have x1 := NX.out.cell 1 rfl
    have x2 := NX.out.cell 2 rfl
    have x3 := NX.out.cell 3 rfl
    have x4 := NX.out.cell 4 rfl
    have x5 := NX.out.cell 5 rfl
    have x6 := NX.out.cell 6 rfl
    have x7 := NX.out.cell 7 rfl
    have x8 := NX.out.cell 8 rfl
    have x9 := NX.out.cell 9 rfl
    have x10 := NX.out.cell 10 rfl
    have x11 := NX.out.cell 11 rfl
    go_wp2_with fail
    refine (HW.out _ B0.out).mono ?_
    rintro e w1 ⟨rfl, b1⟩
    have B1 := hide (chain B0.out b1)
    replace NX := hide (NX.out.below b1)
    clear x0 x1 x2 x3 x4 x5 x6 x7 x8 x9 x10 x11 b1 B0
    have x0 := NX.out.cell 0 rfl
    have x1 := NX.out.cell 1 rfl
    have x2 := NX.out.cell 2 rfl
    have x3 := NX.out.cell 3 rfl
    have x4 := NX.out.cell 4 rfl
    have x5 := NX.out.cell 5 rfl
    have x6 := NX.out.cell 6 rfl
    have x7 := NX.out.cell 7 rfl
    have x8 := NX.out.cell 8 rfl
    have x9 := NX.out.cell 9 rfl
    have x10 := NX.out.cell 10 rfl
    have x11 := NX.out.cell 11 rfl
    go_wp2_with fail
    refine (HG.out _ B1.out).mono ?_
    rintro e w2 ⟨rfl, b2⟩
    have B2 := hide (chain B1.out b2)
    replace NX := hide (NX.out.below b2)
    clear x0 x1 x2 x3 x4 x5 x6 x7 x8 x9 x10 x11 b2 B1 HW HG
    have x0 := NX.out.cell 0 rfl
    have x1 := NX.out.cell 1 rfl
    have x2 := NX.out.cell 2 rfl
    have x3 := NX.out.cell 3 rfl
    have x4 := NX.out.cell 4 rfl
    have x5 := NX.out.cell 5 rfl
    have x6 := NX.out.cell 6 rfl
    have x7 := NX.out.cell 7 rfl
    have x8 := NX.out.cell 8 rfl
    have x9 := NX.out.cell 9 rfl
    have x10 := NX.out.cell 10 rfl
    have x11 := NX.out.cell 11 rfl
    obtain ⟨s0, s1, s2, s3, s4, s5, s6, s7, s8, s9⟩ := SP
    unfold ctV ctCells at H1 H2
    go_wp2_with fail
    refine (H1.out _ B2.out).mono ?_
    rintro e w3 ⟨f3, rfl, g3, b3⟩
    have G3 := hide g3
    obtain ⟨p3, d3, rfl, _⟩ := g3
    have B3 := hide (chain B2.out b3)
    have NX3 := hide (NX.out.below b3)
    have lt3 : w.heap.size < w3.heap.size := NX3.out.lt
    have ne3 : w.heap.size ≠ w3.heap.size := by omega
    clear NX B2 b3
    clear x0 x1 x2 x3 x4 x5 x6 x7 x8 x9 x10 x11
    have x0 := NX3.out.cell 0 rfl
    have x1 := NX3.out.cell 1 rfl
    have x2 := NX3.out.cell 2 rfl
    have x3 := NX3.out.cell 3 rfl
    have x4 := NX3.out.cell 4 rfl
    have x5 := NX3.out.cell 5 rfl
    have x6 := NX3.out.cell 6 rfl
    have x7 := NX3.out.cell 7 rfl
    have x8 := NX3.out.cell 8 rfl
    have x9 := NX3.out.cell 9 rfl
    have x10 := NX3.out.cell 10 rfl
    have x11 := NX3.out.cell 11 rfl
    have BX : Hid (Below w3.heap.size w3 (w3.alloc (.cells #[.string s0, .bool s1, .bool s2, .bool s3, .bool s4, .bool s5, .bool s6, .bool s7, .string s8, .slice p3 s9.length d3] 24))) := (Below.refl _ w3).alloc (Nat.le_refl _) _
    have NC := hide (Bk.new w3 [.string s0, .bool s1, .bool s2, .bool s3, .bool s4, .bool s5, .bool s6, .bool s7, .string s8, .slice p3 s9.length d3] 24)
    go_wp2_with fail
    generalize w3.alloc (.cells #[.string s0, .bool s1, .bool s2, .bool s3, .bool s4, .bool s5, .bool s6, .bool s7, .string s8, .slice p3 s9.length d3] 24) = y3 at *
    have Y3 := hide (chain B3.out BX.out)
    have GY := hide (G3.out.below BX.out)
    refine (H2.out _ Y3.out).mono ?_
    rintro e w4 ⟨f4, rfl, g4, b4⟩
    have B4 := hide (chain Y3.out b4)
    have NC4 := hide (NC.out.below b4)
    have lt4 : w3.heap.size < w4.heap.size := NC4.out.lt
    have ne4 : w3.heap.size ≠ w4.heap.size := by omega
    have G4 := hide g4
    obtain ⟨p4, d4, rfl, _⟩ := g4
    have AL : Hid (Below w4.heap.size w4 (w4.alloc (.cells #[.string s0, .bool s1, .bool s2, .bool s3, .bool s4, .bool s5, .bool s6, .bool s7, .string s8, .slice p4 s9.length d4] 24))) := (Below.refl _ w4).alloc (Nat.le_refl _) _
    clear lt3 ne3 NX3 BX NC
    clear x0 x1 x2 x3 x4 x5 x6 x7 x8 x9 x10 x11
    have k0 := NC4.out.cell 0 rfl
    have k1 := NC4.out.cell 1 rfl
    have k2 := NC4.out.cell 2 rfl
    have k3 := NC4.out.cell 3 rfl
    have k4 := NC4.out.cell 4 rfl
    have k5 := NC4.out.cell 5 rfl
    have k6 := NC4.out.cell 6 rfl
    have k7 := NC4.out.cell 7 rfl
    have k8 := NC4.out.cell 8 rfl
    have k9 := NC4.out.cell 9 rfl
    go_wp2_with fail
    refine (H5.out _ _ _ ⟨_, rfl, (GY.out.below b4).below AL.out⟩ ⟨_, rfl, (G4.out).below AL.out⟩).mono ?_
    rintro e w5 ⟨rfl, b5⟩
    have B5 := hide (chain (chain B4.out AL.out) b5)
    go_wp2_with fail
    go_ret
    exact ⟨rfl, B5.out⟩

end Go.Proofs.YtfjfkkbgkjmghaaGreatDoor
