/- The document's Start, Reset and Value of layer 14. -/
import Derived.Test.YtfjfkkbgkjmghaaGreatDoorJct38
import Derived.Test.YtfjfkkbgkjmghaaGreatDoorJct39
import Derived.Test.YtfjfkkbgkjmghaaGreatDoorJct40
import Derived.Test.YtfjfkkbgkjmghaaGreatDoorJct42

namespace Go.Proofs.YtfjfkkbgkjmghaaGreatDoor
open Go.RowKit
set_option maxHeartbeats 4000000 in
set_option maxRecDepth 100000 in
theorem refStart_28 (v : Value) (ax : List (ByteArray × ByteArray)) (w : World) (hv : AttrsV w v ax) (hz : AxOK ax) (text : ByteArray) :
    Calls Tryz.prog 13 #[.int .i64 28, v, .string text] w fun e w' => e = .returned (ctV { ct0 with val := text } (.slice none 0 0)) ∧ Below w.heap.size w w' := by
  have B0 : Hid (Below w.heap.size w ((w.alloc (.cells #[.string ⟨#[]⟩, .bool false, .bool false, .bool false, .bool false, .bool false, .bool false, .bool false, .string ⟨#[]⟩, .slice none 0 0] 24)).alloc (.cells #[.string ⟨#[]⟩, .bool false, .bool false, .bool false, .bool false, .bool false, .bool false, .bool false, .string ⟨#[]⟩, .slice none 0 0] 24))) := ((Below.refl _ w).alloc (Nat.le_refl _) _).alloc ((Below.refl _ w).alloc (Nat.le_refl _) (.cells #[.string ⟨#[]⟩, .bool false, .bool false, .bool false, .bool false, .bool false, .bool false, .bool false, .string ⟨#[]⟩, .slice none 0 0] 24)).size _
  have NR := hide ((Bk.new w [.string ⟨#[]⟩, .bool false, .bool false, .bool false, .bool false, .bool false, .bool false, .bool false, .string ⟨#[]⟩, .slice none 0 0] 24).below ((Below.refl _ (w.alloc (.cells #[.string ⟨#[]⟩, .bool false, .bool false, .bool false, .bool false, .bool false, .bool false, .bool false, .string ⟨#[]⟩, .slice none 0 0] 24))).alloc (Nat.le_refl _) (.cells #[.string ⟨#[]⟩, .bool false, .bool false, .bool false, .bool false, .bool false, .bool false, .bool false, .string ⟨#[]⟩, .slice none 0 0] 24)))
  have NC0 := hide (Bk.new (w.alloc (.cells #[.string ⟨#[]⟩, .bool false, .bool false, .bool false, .bool false, .bool false, .bool false, .bool false, .string ⟨#[]⟩, .slice none 0 0] 24)) [.string ⟨#[]⟩, .bool false, .bool false, .bool false, .bool false, .bool false, .bool false, .bool false, .string ⟨#[]⟩, .slice none 0 0] 24)
  have NC : Hid (Bk ((w.alloc (.cells #[.string ⟨#[]⟩, .bool false, .bool false, .bool false, .bool false, .bool false, .bool false, .bool false, .string ⟨#[]⟩, .slice none 0 0] 24)).alloc (.cells #[.string ⟨#[]⟩, .bool false, .bool false, .bool false, .bool false, .bool false, .bool false, .bool false, .string ⟨#[]⟩, .slice none 0 0] 24)) (w.heap.size + 1) [.string ⟨#[]⟩, .bool false, .bool false, .bool false, .bool false, .bool false, .bool false, .bool false, .string ⟨#[]⟩, .slice none 0 0] 24) := by
    have e : (w.alloc (.cells #[.string ⟨#[]⟩, .bool false, .bool false, .bool false, .bool false, .bool false, .bool false, .bool false, .string ⟨#[]⟩, .slice none 0 0] 24)).heap.size = w.heap.size + 1 := by simp
    rw [e] at NC0; exact NC0
  have HA := hide (fun n W (hb : Below w.heap.size w W) => refAttrS_any v ax n W (hv.below hb) hz.len)
  have A1 := hide (HA.out valS)
  have A2 := hide (HA.out chkS)
  have A3 := hide (HA.out selS)
  rw [show valS = ⟨#[118, 97, 108, 117, 101]⟩ from rfl] at A1
  rw [show chkS = ⟨#[99, 104, 101, 99, 107, 101, 100]⟩ from rfl] at A2
  rw [show selS = ⟨#[115, 101, 108, 101, 99, 116, 101, 100]⟩ from rfl] at A3
  clear NC0 HA
  obtain ⟨p, c, rfl, _⟩ := hv
  clear hz
  go_enter Tryz.func13, Tryz.ntmps13
  go_wp2_with fail
  generalize (w.alloc (.cells #[.string ⟨#[]⟩, .bool false, .bool false, .bool false, .bool false, .bool false, .bool false, .bool false, .string ⟨#[]⟩, .slice none 0 0] 24)).alloc (.cells #[.string ⟨#[]⟩, .bool false, .bool false, .bool false, .bool false, .bool false, .bool false, .bool false, .string ⟨#[]⟩, .slice none 0 0] 24) = w0 at *
  refine (A1.out _ B0.out).mono ?_
  rintro e w1 ⟨rfl, h1⟩
  obtain rfl : w0 = w1 := h1.symm
  go_wp2_with fail
  refine (A2.out _ B0.out).mono ?_
  rintro e w1 ⟨rfl, h1⟩
  obtain rfl : w0 = w1 := h1.symm
  go_wp2_with fail
  refine (A3.out _ B0.out).mono ?_
  rintro e w1 ⟨rfl, h1⟩
  obtain rfl : w0 = w1 := h1.symm
  have r0 := NR.out.cell 0 rfl
  have r1 := NR.out.cell 1 rfl
  have r2 := NR.out.cell 2 rfl
  have r3 := NR.out.cell 3 rfl
  have r4 := NR.out.cell 4 rfl
  have r5 := NR.out.cell 5 rfl
  have r6 := NR.out.cell 6 rfl
  have r7 := NR.out.cell 7 rfl
  have r8 := NR.out.cell 8 rfl
  have r9 := NR.out.cell 9 rfl
  have s0 := NR.out.free 0
  have s1 := NR.out.free 1
  have s2 := NR.out.free 2
  have s3 := NR.out.free 3
  have s4 := NR.out.free 4
  have s5 := NR.out.free 5
  have s6 := NR.out.free 6
  have s7 := NR.out.free 7
  have s8 := NR.out.free 8
  have s9 := NR.out.free 9
  have x0 := NC.out.cell 0 rfl
  have x1 := NC.out.cell 1 rfl
  have x2 := NC.out.cell 2 rfl
  have x3 := NC.out.cell 3 rfl
  have x4 := NC.out.cell 4 rfl
  have x5 := NC.out.cell 5 rfl
  have x6 := NC.out.cell 6 rfl
  have x7 := NC.out.cell 7 rfl
  have x8 := NC.out.cell 8 rfl
  have x9 := NC.out.cell 9 rfl
  have y0 := NC.out.free 0
  have y1 := NC.out.free 1
  have y2 := NC.out.free 2
  have y3 := NC.out.free 3
  have y4 := NC.out.free 4
  have y5 := NC.out.free 5
  have y6 := NC.out.free 6
  have y7 := NC.out.free 7
  have y8 := NC.out.free 8
  have y9 := NC.out.free 9
  go_wp2_with fail
  refine bodyPost_ret (v := .agg #[.string text, .bool false, .bool false, .bool false, .bool false, .bool false, .bool false, .bool false, .string ⟨#[]⟩, .slice none 0 0]) (by simp [results, go_sem, r0, r1, r2, r3, r4, r5, r6, r7, r8, r9]) rfl ?_
  exact ⟨rfl, ct_endB (Nat.le_refl _) (B0.out.setCell (Nat.le_succ _) _) _ _ _ _ _ _ _ _ _ _⟩
set_option maxHeartbeats 4000000 in
set_option maxRecDepth 100000 in
theorem refStart_24 (v : Value) (ax : List (ByteArray × ByteArray)) (w : World) (hv : AttrsV w v ax) (hz : AxOK ax) (text : ByteArray) (t : ByteArray) (ht : ClnIs 24 ax text t) (hs : text.size ≤ 100000) :
    Calls Tryz.prog 13 #[.int .i64 24, v, .string text] w fun e w' => e = .returned (ctV { ct0 with val := t } (.slice none 0 0)) ∧ Below w.heap.size w w' := by
  have B0 : Hid (Below w.heap.size w ((w.alloc (.cells #[.string ⟨#[]⟩, .bool false, .bool false, .bool false, .bool false, .bool false, .bool false, .bool false, .string ⟨#[]⟩, .slice none 0 0] 24)).alloc (.cells #[.string ⟨#[]⟩, .bool false, .bool false, .bool false, .bool false, .bool false, .bool false, .bool false, .string ⟨#[]⟩, .slice none 0 0] 24))) := ((Below.refl _ w).alloc (Nat.le_refl _) _).alloc ((Below.refl _ w).alloc (Nat.le_refl _) (.cells #[.string ⟨#[]⟩, .bool false, .bool false, .bool false, .bool false, .bool false, .bool false, .bool false, .string ⟨#[]⟩, .slice none 0 0] 24)).size _
  have NR := hide ((Bk.new w [.string ⟨#[]⟩, .bool false, .bool false, .bool false, .bool false, .bool false, .bool false, .bool false, .string ⟨#[]⟩, .slice none 0 0] 24).below ((Below.refl _ (w.alloc (.cells #[.string ⟨#[]⟩, .bool false, .bool false, .bool false, .bool false, .bool false, .bool false, .bool false, .string ⟨#[]⟩, .slice none 0 0] 24))).alloc (Nat.le_refl _) (.cells #[.string ⟨#[]⟩, .bool false, .bool false, .bool false, .bool false, .bool false, .bool false, .bool false, .string ⟨#[]⟩, .slice none 0 0] 24)))
  have NC0 := hide (Bk.new (w.alloc (.cells #[.string ⟨#[]⟩, .bool false, .bool false, .bool false, .bool false, .bool false, .bool false, .bool false, .string ⟨#[]⟩, .slice none 0 0] 24)) [.string ⟨#[]⟩, .bool false, .bool false, .bool false, .bool false, .bool false, .bool false, .bool false, .string ⟨#[]⟩, .slice none 0 0] 24)
  have NC : Hid (Bk ((w.alloc (.cells #[.string ⟨#[]⟩, .bool false, .bool false, .bool false, .bool false, .bool false, .bool false, .bool false, .string ⟨#[]⟩, .slice none 0 0] 24)).alloc (.cells #[.string ⟨#[]⟩, .bool false, .bool false, .bool false, .bool false, .bool false, .bool false, .bool false, .string ⟨#[]⟩, .slice none 0 0] 24)) (w.heap.size + 1) [.string ⟨#[]⟩, .bool false, .bool false, .bool false, .bool false, .bool false, .bool false, .bool false, .string ⟨#[]⟩, .slice none 0 0] 24) := by
    have e : (w.alloc (.cells #[.string ⟨#[]⟩, .bool false, .bool false, .bool false, .bool false, .bool false, .bool false, .bool false, .string ⟨#[]⟩, .slice none 0 0] 24)).heap.size = w.heap.size + 1 := by simp
    rw [e] at NC0; exact NC0
  have HA := hide (fun n W (hb : Below w.heap.size w W) => refAttrS_any v ax n W (hv.below hb) hz.len)
  have A1 := hide (HA.out valS)
  have A2 := hide (HA.out chkS)
  have A3 := hide (HA.out selS)
  rw [show valS = ⟨#[118, 97, 108, 117, 101]⟩ from rfl] at A1
  rw [show chkS = ⟨#[99, 104, 101, 99, 107, 101, 100]⟩ from rfl] at A2
  rw [show selS = ⟨#[115, 101, 108, 101, 99, 116, 101, 100]⟩ from rfl] at A3
  clear NC0 HA
  have HC := hide (fun W (hb : Below w.heap.size w W) => refCleaned_any v ax W (hv.below hb) hz ht hs)
  clear ht
  obtain ⟨p, c, rfl, _⟩ := hv
  clear hz
  go_enter Tryz.func13, Tryz.ntmps13
  go_wp2_with fail
  generalize (w.alloc (.cells #[.string ⟨#[]⟩, .bool false, .bool false, .bool false, .bool false, .bool false, .bool false, .bool false, .string ⟨#[]⟩, .slice none 0 0] 24)).alloc (.cells #[.string ⟨#[]⟩, .bool false, .bool false, .bool false, .bool false, .bool false, .bool false, .bool false, .string ⟨#[]⟩, .slice none 0 0] 24) = w0 at *
  refine (A1.out _ B0.out).mono ?_
  rintro e w1 ⟨rfl, h1⟩
  obtain rfl : w0 = w1 := h1.symm
  go_wp2_with fail
  refine (A2.out _ B0.out).mono ?_
  rintro e w1 ⟨rfl, h1⟩
  obtain rfl : w0 = w1 := h1.symm
  go_wp2_with fail
  refine (A3.out _ B0.out).mono ?_
  rintro e w1 ⟨rfl, h1⟩
  obtain rfl : w0 = w1 := h1.symm
  go_wp2_with fail
  refine (HC.out _ B0.out).mono ?_
  rintro e wx ⟨rfl, bx⟩
  replace NR := hide (NR.out.below bx)
  replace NC := hide (NC.out.below bx)
  have BX := hide (chain B0.out bx)
  have r0 := NR.out.cell 0 rfl
  have r1 := NR.out.cell 1 rfl
  have r2 := NR.out.cell 2 rfl
  have r3 := NR.out.cell 3 rfl
  have r4 := NR.out.cell 4 rfl
  have r5 := NR.out.cell 5 rfl
  have r6 := NR.out.cell 6 rfl
  have r7 := NR.out.cell 7 rfl
  have r8 := NR.out.cell 8 rfl
  have r9 := NR.out.cell 9 rfl
  have s0 := NR.out.free 0
  have s1 := NR.out.free 1
  have s2 := NR.out.free 2
  have s3 := NR.out.free 3
  have s4 := NR.out.free 4
  have s5 := NR.out.free 5
  have s6 := NR.out.free 6
  have s7 := NR.out.free 7
  have s8 := NR.out.free 8
  have s9 := NR.out.free 9
  have x0 := NC.out.cell 0 rfl
  have x1 := NC.out.cell 1 rfl
  have x2 := NC.out.cell 2 rfl
  have x3 := NC.out.cell 3 rfl
  have x4 := NC.out.cell 4 rfl
  have x5 := NC.out.cell 5 rfl
  have x6 := NC.out.cell 6 rfl
  have x7 := NC.out.cell 7 rfl
  have x8 := NC.out.cell 8 rfl
  have x9 := NC.out.cell 9 rfl
  have y0 := NC.out.free 0
  have y1 := NC.out.free 1
  have y2 := NC.out.free 2
  have y3 := NC.out.free 3
  have y4 := NC.out.free 4
  have y5 := NC.out.free 5
  have y6 := NC.out.free 6
  have y7 := NC.out.free 7
  have y8 := NC.out.free 8
  have y9 := NC.out.free 9
  go_wp2_with fail
  refine bodyPost_ret (v := .agg #[.string t, .bool false, .bool false, .bool false, .bool false, .bool false, .bool false, .bool false, .string ⟨#[]⟩, .slice none 0 0]) (by simp [results, go_sem, r0, r1, r2, r3, r4, r5, r6, r7, r8, r9]) rfl ?_
  exact ⟨rfl, ct_endB (Nat.le_refl _) (BX.out.setCell (Nat.le_succ _) _) _ _ _ _ _ _ _ _ _ _⟩
set_option maxHeartbeats 4000000 in
set_option maxRecDepth 100000 in
theorem refStart_m1 (v : Value) (ax : List (ByteArray × ByteArray)) (w : World) (hv : AttrsV w v ax) (hz : AxOK ax) (text : ByteArray) (k : Int) (h28 : ¬ k = 28) (h24 : ¬ k = 24) (hm : modeV k = 1) (t : ByteArray) (ht : ClnIs k ax (fndS ax valS) t) :
    Calls Tryz.prog 13 #[.int .i64 k, v, .string text] w fun e w' => e = .returned (ctV { ct0 with val := t } (.slice none 0 0)) ∧ Below w.heap.size w w' := by
  have B0 : Hid (Below w.heap.size w ((w.alloc (.cells #[.string ⟨#[]⟩, .bool false, .bool false, .bool false, .bool false, .bool false, .bool false, .bool false, .string ⟨#[]⟩, .slice none 0 0] 24)).alloc (.cells #[.string ⟨#[]⟩, .bool false, .bool false, .bool false, .bool false, .bool false, .bool false, .bool false, .string ⟨#[]⟩, .slice none 0 0] 24))) := ((Below.refl _ w).alloc (Nat.le_refl _) _).alloc ((Below.refl _ w).alloc (Nat.le_refl _) (.cells #[.string ⟨#[]⟩, .bool false, .bool false, .bool false, .bool false, .bool false, .bool false, .bool false, .string ⟨#[]⟩, .slice none 0 0] 24)).size _
  have NR := hide ((Bk.new w [.string ⟨#[]⟩, .bool false, .bool false, .bool false, .bool false, .bool false, .bool false, .bool false, .string ⟨#[]⟩, .slice none 0 0] 24).below ((Below.refl _ (w.alloc (.cells #[.string ⟨#[]⟩, .bool false, .bool false, .bool false, .bool false, .bool false, .bool false, .bool false, .string ⟨#[]⟩, .slice none 0 0] 24))).alloc (Nat.le_refl _) (.cells #[.string ⟨#[]⟩, .bool false, .bool false, .bool false, .bool false, .bool false, .bool false, .bool false, .string ⟨#[]⟩, .slice none 0 0] 24)))
  have NC0 := hide (Bk.new (w.alloc (.cells #[.string ⟨#[]⟩, .bool false, .bool false, .bool false, .bool false, .bool false, .bool false, .bool false, .string ⟨#[]⟩, .slice none 0 0] 24)) [.string ⟨#[]⟩, .bool false, .bool false, .bool false, .bool false, .bool false, .bool false, .bool false, .string ⟨#[]⟩, .slice none 0 0] 24)
  have NC : Hid (Bk ((w.alloc (.cells #[.string ⟨#[]⟩, .bool false, .bool false, .bool false, .bool false, .bool false, .bool false, .bool false, .string ⟨#[]⟩, .slice none 0 0] 24)).alloc (.cells #[.string ⟨#[]⟩, .bool false, .bool false, .bool false, .bool false, .bool false, .bool false, .bool false, .string ⟨#[]⟩, .slice none 0 0] 24)) (w.heap.size + 1) [.string ⟨#[]⟩, .bool false, .bool false, .bool false, .bool false, .bool false, .bool false, .bool false, .string ⟨#[]⟩, .slice none 0 0] 24) := by
    have e : (w.alloc (.cells #[.string ⟨#[]⟩, .bool false, .bool false, .bool false, .bool false, .bool false, .bool false, .bool false, .string ⟨#[]⟩, .slice none 0 0] 24)).heap.size = w.heap.size + 1 := by simp
    rw [e] at NC0; exact NC0
  have HA := hide (fun n W (hb : Below w.heap.size w W) => refAttrS_any v ax n W (hv.below hb) hz.len)
  have A1 := hide (HA.out valS)
  have A2 := hide (HA.out chkS)
  have A3 := hide (HA.out selS)
  rw [show valS = ⟨#[118, 97, 108, 117, 101]⟩ from rfl] at A1
  rw [show chkS = ⟨#[99, 104, 101, 99, 107, 101, 100]⟩ from rfl] at A2
  rw [show selS = ⟨#[115, 101, 108, 101, 99, 116, 101, 100]⟩ from rfl] at A3
  clear NC0 HA
  have k28 : (k == 28) = false := beq_eq_false_iff_ne.2 h28
  have k24 : (k == 24) = false := beq_eq_false_iff_ne.2 h24
  have HM := hide (fun W => refMode_any k W)
  rw [hm] at HM
  have HC := hide (fun W (hb : Below w.heap.size w W) => refCleaned_any v ax W (hv.below hb) hz ht (fnd_smallA hz valS))
  rw [show valS = ⟨#[118, 97, 108, 117, 101]⟩ from rfl] at HC
  clear ht hm
  obtain ⟨p, c, rfl, _⟩ := hv
  clear hz
  go_enter Tryz.func13, Tryz.ntmps13
  go_wp2_with fail
  generalize (w.alloc (.cells #[.string ⟨#[]⟩, .bool false, .bool false, .bool false, .bool false, .bool false, .bool false, .bool false, .string ⟨#[]⟩, .slice none 0 0] 24)).alloc (.cells #[.string ⟨#[]⟩, .bool false, .bool false, .bool false, .bool false, .bool false, .bool false, .bool false, .string ⟨#[]⟩, .slice none 0 0] 24) = w0 at *
  refine (A1.out _ B0.out).mono ?_
  rintro e w1 ⟨rfl, h1⟩
  obtain rfl : w0 = w1 := h1.symm
  go_wp2_with fail
  refine (A2.out _ B0.out).mono ?_
  rintro e w1 ⟨rfl, h1⟩
  obtain rfl : w0 = w1 := h1.symm
  go_wp2_with fail
  refine (A3.out _ B0.out).mono ?_
  rintro e w1 ⟨rfl, h1⟩
  obtain rfl : w0 = w1 := h1.symm
  go_wp2_with fail
  refine (HM.out _).mono ?_
  rintro e wm1 ⟨rfl, hm1⟩
  obtain rfl : w0 = wm1 := hm1.symm
  go_wp2_with fail
  refine (HC.out _ B0.out).mono ?_
  rintro e wx ⟨rfl, bx⟩
  replace NR := hide (NR.out.below bx)
  replace NC := hide (NC.out.below bx)
  have BX := hide (chain B0.out bx)
  have r0 := NR.out.cell 0 rfl
  have r1 := NR.out.cell 1 rfl
  have r2 := NR.out.cell 2 rfl
  have r3 := NR.out.cell 3 rfl
  have r4 := NR.out.cell 4 rfl
  have r5 := NR.out.cell 5 rfl
  have r6 := NR.out.cell 6 rfl
  have r7 := NR.out.cell 7 rfl
  have r8 := NR.out.cell 8 rfl
  have r9 := NR.out.cell 9 rfl
  have s0 := NR.out.free 0
  have s1 := NR.out.free 1
  have s2 := NR.out.free 2
  have s3 := NR.out.free 3
  have s4 := NR.out.free 4
  have s5 := NR.out.free 5
  have s6 := NR.out.free 6
  have s7 := NR.out.free 7
  have s8 := NR.out.free 8
  have s9 := NR.out.free 9
  have x0 := NC.out.cell 0 rfl
  have x1 := NC.out.cell 1 rfl
  have x2 := NC.out.cell 2 rfl
  have x3 := NC.out.cell 3 rfl
  have x4 := NC.out.cell 4 rfl
  have x5 := NC.out.cell 5 rfl
  have x6 := NC.out.cell 6 rfl
  have x7 := NC.out.cell 7 rfl
  have x8 := NC.out.cell 8 rfl
  have x9 := NC.out.cell 9 rfl
  have y0 := NC.out.free 0
  have y1 := NC.out.free 1
  have y2 := NC.out.free 2
  have y3 := NC.out.free 3
  have y4 := NC.out.free 4
  have y5 := NC.out.free 5
  have y6 := NC.out.free 6
  have y7 := NC.out.free 7
  have y8 := NC.out.free 8
  have y9 := NC.out.free 9
  go_wp2_with fail
  refine bodyPost_ret (v := .agg #[.string t, .bool false, .bool false, .bool false, .bool false, .bool false, .bool false, .bool false, .string ⟨#[]⟩, .slice none 0 0]) (by simp [results, go_sem, r0, r1, r2, r3, r4, r5, r6, r7, r8, r9]) rfl ?_
  exact ⟨rfl, ct_endB (Nat.le_refl _) (BX.out.setCell (Nat.le_succ _) _) _ _ _ _ _ _ _ _ _ _⟩
set_option maxHeartbeats 4000000 in
set_option maxRecDepth 100000 in
theorem refStart_m3 (v : Value) (ax : List (ByteArray × ByteArray)) (w : World) (hv : AttrsV w v ax) (hz : AxOK ax) (text : ByteArray) (k : Int) (h28 : ¬ k = 28) (h24 : ¬ k = 24) (hm : modeV k = 3) :
    Calls Tryz.prog 13 #[.int .i64 k, v, .string text] w fun e w' => e = .returned (ctV { ct0 with chk := (findA ax chkS).isSome } (.slice none 0 0)) ∧ Below w.heap.size w w' := by
  have B0 : Hid (Below w.heap.size w ((w.alloc (.cells #[.string ⟨#[]⟩, .bool false, .bool false, .bool false, .bool false, .bool false, .bool false, .bool false, .string ⟨#[]⟩, .slice none 0 0] 24)).alloc (.cells #[.string ⟨#[]⟩, .bool false, .bool false, .bool false, .bool false, .bool false, .bool false, .bool false, .string ⟨#[]⟩, .slice none 0 0] 24))) := ((Below.refl _ w).alloc (Nat.le_refl _) _).alloc ((Below.refl _ w).alloc (Nat.le_refl _) (.cells #[.string ⟨#[]⟩, .bool false, .bool false, .bool false, .bool false, .bool false, .bool false, .bool false, .string ⟨#[]⟩, .slice none 0 0] 24)).size _
  have NR := hide ((Bk.new w [.string ⟨#[]⟩, .bool false, .bool false, .bool false, .bool false, .bool false, .bool false, .bool false, .string ⟨#[]⟩, .slice none 0 0] 24).below ((Below.refl _ (w.alloc (.cells #[.string ⟨#[]⟩, .bool false, .bool false, .bool false, .bool false, .bool false, .bool false, .bool false, .string ⟨#[]⟩, .slice none 0 0] 24))).alloc (Nat.le_refl _) (.cells #[.string ⟨#[]⟩, .bool false, .bool false, .bool false, .bool false, .bool false, .bool false, .bool false, .string ⟨#[]⟩, .slice none 0 0] 24)))
  have NC0 := hide (Bk.new (w.alloc (.cells #[.string ⟨#[]⟩, .bool false, .bool false, .bool false, .bool false, .bool false, .bool false, .bool false, .string ⟨#[]⟩, .slice none 0 0] 24)) [.string ⟨#[]⟩, .bool false, .bool false, .bool false, .bool false, .bool false, .bool false, .bool false, .string ⟨#[]⟩, .slice none 0 0] 24)
  have NC : Hid (Bk ((w.alloc (.cells #[.string ⟨#[]⟩, .bool false, .bool false, .bool false, .bool false, .bool false, .bool false, .bool false, .string ⟨#[]⟩, .slice none 0 0] 24)).alloc (.cells #[.string ⟨#[]⟩, .bool false, .bool false, .bool false, .bool false, .bool false, .bool false, .bool false, .string ⟨#[]⟩, .slice none 0 0] 24)) (w.heap.size + 1) [.string ⟨#[]⟩, .bool false, .bool false, .bool false, .bool false, .bool false, .bool false, .bool false, .string ⟨#[]⟩, .slice none 0 0] 24) := by
    have e : (w.alloc (.cells #[.string ⟨#[]⟩, .bool false, .bool false, .bool false, .bool false, .bool false, .bool false, .bool false, .string ⟨#[]⟩, .slice none 0 0] 24)).heap.size = w.heap.size + 1 := by simp
    rw [e] at NC0; exact NC0
  have HA := hide (fun n W (hb : Below w.heap.size w W) => refAttrS_any v ax n W (hv.below hb) hz.len)
  have A1 := hide (HA.out valS)
  have A2 := hide (HA.out chkS)
  have A3 := hide (HA.out selS)
  rw [show valS = ⟨#[118, 97, 108, 117, 101]⟩ from rfl] at A1
  rw [show chkS = ⟨#[99, 104, 101, 99, 107, 101, 100]⟩ from rfl] at A2
  rw [show selS = ⟨#[115, 101, 108, 101, 99, 116, 101, 100]⟩ from rfl] at A3
  clear NC0 HA
  have k28 : (k == 28) = false := beq_eq_false_iff_ne.2 h28
  have k24 : (k == 24) = false := beq_eq_false_iff_ne.2 h24
  have HM := hide (fun W => refMode_any k W)
  rw [hm] at HM
  rw [show chkS = ⟨#[99, 104, 101, 99, 107, 101, 100]⟩ from rfl]
  generalize (findA ax ⟨#[99, 104, 101, 99, 107, 101, 100]⟩).isSome = cb at *
  clear hm
  obtain ⟨p, c, rfl, _⟩ := hv
  clear hz
  go_enter Tryz.func13, Tryz.ntmps13
  go_wp2_with fail
  generalize (w.alloc (.cells #[.string ⟨#[]⟩, .bool false, .bool false, .bool false, .bool false, .bool false, .bool false, .bool false, .string ⟨#[]⟩, .slice none 0 0] 24)).alloc (.cells #[.string ⟨#[]⟩, .bool false, .bool false, .bool false, .bool false, .bool false, .bool false, .bool false, .string ⟨#[]⟩, .slice none 0 0] 24) = w0 at *
  refine (A1.out _ B0.out).mono ?_
  rintro e w1 ⟨rfl, h1⟩
  obtain rfl : w0 = w1 := h1.symm
  go_wp2_with fail
  refine (A2.out _ B0.out).mono ?_
  rintro e w1 ⟨rfl, h1⟩
  obtain rfl : w0 = w1 := h1.symm
  go_wp2_with fail
  refine (A3.out _ B0.out).mono ?_
  rintro e w1 ⟨rfl, h1⟩
  obtain rfl : w0 = w1 := h1.symm
  go_wp2_with fail
  refine (HM.out _).mono ?_
  rintro e wm1 ⟨rfl, hm1⟩
  obtain rfl : w0 = wm1 := hm1.symm
  go_wp2_with fail
  refine (HM.out _).mono ?_
  rintro e wm2 ⟨rfl, hm2⟩
  obtain rfl : w0 = wm2 := hm2.symm
  have r0 := NR.out.cell 0 rfl
  have r1 := NR.out.cell 1 rfl
  have r2 := NR.out.cell 2 rfl
  have r3 := NR.out.cell 3 rfl
  have r4 := NR.out.cell 4 rfl
  have r5 := NR.out.cell 5 rfl
  have r6 := NR.out.cell 6 rfl
  have r7 := NR.out.cell 7 rfl
  have r8 := NR.out.cell 8 rfl
  have r9 := NR.out.cell 9 rfl
  have s0 := NR.out.free 0
  have s1 := NR.out.free 1
  have s2 := NR.out.free 2
  have s3 := NR.out.free 3
  have s4 := NR.out.free 4
  have s5 := NR.out.free 5
  have s6 := NR.out.free 6
  have s7 := NR.out.free 7
  have s8 := NR.out.free 8
  have s9 := NR.out.free 9
  have x0 := NC.out.cell 0 rfl
  have x1 := NC.out.cell 1 rfl
  have x2 := NC.out.cell 2 rfl
  have x3 := NC.out.cell 3 rfl
  have x4 := NC.out.cell 4 rfl
  have x5 := NC.out.cell 5 rfl
  have x6 := NC.out.cell 6 rfl
  have x7 := NC.out.cell 7 rfl
  have x8 := NC.out.cell 8 rfl
  have x9 := NC.out.cell 9 rfl
  have y0 := NC.out.free 0
  have y1 := NC.out.free 1
  have y2 := NC.out.free 2
  have y3 := NC.out.free 3
  have y4 := NC.out.free 4
  have y5 := NC.out.free 5
  have y6 := NC.out.free 6
  have y7 := NC.out.free 7
  have y8 := NC.out.free 8
  have y9 := NC.out.free 9
  go_wp2_with fail
  refine bodyPost_ret (v := .agg #[.string ⟨#[]⟩, .bool false, .bool false, .bool cb, .bool false, .bool false, .bool false, .bool false, .string ⟨#[]⟩, .slice none 0 0]) (by simp [results, go_sem, r0, r1, r2, r3, r4, r5, r6, r7, r8, r9]) rfl ?_
  exact ⟨rfl, ct_endB (Nat.le_refl _) (B0.out.setCell (Nat.le_succ _) _) _ _ _ _ _ _ _ _ _ _⟩
set_option maxHeartbeats 4000000 in
set_option maxRecDepth 100000 in
theorem refStart_m32 (v : Value) (ax : List (ByteArray × ByteArray)) (w : World) (hv : AttrsV w v ax) (hz : AxOK ax) (text : ByteArray) (k : Int) (h28 : ¬ k = 28) (h24 : ¬ k = 24) (hm : ¬ modeV k = 1) (hm3 : ¬ modeV k = 3) (h32 : k = 32) :
    Calls Tryz.prog 13 #[.int .i64 k, v, .string text] w fun e w' => e = .returned (ctV { ct0 with sel := (findA ax selS).isSome } (.slice none 0 0)) ∧ Below w.heap.size w w' := by
  have B0 : Hid (Below w.heap.size w ((w.alloc (.cells #[.string ⟨#[]⟩, .bool false, .bool false, .bool false, .bool false, .bool false, .bool false, .bool false, .string ⟨#[]⟩, .slice none 0 0] 24)).alloc (.cells #[.string ⟨#[]⟩, .bool false, .bool false, .bool false, .bool false, .bool false, .bool false, .bool false, .string ⟨#[]⟩, .slice none 0 0] 24))) := ((Below.refl _ w).alloc (Nat.le_refl _) _).alloc ((Below.refl _ w).alloc (Nat.le_refl _) (.cells #[.string ⟨#[]⟩, .bool false, .bool false, .bool false, .bool false, .bool false, .bool false, .bool false, .string ⟨#[]⟩, .slice none 0 0] 24)).size _
  have NR := hide ((Bk.new w [.string ⟨#[]⟩, .bool false, .bool false, .bool false, .bool false, .bool false, .bool false, .bool false, .string ⟨#[]⟩, .slice none 0 0] 24).below ((Below.refl _ (w.alloc (.cells #[.string ⟨#[]⟩, .bool false, .bool false, .bool false, .bool false, .bool false, .bool false, .bool false, .string ⟨#[]⟩, .slice none 0 0] 24))).alloc (Nat.le_refl _) (.cells #[.string ⟨#[]⟩, .bool false, .bool false, .bool false, .bool false, .bool false, .bool false, .bool false, .string ⟨#[]⟩, .slice none 0 0] 24)))
  have NC0 := hide (Bk.new (w.alloc (.cells #[.string ⟨#[]⟩, .bool false, .bool false, .bool false, .bool false, .bool false, .bool false, .bool false, .string ⟨#[]⟩, .slice none 0 0] 24)) [.string ⟨#[]⟩, .bool false, .bool false, .bool false, .bool false, .bool false, .bool false, .bool false, .string ⟨#[]⟩, .slice none 0 0] 24)
  have NC : Hid (Bk ((w.alloc (.cells #[.string ⟨#[]⟩, .bool false, .bool false, .bool false, .bool false, .bool false, .bool false, .bool false, .string ⟨#[]⟩, .slice none 0 0] 24)).alloc (.cells #[.string ⟨#[]⟩, .bool false, .bool false, .bool false, .bool false, .bool false, .bool false, .bool false, .string ⟨#[]⟩, .slice none 0 0] 24)) (w.heap.size + 1) [.string ⟨#[]⟩, .bool false, .bool false, .bool false, .bool false, .bool false, .bool false, .bool false, .string ⟨#[]⟩, .slice none 0 0] 24) := by
    have e : (w.alloc (.cells #[.string ⟨#[]⟩, .bool false, .bool false, .bool false, .bool false, .bool false, .bool false, .bool false, .string ⟨#[]⟩, .slice none 0 0] 24)).heap.size = w.heap.size + 1 := by simp
    rw [e] at NC0; exact NC0
  have HA := hide (fun n W (hb : Below w.heap.size w W) => refAttrS_any v ax n W (hv.below hb) hz.len)
  have A1 := hide (HA.out valS)
  have A2 := hide (HA.out chkS)
  have A3 := hide (HA.out selS)
  rw [show valS = ⟨#[118, 97, 108, 117, 101]⟩ from rfl] at A1
  rw [show chkS = ⟨#[99, 104, 101, 99, 107, 101, 100]⟩ from rfl] at A2
  rw [show selS = ⟨#[115, 101, 108, 101, 99, 116, 101, 100]⟩ from rfl] at A3
  clear NC0 HA
  have k28 : (k == 28) = false := beq_eq_false_iff_ne.2 h28
  have k24 : (k == 24) = false := beq_eq_false_iff_ne.2 h24
  have HM := hide (fun W => refMode_any k W)
  have m1 : (modeV k == 1) = false := beq_eq_false_iff_ne.2 hm
  have m3 : (modeV k == 3) = false := beq_eq_false_iff_ne.2 hm3
  generalize modeV k = mm at *
  rw [show selS = ⟨#[115, 101, 108, 101, 99, 116, 101, 100]⟩ from rfl]
  generalize (findA ax ⟨#[115, 101, 108, 101, 99, 116, 101, 100]⟩).isSome = cb at *
  have k32 : (k == 32) = true := by rw [h32]; rfl
  clear hm hm3 h32
  obtain ⟨p, c, rfl, _⟩ := hv
  clear hz
  go_enter Tryz.func13, Tryz.ntmps13
  go_wp2_with fail
  generalize (w.alloc (.cells #[.string ⟨#[]⟩, .bool false, .bool false, .bool false, .bool false, .bool false, .bool false, .bool false, .string ⟨#[]⟩, .slice none 0 0] 24)).alloc (.cells #[.string ⟨#[]⟩, .bool false, .bool false, .bool false, .bool false, .bool false, .bool false, .bool false, .string ⟨#[]⟩, .slice none 0 0] 24) = w0 at *
  refine (A1.out _ B0.out).mono ?_
  rintro e w1 ⟨rfl, h1⟩
  obtain rfl : w0 = w1 := h1.symm
  go_wp2_with fail
  refine (A2.out _ B0.out).mono ?_
  rintro e w1 ⟨rfl, h1⟩
  obtain rfl : w0 = w1 := h1.symm
  go_wp2_with fail
  refine (A3.out _ B0.out).mono ?_
  rintro e w1 ⟨rfl, h1⟩
  obtain rfl : w0 = w1 := h1.symm
  go_wp2_with fail
  refine (HM.out _).mono ?_
  rintro e wm1 ⟨rfl, hm1⟩
  obtain rfl : w0 = wm1 := hm1.symm
  go_wp2_with fail
  refine (HM.out _).mono ?_
  rintro e wm2 ⟨rfl, hm2⟩
  obtain rfl : w0 = wm2 := hm2.symm
  have r0 := NR.out.cell 0 rfl
  have r1 := NR.out.cell 1 rfl
  have r2 := NR.out.cell 2 rfl
  have r3 := NR.out.cell 3 rfl
  have r4 := NR.out.cell 4 rfl
  have r5 := NR.out.cell 5 rfl
  have r6 := NR.out.cell 6 rfl
  have r7 := NR.out.cell 7 rfl
  have r8 := NR.out.cell 8 rfl
  have r9 := NR.out.cell 9 rfl
  have s0 := NR.out.free 0
  have s1 := NR.out.free 1
  have s2 := NR.out.free 2
  have s3 := NR.out.free 3
  have s4 := NR.out.free 4
  have s5 := NR.out.free 5
  have s6 := NR.out.free 6
  have s7 := NR.out.free 7
  have s8 := NR.out.free 8
  have s9 := NR.out.free 9
  have x0 := NC.out.cell 0 rfl
  have x1 := NC.out.cell 1 rfl
  have x2 := NC.out.cell 2 rfl
  have x3 := NC.out.cell 3 rfl
  have x4 := NC.out.cell 4 rfl
  have x5 := NC.out.cell 5 rfl
  have x6 := NC.out.cell 6 rfl
  have x7 := NC.out.cell 7 rfl
  have x8 := NC.out.cell 8 rfl
  have x9 := NC.out.cell 9 rfl
  have y0 := NC.out.free 0
  have y1 := NC.out.free 1
  have y2 := NC.out.free 2
  have y3 := NC.out.free 3
  have y4 := NC.out.free 4
  have y5 := NC.out.free 5
  have y6 := NC.out.free 6
  have y7 := NC.out.free 7
  have y8 := NC.out.free 8
  have y9 := NC.out.free 9
  go_wp2_with fail
  refine bodyPost_ret (v := .agg #[.string ⟨#[]⟩, .bool false, .bool false, .bool false, .bool false, .bool false, .bool cb, .bool false, .string ⟨#[]⟩, .slice none 0 0]) (by simp [results, go_sem, r0, r1, r2, r3, r4, r5, r6, r7, r8, r9]) rfl ?_
  exact ⟨rfl, ct_endB (Nat.le_refl _) (B0.out.setCell (Nat.le_succ _) _) _ _ _ _ _ _ _ _ _ _⟩
set_option maxHeartbeats 4000000 in
set_option maxRecDepth 100000 in
theorem refStart_m0 (v : Value) (ax : List (ByteArray × ByteArray)) (w : World) (hv : AttrsV w v ax) (hz : AxOK ax) (text : ByteArray) (k : Int) (h28 : ¬ k = 28) (h24 : ¬ k = 24) (hm : ¬ modeV k = 1) (hm3 : ¬ modeV k = 3) (h32 : ¬ k = 32) :
    Calls Tryz.prog 13 #[.int .i64 k, v, .string text] w fun e w' => e = .returned (ctV ct0 (.slice none 0 0)) ∧ Below w.heap.size w w' := by
  have B0 : Hid (Below w.heap.size w ((w.alloc (.cells #[.string ⟨#[]⟩, .bool false, .bool false, .bool false, .bool false, .bool false, .bool false, .bool false, .string ⟨#[]⟩, .slice none 0 0] 24)).alloc (.cells #[.string ⟨#[]⟩, .bool false, .bool false, .bool false, .bool false, .bool false, .bool false, .bool false, .string ⟨#[]⟩, .slice none 0 0] 24))) := ((Below.refl _ w).alloc (Nat.le_refl _) _).alloc ((Below.refl _ w).alloc (Nat.le_refl _) (.cells #[.string ⟨#[]⟩, .bool false, .bool false, .bool false, .bool false, .bool false, .bool false, .bool false, .string ⟨#[]⟩, .slice none 0 0] 24)).size _
  have NR := hide ((Bk.new w [.string ⟨#[]⟩, .bool false, .bool false, .bool false, .bool false, .bool false, .bool false, .bool false, .string ⟨#[]⟩, .slice none 0 0] 24).below ((Below.refl _ (w.alloc (.cells #[.string ⟨#[]⟩, .bool false, .bool false, .bool false, .bool false, .bool false, .bool false, .bool false, .string ⟨#[]⟩, .slice none 0 0] 24))).alloc (Nat.le_refl _) (.cells #[.string ⟨#[]⟩, .bool false, .bool false, .bool false, .bool false, .bool false, .bool false, .bool false, .string ⟨#[]⟩, .slice none 0 0] 24)))
  have NC0 := hide (Bk.new (w.alloc (.cells #[.string ⟨#[]⟩, .bool false, .bool false, .bool false, .bool false, .bool false, .bool false, .bool false, .string ⟨#[]⟩, .slice none 0 0] 24)) [.string ⟨#[]⟩, .bool false, .bool false, .bool false, .bool false, .bool false, .bool false, .bool false, .string ⟨#[]⟩, .slice none 0 0] 24)
  have NC : Hid (Bk ((w.alloc (.cells #[.string ⟨#[]⟩, .bool false, .bool false, .bool false, .bool false, .bool false, .bool false, .bool false, .string ⟨#[]⟩, .slice none 0 0] 24)).alloc (.cells #[.string ⟨#[]⟩, .bool false, .bool false, .bool false, .bool false, .bool false, .bool false, .bool false, .string ⟨#[]⟩, .slice none 0 0] 24)) (w.heap.size + 1) [.string ⟨#[]⟩, .bool false, .bool false, .bool false, .bool false, .bool false, .bool false, .bool false, .string ⟨#[]⟩, .slice none 0 0] 24) := by
    have e : (w.alloc (.cells #[.string ⟨#[]⟩, .bool false, .bool false, .bool false, .bool false, .bool false, .bool false, .bool false, .string ⟨#[]⟩, .slice none 0 0] 24)).heap.size = w.heap.size + 1 := by simp
    rw [e] at NC0; exact NC0
  have HA := hide (fun n W (hb : Below w.heap.size w W) => refAttrS_any v ax n W (hv.below hb) hz.len)
  have A1 := hide (HA.out valS)
  have A2 := hide (HA.out chkS)
  have A3 := hide (HA.out selS)
  rw [show valS = ⟨#[118, 97, 108, 117, 101]⟩ from rfl] at A1
  rw [show chkS = ⟨#[99, 104, 101, 99, 107, 101, 100]⟩ from rfl] at A2
  rw [show selS = ⟨#[115, 101, 108, 101, 99, 116, 101, 100]⟩ from rfl] at A3
  clear NC0 HA
  have k28 : (k == 28) = false := beq_eq_false_iff_ne.2 h28
  have k24 : (k == 24) = false := beq_eq_false_iff_ne.2 h24
  have HM := hide (fun W => refMode_any k W)
  have m1 : (modeV k == 1) = false := beq_eq_false_iff_ne.2 hm
  have m3 : (modeV k == 3) = false := beq_eq_false_iff_ne.2 hm3
  generalize modeV k = mm at *
  have k32 : (k == 32) = false := beq_eq_false_iff_ne.2 h32
  clear hm hm3
  obtain ⟨p, c, rfl, _⟩ := hv
  clear hz
  go_enter Tryz.func13, Tryz.ntmps13
  go_wp2_with fail
  generalize (w.alloc (.cells #[.string ⟨#[]⟩, .bool false, .bool false, .bool false, .bool false, .bool false, .bool false, .bool false, .string ⟨#[]⟩, .slice none 0 0] 24)).alloc (.cells #[.string ⟨#[]⟩, .bool false, .bool false, .bool false, .bool false, .bool false, .bool false, .bool false, .string ⟨#[]⟩, .slice none 0 0] 24) = w0 at *
  refine (A1.out _ B0.out).mono ?_
  rintro e w1 ⟨rfl, h1⟩
  obtain rfl : w0 = w1 := h1.symm
  go_wp2_with fail
  refine (A2.out _ B0.out).mono ?_
  rintro e w1 ⟨rfl, h1⟩
  obtain rfl : w0 = w1 := h1.symm
  go_wp2_with fail
  refine (A3.out _ B0.out).mono ?_
  rintro e w1 ⟨rfl, h1⟩
  obtain rfl : w0 = w1 := h1.symm
  go_wp2_with fail
  refine (HM.out _).mono ?_
  rintro e wm1 ⟨rfl, hm1⟩
  obtain rfl : w0 = wm1 := hm1.symm
  go_wp2_with fail
  refine (HM.out _).mono ?_
  rintro e wm2 ⟨rfl, hm2⟩
  obtain rfl : w0 = wm2 := hm2.symm
  have r0 := NR.out.cell 0 rfl
  have r1 := NR.out.cell 1 rfl
  have r2 := NR.out.cell 2 rfl
  have r3 := NR.out.cell 3 rfl
  have r4 := NR.out.cell 4 rfl
  have r5 := NR.out.cell 5 rfl
  have r6 := NR.out.cell 6 rfl
  have r7 := NR.out.cell 7 rfl
  have r8 := NR.out.cell 8 rfl
  have r9 := NR.out.cell 9 rfl
  have s0 := NR.out.free 0
  have s1 := NR.out.free 1
  have s2 := NR.out.free 2
  have s3 := NR.out.free 3
  have s4 := NR.out.free 4
  have s5 := NR.out.free 5
  have s6 := NR.out.free 6
  have s7 := NR.out.free 7
  have s8 := NR.out.free 8
  have s9 := NR.out.free 9
  have x0 := NC.out.cell 0 rfl
  have x1 := NC.out.cell 1 rfl
  have x2 := NC.out.cell 2 rfl
  have x3 := NC.out.cell 3 rfl
  have x4 := NC.out.cell 4 rfl
  have x5 := NC.out.cell 5 rfl
  have x6 := NC.out.cell 6 rfl
  have x7 := NC.out.cell 7 rfl
  have x8 := NC.out.cell 8 rfl
  have x9 := NC.out.cell 9 rfl
  have y0 := NC.out.free 0
  have y1 := NC.out.free 1
  have y2 := NC.out.free 2
  have y3 := NC.out.free 3
  have y4 := NC.out.free 4
  have y5 := NC.out.free 5
  have y6 := NC.out.free 6
  have y7 := NC.out.free 7
  have y8 := NC.out.free 8
  have y9 := NC.out.free 9
  go_wp2_with fail
  refine bodyPost_ret (v := .agg #[.string ⟨#[]⟩, .bool false, .bool false, .bool false, .bool false, .bool false, .bool false, .bool false, .string ⟨#[]⟩, .slice none 0 0]) (by simp [results, go_sem, r0, r1, r2, r3, r4, r5, r6, r7, r8, r9]) rfl ?_
  exact ⟨rfl, ct_endB (Nat.le_refl _) B0.out _ _ _ _ _ _ _ _ _ _⟩
theorem refStart_any (k : Int) (v : Value) (ax : List (ByteArray × ByteArray)) (w : World) (hv : AttrsV w v ax) (hz : AxOK ax) (text t : ByteArray) (ht : ClnIs k ax (srcS k ax text) t) (hs : text.size ≤ 100000) :
    Calls Tryz.prog 13 #[.int .i64 k, v, .string text] w fun e w' => e = .returned (ctV (startP k ax text t) (.slice none 0 0)) ∧ Below w.heap.size w w' := by
  unfold startP
  by_cases h28 : k = 28
  · subst h28
    rw [if_pos rfl]
    exact refStart_28 v ax w hv hz text
  · rw [if_neg h28]
    by_cases h24 : k = 24
    · subst h24
      rw [if_pos (by decide)]
      exact refStart_24 v ax w hv hz text t ht hs
    · by_cases hm : modeV k = 1
      · rw [if_pos hm]
        unfold srcS at ht
        rw [if_neg h24] at ht
        exact refStart_m1 v ax w hv hz text k h28 h24 hm t ht
      · rw [if_neg hm]
        by_cases hm3 : modeV k = 3
        · rw [if_pos hm3]
          exact refStart_m3 v ax w hv hz text k h28 h24 hm3
        · rw [if_neg hm3]
          by_cases h32 : k = 32
          · rw [if_pos h32]
            exact refStart_m32 v ax w hv hz text k h28 h24 hm hm3 h32
          · rw [if_neg h32]
            exact refStart_m0 v ax w hv hz text k h28 h24 hm hm3 h32

end Go.Proofs.YtfjfkkbgkjmghaaGreatDoor
