/- The document's Changed and Retype of layer 14. -/
import Derived.Test.YtfjfkkbgkjmghaaGreatDoorJct55

namespace Go.Proofs.YtfjfkkbgkjmghaaGreatDoor
open Go.RowKit
set_option maxHeartbeats 4000000 in
set_option maxRecDepth 100000 in
theorem refChanged_B1 (k : Int) (C : Ct) (fv v : Value) (ax : List (ByteArray × ByteArray)) (w : World) (hf : FilesV w fv C.files) (hv : AttrsV w v ax) (hz : AxOK ax) (name : ByteArray) (hk : ¬ k < 23) (hm : modeV k = 1) (h32 : ¬ k = 32) :
    Calls Tryz.prog 21 #[.int .i64 k, ctV C fv, v, .string name] w fun e w' => e = .returned (ctV C fv) ∧ Below w.heap.size w w' := by
  have HM := hide (fun W => refMode_any k W)
  have HA := hide (fun W (hb : Below w.heap.size w W) => refAttrS_any v ax name W (hv.below hb) hz.len)
  have k23 : ¬ k < 23 := hk
  have d23 : decide (k < 23) = false := decide_eq_false hk
  have k32 : (k == 32) = false := beq_eq_false_iff_ne.2 h32
  rw [hm] at HM
  clear hz hm hk
  generalize fndS ax name = fs0 at *
  generalize (findA ax name).isSome = is0 at *
  obtain ⟨p, c, rfl, _⟩ := hv
  obtain ⟨fp, fc, rfl, _⟩ := hf
  obtain ⟨c0, c1, c2, c3, c4, c5, c6, c7, c8, c9⟩ := C
  unfold ctV ctCells
  have B0 : Hid (Below w.heap.size w ((w.alloc (.cells #[.string c0, .bool c1, .bool c2, .bool c3, .bool c4, .bool c5, .bool c6, .bool c7, .string c8, .slice fp c9.length fc] 24)).alloc (.cells #[.string ⟨#[]⟩, .bool false, .bool false, .bool false, .bool false, .bool false, .bool false, .bool false, .string ⟨#[]⟩, .slice none 0 0] 24))) := ((Below.refl _ w).alloc (Nat.le_refl _) _).alloc ((Below.refl _ w).alloc (Nat.le_refl _) (.cells #[.string c0, .bool c1, .bool c2, .bool c3, .bool c4, .bool c5, .bool c6, .bool c7, .string c8, .slice fp c9.length fc] 24)).size _
  have NP := hide ((Bk.new w [.string c0, .bool c1, .bool c2, .bool c3, .bool c4, .bool c5, .bool c6, .bool c7, .string c8, .slice fp c9.length fc] 24).below ((Below.refl _ (w.alloc (.cells #[.string c0, .bool c1, .bool c2, .bool c3, .bool c4, .bool c5, .bool c6, .bool c7, .string c8, .slice fp c9.length fc] 24))).alloc (Nat.le_refl _) (.cells #[.string ⟨#[]⟩, .bool false, .bool false, .bool false, .bool false, .bool false, .bool false, .bool false, .string ⟨#[]⟩, .slice none 0 0] 24)))
  have NR0 := hide (Bk.new (w.alloc (.cells #[.string c0, .bool c1, .bool c2, .bool c3, .bool c4, .bool c5, .bool c6, .bool c7, .string c8, .slice fp c9.length fc] 24)) [.string ⟨#[]⟩, .bool false, .bool false, .bool false, .bool false, .bool false, .bool false, .bool false, .string ⟨#[]⟩, .slice none 0 0] 24)
  have NR : Hid (Bk ((w.alloc (.cells #[.string c0, .bool c1, .bool c2, .bool c3, .bool c4, .bool c5, .bool c6, .bool c7, .string c8, .slice fp c9.length fc] 24)).alloc (.cells #[.string ⟨#[]⟩, .bool false, .bool false, .bool false, .bool false, .bool false, .bool false, .bool false, .string ⟨#[]⟩, .slice none 0 0] 24)) (w.heap.size + 1) [.string ⟨#[]⟩, .bool false, .bool false, .bool false, .bool false, .bool false, .bool false, .bool false, .string ⟨#[]⟩, .slice none 0 0] 24) := by
    have e : (w.alloc (.cells #[.string c0, .bool c1, .bool c2, .bool c3, .bool c4, .bool c5, .bool c6, .bool c7, .string c8, .slice fp c9.length fc] 24)).heap.size = w.heap.size + 1 := by simp
    rw [e] at NR0; exact NR0
  clear NR0
  go_enter Tryz.func21, Tryz.ntmps21
  go_upto_region 1 with fail
  generalize (w.alloc (.cells #[.string c0, .bool c1, .bool c2, .bool c3, .bool c4, .bool c5, .bool c6, .bool c7, .string c8, .slice fp c9.length fc] 24)).alloc (.cells #[.string ⟨#[]⟩, .bool false, .bool false, .bool false, .bool false, .bool false, .bool false, .bool false, .string ⟨#[]⟩, .slice none 0 0] 24) = w0 at *
  go_wp2_with fail
  refine (HA.out _ B0.out).mono ?_
  rintro e wa ⟨rfl, hwa⟩
  obtain rfl : w0 = wa := hwa.symm
  go_wp2_with fail
  refine (HM.out _).mono ?_
  rintro e wm ⟨rfl, hwm⟩
  obtain rfl : w0 = wm := hwm.symm
  have p0 := NP.out.cell 0 rfl
  have p1 := NP.out.cell 1 rfl
  have p2 := NP.out.cell 2 rfl
  have p3 := NP.out.cell 3 rfl
  have p4 := NP.out.cell 4 rfl
  have p5 := NP.out.cell 5 rfl
  have p6 := NP.out.cell 6 rfl
  have p7 := NP.out.cell 7 rfl
  have p8 := NP.out.cell 8 rfl
  have p9 := NP.out.cell 9 rfl
  have q0 := NP.out.free 0
  have q1 := NP.out.free 1
  have q2 := NP.out.free 2
  have q3 := NP.out.free 3
  have q4 := NP.out.free 4
  have q5 := NP.out.free 5
  have q6 := NP.out.free 6
  have q7 := NP.out.free 7
  have q8 := NP.out.free 8
  have q9 := NP.out.free 9
  have r0 := NR.out.cell 0 rfl
  have r1 := NR.out.cell 1 rfl
  have r2 := NR.out.cell 2 rfl
  have r3 := NR.out.cell 3 rfl
  have r4 := NR.out.cell 4 rfl
  have r5 := NR.out.cell 5 rfl
  have r6 := NR.out.cell 6 rfl
  have r7 := NR.out.cell 7 rfl
  have r8 := NR.out.cell 8 rfl
  have r9 := NR.out.cell 9 rfl
  have s0 := NR.out.free 0
  have s1 := NR.out.free 1
  have s2 := NR.out.free 2
  have s3 := NR.out.free 3
  have s4 := NR.out.free 4
  have s5 := NR.out.free 5
  have s6 := NR.out.free 6
  have s7 := NR.out.free 7
  have s8 := NR.out.free 8
  have s9 := NR.out.free 9
  go_wp2_with fail
  refine bodyPost_ret (v := .agg #[.string c0, .bool c1, .bool c2, .bool c3, .bool c4, .bool c5, .bool c6, .bool c7, .string c8, .slice fp c9.length fc]) (by simp [results, go_sem, r0, r1, r2, r3, r4, r5, r6, r7, r8, r9]) rfl ?_
  exact ⟨rfl, ct_endB (Nat.le_succ _) B0.out _ _ _ _ _ _ _ _ _ _⟩
set_option maxHeartbeats 4000000 in
set_option maxRecDepth 100000 in
theorem refChanged_B3y (k : Int) (C : Ct) (fv v : Value) (ax : List (ByteArray × ByteArray)) (w : World) (hf : FilesV w fv C.files) (hv : AttrsV w v ax) (hz : AxOK ax) (name : ByteArray) (hm : modeV k = 3) (hn : name = chkS) (hd : C.dchk = false) :
    Calls Tryz.prog 21 #[.int .i64 k, ctV C fv, v, .string name] w fun e w' => e = .returned (ctV { C with chk := (findA ax name).isSome } fv) ∧ Below w.heap.size w w' := by
  have HM := hide (fun W => refMode_any k W)
  have HA := hide (fun W (hb : Below w.heap.size w W) => refAttrS_any v ax name W (hv.below hb) hz.len)
  have k32 : (k == 32) = false := by rw [beq_eq_false_iff_ne]; intro q; subst q; exact absurd hm (by decide)
  rw [hm] at HM
  have f0 : (name.toList == [118, 97, 108, 117, 101]) = false := by rw [lit_decK]; exact decide_eq_false (fun q => absurd (hn.symm.trans q) (by decide))
  have f1 : (name.toList == [109, 117, 108, 116, 105, 112, 108, 101]) = false := by rw [lit_decK]; exact decide_eq_false (fun q => absurd (hn.symm.trans q) (by decide))
  have f2 : (name.toList == [109, 105, 110]) = false := by rw [lit_decK]; exact decide_eq_false (fun q => absurd (hn.symm.trans q) (by decide))
  have f3 : (name.toList == [109, 97, 120]) = false := by rw [lit_decK]; exact decide_eq_false (fun q => absurd (hn.symm.trans q) (by decide))
  have f4 : (name.toList == [115, 116, 101, 112]) = false := by rw [lit_decK]; exact decide_eq_false (fun q => absurd (hn.symm.trans q) (by decide))
  have f5 : (name.toList == [99, 104, 101, 99, 107, 101, 100]) = true := by rw [lit_decK]; exact decide_eq_true (hn)
  have f6 : (name.toList == [115, 101, 108, 101, 99, 116, 101, 100]) = false := by rw [lit_decK]; exact decide_eq_false (fun q => absurd (hn.symm.trans q) (by decide))
  clear hz hm hn
  generalize fndS ax name = fs0 at *
  generalize (findA ax name).isSome = is0 at *
  obtain ⟨p, c, rfl, _⟩ := hv
  obtain ⟨fp, fc, rfl, _⟩ := hf
  obtain ⟨c0, c1, c2, c3, c4, c5, c6, c7, c8, c9⟩ := C
  have hd0 : c4 = false := hd
  subst hd0
  unfold ctV ctCells
  have B0 : Hid (Below w.heap.size w ((w.alloc (.cells #[.string c0, .bool c1, .bool c2, .bool c3, .bool false, .bool c5, .bool c6, .bool c7, .string c8, .slice fp c9.length fc] 24)).alloc (.cells #[.string ⟨#[]⟩, .bool false, .bool false, .bool false, .bool false, .bool false, .bool false, .bool false, .string ⟨#[]⟩, .slice none 0 0] 24))) := ((Below.refl _ w).alloc (Nat.le_refl _) _).alloc ((Below.refl _ w).alloc (Nat.le_refl _) (.cells #[.string c0, .bool c1, .bool c2, .bool c3, .bool false, .bool c5, .bool c6, .bool c7, .string c8, .slice fp c9.length fc] 24)).size _
  have NP := hide ((Bk.new w [.string c0, .bool c1, .bool c2, .bool c3, .bool false, .bool c5, .bool c6, .bool c7, .string c8, .slice fp c9.length fc] 24).below ((Below.refl _ (w.alloc (.cells #[.string c0, .bool c1, .bool c2, .bool c3, .bool false, .bool c5, .bool c6, .bool c7, .string c8, .slice fp c9.length fc] 24))).alloc (Nat.le_refl _) (.cells #[.string ⟨#[]⟩, .bool false, .bool false, .bool false, .bool false, .bool false, .bool false, .bool false, .string ⟨#[]⟩, .slice none 0 0] 24)))
  have NR0 := hide (Bk.new (w.alloc (.cells #[.string c0, .bool c1, .bool c2, .bool c3, .bool false, .bool c5, .bool c6, .bool c7, .string c8, .slice fp c9.length fc] 24)) [.string ⟨#[]⟩, .bool false, .bool false, .bool false, .bool false, .bool false, .bool false, .bool false, .string ⟨#[]⟩, .slice none 0 0] 24)
  have NR : Hid (Bk ((w.alloc (.cells #[.string c0, .bool c1, .bool c2, .bool c3, .bool false, .bool c5, .bool c6, .bool c7, .string c8, .slice fp c9.length fc] 24)).alloc (.cells #[.string ⟨#[]⟩, .bool false, .bool false, .bool false, .bool false, .bool false, .bool false, .bool false, .string ⟨#[]⟩, .slice none 0 0] 24)) (w.heap.size + 1) [.string ⟨#[]⟩, .bool false, .bool false, .bool false, .bool false, .bool false, .bool false, .bool false, .string ⟨#[]⟩, .slice none 0 0] 24) := by
    have e : (w.alloc (.cells #[.string c0, .bool c1, .bool c2, .bool c3, .bool false, .bool c5, .bool c6, .bool c7, .string c8, .slice fp c9.length fc] 24)).heap.size = w.heap.size + 1 := by simp
    rw [e] at NR0; exact NR0
  clear NR0
  go_enter Tryz.func21, Tryz.ntmps21
  go_upto_region 1 with fail
  generalize (w.alloc (.cells #[.string c0, .bool c1, .bool c2, .bool c3, .bool false, .bool c5, .bool c6, .bool c7, .string c8, .slice fp c9.length fc] 24)).alloc (.cells #[.string ⟨#[]⟩, .bool false, .bool false, .bool false, .bool false, .bool false, .bool false, .bool false, .string ⟨#[]⟩, .slice none 0 0] 24) = w0 at *
  go_wp2_with fail
  refine (HA.out _ B0.out).mono ?_
  rintro e wa ⟨rfl, hwa⟩
  obtain rfl : w0 = wa := hwa.symm
  go_wp2_with fail
  refine (HM.out _).mono ?_
  rintro e wm ⟨rfl, hwm⟩
  obtain rfl : w0 = wm := hwm.symm
  have p0 := NP.out.cell 0 rfl
  have p1 := NP.out.cell 1 rfl
  have p2 := NP.out.cell 2 rfl
  have p3 := NP.out.cell 3 rfl
  have p4 := NP.out.cell 4 rfl
  have p5 := NP.out.cell 5 rfl
  have p6 := NP.out.cell 6 rfl
  have p7 := NP.out.cell 7 rfl
  have p8 := NP.out.cell 8 rfl
  have p9 := NP.out.cell 9 rfl
  have q0 := NP.out.free 0
  have q1 := NP.out.free 1
  have q2 := NP.out.free 2
  have q3 := NP.out.free 3
  have q4 := NP.out.free 4
  have q5 := NP.out.free 5
  have q6 := NP.out.free 6
  have q7 := NP.out.free 7
  have q8 := NP.out.free 8
  have q9 := NP.out.free 9
  have r0 := NR.out.cell 0 rfl
  have r1 := NR.out.cell 1 rfl
  have r2 := NR.out.cell 2 rfl
  have r3 := NR.out.cell 3 rfl
  have r4 := NR.out.cell 4 rfl
  have r5 := NR.out.cell 5 rfl
  have r6 := NR.out.cell 6 rfl
  have r7 := NR.out.cell 7 rfl
  have r8 := NR.out.cell 8 rfl
  have r9 := NR.out.cell 9 rfl
  have s0 := NR.out.free 0
  have s1 := NR.out.free 1
  have s2 := NR.out.free 2
  have s3 := NR.out.free 3
  have s4 := NR.out.free 4
  have s5 := NR.out.free 5
  have s6 := NR.out.free 6
  have s7 := NR.out.free 7
  have s8 := NR.out.free 8
  have s9 := NR.out.free 9
  go_wp2_with fail
  refine bodyPost_ret (v := .agg #[.string c0, .bool c1, .bool c2, .bool is0, .bool false, .bool c5, .bool c6, .bool c7, .string c8, .slice fp c9.length fc]) (by simp [results, go_sem, r0, r1, r2, r3, r4, r5, r6, r7, r8, r9]) rfl ?_
  exact ⟨rfl, ct_endB (Nat.le_succ _) (B0.out.setCell (Nat.le_refl _) _) _ _ _ _ _ _ _ _ _ _⟩
set_option maxHeartbeats 4000000 in
set_option maxRecDepth 100000 in
theorem refChanged_B3n (k : Int) (C : Ct) (fv v : Value) (ax : List (ByteArray × ByteArray)) (w : World) (hf : FilesV w fv C.files) (hv : AttrsV w v ax) (hz : AxOK ax) (name : ByteArray) (hm : modeV k = 3) (hn : ¬ name = chkS) :
    Calls Tryz.prog 21 #[.int .i64 k, ctV C fv, v, .string name] w fun e w' => e = .returned (ctV C fv) ∧ Below w.heap.size w w' := by
  have HM := hide (fun W => refMode_any k W)
  have HA := hide (fun W (hb : Below w.heap.size w W) => refAttrS_any v ax name W (hv.below hb) hz.len)
  have k32 : (k == 32) = false := by rw [beq_eq_false_iff_ne]; intro q; subst q; exact absurd hm (by decide)
  rw [hm] at HM
  have f5 : (name.toList == [99, 104, 101, 99, 107, 101, 100]) = false := by rw [lit_decK]; exact decide_eq_false (hn)
  clear hz hm
  generalize fndS ax name = fs0 at *
  generalize (findA ax name).isSome = is0 at *
  obtain ⟨p, c, rfl, _⟩ := hv
  obtain ⟨fp, fc, rfl, _⟩ := hf
  obtain ⟨c0, c1, c2, c3, c4, c5, c6, c7, c8, c9⟩ := C
  unfold ctV ctCells
  have B0 : Hid (Below w.heap.size w ((w.alloc (.cells #[.string c0, .bool c1, .bool c2, .bool c3, .bool c4, .bool c5, .bool c6, .bool c7, .string c8, .slice fp c9.length fc] 24)).alloc (.cells #[.string ⟨#[]⟩, .bool false, .bool false, .bool false, .bool false, .bool false, .bool false, .bool false, .string ⟨#[]⟩, .slice none 0 0] 24))) := ((Below.refl _ w).alloc (Nat.le_refl _) _).alloc ((Below.refl _ w).alloc (Nat.le_refl _) (.cells #[.string c0, .bool c1, .bool c2, .bool c3, .bool c4, .bool c5, .bool c6, .bool c7, .string c8, .slice fp c9.length fc] 24)).size _
  have NP := hide ((Bk.new w [.string c0, .bool c1, .bool c2, .bool c3, .bool c4, .bool c5, .bool c6, .bool c7, .string c8, .slice fp c9.length fc] 24).below ((Below.refl _ (w.alloc (.cells #[.string c0, .bool c1, .bool c2, .bool c3, .bool c4, .bool c5, .bool c6, .bool c7, .string c8, .slice fp c9.length fc] 24))).alloc (Nat.le_refl _) (.cells #[.string ⟨#[]⟩, .bool false, .bool false, .bool false, .bool false, .bool false, .bool false, .bool false, .string ⟨#[]⟩, .slice none 0 0] 24)))
  have NR0 := hide (Bk.new (w.alloc (.cells #[.string c0, .bool c1, .bool c2, .bool c3, .bool c4, .bool c5, .bool c6, .bool c7, .string c8, .slice fp c9.length fc] 24)) [.string ⟨#[]⟩, .bool false, .bool false, .bool false, .bool false, .bool false, .bool false, .bool false, .string ⟨#[]⟩, .slice none 0 0] 24)
  have NR : Hid (Bk ((w.alloc (.cells #[.string c0, .bool c1, .bool c2, .bool c3, .bool c4, .bool c5, .bool c6, .bool c7, .string c8, .slice fp c9.length fc] 24)).alloc (.cells #[.string ⟨#[]⟩, .bool false, .bool false, .bool false, .bool false, .bool false, .bool false, .bool false, .string ⟨#[]⟩, .slice none 0 0] 24)) (w.heap.size + 1) [.string ⟨#[]⟩, .bool false, .bool false, .bool false, .bool false, .bool false, .bool false, .bool false, .string ⟨#[]⟩, .slice none 0 0] 24) := by
    have e : (w.alloc (.cells #[.string c0, .bool c1, .bool c2, .bool c3, .bool c4, .bool c5, .bool c6, .bool c7, .string c8, .slice fp c9.length fc] 24)).heap.size = w.heap.size + 1 := by simp
    rw [e] at NR0; exact NR0
  clear NR0
  go_enter Tryz.func21, Tryz.ntmps21
  go_upto_region 1 with fail
  generalize (w.alloc (.cells #[.string c0, .bool c1, .bool c2, .bool c3, .bool c4, .bool c5, .bool c6, .bool c7, .string c8, .slice fp c9.length fc] 24)).alloc (.cells #[.string ⟨#[]⟩, .bool false, .bool false, .bool false, .bool false, .bool false, .bool false, .bool false, .string ⟨#[]⟩, .slice none 0 0] 24) = w0 at *
  go_wp2_with fail
  refine (HA.out _ B0.out).mono ?_
  rintro e wa ⟨rfl, hwa⟩
  obtain rfl : w0 = wa := hwa.symm
  go_wp2_with fail
  refine (HM.out _).mono ?_
  rintro e wm ⟨rfl, hwm⟩
  obtain rfl : w0 = wm := hwm.symm
  have p0 := NP.out.cell 0 rfl
  have p1 := NP.out.cell 1 rfl
  have p2 := NP.out.cell 2 rfl
  have p3 := NP.out.cell 3 rfl
  have p4 := NP.out.cell 4 rfl
  have p5 := NP.out.cell 5 rfl
  have p6 := NP.out.cell 6 rfl
  have p7 := NP.out.cell 7 rfl
  have p8 := NP.out.cell 8 rfl
  have p9 := NP.out.cell 9 rfl
  have q0 := NP.out.free 0
  have q1 := NP.out.free 1
  have q2 := NP.out.free 2
  have q3 := NP.out.free 3
  have q4 := NP.out.free 4
  have q5 := NP.out.free 5
  have q6 := NP.out.free 6
  have q7 := NP.out.free 7
  have q8 := NP.out.free 8
  have q9 := NP.out.free 9
  have r0 := NR.out.cell 0 rfl
  have r1 := NR.out.cell 1 rfl
  have r2 := NR.out.cell 2 rfl
  have r3 := NR.out.cell 3 rfl
  have r4 := NR.out.cell 4 rfl
  have r5 := NR.out.cell 5 rfl
  have r6 := NR.out.cell 6 rfl
  have r7 := NR.out.cell 7 rfl
  have r8 := NR.out.cell 8 rfl
  have r9 := NR.out.cell 9 rfl
  have s0 := NR.out.free 0
  have s1 := NR.out.free 1
  have s2 := NR.out.free 2
  have s3 := NR.out.free 3
  have s4 := NR.out.free 4
  have s5 := NR.out.free 5
  have s6 := NR.out.free 6
  have s7 := NR.out.free 7
  have s8 := NR.out.free 8
  have s9 := NR.out.free 9
  go_wp2_with fail
  refine bodyPost_ret (v := .agg #[.string c0, .bool c1, .bool c2, .bool c3, .bool c4, .bool c5, .bool c6, .bool c7, .string c8, .slice fp c9.length fc]) (by simp [results, go_sem, r0, r1, r2, r3, r4, r5, r6, r7, r8, r9]) rfl ?_
  exact ⟨rfl, ct_endB (Nat.le_succ _) B0.out _ _ _ _ _ _ _ _ _ _⟩
set_option maxHeartbeats 4000000 in
set_option maxRecDepth 100000 in
theorem refChanged_B3d (k : Int) (C : Ct) (fv v : Value) (ax : List (ByteArray × ByteArray)) (w : World) (hf : FilesV w fv C.files) (hv : AttrsV w v ax) (hz : AxOK ax) (name : ByteArray) (hm : modeV k = 3) (hn : name = chkS) (hd : C.dchk = true) :
    Calls Tryz.prog 21 #[.int .i64 k, ctV C fv, v, .string name] w fun e w' => e = .returned (ctV C fv) ∧ Below w.heap.size w w' := by
  have HM := hide (fun W => refMode_any k W)
  have HA := hide (fun W (hb : Below w.heap.size w W) => refAttrS_any v ax name W (hv.below hb) hz.len)
  have k32 : (k == 32) = false := by rw [beq_eq_false_iff_ne]; intro q; subst q; exact absurd hm (by decide)
  rw [hm] at HM
  have f0 : (name.toList == [118, 97, 108, 117, 101]) = false := by rw [lit_decK]; exact decide_eq_false (fun q => absurd (hn.symm.trans q) (by decide))
  have f1 : (name.toList == [109, 117, 108, 116, 105, 112, 108, 101]) = false := by rw [lit_decK]; exact decide_eq_false (fun q => absurd (hn.symm.trans q) (by decide))
  have f2 : (name.toList == [109, 105, 110]) = false := by rw [lit_decK]; exact decide_eq_false (fun q => absurd (hn.symm.trans q) (by decide))
  have f3 : (name.toList == [109, 97, 120]) = false := by rw [lit_decK]; exact decide_eq_false (fun q => absurd (hn.symm.trans q) (by decide))
  have f4 : (name.toList == [115, 116, 101, 112]) = false := by rw [lit_decK]; exact decide_eq_false (fun q => absurd (hn.symm.trans q) (by decide))
  have f5 : (name.toList == [99, 104, 101, 99, 107, 101, 100]) = true := by rw [lit_decK]; exact decide_eq_true (hn)
  have f6 : (name.toList == [115, 101, 108, 101, 99, 116, 101, 100]) = false := by rw [lit_decK]; exact decide_eq_false (fun q => absurd (hn.symm.trans q) (by decide))
  clear hz hm hn
  generalize fndS ax name = fs0 at *
  generalize (findA ax name).isSome = is0 at *
  obtain ⟨p, c, rfl, _⟩ := hv
  obtain ⟨fp, fc, rfl, _⟩ := hf
  obtain ⟨c0, c1, c2, c3, c4, c5, c6, c7, c8, c9⟩ := C
  have hd0 : c4 = true := hd
  subst hd0
  unfold ctV ctCells
  have B0 : Hid (Below w.heap.size w ((w.alloc (.cells #[.string c0, .bool c1, .bool c2, .bool c3, .bool true, .bool c5, .bool c6, .bool c7, .string c8, .slice fp c9.length fc] 24)).alloc (.cells #[.string ⟨#[]⟩, .bool false, .bool false, .bool false, .bool false, .bool false, .bool false, .bool false, .string ⟨#[]⟩, .slice none 0 0] 24))) := ((Below.refl _ w).alloc (Nat.le_refl _) _).alloc ((Below.refl _ w).alloc (Nat.le_refl _) (.cells #[.string c0, .bool c1, .bool c2, .bool c3, .bool true, .bool c5, .bool c6, .bool c7, .string c8, .slice fp c9.length fc] 24)).size _
  have NP := hide ((Bk.new w [.string c0, .bool c1, .bool c2, .bool c3, .bool true, .bool c5, .bool c6, .bool c7, .string c8, .slice fp c9.length fc] 24).below ((Below.refl _ (w.alloc (.cells #[.string c0, .bool c1, .bool c2, .bool c3, .bool true, .bool c5, .bool c6, .bool c7, .string c8, .slice fp c9.length fc] 24))).alloc (Nat.le_refl _) (.cells #[.string ⟨#[]⟩, .bool false, .bool false, .bool false, .bool false, .bool false, .bool false, .bool false, .string ⟨#[]⟩, .slice none 0 0] 24)))
  have NR0 := hide (Bk.new (w.alloc (.cells #[.string c0, .bool c1, .bool c2, .bool c3, .bool true, .bool c5, .bool c6, .bool c7, .string c8, .slice fp c9.length fc] 24)) [.string ⟨#[]⟩, .bool false, .bool false, .bool false, .bool false, .bool false, .bool false, .bool false, .string ⟨#[]⟩, .slice none 0 0] 24)
  have NR : Hid (Bk ((w.alloc (.cells #[.string c0, .bool c1, .bool c2, .bool c3, .bool true, .bool c5, .bool c6, .bool c7, .string c8, .slice fp c9.length fc] 24)).alloc (.cells #[.string ⟨#[]⟩, .bool false, .bool false, .bool false, .bool false, .bool false, .bool false, .bool false, .string ⟨#[]⟩, .slice none 0 0] 24)) (w.heap.size + 1) [.string ⟨#[]⟩, .bool false, .bool false, .bool false, .bool false, .bool false, .bool false, .bool false, .string ⟨#[]⟩, .slice none 0 0] 24) := by
    have e : (w.alloc (.cells #[.string c0, .bool c1, .bool c2, .bool c3, .bool true, .bool c5, .bool c6, .bool c7, .string c8, .slice fp c9.length fc] 24)).heap.size = w.heap.size + 1 := by simp
    rw [e] at NR0; exact NR0
  clear NR0
  go_enter Tryz.func21, Tryz.ntmps21
  go_upto_region 1 with fail
  generalize (w.alloc (.cells #[.string c0, .bool c1, .bool c2, .bool c3, .bool true, .bool c5, .bool c6, .bool c7, .string c8, .slice fp c9.length fc] 24)).alloc (.cells #[.string ⟨#[]⟩, .bool false, .bool false, .bool false, .bool false, .bool false, .bool false, .bool false, .string ⟨#[]⟩, .slice none 0 0] 24) = w0 at *
  go_wp2_with fail
  refine (HA.out _ B0.out).mono ?_
  rintro e wa ⟨rfl, hwa⟩
  obtain rfl : w0 = wa := hwa.symm
  go_wp2_with fail
  refine (HM.out _).mono ?_
  rintro e wm ⟨rfl, hwm⟩
  obtain rfl : w0 = wm := hwm.symm
  have p0 := NP.out.cell 0 rfl
  have p1 := NP.out.cell 1 rfl
  have p2 := NP.out.cell 2 rfl
  have p3 := NP.out.cell 3 rfl
  have p4 := NP.out.cell 4 rfl
  have p5 := NP.out.cell 5 rfl
  have p6 := NP.out.cell 6 rfl
  have p7 := NP.out.cell 7 rfl
  have p8 := NP.out.cell 8 rfl
  have p9 := NP.out.cell 9 rfl
  have q0 := NP.out.free 0
  have q1 := NP.out.free 1
  have q2 := NP.out.free 2
  have q3 := NP.out.free 3
  have q4 := NP.out.free 4
  have q5 := NP.out.free 5
  have q6 := NP.out.free 6
  have q7 := NP.out.free 7
  have q8 := NP.out.free 8
  have q9 := NP.out.free 9
  have r0 := NR.out.cell 0 rfl
  have r1 := NR.out.cell 1 rfl
  have r2 := NR.out.cell 2 rfl
  have r3 := NR.out.cell 3 rfl
  have r4 := NR.out.cell 4 rfl
  have r5 := NR.out.cell 5 rfl
  have r6 := NR.out.cell 6 rfl
  have r7 := NR.out.cell 7 rfl
  have r8 := NR.out.cell 8 rfl
  have r9 := NR.out.cell 9 rfl
  have s0 := NR.out.free 0
  have s1 := NR.out.free 1
  have s2 := NR.out.free 2
  have s3 := NR.out.free 3
  have s4 := NR.out.free 4
  have s5 := NR.out.free 5
  have s6 := NR.out.free 6
  have s7 := NR.out.free 7
  have s8 := NR.out.free 8
  have s9 := NR.out.free 9
  go_wp2_with fail
  refine bodyPost_ret (v := .agg #[.string c0, .bool c1, .bool c2, .bool c3, .bool true, .bool c5, .bool c6, .bool c7, .string c8, .slice fp c9.length fc]) (by simp [results, go_sem, r0, r1, r2, r3, r4, r5, r6, r7, r8, r9]) rfl ?_
  exact ⟨rfl, ct_endB (Nat.le_succ _) B0.out _ _ _ _ _ _ _ _ _ _⟩
set_option maxHeartbeats 4000000 in
set_option maxRecDepth 100000 in
theorem refChanged_B4y (k : Int) (C : Ct) (fv v : Value) (ax : List (ByteArray × ByteArray)) (w : World) (hf : FilesV w fv C.files) (hv : AttrsV w v ax) (hz : AxOK ax) (name : ByteArray) (hm : ¬ modeV k = 1) (hm3 : ¬ modeV k = 3) (h32 : k = 32) (hn : name = selS) (hd : C.dsel = false) :
    Calls Tryz.prog 21 #[.int .i64 k, ctV C fv, v, .string name] w fun e w' => e = .returned (ctV { C with sel := (findA ax name).isSome } fv) ∧ Below w.heap.size w w' := by
  have HM := hide (fun W => refMode_any k W)
  have HA := hide (fun W (hb : Below w.heap.size w W) => refAttrS_any v ax name W (hv.below hb) hz.len)
  have m1 : (modeV k == 1) = false := beq_eq_false_iff_ne.2 hm
  have m3 : (modeV k == 3) = false := beq_eq_false_iff_ne.2 hm3
  generalize modeV k = mm at *
  have k32 : (k == 32) = true := by rw [h32]; rfl
  have f0 : (name.toList == [118, 97, 108, 117, 101]) = false := by rw [lit_decK]; exact decide_eq_false (fun q => absurd (hn.symm.trans q) (by decide))
  have f1 : (name.toList == [109, 117, 108, 116, 105, 112, 108, 101]) = false := by rw [lit_decK]; exact decide_eq_false (fun q => absurd (hn.symm.trans q) (by decide))
  have f2 : (name.toList == [109, 105, 110]) = false := by rw [lit_decK]; exact decide_eq_false (fun q => absurd (hn.symm.trans q) (by decide))
  have f3 : (name.toList == [109, 97, 120]) = false := by rw [lit_decK]; exact decide_eq_false (fun q => absurd (hn.symm.trans q) (by decide))
  have f4 : (name.toList == [115, 116, 101, 112]) = false := by rw [lit_decK]; exact decide_eq_false (fun q => absurd (hn.symm.trans q) (by decide))
  have f5 : (name.toList == [99, 104, 101, 99, 107, 101, 100]) = false := by rw [lit_decK]; exact decide_eq_false (fun q => absurd (hn.symm.trans q) (by decide))
  have f6 : (name.toList == [115, 101, 108, 101, 99, 116, 101, 100]) = true := by rw [lit_decK]; exact decide_eq_true (hn)
  clear hz hn h32
  generalize fndS ax name = fs0 at *
  generalize (findA ax name).isSome = is0 at *
  obtain ⟨p, c, rfl, _⟩ := hv
  obtain ⟨fp, fc, rfl, _⟩ := hf
  obtain ⟨c0, c1, c2, c3, c4, c5, c6, c7, c8, c9⟩ := C
  have hd0 : c7 = false := hd
  subst hd0
  unfold ctV ctCells
  have B0 : Hid (Below w.heap.size w ((w.alloc (.cells #[.string c0, .bool c1, .bool c2, .bool c3, .bool c4, .bool c5, .bool c6, .bool false, .string c8, .slice fp c9.length fc] 24)).alloc (.cells #[.string ⟨#[]⟩, .bool false, .bool false, .bool false, .bool false, .bool false, .bool false, .bool false, .string ⟨#[]⟩, .slice none 0 0] 24))) := ((Below.refl _ w).alloc (Nat.le_refl _) _).alloc ((Below.refl _ w).alloc (Nat.le_refl _) (.cells #[.string c0, .bool c1, .bool c2, .bool c3, .bool c4, .bool c5, .bool c6, .bool false, .string c8, .slice fp c9.length fc] 24)).size _
  have NP := hide ((Bk.new w [.string c0, .bool c1, .bool c2, .bool c3, .bool c4, .bool c5, .bool c6, .bool false, .string c8, .slice fp c9.length fc] 24).below ((Below.refl _ (w.alloc (.cells #[.string c0, .bool c1, .bool c2, .bool c3, .bool c4, .bool c5, .bool c6, .bool false, .string c8, .slice fp c9.length fc] 24))).alloc (Nat.le_refl _) (.cells #[.string ⟨#[]⟩, .bool false, .bool false, .bool false, .bool false, .bool false, .bool false, .bool false, .string ⟨#[]⟩, .slice none 0 0] 24)))
  have NR0 := hide (Bk.new (w.alloc (.cells #[.string c0, .bool c1, .bool c2, .bool c3, .bool c4, .bool c5, .bool c6, .bool false, .string c8, .slice fp c9.length fc] 24)) [.string ⟨#[]⟩, .bool false, .bool false, .bool false, .bool false, .bool false, .bool false, .bool false, .string ⟨#[]⟩, .slice none 0 0] 24)
  have NR : Hid (Bk ((w.alloc (.cells #[.string c0, .bool c1, .bool c2, .bool c3, .bool c4, .bool c5, .bool c6, .bool false, .string c8, .slice fp c9.length fc] 24)).alloc (.cells #[.string ⟨#[]⟩, .bool false, .bool false, .bool false, .bool false, .bool false, .bool false, .bool false, .string ⟨#[]⟩, .slice none 0 0] 24)) (w.heap.size + 1) [.string ⟨#[]⟩, .bool false, .bool false, .bool false, .bool false, .bool false, .bool false, .bool false, .string ⟨#[]⟩, .slice none 0 0] 24) := by
    have e : (w.alloc (.cells #[.string c0, .bool c1, .bool c2, .bool c3, .bool c4, .bool c5, .bool c6, .bool false, .string c8, .slice fp c9.length fc] 24)).heap.size = w.heap.size + 1 := by simp
    rw [e] at NR0; exact NR0
  clear NR0
  go_enter Tryz.func21, Tryz.ntmps21
  go_upto_region 1 with fail
  generalize (w.alloc (.cells #[.string c0, .bool c1, .bool c2, .bool c3, .bool c4, .bool c5, .bool c6, .bool false, .string c8, .slice fp c9.length fc] 24)).alloc (.cells #[.string ⟨#[]⟩, .bool false, .bool false, .bool false, .bool false, .bool false, .bool false, .bool false, .string ⟨#[]⟩, .slice none 0 0] 24) = w0 at *
  go_wp2_with fail
  refine (HA.out _ B0.out).mono ?_
  rintro e wa ⟨rfl, hwa⟩
  obtain rfl : w0 = wa := hwa.symm
  go_wp2_with fail
  refine (HM.out _).mono ?_
  rintro e wm ⟨rfl, hwm⟩
  obtain rfl : w0 = wm := hwm.symm
  have p0 := NP.out.cell 0 rfl
  have p1 := NP.out.cell 1 rfl
  have p2 := NP.out.cell 2 rfl
  have p3 := NP.out.cell 3 rfl
  have p4 := NP.out.cell 4 rfl
  have p5 := NP.out.cell 5 rfl
  have p6 := NP.out.cell 6 rfl
  have p7 := NP.out.cell 7 rfl
  have p8 := NP.out.cell 8 rfl
  have p9 := NP.out.cell 9 rfl
  have q0 := NP.out.free 0
  have q1 := NP.out.free 1
  have q2 := NP.out.free 2
  have q3 := NP.out.free 3
  have q4 := NP.out.free 4
  have q5 := NP.out.free 5
  have q6 := NP.out.free 6
  have q7 := NP.out.free 7
  have q8 := NP.out.free 8
  have q9 := NP.out.free 9
  have r0 := NR.out.cell 0 rfl
  have r1 := NR.out.cell 1 rfl
  have r2 := NR.out.cell 2 rfl
  have r3 := NR.out.cell 3 rfl
  have r4 := NR.out.cell 4 rfl
  have r5 := NR.out.cell 5 rfl
  have r6 := NR.out.cell 6 rfl
  have r7 := NR.out.cell 7 rfl
  have r8 := NR.out.cell 8 rfl
  have r9 := NR.out.cell 9 rfl
  have s0 := NR.out.free 0
  have s1 := NR.out.free 1
  have s2 := NR.out.free 2
  have s3 := NR.out.free 3
  have s4 := NR.out.free 4
  have s5 := NR.out.free 5
  have s6 := NR.out.free 6
  have s7 := NR.out.free 7
  have s8 := NR.out.free 8
  have s9 := NR.out.free 9
  go_wp2_with fail
  refine bodyPost_ret (v := .agg #[.string c0, .bool c1, .bool c2, .bool c3, .bool c4, .bool c5, .bool is0, .bool false, .string c8, .slice fp c9.length fc]) (by simp [results, go_sem, r0, r1, r2, r3, r4, r5, r6, r7, r8, r9]) rfl ?_
  exact ⟨rfl, ct_endB (Nat.le_succ _) (B0.out.setCell (Nat.le_refl _) _) _ _ _ _ _ _ _ _ _ _⟩
set_option maxHeartbeats 4000000 in
set_option maxRecDepth 100000 in
theorem refChanged_B4n (k : Int) (C : Ct) (fv v : Value) (ax : List (ByteArray × ByteArray)) (w : World) (hf : FilesV w fv C.files) (hv : AttrsV w v ax) (hz : AxOK ax) (name : ByteArray) (hm : ¬ modeV k = 1) (hm3 : ¬ modeV k = 3) (h32 : k = 32) (hn : ¬ name = selS) :
    Calls Tryz.prog 21 #[.int .i64 k, ctV C fv, v, .string name] w fun e w' => e = .returned (ctV C fv) ∧ Below w.heap.size w w' := by
  have HM := hide (fun W => refMode_any k W)
  have HA := hide (fun W (hb : Below w.heap.size w W) => refAttrS_any v ax name W (hv.below hb) hz.len)
  have m1 : (modeV k == 1) = false := beq_eq_false_iff_ne.2 hm
  have m3 : (modeV k == 3) = false := beq_eq_false_iff_ne.2 hm3
  generalize modeV k = mm at *
  have k32 : (k == 32) = true := by rw [h32]; rfl
  have f6 : (name.toList == [115, 101, 108, 101, 99, 116, 101, 100]) = false := by rw [lit_decK]; exact decide_eq_false (hn)
  clear hz h32
  generalize fndS ax name = fs0 at *
  generalize (findA ax name).isSome = is0 at *
  obtain ⟨p, c, rfl, _⟩ := hv
  obtain ⟨fp, fc, rfl, _⟩ := hf
  obtain ⟨c0, c1, c2, c3, c4, c5, c6, c7, c8, c9⟩ := C
  unfold ctV ctCells
  have B0 : Hid (Below w.heap.size w ((w.alloc (.cells #[.string c0, .bool c1, .bool c2, .bool c3, .bool c4, .bool c5, .bool c6, .bool c7, .string c8, .slice fp c9.length fc] 24)).alloc (.cells #[.string ⟨#[]⟩, .bool false, .bool false, .bool false, .bool false, .bool false, .bool false, .bool false, .string ⟨#[]⟩, .slice none 0 0] 24))) := ((Below.refl _ w).alloc (Nat.le_refl _) _).alloc ((Below.refl _ w).alloc (Nat.le_refl _) (.cells #[.string c0, .bool c1, .bool c2, .bool c3, .bool c4, .bool c5, .bool c6, .bool c7, .string c8, .slice fp c9.length fc] 24)).size _
  have NP := hide ((Bk.new w [.string c0, .bool c1, .bool c2, .bool c3, .bool c4, .bool c5, .bool c6, .bool c7, .string c8, .slice fp c9.length fc] 24).below ((Below.refl _ (w.alloc (.cells #[.string c0, .bool c1, .bool c2, .bool c3, .bool c4, .bool c5, .bool c6, .bool c7, .string c8, .slice fp c9.length fc] 24))).alloc (Nat.le_refl _) (.cells #[.string ⟨#[]⟩, .bool false, .bool false, .bool false, .bool false, .bool false, .bool false, .bool false, .string ⟨#[]⟩, .slice none 0 0] 24)))
  have NR0 := hide (Bk.new (w.alloc (.cells #[.string c0, .bool c1, .bool c2, .bool c3, .bool c4, .bool c5, .bool c6, .bool c7, .string c8, .slice fp c9.length fc] 24)) [.string ⟨#[]⟩, .bool false, .bool false, .bool false, .bool false, .bool false, .bool false, .bool false, .string ⟨#[]⟩, .slice none 0 0] 24)
  have NR : Hid (Bk ((w.alloc (.cells #[.string c0, .bool c1, .bool c2, .bool c3, .bool c4, .bool c5, .bool c6, .bool c7, .string c8, .slice fp c9.length fc] 24)).alloc (.cells #[.string ⟨#[]⟩, .bool false, .bool false, .bool false, .bool false, .bool false, .bool false, .bool false, .string ⟨#[]⟩, .slice none 0 0] 24)) (w.heap.size + 1) [.string ⟨#[]⟩, .bool false, .bool false, .bool false, .bool false, .bool false, .bool false, .bool false, .string ⟨#[]⟩, .slice none 0 0] 24) := by
    have e : (w.alloc (.cells #[.string c0, .bool c1, .bool c2, .bool c3, .bool c4, .bool c5, .bool c6, .bool c7, .string c8, .slice fp c9.length fc] 24)).heap.size = w.heap.size + 1 := by simp
    rw [e] at NR0; exact NR0
  clear NR0
  go_enter Tryz.func21, Tryz.ntmps21
  go_upto_region 1 with fail
  generalize (w.alloc (.cells #[.string c0, .bool c1, .bool c2, .bool c3, .bool c4, .bool c5, .bool c6, .bool c7, .string c8, .slice fp c9.length fc] 24)).alloc (.cells #[.string ⟨#[]⟩, .bool false, .bool false, .bool false, .bool false, .bool false, .bool false, .bool false, .string ⟨#[]⟩, .slice none 0 0] 24) = w0 at *
  go_wp2_with fail
  refine (HA.out _ B0.out).mono ?_
  rintro e wa ⟨rfl, hwa⟩
  obtain rfl : w0 = wa := hwa.symm
  go_wp2_with fail
  refine (HM.out _).mono ?_
  rintro e wm ⟨rfl, hwm⟩
  obtain rfl : w0 = wm := hwm.symm
  have p0 := NP.out.cell 0 rfl
  have p1 := NP.out.cell 1 rfl
  have p2 := NP.out.cell 2 rfl
  have p3 := NP.out.cell 3 rfl
  have p4 := NP.out.cell 4 rfl
  have p5 := NP.out.cell 5 rfl
  have p6 := NP.out.cell 6 rfl
  have p7 := NP.out.cell 7 rfl
  have p8 := NP.out.cell 8 rfl
  have p9 := NP.out.cell 9 rfl
  have q0 := NP.out.free 0
  have q1 := NP.out.free 1
  have q2 := NP.out.free 2
  have q3 := NP.out.free 3
  have q4 := NP.out.free 4
  have q5 := NP.out.free 5
  have q6 := NP.out.free 6
  have q7 := NP.out.free 7
  have q8 := NP.out.free 8
  have q9 := NP.out.free 9
  have r0 := NR.out.cell 0 rfl
  have r1 := NR.out.cell 1 rfl
  have r2 := NR.out.cell 2 rfl
  have r3 := NR.out.cell 3 rfl
  have r4 := NR.out.cell 4 rfl
  have r5 := NR.out.cell 5 rfl
  have r6 := NR.out.cell 6 rfl
  have r7 := NR.out.cell 7 rfl
  have r8 := NR.out.cell 8 rfl
  have r9 := NR.out.cell 9 rfl
  have s0 := NR.out.free 0
  have s1 := NR.out.free 1
  have s2 := NR.out.free 2
  have s3 := NR.out.free 3
  have s4 := NR.out.free 4
  have s5 := NR.out.free 5
  have s6 := NR.out.free 6
  have s7 := NR.out.free 7
  have s8 := NR.out.free 8
  have s9 := NR.out.free 9
  go_wp2_with fail
  refine bodyPost_ret (v := .agg #[.string c0, .bool c1, .bool c2, .bool c3, .bool c4, .bool c5, .bool c6, .bool c7, .string c8, .slice fp c9.length fc]) (by simp [results, go_sem, r0, r1, r2, r3, r4, r5, r6, r7, r8, r9]) rfl ?_
  exact ⟨rfl, ct_endB (Nat.le_succ _) B0.out _ _ _ _ _ _ _ _ _ _⟩
set_option maxHeartbeats 4000000 in
set_option maxRecDepth 100000 in
theorem refChanged_B4d (k : Int) (C : Ct) (fv v : Value) (ax : List (ByteArray × ByteArray)) (w : World) (hf : FilesV w fv C.files) (hv : AttrsV w v ax) (hz : AxOK ax) (name : ByteArray) (hm : ¬ modeV k = 1) (hm3 : ¬ modeV k = 3) (h32 : k = 32) (hn : name = selS) (hd : C.dsel = true) :
    Calls Tryz.prog 21 #[.int .i64 k, ctV C fv, v, .string name] w fun e w' => e = .returned (ctV C fv) ∧ Below w.heap.size w w' := by
  have HM := hide (fun W => refMode_any k W)
  have HA := hide (fun W (hb : Below w.heap.size w W) => refAttrS_any v ax name W (hv.below hb) hz.len)
  have m1 : (modeV k == 1) = false := beq_eq_false_iff_ne.2 hm
  have m3 : (modeV k == 3) = false := beq_eq_false_iff_ne.2 hm3
  generalize modeV k = mm at *
  have k32 : (k == 32) = true := by rw [h32]; rfl
  have f0 : (name.toList == [118, 97, 108, 117, 101]) = false := by rw [lit_decK]; exact decide_eq_false (fun q => absurd (hn.symm.trans q) (by decide))
  have f1 : (name.toList == [109, 117, 108, 116, 105, 112, 108, 101]) = false := by rw [lit_decK]; exact decide_eq_false (fun q => absurd (hn.symm.trans q) (by decide))
  have f2 : (name.toList == [109, 105, 110]) = false := by rw [lit_decK]; exact decide_eq_false (fun q => absurd (hn.symm.trans q) (by decide))
  have f3 : (name.toList == [109, 97, 120]) = false := by rw [lit_decK]; exact decide_eq_false (fun q => absurd (hn.symm.trans q) (by decide))
  have f4 : (name.toList == [115, 116, 101, 112]) = false := by rw [lit_decK]; exact decide_eq_false (fun q => absurd (hn.symm.trans q) (by decide))
  have f5 : (name.toList == [99, 104, 101, 99, 107, 101, 100]) = false := by rw [lit_decK]; exact decide_eq_false (fun q => absurd (hn.symm.trans q) (by decide))
  have f6 : (name.toList == [115, 101, 108, 101, 99, 116, 101, 100]) = true := by rw [lit_decK]; exact decide_eq_true (hn)
  clear hz hn h32
  generalize fndS ax name = fs0 at *
  generalize (findA ax name).isSome = is0 at *
  obtain ⟨p, c, rfl, _⟩ := hv
  obtain ⟨fp, fc, rfl, _⟩ := hf
  obtain ⟨c0, c1, c2, c3, c4, c5, c6, c7, c8, c9⟩ := C
  have hd0 : c7 = true := hd
  subst hd0
  unfold ctV ctCells
  have B0 : Hid (Below w.heap.size w ((w.alloc (.cells #[.string c0, .bool c1, .bool c2, .bool c3, .bool c4, .bool c5, .bool c6, .bool true, .string c8, .slice fp c9.length fc] 24)).alloc (.cells #[.string ⟨#[]⟩, .bool false, .bool false, .bool false, .bool false, .bool false, .bool false, .bool false, .string ⟨#[]⟩, .slice none 0 0] 24))) := ((Below.refl _ w).alloc (Nat.le_refl _) _).alloc ((Below.refl _ w).alloc (Nat.le_refl _) (.cells #[.string c0, .bool c1, .bool c2, .bool c3, .bool c4, .bool c5, .bool c6, .bool true, .string c8, .slice fp c9.length fc] 24)).size _
  have NP := hide ((Bk.new w [.string c0, .bool c1, .bool c2, .bool c3, .bool c4, .bool c5, .bool c6, .bool true, .string c8, .slice fp c9.length fc] 24).below ((Below.refl _ (w.alloc (.cells #[.string c0, .bool c1, .bool c2, .bool c3, .bool c4, .bool c5, .bool c6, .bool true, .string c8, .slice fp c9.length fc] 24))).alloc (Nat.le_refl _) (.cells #[.string ⟨#[]⟩, .bool false, .bool false, .bool false, .bool false, .bool false, .bool false, .bool false, .string ⟨#[]⟩, .slice none 0 0] 24)))
  have NR0 := hide (Bk.new (w.alloc (.cells #[.string c0, .bool c1, .bool c2, .bool c3, .bool c4, .bool c5, .bool c6, .bool true, .string c8, .slice fp c9.length fc] 24)) [.string ⟨#[]⟩, .bool false, .bool false, .bool false, .bool false, .bool false, .bool false, .bool false, .string ⟨#[]⟩, .slice none 0 0] 24)
  have NR : Hid (Bk ((w.alloc (.cells #[.string c0, .bool c1, .bool c2, .bool c3, .bool c4, .bool c5, .bool c6, .bool true, .string c8, .slice fp c9.length fc] 24)).alloc (.cells #[.string ⟨#[]⟩, .bool false, .bool false, .bool false, .bool false, .bool false, .bool false, .bool false, .string ⟨#[]⟩, .slice none 0 0] 24)) (w.heap.size + 1) [.string ⟨#[]⟩, .bool false, .bool false, .bool false, .bool false, .bool false, .bool false, .bool false, .string ⟨#[]⟩, .slice none 0 0] 24) := by
    have e : (w.alloc (.cells #[.string c0, .bool c1, .bool c2, .bool c3, .bool c4, .bool c5, .bool c6, .bool true, .string c8, .slice fp c9.length fc] 24)).heap.size = w.heap.size + 1 := by simp
    rw [e] at NR0; exact NR0
  clear NR0
  go_enter Tryz.func21, Tryz.ntmps21
  go_upto_region 1 with fail
  generalize (w.alloc (.cells #[.string c0, .bool c1, .bool c2, .bool c3, .bool c4, .bool c5, .bool c6, .bool true, .string c8, .slice fp c9.length fc] 24)).alloc (.cells #[.string ⟨#[]⟩, .bool false, .bool false, .bool false, .bool false, .bool false, .bool false, .bool false, .string ⟨#[]⟩, .slice none 0 0] 24) = w0 at *
  go_wp2_with fail
  refine (HA.out _ B0.out).mono ?_
  rintro e wa ⟨rfl, hwa⟩
  obtain rfl : w0 = wa := hwa.symm
  go_wp2_with fail
  refine (HM.out _).mono ?_
  rintro e wm ⟨rfl, hwm⟩
  obtain rfl : w0 = wm := hwm.symm
  have p0 := NP.out.cell 0 rfl
  have p1 := NP.out.cell 1 rfl
  have p2 := NP.out.cell 2 rfl
  have p3 := NP.out.cell 3 rfl
  have p4 := NP.out.cell 4 rfl
  have p5 := NP.out.cell 5 rfl
  have p6 := NP.out.cell 6 rfl
  have p7 := NP.out.cell 7 rfl
  have p8 := NP.out.cell 8 rfl
  have p9 := NP.out.cell 9 rfl
  have q0 := NP.out.free 0
  have q1 := NP.out.free 1
  have q2 := NP.out.free 2
  have q3 := NP.out.free 3
  have q4 := NP.out.free 4
  have q5 := NP.out.free 5
  have q6 := NP.out.free 6
  have q7 := NP.out.free 7
  have q8 := NP.out.free 8
  have q9 := NP.out.free 9
  have r0 := NR.out.cell 0 rfl
  have r1 := NR.out.cell 1 rfl
  have r2 := NR.out.cell 2 rfl
  have r3 := NR.out.cell 3 rfl
  have r4 := NR.out.cell 4 rfl
  have r5 := NR.out.cell 5 rfl
  have r6 := NR.out.cell 6 rfl
  have r7 := NR.out.cell 7 rfl
  have r8 := NR.out.cell 8 rfl
  have r9 := NR.out.cell 9 rfl
  have s0 := NR.out.free 0
  have s1 := NR.out.free 1
  have s2 := NR.out.free 2
  have s3 := NR.out.free 3
  have s4 := NR.out.free 4
  have s5 := NR.out.free 5
  have s6 := NR.out.free 6
  have s7 := NR.out.free 7
  have s8 := NR.out.free 8
  have s9 := NR.out.free 9
  go_wp2_with fail
  refine bodyPost_ret (v := .agg #[.string c0, .bool c1, .bool c2, .bool c3, .bool c4, .bool c5, .bool c6, .bool true, .string c8, .slice fp c9.length fc]) (by simp [results, go_sem, r0, r1, r2, r3, r4, r5, r6, r7, r8, r9]) rfl ?_
  exact ⟨rfl, ct_endB (Nat.le_succ _) B0.out _ _ _ _ _ _ _ _ _ _⟩
set_option maxHeartbeats 4000000 in
set_option maxRecDepth 100000 in
theorem refChanged_B5 (k : Int) (C : Ct) (fv v : Value) (ax : List (ByteArray × ByteArray)) (w : World) (hf : FilesV w fv C.files) (hv : AttrsV w v ax) (hz : AxOK ax) (name : ByteArray) (hm : ¬ modeV k = 1) (hm3 : ¬ modeV k = 3) (h32 : ¬ k = 32) :
    Calls Tryz.prog 21 #[.int .i64 k, ctV C fv, v, .string name] w fun e w' => e = .returned (ctV C fv) ∧ Below w.heap.size w w' := by
  have HM := hide (fun W => refMode_any k W)
  have HA := hide (fun W (hb : Below w.heap.size w W) => refAttrS_any v ax name W (hv.below hb) hz.len)
  have m1 : (modeV k == 1) = false := beq_eq_false_iff_ne.2 hm
  have m3 : (modeV k == 3) = false := beq_eq_false_iff_ne.2 hm3
  generalize modeV k = mm at *
  have k32 : (k == 32) = false := beq_eq_false_iff_ne.2 h32
  clear hz
  generalize fndS ax name = fs0 at *
  generalize (findA ax name).isSome = is0 at *
  obtain ⟨p, c, rfl, _⟩ := hv
  obtain ⟨fp, fc, rfl, _⟩ := hf
  obtain ⟨c0, c1, c2, c3, c4, c5, c6, c7, c8, c9⟩ := C
  unfold ctV ctCells
  have B0 : Hid (Below w.heap.size w ((w.alloc (.cells #[.string c0, .bool c1, .bool c2, .bool c3, .bool c4, .bool c5, .bool c6, .bool c7, .string c8, .slice fp c9.length fc] 24)).alloc (.cells #[.string ⟨#[]⟩, .bool false, .bool false, .bool false, .bool false, .bool false, .bool false, .bool false, .string ⟨#[]⟩, .slice none 0 0] 24))) := ((Below.refl _ w).alloc (Nat.le_refl _) _).alloc ((Below.refl _ w).alloc (Nat.le_refl _) (.cells #[.string c0, .bool c1, .bool c2, .bool c3, .bool c4, .bool c5, .bool c6, .bool c7, .string c8, .slice fp c9.length fc] 24)).size _
  have NP := hide ((Bk.new w [.string c0, .bool c1, .bool c2, .bool c3, .bool c4, .bool c5, .bool c6, .bool c7, .string c8, .slice fp c9.length fc] 24).below ((Below.refl _ (w.alloc (.cells #[.string c0, .bool c1, .bool c2, .bool c3, .bool c4, .bool c5, .bool c6, .bool c7, .string c8, .slice fp c9.length fc] 24))).alloc (Nat.le_refl _) (.cells #[.string ⟨#[]⟩, .bool false, .bool false, .bool false, .bool false, .bool false, .bool false, .bool false, .string ⟨#[]⟩, .slice none 0 0] 24)))
  have NR0 := hide (Bk.new (w.alloc (.cells #[.string c0, .bool c1, .bool c2, .bool c3, .bool c4, .bool c5, .bool c6, .bool c7, .string c8, .slice fp c9.length fc] 24)) [.string ⟨#[]⟩, .bool false, .bool false, .bool false, .bool false, .bool false, .bool false, .bool false, .string ⟨#[]⟩, .slice none 0 0] 24)
  have NR : Hid (Bk ((w.alloc (.cells #[.string c0, .bool c1, .bool c2, .bool c3, .bool c4, .bool c5, .bool c6, .bool c7, .string c8, .slice fp c9.length fc] 24)).alloc (.cells #[.string ⟨#[]⟩, .bool false, .bool false, .bool false, .bool false, .bool false, .bool false, .bool false, .string ⟨#[]⟩, .slice none 0 0] 24)) (w.heap.size + 1) [.string ⟨#[]⟩, .bool false, .bool false, .bool false, .bool false, .bool false, .bool false, .bool false, .string ⟨#[]⟩, .slice none 0 0] 24) := by
    have e : (w.alloc (.cells #[.string c0, .bool c1, .bool c2, .bool c3, .bool c4, .bool c5, .bool c6, .bool c7, .string c8, .slice fp c9.length fc] 24)).heap.size = w.heap.size + 1 := by simp
    rw [e] at NR0; exact NR0
  clear NR0
  go_enter Tryz.func21, Tryz.ntmps21
  go_upto_region 1 with fail
  generalize (w.alloc (.cells #[.string c0, .bool c1, .bool c2, .bool c3, .bool c4, .bool c5, .bool c6, .bool c7, .string c8, .slice fp c9.length fc] 24)).alloc (.cells #[.string ⟨#[]⟩, .bool false, .bool false, .bool false, .bool false, .bool false, .bool false, .bool false, .string ⟨#[]⟩, .slice none 0 0] 24) = w0 at *
  go_wp2_with fail
  refine (HA.out _ B0.out).mono ?_
  rintro e wa ⟨rfl, hwa⟩
  obtain rfl : w0 = wa := hwa.symm
  go_wp2_with fail
  refine (HM.out _).mono ?_
  rintro e wm ⟨rfl, hwm⟩
  obtain rfl : w0 = wm := hwm.symm
  have p0 := NP.out.cell 0 rfl
  have p1 := NP.out.cell 1 rfl
  have p2 := NP.out.cell 2 rfl
  have p3 := NP.out.cell 3 rfl
  have p4 := NP.out.cell 4 rfl
  have p5 := NP.out.cell 5 rfl
  have p6 := NP.out.cell 6 rfl
  have p7 := NP.out.cell 7 rfl
  have p8 := NP.out.cell 8 rfl
  have p9 := NP.out.cell 9 rfl
  have q0 := NP.out.free 0
  have q1 := NP.out.free 1
  have q2 := NP.out.free 2
  have q3 := NP.out.free 3
  have q4 := NP.out.free 4
  have q5 := NP.out.free 5
  have q6 := NP.out.free 6
  have q7 := NP.out.free 7
  have q8 := NP.out.free 8
  have q9 := NP.out.free 9
  have r0 := NR.out.cell 0 rfl
  have r1 := NR.out.cell 1 rfl
  have r2 := NR.out.cell 2 rfl
  have r3 := NR.out.cell 3 rfl
  have r4 := NR.out.cell 4 rfl
  have r5 := NR.out.cell 5 rfl
  have r6 := NR.out.cell 6 rfl
  have r7 := NR.out.cell 7 rfl
  have r8 := NR.out.cell 8 rfl
  have r9 := NR.out.cell 9 rfl
  have s0 := NR.out.free 0
  have s1 := NR.out.free 1
  have s2 := NR.out.free 2
  have s3 := NR.out.free 3
  have s4 := NR.out.free 4
  have s5 := NR.out.free 5
  have s6 := NR.out.free 6
  have s7 := NR.out.free 7
  have s8 := NR.out.free 8
  have s9 := NR.out.free 9
  go_wp2_with fail
  refine bodyPost_ret (v := .agg #[.string c0, .bool c1, .bool c2, .bool c3, .bool c4, .bool c5, .bool c6, .bool c7, .string c8, .slice fp c9.length fc]) (by simp [results, go_sem, r0, r1, r2, r3, r4, r5, r6, r7, r8, r9]) rfl ?_
  exact ⟨rfl, ct_endB (Nat.le_succ _) B0.out _ _ _ _ _ _ _ _ _ _⟩
theorem chg_files (k : Int) (C : Ct) (ax : List (ByteArray × ByteArray)) (n t : ByteArray) : (changedP k C ax n t).files = C.files := by
  unfold changedP chgSel chgChk chgVal
  (repeat' split) <;> rfl
theorem refChanged_any (k : Int) (C : Ct) (fv v : Value) (ax : List (ByteArray × ByteArray)) (w : World) (hf : FilesV w fv C.files) (hv : AttrsV w v ax) (hz : AxOK ax) (name t : ByteArray) (hcs : C.val.size ≤ 100000) (ht : ClnIs k ax (chgSrc C ax name) t) :
    Calls Tryz.prog 21 #[.int .i64 k, ctV C fv, v, .string name] w fun e w' => e = .returned (ctV (changedP k C ax name t) fv) ∧ Below w.heap.size w w' := by
  by_cases hm : modeV k = 1
  · have n3 : ¬ modeV k = 3 := by rw [hm]; decide
    have n32 : ¬ k = 32 := by intro q; subst q; exact absurd hm (by decide)
    have E : changedP k C ax name t = chgVal k C name t := by
      unfold changedP chgSel chgChk
      rw [if_neg (fun q => n32 q.1), if_neg (fun q => n3 q.1)]
    rw [E]
    unfold chgVal
    by_cases hk : k < 23
    · have ht2 : CleanIs k ax (chgSrc C ax name).data.toList t.data.toList := by
        rcases ht with ⟨q, _⟩ | ⟨_, q⟩
        · omega
        · exact q
      cases ha : anyOfS name with
      | false =>
        rw [if_neg (fun q => absurd q.2.2 (by decide))]
        exact refChanged_A3 k C fv v ax w hf hv hz name hk hm ha
      | true =>
        rw [if_pos ⟨hm, hk, rfl⟩]
        have h5 := of_decide_eq_true ha
        unfold chgSrc at ht2
        by_cases hn : name = valS
        · by_cases hd : C.dirty = false
          · rw [if_pos ⟨hn, hd⟩] at ht2
            exact refChanged_A1 k C fv v ax w hf hv hz name hk hm hn hd t ht2
          · rw [if_neg (fun q => hd q.2)] at ht2
            exact refChanged_A20 k C fv v ax w hf hv hz name hk hm hn (by simpa using hd) t hcs ht2
        · rw [if_neg (fun q => hn q.1)] at ht2
          rcases h5 with q | q | q | q | q
          · exact absurd q hn
          · exact refChanged_A21 k C fv v ax w hf hv hz name hk hm q t hcs ht2
          · exact refChanged_A22 k C fv v ax w hf hv hz name hk hm q t hcs ht2
          · exact refChanged_A23 k C fv v ax w hf hv hz name hk hm q t hcs ht2
          · exact refChanged_A24 k C fv v ax w hf hv hz name hk hm q t hcs ht2
    · rw [if_neg (fun q => hk q.2.1)]
      exact refChanged_B1 k C fv v ax w hf hv hz name hk hm n32
  · have E : changedP k C ax name t = chgSel k (chgChk k C ax name) ax name := by
      unfold changedP chgVal
      rw [if_neg (fun q => hm q.1)]
    rw [E]
    by_cases hm3 : modeV k = 3
    · have n32 : ¬ k = 32 := by intro q; subst q; exact absurd hm3 (by decide)
      unfold chgSel
      rw [if_neg (fun q => n32 q.1)]
      unfold chgChk
      by_cases hn : name = chkS
      · by_cases hd : C.dchk = false
        · rw [if_pos ⟨hm3, hn, hd⟩]; exact refChanged_B3y k C fv v ax w hf hv hz name hm3 hn hd
        · rw [if_neg (fun q => hd q.2.2)]; exact refChanged_B3d k C fv v ax w hf hv hz name hm3 hn (by simpa using hd)
      · rw [if_neg (fun q => hn q.2.1)]; exact refChanged_B3n k C fv v ax w hf hv hz name hm3 hn
    · have E2 : chgChk k C ax name = C := if_neg (fun q => hm3 q.1)
      rw [E2]
      unfold chgSel
      by_cases h32 : k = 32
      · by_cases hn : name = selS
        · by_cases hd : C.dsel = false
          · rw [if_pos ⟨h32, hn, hd⟩]; exact refChanged_B4y k C fv v ax w hf hv hz name hm hm3 h32 hn hd
          · rw [if_neg (fun q => hd q.2.2)]; exact refChanged_B4d k C fv v ax w hf hv hz name hm hm3 h32 hn (by simpa using hd)
        · rw [if_neg (fun q => hn q.2.1)]; exact refChanged_B4n k C fv v ax w hf hv hz name hm hm3 h32 hn
      · rw [if_neg (fun q => h32 q.1)]; exact refChanged_B5 k C fv v ax w hf hv hz name hm hm3 h32

end Go.Proofs.YtfjfkkbgkjmghaaGreatDoor
