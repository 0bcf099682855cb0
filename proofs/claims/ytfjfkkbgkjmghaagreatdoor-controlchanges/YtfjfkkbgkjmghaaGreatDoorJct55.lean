/- The document's Changed and Retype of layer 14. -/
import Derived.Test.YtfjfkkbgkjmghaaGreatDoorJct38
import Derived.Test.YtfjfkkbgkjmghaaGreatDoorJct39
import Derived.Test.YtfjfkkbgkjmghaaGreatDoorJct42
import Derived.Test.YtfjfkkbgkjmghaaGreatDoorJct52

namespace Go.Proofs.YtfjfkkbgkjmghaaGreatDoor
open Go.RowKit
set_option maxHeartbeats 4000000 in
set_option maxRecDepth 100000 in
theorem refChanged_A1 (k : Int) (C : Ct) (fv v : Value) (ax : List (ByteArray × ByteArray)) (w : World) (hf : FilesV w fv C.files) (hv : AttrsV w v ax) (hz : AxOK ax) (name : ByteArray) (hk : k < 23) (hm : modeV k = 1) (hn : name = valS) (hd : C.dirty = false) (t : ByteArray) (ht : CleanIs k ax (fndS ax name).data.toList t.data.toList) :
    Calls Tryz.prog 21 #[.int .i64 k, ctV C fv, v, .string name] w fun e w' => e = .returned (ctV { C with val := t } fv) ∧ Below w.heap.size w w' := by
  have HM := hide (fun W => refMode_any k W)
  have HA := hide (fun W (hb : Below w.heap.size w W) => refAttrS_any v ax name W (hv.below hb) hz.len)
  have k23 : k < 23 := hk
  have k32 : (k == 32) = false := by rw [beq_eq_false_iff_ne]; omega
  rw [hm] at HM
  have HC := hide (fun W (hb : Below w.heap.size w W) => refCleanV_any v ax W (hv.below hb) hz ht (fnd_smallA hz name))
  rw [show txt t.data.toList = t from rfl] at HC
  have f0 : (name.toList == [118, 97, 108, 117, 101]) = true := by rw [lit_decK]; exact decide_eq_true (hn)
  have f1 : (name.toList == [109, 117, 108, 116, 105, 112, 108, 101]) = false := by rw [lit_decK]; exact decide_eq_false (fun q => absurd (hn.symm.trans q) (by decide))
  have f2 : (name.toList == [109, 105, 110]) = false := by rw [lit_decK]; exact decide_eq_false (fun q => absurd (hn.symm.trans q) (by decide))
  have f3 : (name.toList == [109, 97, 120]) = false := by rw [lit_decK]; exact decide_eq_false (fun q => absurd (hn.symm.trans q) (by decide))
  have f4 : (name.toList == [115, 116, 101, 112]) = false := by rw [lit_decK]; exact decide_eq_false (fun q => absurd (hn.symm.trans q) (by decide))
  have f5 : (name.toList == [99, 104, 101, 99, 107, 101, 100]) = false := by rw [lit_decK]; exact decide_eq_false (fun q => absurd (hn.symm.trans q) (by decide))
  have f6 : (name.toList == [115, 101, 108, 101, 99, 116, 101, 100]) = false := by rw [lit_decK]; exact decide_eq_false (fun q => absurd (hn.symm.trans q) (by decide))
  clear hz ht hm hk hn
  generalize fndS ax name = fs0 at *
  generalize (findA ax name).isSome = is0 at *
  obtain ⟨p, c, rfl, _⟩ := hv
  obtain ⟨fp, fc, rfl, _⟩ := hf
  obtain ⟨c0, c1, c2, c3, c4, c5, c6, c7, c8, c9⟩ := C
  have hd0 : c1 = false := hd
  subst hd0
  unfold ctV ctCells
  have B0 : Hid (Below w.heap.size w ((w.alloc (.cells #[.string c0, .bool false, .bool c2, .bool c3, .bool c4, .bool c5, .bool c6, .bool c7, .string c8, .slice fp c9.length fc] 24)).alloc (.cells #[.string ⟨#[]⟩, .bool false, .bool false, .bool false, .bool false, .bool false, .bool false, .bool false, .string ⟨#[]⟩, .slice none 0 0] 24))) := ((Below.refl _ w).alloc (Nat.le_refl _) _).alloc ((Below.refl _ w).alloc (Nat.le_refl _) (.cells #[.string c0, .bool false, .bool c2, .bool c3, .bool c4, .bool c5, .bool c6, .bool c7, .string c8, .slice fp c9.length fc] 24)).size _
  have NP := hide ((Bk.new w [.string c0, .bool false, .bool c2, .bool c3, .bool c4, .bool c5, .bool c6, .bool c7, .string c8, .slice fp c9.length fc] 24).below ((Below.refl _ (w.alloc (.cells #[.string c0, .bool false, .bool c2, .bool c3, .bool c4, .bool c5, .bool c6, .bool c7, .string c8, .slice fp c9.length fc] 24))).alloc (Nat.le_refl _) (.cells #[.string ⟨#[]⟩, .bool false, .bool false, .bool false, .bool false, .bool false, .bool false, .bool false, .string ⟨#[]⟩, .slice none 0 0] 24)))
  have NR0 := hide (Bk.new (w.alloc (.cells #[.string c0, .bool false, .bool c2, .bool c3, .bool c4, .bool c5, .bool c6, .bool c7, .string c8, .slice fp c9.length fc] 24)) [.string ⟨#[]⟩, .bool false, .bool false, .bool false, .bool false, .bool false, .bool false, .bool false, .string ⟨#[]⟩, .slice none 0 0] 24)
  have NR : Hid (Bk ((w.alloc (.cells #[.string c0, .bool false, .bool c2, .bool c3, .bool c4, .bool c5, .bool c6, .bool c7, .string c8, .slice fp c9.length fc] 24)).alloc (.cells #[.string ⟨#[]⟩, .bool false, .bool false, .bool false, .bool false, .bool false, .bool false, .bool false, .string ⟨#[]⟩, .slice none 0 0] 24)) (w.heap.size + 1) [.string ⟨#[]⟩, .bool false, .bool false, .bool false, .bool false, .bool false, .bool false, .bool false, .string ⟨#[]⟩, .slice none 0 0] 24) := by
    have e : (w.alloc (.cells #[.string c0, .bool false, .bool c2, .bool c3, .bool c4, .bool c5, .bool c6, .bool c7, .string c8, .slice fp c9.length fc] 24)).heap.size = w.heap.size + 1 := by simp
    rw [e] at NR0; exact NR0
  clear NR0
  go_enter Tryz.func21, Tryz.ntmps21
  go_upto_region 1 with fail
  generalize (w.alloc (.cells #[.string c0, .bool false, .bool c2, .bool c3, .bool c4, .bool c5, .bool c6, .bool c7, .string c8, .slice fp c9.length fc] 24)).alloc (.cells #[.string ⟨#[]⟩, .bool false, .bool false, .bool false, .bool false, .bool false, .bool false, .bool false, .string ⟨#[]⟩, .slice none 0 0] 24) = w0 at *
  go_wp2_with fail
  refine (HA.out _ B0.out).mono ?_
  rintro e wa ⟨rfl, hwa⟩
  obtain rfl : w0 = wa := hwa.symm
  go_wp2_with fail
  refine (HM.out _).mono ?_
  rintro e wm ⟨rfl, hwm⟩
  obtain rfl : w0 = wm := hwm.symm
  have p0 := NP.out.cell 0 rfl
  have p1 := NP.out.cell 1 rfl
  have p2 := NP.out.cell 2 rfl
  have p3 := NP.out.cell 3 rfl
  have p4 := NP.out.cell 4 rfl
  have p5 := NP.out.cell 5 rfl
  have p6 := NP.out.cell 6 rfl
  have p7 := NP.out.cell 7 rfl
  have p8 := NP.out.cell 8 rfl
  have p9 := NP.out.cell 9 rfl
  have q0 := NP.out.free 0
  have q1 := NP.out.free 1
  have q2 := NP.out.free 2
  have q3 := NP.out.free 3
  have q4 := NP.out.free 4
  have q5 := NP.out.free 5
  have q6 := NP.out.free 6
  have q7 := NP.out.free 7
  have q8 := NP.out.free 8
  have q9 := NP.out.free 9
  have r0 := NR.out.cell 0 rfl
  have r1 := NR.out.cell 1 rfl
  have r2 := NR.out.cell 2 rfl
  have r3 := NR.out.cell 3 rfl
  have r4 := NR.out.cell 4 rfl
  have r5 := NR.out.cell 5 rfl
  have r6 := NR.out.cell 6 rfl
  have r7 := NR.out.cell 7 rfl
  have r8 := NR.out.cell 8 rfl
  have r9 := NR.out.cell 9 rfl
  have s0 := NR.out.free 0
  have s1 := NR.out.free 1
  have s2 := NR.out.free 2
  have s3 := NR.out.free 3
  have s4 := NR.out.free 4
  have s5 := NR.out.free 5
  have s6 := NR.out.free 6
  have s7 := NR.out.free 7
  have s8 := NR.out.free 8
  have s9 := NR.out.free 9
  go_wp2_with fail
  refine (HC.out _ B0.out).mono ?_
  rintro e wx ⟨rfl, bx⟩
  clear p0 p1 p2 p3 p4 p5 p6 p7 p8 p9 q0 q1 q2 q3 q4 q5 q6 q7 q8 q9 r0 r1 r2 r3 r4 r5 r6 r7 r8 r9 s0 s1 s2 s3 s4 s5 s6 s7 s8 s9
  replace NR := hide (NR.out.below bx)
  replace NP := hide (NP.out.below bx)
  have BX := hide (chain B0.out bx)
  have p0 := NP.out.cell 0 rfl
  have p1 := NP.out.cell 1 rfl
  have p2 := NP.out.cell 2 rfl
  have p3 := NP.out.cell 3 rfl
  have p4 := NP.out.cell 4 rfl
  have p5 := NP.out.cell 5 rfl
  have p6 := NP.out.cell 6 rfl
  have p7 := NP.out.cell 7 rfl
  have p8 := NP.out.cell 8 rfl
  have p9 := NP.out.cell 9 rfl
  have q0 := NP.out.free 0
  have q1 := NP.out.free 1
  have q2 := NP.out.free 2
  have q3 := NP.out.free 3
  have q4 := NP.out.free 4
  have q5 := NP.out.free 5
  have q6 := NP.out.free 6
  have q7 := NP.out.free 7
  have q8 := NP.out.free 8
  have q9 := NP.out.free 9
  have r0 := NR.out.cell 0 rfl
  have r1 := NR.out.cell 1 rfl
  have r2 := NR.out.cell 2 rfl
  have r3 := NR.out.cell 3 rfl
  have r4 := NR.out.cell 4 rfl
  have r5 := NR.out.cell 5 rfl
  have r6 := NR.out.cell 6 rfl
  have r7 := NR.out.cell 7 rfl
  have r8 := NR.out.cell 8 rfl
  have r9 := NR.out.cell 9 rfl
  have s0 := NR.out.free 0
  have s1 := NR.out.free 1
  have s2 := NR.out.free 2
  have s3 := NR.out.free 3
  have s4 := NR.out.free 4
  have s5 := NR.out.free 5
  have s6 := NR.out.free 6
  have s7 := NR.out.free 7
  have s8 := NR.out.free 8
  have s9 := NR.out.free 9
  go_wp2_with fail
  refine bodyPost_ret (v := .agg #[.string t, .bool false, .bool c2, .bool c3, .bool c4, .bool c5, .bool c6, .bool c7, .string c8, .slice fp c9.length fc]) (by simp [results, go_sem, r0, r1, r2, r3, r4, r5, r6, r7, r8, r9]) rfl ?_
  exact ⟨rfl, ct_endB (Nat.le_succ _) (BX.out.setCell (Nat.le_refl _) _) _ _ _ _ _ _ _ _ _ _⟩
set_option maxHeartbeats 4000000 in
set_option maxRecDepth 100000 in
theorem refChanged_A20 (k : Int) (C : Ct) (fv v : Value) (ax : List (ByteArray × ByteArray)) (w : World) (hf : FilesV w fv C.files) (hv : AttrsV w v ax) (hz : AxOK ax) (name : ByteArray) (hk : k < 23) (hm : modeV k = 1) (hn : name = valS) (hd : C.dirty = true) (t : ByteArray) (hcs : C.val.size ≤ 100000) (ht : CleanIs k ax C.val.data.toList t.data.toList) :
    Calls Tryz.prog 21 #[.int .i64 k, ctV C fv, v, .string name] w fun e w' => e = .returned (ctV { C with val := t } fv) ∧ Below w.heap.size w w' := by
  have HM := hide (fun W => refMode_any k W)
  have HA := hide (fun W (hb : Below w.heap.size w W) => refAttrS_any v ax name W (hv.below hb) hz.len)
  have k23 : k < 23 := hk
  have k32 : (k == 32) = false := by rw [beq_eq_false_iff_ne]; omega
  rw [hm] at HM
  have HC := hide (fun W (hb : Below w.heap.size w W) => refCleanV_any v ax W (hv.below hb) hz ht hcs)
  rw [show txt t.data.toList = t from rfl] at HC
  have f0 : (name.toList == [118, 97, 108, 117, 101]) = true := by rw [lit_decK]; exact decide_eq_true (hn)
  have f1 : (name.toList == [109, 117, 108, 116, 105, 112, 108, 101]) = false := by rw [lit_decK]; exact decide_eq_false (fun q => absurd (hn.symm.trans q) (by decide))
  have f2 : (name.toList == [109, 105, 110]) = false := by rw [lit_decK]; exact decide_eq_false (fun q => absurd (hn.symm.trans q) (by decide))
  have f3 : (name.toList == [109, 97, 120]) = false := by rw [lit_decK]; exact decide_eq_false (fun q => absurd (hn.symm.trans q) (by decide))
  have f4 : (name.toList == [115, 116, 101, 112]) = false := by rw [lit_decK]; exact decide_eq_false (fun q => absurd (hn.symm.trans q) (by decide))
  have f5 : (name.toList == [99, 104, 101, 99, 107, 101, 100]) = false := by rw [lit_decK]; exact decide_eq_false (fun q => absurd (hn.symm.trans q) (by decide))
  have f6 : (name.toList == [115, 101, 108, 101, 99, 116, 101, 100]) = false := by rw [lit_decK]; exact decide_eq_false (fun q => absurd (hn.symm.trans q) (by decide))
  clear hz ht hm hk hn hcs
  generalize fndS ax name = fs0 at *
  generalize (findA ax name).isSome = is0 at *
  obtain ⟨p, c, rfl, _⟩ := hv
  obtain ⟨fp, fc, rfl, _⟩ := hf
  obtain ⟨c0, c1, c2, c3, c4, c5, c6, c7, c8, c9⟩ := C
  have hd0 : c1 = true := hd
  subst hd0
  unfold ctV ctCells
  have B0 : Hid (Below w.heap.size w ((w.alloc (.cells #[.string c0, .bool true, .bool c2, .bool c3, .bool c4, .bool c5, .bool c6, .bool c7, .string c8, .slice fp c9.length fc] 24)).alloc (.cells #[.string ⟨#[]⟩, .bool false, .bool false, .bool false, .bool false, .bool false, .bool false, .bool false, .string ⟨#[]⟩, .slice none 0 0] 24))) := ((Below.refl _ w).alloc (Nat.le_refl _) _).alloc ((Below.refl _ w).alloc (Nat.le_refl _) (.cells #[.string c0, .bool true, .bool c2, .bool c3, .bool c4, .bool c5, .bool c6, .bool c7, .string c8, .slice fp c9.length fc] 24)).size _
  have NP := hide ((Bk.new w [.string c0, .bool true, .bool c2, .bool c3, .bool c4, .bool c5, .bool c6, .bool c7, .string c8, .slice fp c9.length fc] 24).below ((Below.refl _ (w.alloc (.cells #[.string c0, .bool true, .bool c2, .bool c3, .bool c4, .bool c5, .bool c6, .bool c7, .string c8, .slice fp c9.length fc] 24))).alloc (Nat.le_refl _) (.cells #[.string ⟨#[]⟩, .bool false, .bool false, .bool false, .bool false, .bool false, .bool false, .bool false, .string ⟨#[]⟩, .slice none 0 0] 24)))
  have NR0 := hide (Bk.new (w.alloc (.cells #[.string c0, .bool true, .bool c2, .bool c3, .bool c4, .bool c5, .bool c6, .bool c7, .string c8, .slice fp c9.length fc] 24)) [.string ⟨#[]⟩, .bool false, .bool false, .bool false, .bool false, .bool false, .bool false, .bool false, .string ⟨#[]⟩, .slice none 0 0] 24)
  have NR : Hid (Bk ((w.alloc (.cells #[.string c0, .bool true, .bool c2, .bool c3, .bool c4, .bool c5, .bool c6, .bool c7, .string c8, .slice fp c9.length fc] 24)).alloc (.cells #[.string ⟨#[]⟩, .bool false, .bool false, .bool false, .bool false, .bool false, .bool false, .bool false, .string ⟨#[]⟩, .slice none 0 0] 24)) (w.heap.size + 1) [.string ⟨#[]⟩, .bool false, .bool false, .bool false, .bool false, .bool false, .bool false, .bool false, .string ⟨#[]⟩, .slice none 0 0] 24) := by
    have e : (w.alloc (.cells #[.string c0, .bool true, .bool c2, .bool c3, .bool c4, .bool c5, .bool c6, .bool c7, .string c8, .slice fp c9.length fc] 24)).heap.size = w.heap.size + 1 := by simp
    rw [e] at NR0; exact NR0
  clear NR0
  go_enter Tryz.func21, Tryz.ntmps21
  go_upto_region 1 with fail
  generalize (w.alloc (.cells #[.string c0, .bool true, .bool c2, .bool c3, .bool c4, .bool c5, .bool c6, .bool c7, .string c8, .slice fp c9.length fc] 24)).alloc (.cells #[.string ⟨#[]⟩, .bool false, .bool false, .bool false, .bool false, .bool false, .bool false, .bool false, .string ⟨#[]⟩, .slice none 0 0] 24) = w0 at *
  go_wp2_with fail
  refine (HA.out _ B0.out).mono ?_
  rintro e wa ⟨rfl, hwa⟩
  obtain rfl : w0 = wa := hwa.symm
  go_wp2_with fail
  refine (HM.out _).mono ?_
  rintro e wm ⟨rfl, hwm⟩
  obtain rfl : w0 = wm := hwm.symm
  have p0 := NP.out.cell 0 rfl
  have p1 := NP.out.cell 1 rfl
  have p2 := NP.out.cell 2 rfl
  have p3 := NP.out.cell 3 rfl
  have p4 := NP.out.cell 4 rfl
  have p5 := NP.out.cell 5 rfl
  have p6 := NP.out.cell 6 rfl
  have p7 := NP.out.cell 7 rfl
  have p8 := NP.out.cell 8 rfl
  have p9 := NP.out.cell 9 rfl
  have q0 := NP.out.free 0
  have q1 := NP.out.free 1
  have q2 := NP.out.free 2
  have q3 := NP.out.free 3
  have q4 := NP.out.free 4
  have q5 := NP.out.free 5
  have q6 := NP.out.free 6
  have q7 := NP.out.free 7
  have q8 := NP.out.free 8
  have q9 := NP.out.free 9
  have r0 := NR.out.cell 0 rfl
  have r1 := NR.out.cell 1 rfl
  have r2 := NR.out.cell 2 rfl
  have r3 := NR.out.cell 3 rfl
  have r4 := NR.out.cell 4 rfl
  have r5 := NR.out.cell 5 rfl
  have r6 := NR.out.cell 6 rfl
  have r7 := NR.out.cell 7 rfl
  have r8 := NR.out.cell 8 rfl
  have r9 := NR.out.cell 9 rfl
  have s0 := NR.out.free 0
  have s1 := NR.out.free 1
  have s2 := NR.out.free 2
  have s3 := NR.out.free 3
  have s4 := NR.out.free 4
  have s5 := NR.out.free 5
  have s6 := NR.out.free 6
  have s7 := NR.out.free 7
  have s8 := NR.out.free 8
  have s9 := NR.out.free 9
  go_wp2_with fail
  refine (HC.out _ B0.out).mono ?_
  rintro e wx ⟨rfl, bx⟩
  clear p0 p1 p2 p3 p4 p5 p6 p7 p8 p9 q0 q1 q2 q3 q4 q5 q6 q7 q8 q9 r0 r1 r2 r3 r4 r5 r6 r7 r8 r9 s0 s1 s2 s3 s4 s5 s6 s7 s8 s9
  replace NR := hide (NR.out.below bx)
  replace NP := hide (NP.out.below bx)
  have BX := hide (chain B0.out bx)
  have p0 := NP.out.cell 0 rfl
  have p1 := NP.out.cell 1 rfl
  have p2 := NP.out.cell 2 rfl
  have p3 := NP.out.cell 3 rfl
  have p4 := NP.out.cell 4 rfl
  have p5 := NP.out.cell 5 rfl
  have p6 := NP.out.cell 6 rfl
  have p7 := NP.out.cell 7 rfl
  have p8 := NP.out.cell 8 rfl
  have p9 := NP.out.cell 9 rfl
  have q0 := NP.out.free 0
  have q1 := NP.out.free 1
  have q2 := NP.out.free 2
  have q3 := NP.out.free 3
  have q4 := NP.out.free 4
  have q5 := NP.out.free 5
  have q6 := NP.out.free 6
  have q7 := NP.out.free 7
  have q8 := NP.out.free 8
  have q9 := NP.out.free 9
  have r0 := NR.out.cell 0 rfl
  have r1 := NR.out.cell 1 rfl
  have r2 := NR.out.cell 2 rfl
  have r3 := NR.out.cell 3 rfl
  have r4 := NR.out.cell 4 rfl
  have r5 := NR.out.cell 5 rfl
  have r6 := NR.out.cell 6 rfl
  have r7 := NR.out.cell 7 rfl
  have r8 := NR.out.cell 8 rfl
  have r9 := NR.out.cell 9 rfl
  have s0 := NR.out.free 0
  have s1 := NR.out.free 1
  have s2 := NR.out.free 2
  have s3 := NR.out.free 3
  have s4 := NR.out.free 4
  have s5 := NR.out.free 5
  have s6 := NR.out.free 6
  have s7 := NR.out.free 7
  have s8 := NR.out.free 8
  have s9 := NR.out.free 9
  go_wp2_with fail
  refine bodyPost_ret (v := .agg #[.string t, .bool true, .bool c2, .bool c3, .bool c4, .bool c5, .bool c6, .bool c7, .string c8, .slice fp c9.length fc]) (by simp [results, go_sem, r0, r1, r2, r3, r4, r5, r6, r7, r8, r9]) rfl ?_
  exact ⟨rfl, ct_endB (Nat.le_succ _) (BX.out.setCell (Nat.le_refl _) _) _ _ _ _ _ _ _ _ _ _⟩
set_option maxHeartbeats 4000000 in
set_option maxRecDepth 100000 in
theorem refChanged_A21 (k : Int) (C : Ct) (fv v : Value) (ax : List (ByteArray × ByteArray)) (w : World) (hf : FilesV w fv C.files) (hv : AttrsV w v ax) (hz : AxOK ax) (name : ByteArray) (hk : k < 23) (hm : modeV k = 1) (hn : name = multS) (t : ByteArray) (hcs : C.val.size ≤ 100000) (ht : CleanIs k ax C.val.data.toList t.data.toList) :
    Calls Tryz.prog 21 #[.int .i64 k, ctV C fv, v, .string name] w fun e w' => e = .returned (ctV { C with val := t } fv) ∧ Below w.heap.size w w' := by
  have HM := hide (fun W => refMode_any k W)
  have HA := hide (fun W (hb : Below w.heap.size w W) => refAttrS_any v ax name W (hv.below hb) hz.len)
  have k23 : k < 23 := hk
  have k32 : (k == 32) = false := by rw [beq_eq_false_iff_ne]; omega
  rw [hm] at HM
  have HC := hide (fun W (hb : Below w.heap.size w W) => refCleanV_any v ax W (hv.below hb) hz ht hcs)
  rw [show txt t.data.toList = t from rfl] at HC
  have f0 : (name.toList == [118, 97, 108, 117, 101]) = false := by rw [lit_decK]; exact decide_eq_false (fun q => absurd (hn.symm.trans q) (by decide))
  have f1 : (name.toList == [109, 117, 108, 116, 105, 112, 108, 101]) = true := by rw [lit_decK]; exact decide_eq_true (hn)
  have f2 : (name.toList == [109, 105, 110]) = false := by rw [lit_decK]; exact decide_eq_false (fun q => absurd (hn.symm.trans q) (by decide))
  have f3 : (name.toList == [109, 97, 120]) = false := by rw [lit_decK]; exact decide_eq_false (fun q => absurd (hn.symm.trans q) (by decide))
  have f4 : (name.toList == [115, 116, 101, 112]) = false := by rw [lit_decK]; exact decide_eq_false (fun q => absurd (hn.symm.trans q) (by decide))
  have f5 : (name.toList == [99, 104, 101, 99, 107, 101, 100]) = false := by rw [lit_decK]; exact decide_eq_false (fun q => absurd (hn.symm.trans q) (by decide))
  have f6 : (name.toList == [115, 101, 108, 101, 99, 116, 101, 100]) = false := by rw [lit_decK]; exact decide_eq_false (fun q => absurd (hn.symm.trans q) (by decide))
  clear hz ht hm hk hn hcs
  generalize fndS ax name = fs0 at *
  generalize (findA ax name).isSome = is0 at *
  obtain ⟨p, c, rfl, _⟩ := hv
  obtain ⟨fp, fc, rfl, _⟩ := hf
  obtain ⟨c0, c1, c2, c3, c4, c5, c6, c7, c8, c9⟩ := C
  unfold ctV ctCells
  have B0 : Hid (Below w.heap.size w ((w.alloc (.cells #[.string c0, .bool c1, .bool c2, .bool c3, .bool c4, .bool c5, .bool c6, .bool c7, .string c8, .slice fp c9.length fc] 24)).alloc (.cells #[.string ⟨#[]⟩, .bool false, .bool false, .bool false, .bool false, .bool false, .bool false, .bool false, .string ⟨#[]⟩, .slice none 0 0] 24))) := ((Below.refl _ w).alloc (Nat.le_refl _) _).alloc ((Below.refl _ w).alloc (Nat.le_refl _) (.cells #[.string c0, .bool c1, .bool c2, .bool c3, .bool c4, .bool c5, .bool c6, .bool c7, .string c8, .slice fp c9.length fc] 24)).size _
  have NP := hide ((Bk.new w [.string c0, .bool c1, .bool c2, .bool c3, .bool c4, .bool c5, .bool c6, .bool c7, .string c8, .slice fp c9.length fc] 24).below ((Below.refl _ (w.alloc (.cells #[.string c0, .bool c1, .bool c2, .bool c3, .bool c4, .bool c5, .bool c6, .bool c7, .string c8, .slice fp c9.length fc] 24))).alloc (Nat.le_refl _) (.cells #[.string ⟨#[]⟩, .bool false, .bool false, .bool false, .bool false, .bool false, .bool false, .bool false, .string ⟨#[]⟩, .slice none 0 0] 24)))
  have NR0 := hide (Bk.new (w.alloc (.cells #[.string c0, .bool c1, .bool c2, .bool c3, .bool c4, .bool c5, .bool c6, .bool c7, .string c8, .slice fp c9.length fc] 24)) [.string ⟨#[]⟩, .bool false, .bool false, .bool false, .bool false, .bool false, .bool false, .bool false, .string ⟨#[]⟩, .slice none 0 0] 24)
  have NR : Hid (Bk ((w.alloc (.cells #[.string c0, .bool c1, .bool c2, .bool c3, .bool c4, .bool c5, .bool c6, .bool c7, .string c8, .slice fp c9.length fc] 24)).alloc (.cells #[.string ⟨#[]⟩, .bool false, .bool false, .bool false, .bool false, .bool false, .bool false, .bool false, .string ⟨#[]⟩, .slice none 0 0] 24)) (w.heap.size + 1) [.string ⟨#[]⟩, .bool false, .bool false, .bool false, .bool false, .bool false, .bool false, .bool false, .string ⟨#[]⟩, .slice none 0 0] 24) := by
    have e : (w.alloc (.cells #[.string c0, .bool c1, .bool c2, .bool c3, .bool c4, .bool c5, .bool c6, .bool c7, .string c8, .slice fp c9.length fc] 24)).heap.size = w.heap.size + 1 := by simp
    rw [e] at NR0; exact NR0
  clear NR0
  go_enter Tryz.func21, Tryz.ntmps21
  go_upto_region 1 with fail
  generalize (w.alloc (.cells #[.string c0, .bool c1, .bool c2, .bool c3, .bool c4, .bool c5, .bool c6, .bool c7, .string c8, .slice fp c9.length fc] 24)).alloc (.cells #[.string ⟨#[]⟩, .bool false, .bool false, .bool false, .bool false, .bool false, .bool false, .bool false, .string ⟨#[]⟩, .slice none 0 0] 24) = w0 at *
  go_wp2_with fail
  refine (HA.out _ B0.out).mono ?_
  rintro e wa ⟨rfl, hwa⟩
  obtain rfl : w0 = wa := hwa.symm
  go_wp2_with fail
  refine (HM.out _).mono ?_
  rintro e wm ⟨rfl, hwm⟩
  obtain rfl : w0 = wm := hwm.symm
  have p0 := NP.out.cell 0 rfl
  have p1 := NP.out.cell 1 rfl
  have p2 := NP.out.cell 2 rfl
  have p3 := NP.out.cell 3 rfl
  have p4 := NP.out.cell 4 rfl
  have p5 := NP.out.cell 5 rfl
  have p6 := NP.out.cell 6 rfl
  have p7 := NP.out.cell 7 rfl
  have p8 := NP.out.cell 8 rfl
  have p9 := NP.out.cell 9 rfl
  have q0 := NP.out.free 0
  have q1 := NP.out.free 1
  have q2 := NP.out.free 2
  have q3 := NP.out.free 3
  have q4 := NP.out.free 4
  have q5 := NP.out.free 5
  have q6 := NP.out.free 6
  have q7 := NP.out.free 7
  have q8 := NP.out.free 8
  have q9 := NP.out.free 9
  have r0 := NR.out.cell 0 rfl
  have r1 := NR.out.cell 1 rfl
  have r2 := NR.out.cell 2 rfl
  have r3 := NR.out.cell 3 rfl
  have r4 := NR.out.cell 4 rfl
  have r5 := NR.out.cell 5 rfl
  have r6 := NR.out.cell 6 rfl
  have r7 := NR.out.cell 7 rfl
  have r8 := NR.out.cell 8 rfl
  have r9 := NR.out.cell 9 rfl
  have s0 := NR.out.free 0
  have s1 := NR.out.free 1
  have s2 := NR.out.free 2
  have s3 := NR.out.free 3
  have s4 := NR.out.free 4
  have s5 := NR.out.free 5
  have s6 := NR.out.free 6
  have s7 := NR.out.free 7
  have s8 := NR.out.free 8
  have s9 := NR.out.free 9
  go_wp2_with fail
  refine (HC.out _ B0.out).mono ?_
  rintro e wx ⟨rfl, bx⟩
  clear p0 p1 p2 p3 p4 p5 p6 p7 p8 p9 q0 q1 q2 q3 q4 q5 q6 q7 q8 q9 r0 r1 r2 r3 r4 r5 r6 r7 r8 r9 s0 s1 s2 s3 s4 s5 s6 s7 s8 s9
  replace NR := hide (NR.out.below bx)
  replace NP := hide (NP.out.below bx)
  have BX := hide (chain B0.out bx)
  have p0 := NP.out.cell 0 rfl
  have p1 := NP.out.cell 1 rfl
  have p2 := NP.out.cell 2 rfl
  have p3 := NP.out.cell 3 rfl
  have p4 := NP.out.cell 4 rfl
  have p5 := NP.out.cell 5 rfl
  have p6 := NP.out.cell 6 rfl
  have p7 := NP.out.cell 7 rfl
  have p8 := NP.out.cell 8 rfl
  have p9 := NP.out.cell 9 rfl
  have q0 := NP.out.free 0
  have q1 := NP.out.free 1
  have q2 := NP.out.free 2
  have q3 := NP.out.free 3
  have q4 := NP.out.free 4
  have q5 := NP.out.free 5
  have q6 := NP.out.free 6
  have q7 := NP.out.free 7
  have q8 := NP.out.free 8
  have q9 := NP.out.free 9
  have r0 := NR.out.cell 0 rfl
  have r1 := NR.out.cell 1 rfl
  have r2 := NR.out.cell 2 rfl
  have r3 := NR.out.cell 3 rfl
  have r4 := NR.out.cell 4 rfl
  have r5 := NR.out.cell 5 rfl
  have r6 := NR.out.cell 6 rfl
  have r7 := NR.out.cell 7 rfl
  have r8 := NR.out.cell 8 rfl
  have r9 := NR.out.cell 9 rfl
  have s0 := NR.out.free 0
  have s1 := NR.out.free 1
  have s2 := NR.out.free 2
  have s3 := NR.out.free 3
  have s4 := NR.out.free 4
  have s5 := NR.out.free 5
  have s6 := NR.out.free 6
  have s7 := NR.out.free 7
  have s8 := NR.out.free 8
  have s9 := NR.out.free 9
  go_wp2_with fail
  refine bodyPost_ret (v := .agg #[.string t, .bool c1, .bool c2, .bool c3, .bool c4, .bool c5, .bool c6, .bool c7, .string c8, .slice fp c9.length fc]) (by simp [results, go_sem, r0, r1, r2, r3, r4, r5, r6, r7, r8, r9]) rfl ?_
  exact ⟨rfl, ct_endB (Nat.le_succ _) (BX.out.setCell (Nat.le_refl _) _) _ _ _ _ _ _ _ _ _ _⟩
set_option maxHeartbeats 4000000 in
set_option maxRecDepth 100000 in
theorem refChanged_A22 (k : Int) (C : Ct) (fv v : Value) (ax : List (ByteArray × ByteArray)) (w : World) (hf : FilesV w fv C.files) (hv : AttrsV w v ax) (hz : AxOK ax) (name : ByteArray) (hk : k < 23) (hm : modeV k = 1) (hn : name = minS) (t : ByteArray) (hcs : C.val.size ≤ 100000) (ht : CleanIs k ax C.val.data.toList t.data.toList) :
    Calls Tryz.prog 21 #[.int .i64 k, ctV C fv, v, .string name] w fun e w' => e = .returned (ctV { C with val := t } fv) ∧ Below w.heap.size w w' := by
  have HM := hide (fun W => refMode_any k W)
  have HA := hide (fun W (hb : Below w.heap.size w W) => refAttrS_any v ax name W (hv.below hb) hz.len)
  have k23 : k < 23 := hk
  have k32 : (k == 32) = false := by rw [beq_eq_false_iff_ne]; omega
  rw [hm] at HM
  have HC := hide (fun W (hb : Below w.heap.size w W) => refCleanV_any v ax W (hv.below hb) hz ht hcs)
  rw [show txt t.data.toList = t from rfl] at HC
  have f0 : (name.toList == [118, 97, 108, 117, 101]) = false := by rw [lit_decK]; exact decide_eq_false (fun q => absurd (hn.symm.trans q) (by decide))
  have f1 : (name.toList == [109, 117, 108, 116, 105, 112, 108, 101]) = false := by rw [lit_decK]; exact decide_eq_false (fun q => absurd (hn.symm.trans q) (by decide))
  have f2 : (name.toList == [109, 105, 110]) = true := by rw [lit_decK]; exact decide_eq_true (hn)
  have f3 : (name.toList == [109, 97, 120]) = false := by rw [lit_decK]; exact decide_eq_false (fun q => absurd (hn.symm.trans q) (by decide))
  have f4 : (name.toList == [115, 116, 101, 112]) = false := by rw [lit_decK]; exact decide_eq_false (fun q => absurd (hn.symm.trans q) (by decide))
  have f5 : (name.toList == [99, 104, 101, 99, 107, 101, 100]) = false := by rw [lit_decK]; exact decide_eq_false (fun q => absurd (hn.symm.trans q) (by decide))
  have f6 : (name.toList == [115, 101, 108, 101, 99, 116, 101, 100]) = false := by rw [lit_decK]; exact decide_eq_false (fun q => absurd (hn.symm.trans q) (by decide))
  clear hz ht hm hk hn hcs
  generalize fndS ax name = fs0 at *
  generalize (findA ax name).isSome = is0 at *
  obtain ⟨p, c, rfl, _⟩ := hv
  obtain ⟨fp, fc, rfl, _⟩ := hf
  obtain ⟨c0, c1, c2, c3, c4, c5, c6, c7, c8, c9⟩ := C
  unfold ctV ctCells
  have B0 : Hid (Below w.heap.size w ((w.alloc (.cells #[.string c0, .bool c1, .bool c2, .bool c3, .bool c4, .bool c5, .bool c6, .bool c7, .string c8, .slice fp c9.length fc] 24)).alloc (.cells #[.string ⟨#[]⟩, .bool false, .bool false, .bool false, .bool false, .bool false, .bool false, .bool false, .string ⟨#[]⟩, .slice none 0 0] 24))) := ((Below.refl _ w).alloc (Nat.le_refl _) _).alloc ((Below.refl _ w).alloc (Nat.le_refl _) (.cells #[.string c0, .bool c1, .bool c2, .bool c3, .bool c4, .bool c5, .bool c6, .bool c7, .string c8, .slice fp c9.length fc] 24)).size _
  have NP := hide ((Bk.new w [.string c0, .bool c1, .bool c2, .bool c3, .bool c4, .bool c5, .bool c6, .bool c7, .string c8, .slice fp c9.length fc] 24).below ((Below.refl _ (w.alloc (.cells #[.string c0, .bool c1, .bool c2, .bool c3, .bool c4, .bool c5, .bool c6, .bool c7, .string c8, .slice fp c9.length fc] 24))).alloc (Nat.le_refl _) (.cells #[.string ⟨#[]⟩, .bool false, .bool false, .bool false, .bool false, .bool false, .bool false, .bool false, .string ⟨#[]⟩, .slice none 0 0] 24)))
  have NR0 := hide (Bk.new (w.alloc (.cells #[.string c0, .bool c1, .bool c2, .bool c3, .bool c4, .bool c5, .bool c6, .bool c7, .string c8, .slice fp c9.length fc] 24)) [.string ⟨#[]⟩, .bool false, .bool false, .bool false, .bool false, .bool false, .bool false, .bool false, .string ⟨#[]⟩, .slice none 0 0] 24)
  have NR : Hid (Bk ((w.alloc (.cells #[.string c0, .bool c1, .bool c2, .bool c3, .bool c4, .bool c5, .bool c6, .bool c7, .string c8, .slice fp c9.length fc] 24)).alloc (.cells #[.string ⟨#[]⟩, .bool false, .bool false, .bool false, .bool false, .bool false, .bool false, .bool false, .string ⟨#[]⟩, .slice none 0 0] 24)) (w.heap.size + 1) [.string ⟨#[]⟩, .bool false, .bool false, .bool false, .bool false, .bool false, .bool false, .bool false, .string ⟨#[]⟩, .slice none 0 0] 24) := by
    have e : (w.alloc (.cells #[.string c0, .bool c1, .bool c2, .bool c3, .bool c4, .bool c5, .bool c6, .bool c7, .string c8, .slice fp c9.length fc] 24)).heap.size = w.heap.size + 1 := by simp
    rw [e] at NR0; exact NR0
  clear NR0
  go_enter Tryz.func21, Tryz.ntmps21
  go_upto_region 1 with fail
  generalize (w.alloc (.cells #[.string c0, .bool c1, .bool c2, .bool c3, .bool c4, .bool c5, .bool c6, .bool c7, .string c8, .slice fp c9.length fc] 24)).alloc (.cells #[.string ⟨#[]⟩, .bool false, .bool false, .bool false, .bool false, .bool false, .bool false, .bool false, .string ⟨#[]⟩, .slice none 0 0] 24) = w0 at *
  go_wp2_with fail
  refine (HA.out _ B0.out).mono ?_
  rintro e wa ⟨rfl, hwa⟩
  obtain rfl : w0 = wa := hwa.symm
  go_wp2_with fail
  refine (HM.out _).mono ?_
  rintro e wm ⟨rfl, hwm⟩
  obtain rfl : w0 = wm := hwm.symm
  have p0 := NP.out.cell 0 rfl
  have p1 := NP.out.cell 1 rfl
  have p2 := NP.out.cell 2 rfl
  have p3 := NP.out.cell 3 rfl
  have p4 := NP.out.cell 4 rfl
  have p5 := NP.out.cell 5 rfl
  have p6 := NP.out.cell 6 rfl
  have p7 := NP.out.cell 7 rfl
  have p8 := NP.out.cell 8 rfl
  have p9 := NP.out.cell 9 rfl
  have q0 := NP.out.free 0
  have q1 := NP.out.free 1
  have q2 := NP.out.free 2
  have q3 := NP.out.free 3
  have q4 := NP.out.free 4
  have q5 := NP.out.free 5
  have q6 := NP.out.free 6
  have q7 := NP.out.free 7
  have q8 := NP.out.free 8
  have q9 := NP.out.free 9
  have r0 := NR.out.cell 0 rfl
  have r1 := NR.out.cell 1 rfl
  have r2 := NR.out.cell 2 rfl
  have r3 := NR.out.cell 3 rfl
  have r4 := NR.out.cell 4 rfl
  have r5 := NR.out.cell 5 rfl
  have r6 := NR.out.cell 6 rfl
  have r7 := NR.out.cell 7 rfl
  have r8 := NR.out.cell 8 rfl
  have r9 := NR.out.cell 9 rfl
  have s0 := NR.out.free 0
  have s1 := NR.out.free 1
  have s2 := NR.out.free 2
  have s3 := NR.out.free 3
  have s4 := NR.out.free 4
  have s5 := NR.out.free 5
  have s6 := NR.out.free 6
  have s7 := NR.out.free 7
  have s8 := NR.out.free 8
  have s9 := NR.out.free 9
  go_wp2_with fail
  refine (HC.out _ B0.out).mono ?_
  rintro e wx ⟨rfl, bx⟩
  clear p0 p1 p2 p3 p4 p5 p6 p7 p8 p9 q0 q1 q2 q3 q4 q5 q6 q7 q8 q9 r0 r1 r2 r3 r4 r5 r6 r7 r8 r9 s0 s1 s2 s3 s4 s5 s6 s7 s8 s9
  replace NR := hide (NR.out.below bx)
  replace NP := hide (NP.out.below bx)
  have BX := hide (chain B0.out bx)
  have p0 := NP.out.cell 0 rfl
  have p1 := NP.out.cell 1 rfl
  have p2 := NP.out.cell 2 rfl
  have p3 := NP.out.cell 3 rfl
  have p4 := NP.out.cell 4 rfl
  have p5 := NP.out.cell 5 rfl
  have p6 := NP.out.cell 6 rfl
  have p7 := NP.out.cell 7 rfl
  have p8 := NP.out.cell 8 rfl
  have p9 := NP.out.cell 9 rfl
  have q0 := NP.out.free 0
  have q1 := NP.out.free 1
  have q2 := NP.out.free 2
  have q3 := NP.out.free 3
  have q4 := NP.out.free 4
  have q5 := NP.out.free 5
  have q6 := NP.out.free 6
  have q7 := NP.out.free 7
  have q8 := NP.out.free 8
  have q9 := NP.out.free 9
  have r0 := NR.out.cell 0 rfl
  have r1 := NR.out.cell 1 rfl
  have r2 := NR.out.cell 2 rfl
  have r3 := NR.out.cell 3 rfl
  have r4 := NR.out.cell 4 rfl
  have r5 := NR.out.cell 5 rfl
  have r6 := NR.out.cell 6 rfl
  have r7 := NR.out.cell 7 rfl
  have r8 := NR.out.cell 8 rfl
  have r9 := NR.out.cell 9 rfl
  have s0 := NR.out.free 0
  have s1 := NR.out.free 1
  have s2 := NR.out.free 2
  have s3 := NR.out.free 3
  have s4 := NR.out.free 4
  have s5 := NR.out.free 5
  have s6 := NR.out.free 6
  have s7 := NR.out.free 7
  have s8 := NR.out.free 8
  have s9 := NR.out.free 9
  go_wp2_with fail
  refine bodyPost_ret (v := .agg #[.string t, .bool c1, .bool c2, .bool c3, .bool c4, .bool c5, .bool c6, .bool c7, .string c8, .slice fp c9.length fc]) (by simp [results, go_sem, r0, r1, r2, r3, r4, r5, r6, r7, r8, r9]) rfl ?_
  exact ⟨rfl, ct_endB (Nat.le_succ _) (BX.out.setCell (Nat.le_refl _) _) _ _ _ _ _ _ _ _ _ _⟩
set_option maxHeartbeats 4000000 in
set_option maxRecDepth 100000 in
theorem refChanged_A23 (k : Int) (C : Ct) (fv v : Value) (ax : List (ByteArray × ByteArray)) (w : World) (hf : FilesV w fv C.files) (hv : AttrsV w v ax) (hz : AxOK ax) (name : ByteArray) (hk : k < 23) (hm : modeV k = 1) (hn : name = maxS) (t : ByteArray) (hcs : C.val.size ≤ 100000) (ht : CleanIs k ax C.val.data.toList t.data.toList) :
    Calls Tryz.prog 21 #[.int .i64 k, ctV C fv, v, .string name] w fun e w' => e = .returned (ctV { C with val := t } fv) ∧ Below w.heap.size w w' := by
  have HM := hide (fun W => refMode_any k W)
  have HA := hide (fun W (hb : Below w.heap.size w W) => refAttrS_any v ax name W (hv.below hb) hz.len)
  have k23 : k < 23 := hk
  have k32 : (k == 32) = false := by rw [beq_eq_false_iff_ne]; omega
  rw [hm] at HM
  have HC := hide (fun W (hb : Below w.heap.size w W) => refCleanV_any v ax W (hv.below hb) hz ht hcs)
  rw [show txt t.data.toList = t from rfl] at HC
  have f0 : (name.toList == [118, 97, 108, 117, 101]) = false := by rw [lit_decK]; exact decide_eq_false (fun q => absurd (hn.symm.trans q) (by decide))
  have f1 : (name.toList == [109, 117, 108, 116, 105, 112, 108, 101]) = false := by rw [lit_decK]; exact decide_eq_false (fun q => absurd (hn.symm.trans q) (by decide))
  have f2 : (name.toList == [109, 105, 110]) = false := by rw [lit_decK]; exact decide_eq_false (fun q => absurd (hn.symm.trans q) (by decide))
  have f3 : (name.toList == [109, 97, 120]) = true := by rw [lit_decK]; exact decide_eq_true (hn)
  have f4 : (name.toList == [115, 116, 101, 112]) = false := by rw [lit_decK]; exact decide_eq_false (fun q => absurd (hn.symm.trans q) (by decide))
  have f5 : (name.toList == [99, 104, 101, 99, 107, 101, 100]) = false := by rw [lit_decK]; exact decide_eq_false (fun q => absurd (hn.symm.trans q) (by decide))
  have f6 : (name.toList == [115, 101, 108, 101, 99, 116, 101, 100]) = false := by rw [lit_decK]; exact decide_eq_false (fun q => absurd (hn.symm.trans q) (by decide))
  clear hz ht hm hk hn hcs
  generalize fndS ax name = fs0 at *
  generalize (findA ax name).isSome = is0 at *
  obtain ⟨p, c, rfl, _⟩ := hv
  obtain ⟨fp, fc, rfl, _⟩ := hf
  obtain ⟨c0, c1, c2, c3, c4, c5, c6, c7, c8, c9⟩ := C
  unfold ctV ctCells
  have B0 : Hid (Below w.heap.size w ((w.alloc (.cells #[.string c0, .bool c1, .bool c2, .bool c3, .bool c4, .bool c5, .bool c6, .bool c7, .string c8, .slice fp c9.length fc] 24)).alloc (.cells #[.string ⟨#[]⟩, .bool false, .bool false, .bool false, .bool false, .bool false, .bool false, .bool false, .string ⟨#[]⟩, .slice none 0 0] 24))) := ((Below.refl _ w).alloc (Nat.le_refl _) _).alloc ((Below.refl _ w).alloc (Nat.le_refl _) (.cells #[.string c0, .bool c1, .bool c2, .bool c3, .bool c4, .bool c5, .bool c6, .bool c7, .string c8, .slice fp c9.length fc] 24)).size _
  have NP := hide ((Bk.new w [.string c0, .bool c1, .bool c2, .bool c3, .bool c4, .bool c5, .bool c6, .bool c7, .string c8, .slice fp c9.length fc] 24).below ((Below.refl _ (w.alloc (.cells #[.string c0, .bool c1, .bool c2, .bool c3, .bool c4, .bool c5, .bool c6, .bool c7, .string c8, .slice fp c9.length fc] 24))).alloc (Nat.le_refl _) (.cells #[.string ⟨#[]⟩, .bool false, .bool false, .bool false, .bool false, .bool false, .bool false, .bool false, .string ⟨#[]⟩, .slice none 0 0] 24)))
  have NR0 := hide (Bk.new (w.alloc (.cells #[.string c0, .bool c1, .bool c2, .bool c3, .bool c4, .bool c5, .bool c6, .bool c7, .string c8, .slice fp c9.length fc] 24)) [.string ⟨#[]⟩, .bool false, .bool false, .bool false, .bool false, .bool false, .bool false, .bool false, .string ⟨#[]⟩, .slice none 0 0] 24)
  have NR : Hid (Bk ((w.alloc (.cells #[.string c0, .bool c1, .bool c2, .bool c3, .bool c4, .bool c5, .bool c6, .bool c7, .string c8, .slice fp c9.length fc] 24)).alloc (.cells #[.string ⟨#[]⟩, .bool false, .bool false, .bool false, .bool false, .bool false, .bool false, .bool false, .string ⟨#[]⟩, .slice none 0 0] 24)) (w.heap.size + 1) [.string ⟨#[]⟩, .bool false, .bool false, .bool false, .bool false, .bool false, .bool false, .bool false, .string ⟨#[]⟩, .slice none 0 0] 24) := by
    have e : (w.alloc (.cells #[.string c0, .bool c1, .bool c2, .bool c3, .bool c4, .bool c5, .bool c6, .bool c7, .string c8, .slice fp c9.length fc] 24)).heap.size = w.heap.size + 1 := by simp
    rw [e] at NR0; exact NR0
  clear NR0
  go_enter Tryz.func21, Tryz.ntmps21
  go_upto_region 1 with fail
  generalize (w.alloc (.cells #[.string c0, .bool c1, .bool c2, .bool c3, .bool c4, .bool c5, .bool c6, .bool c7, .string c8, .slice fp c9.length fc] 24)).alloc (.cells #[.string ⟨#[]⟩, .bool false, .bool false, .bool false, .bool false, .bool false, .bool false, .bool false, .string ⟨#[]⟩, .slice none 0 0] 24) = w0 at *
  go_wp2_with fail
  refine (HA.out _ B0.out).mono ?_
  rintro e wa ⟨rfl, hwa⟩
  obtain rfl : w0 = wa := hwa.symm
  go_wp2_with fail
  refine (HM.out _).mono ?_
  rintro e wm ⟨rfl, hwm⟩
  obtain rfl : w0 = wm := hwm.symm
  have p0 := NP.out.cell 0 rfl
  have p1 := NP.out.cell 1 rfl
  have p2 := NP.out.cell 2 rfl
  have p3 := NP.out.cell 3 rfl
  have p4 := NP.out.cell 4 rfl
  have p5 := NP.out.cell 5 rfl
  have p6 := NP.out.cell 6 rfl
  have p7 := NP.out.cell 7 rfl
  have p8 := NP.out.cell 8 rfl
  have p9 := NP.out.cell 9 rfl
  have q0 := NP.out.free 0
  have q1 := NP.out.free 1
  have q2 := NP.out.free 2
  have q3 := NP.out.free 3
  have q4 := NP.out.free 4
  have q5 := NP.out.free 5
  have q6 := NP.out.free 6
  have q7 := NP.out.free 7
  have q8 := NP.out.free 8
  have q9 := NP.out.free 9
  have r0 := NR.out.cell 0 rfl
  have r1 := NR.out.cell 1 rfl
  have r2 := NR.out.cell 2 rfl
  have r3 := NR.out.cell 3 rfl
  have r4 := NR.out.cell 4 rfl
  have r5 := NR.out.cell 5 rfl
  have r6 := NR.out.cell 6 rfl
  have r7 := NR.out.cell 7 rfl
  have r8 := NR.out.cell 8 rfl
  have r9 := NR.out.cell 9 rfl
  have s0 := NR.out.free 0
  have s1 := NR.out.free 1
  have s2 := NR.out.free 2
  have s3 := NR.out.free 3
  have s4 := NR.out.free 4
  have s5 := NR.out.free 5
  have s6 := NR.out.free 6
  have s7 := NR.out.free 7
  have s8 := NR.out.free 8
  have s9 := NR.out.free 9
  go_wp2_with fail
  refine (HC.out _ B0.out).mono ?_
  rintro e wx ⟨rfl, bx⟩
  clear p0 p1 p2 p3 p4 p5 p6 p7 p8 p9 q0 q1 q2 q3 q4 q5 q6 q7 q8 q9 r0 r1 r2 r3 r4 r5 r6 r7 r8 r9 s0 s1 s2 s3 s4 s5 s6 s7 s8 s9
  replace NR := hide (NR.out.below bx)
  replace NP := hide (NP.out.below bx)
  have BX := hide (chain B0.out bx)
  have p0 := NP.out.cell 0 rfl
  have p1 := NP.out.cell 1 rfl
  have p2 := NP.out.cell 2 rfl
  have p3 := NP.out.cell 3 rfl
  have p4 := NP.out.cell 4 rfl
  have p5 := NP.out.cell 5 rfl
  have p6 := NP.out.cell 6 rfl
  have p7 := NP.out.cell 7 rfl
  have p8 := NP.out.cell 8 rfl
  have p9 := NP.out.cell 9 rfl
  have q0 := NP.out.free 0
  have q1 := NP.out.free 1
  have q2 := NP.out.free 2
  have q3 := NP.out.free 3
  have q4 := NP.out.free 4
  have q5 := NP.out.free 5
  have q6 := NP.out.free 6
  have q7 := NP.out.free 7
  have q8 := NP.out.free 8
  have q9 := NP.out.free 9
  have r0 := NR.out.cell 0 rfl
  have r1 := NR.out.cell 1 rfl
  have r2 := NR.out.cell 2 rfl
  have r3 := NR.out.cell 3 rfl
  have r4 := NR.out.cell 4 rfl
  have r5 := NR.out.cell 5 rfl
  have r6 := NR.out.cell 6 rfl
  have r7 := NR.out.cell 7 rfl
  have r8 := NR.out.cell 8 rfl
  have r9 := NR.out.cell 9 rfl
  have s0 := NR.out.free 0
  have s1 := NR.out.free 1
  have s2 := NR.out.free 2
  have s3 := NR.out.free 3
  have s4 := NR.out.free 4
  have s5 := NR.out.free 5
  have s6 := NR.out.free 6
  have s7 := NR.out.free 7
  have s8 := NR.out.free 8
  have s9 := NR.out.free 9
  go_wp2_with fail
  refine bodyPost_ret (v := .agg #[.string t, .bool c1, .bool c2, .bool c3, .bool c4, .bool c5, .bool c6, .bool c7, .string c8, .slice fp c9.length fc]) (by simp [results, go_sem, r0, r1, r2, r3, r4, r5, r6, r7, r8, r9]) rfl ?_
  exact ⟨rfl, ct_endB (Nat.le_succ _) (BX.out.setCell (Nat.le_refl _) _) _ _ _ _ _ _ _ _ _ _⟩
set_option maxHeartbeats 4000000 in
set_option maxRecDepth 100000 in
theorem refChanged_A24 (k : Int) (C : Ct) (fv v : Value) (ax : List (ByteArray × ByteArray)) (w : World) (hf : FilesV w fv C.files) (hv : AttrsV w v ax) (hz : AxOK ax) (name : ByteArray) (hk : k < 23) (hm : modeV k = 1) (hn : name = stepS) (t : ByteArray) (hcs : C.val.size ≤ 100000) (ht : CleanIs k ax C.val.data.toList t.data.toList) :
    Calls Tryz.prog 21 #[.int .i64 k, ctV C fv, v, .string name] w fun e w' => e = .returned (ctV { C with val := t } fv) ∧ Below w.heap.size w w' := by
  have HM := hide (fun W => refMode_any k W)
  have HA := hide (fun W (hb : Below w.heap.size w W) => refAttrS_any v ax name W (hv.below hb) hz.len)
  have k23 : k < 23 := hk
  have k32 : (k == 32) = false := by rw [beq_eq_false_iff_ne]; omega
  rw [hm] at HM
  have HC := hide (fun W (hb : Below w.heap.size w W) => refCleanV_any v ax W (hv.below hb) hz ht hcs)
  rw [show txt t.data.toList = t from rfl] at HC
  have f0 : (name.toList == [118, 97, 108, 117, 101]) = false := by rw [lit_decK]; exact decide_eq_false (fun q => absurd (hn.symm.trans q) (by decide))
  have f1 : (name.toList == [109, 117, 108, 116, 105, 112, 108, 101]) = false := by rw [lit_decK]; exact decide_eq_false (fun q => absurd (hn.symm.trans q) (by decide))
  have f2 : (name.toList == [109, 105, 110]) = false := by rw [lit_decK]; exact decide_eq_false (fun q => absurd (hn.symm.trans q) (by decide))
  have f3 : (name.toList == [109, 97, 120]) = false := by rw [lit_decK]; exact decide_eq_false (fun q => absurd (hn.symm.trans q) (by decide))
  have f4 : (name.toList == [115, 116, 101, 112]) = true := by rw [lit_decK]; exact decide_eq_true (hn)
  have f5 : (name.toList == [99, 104, 101, 99, 107, 101, 100]) = false := by rw [lit_decK]; exact decide_eq_false (fun q => absurd (hn.symm.trans q) (by decide))
  have f6 : (name.toList == [115, 101, 108, 101, 99, 116, 101, 100]) = false := by rw [lit_decK]; exact decide_eq_false (fun q => absurd (hn.symm.trans q) (by decide))
  clear hz ht hm hk hn hcs
  generalize fndS ax name = fs0 at *
  generalize (findA ax name).isSome = is0 at *
  obtain ⟨p, c, rfl, _⟩ := hv
  obtain ⟨fp, fc, rfl, _⟩ := hf
  obtain ⟨c0, c1, c2, c3, c4, c5, c6, c7, c8, c9⟩ := C
  unfold ctV ctCells
  have B0 : Hid (Below w.heap.size w ((w.alloc (.cells #[.string c0, .bool c1, .bool c2, .bool c3, .bool c4, .bool c5, .bool c6, .bool c7, .string c8, .slice fp c9.length fc] 24)).alloc (.cells #[.string ⟨#[]⟩, .bool false, .bool false, .bool false, .bool false, .bool false, .bool false, .bool false, .string ⟨#[]⟩, .slice none 0 0] 24))) := ((Below.refl _ w).alloc (Nat.le_refl _) _).alloc ((Below.refl _ w).alloc (Nat.le_refl _) (.cells #[.string c0, .bool c1, .bool c2, .bool c3, .bool c4, .bool c5, .bool c6, .bool c7, .string c8, .slice fp c9.length fc] 24)).size _
  have NP := hide ((Bk.new w [.string c0, .bool c1, .bool c2, .bool c3, .bool c4, .bool c5, .bool c6, .bool c7, .string c8, .slice fp c9.length fc] 24).below ((Below.refl _ (w.alloc (.cells #[.string c0, .bool c1, .bool c2, .bool c3, .bool c4, .bool c5, .bool c6, .bool c7, .string c8, .slice fp c9.length fc] 24))).alloc (Nat.le_refl _) (.cells #[.string ⟨#[]⟩, .bool false, .bool false, .bool false, .bool false, .bool false, .bool false, .bool false, .string ⟨#[]⟩, .slice none 0 0] 24)))
  have NR0 := hide (Bk.new (w.alloc (.cells #[.string c0, .bool c1, .bool c2, .bool c3, .bool c4, .bool c5, .bool c6, .bool c7, .string c8, .slice fp c9.length fc] 24)) [.string ⟨#[]⟩, .bool false, .bool false, .bool false, .bool false, .bool false, .bool false, .bool false, .string ⟨#[]⟩, .slice none 0 0] 24)
  have NR : Hid (Bk ((w.alloc (.cells #[.string c0, .bool c1, .bool c2, .bool c3, .bool c4, .bool c5, .bool c6, .bool c7, .string c8, .slice fp c9.length fc] 24)).alloc (.cells #[.string ⟨#[]⟩, .bool false, .bool false, .bool false, .bool false, .bool false, .bool false, .bool false, .string ⟨#[]⟩, .slice none 0 0] 24)) (w.heap.size + 1) [.string ⟨#[]⟩, .bool false, .bool false, .bool false, .bool false, .bool false, .bool false, .bool false, .string ⟨#[]⟩, .slice none 0 0] 24) := by
    have e : (w.alloc (.cells #[.string c0, .bool c1, .bool c2, .bool c3, .bool c4, .bool c5, .bool c6, .bool c7, .string c8, .slice fp c9.length fc] 24)).heap.size = w.heap.size + 1 := by simp
    rw [e] at NR0; exact NR0
  clear NR0
  go_enter Tryz.func21, Tryz.ntmps21
  go_upto_region 1 with fail
  generalize (w.alloc (.cells #[.string c0, .bool c1, .bool c2, .bool c3, .bool c4, .bool c5, .bool c6, .bool c7, .string c8, .slice fp c9.length fc] 24)).alloc (.cells #[.string ⟨#[]⟩, .bool false, .bool false, .bool false, .bool false, .bool false, .bool false, .bool false, .string ⟨#[]⟩, .slice none 0 0] 24) = w0 at *
  go_wp2_with fail
  refine (HA.out _ B0.out).mono ?_
  rintro e wa ⟨rfl, hwa⟩
  obtain rfl : w0 = wa := hwa.symm
  go_wp2_with fail
  refine (HM.out _).mono ?_
  rintro e wm ⟨rfl, hwm⟩
  obtain rfl : w0 = wm := hwm.symm
  have p0 := NP.out.cell 0 rfl
  have p1 := NP.out.cell 1 rfl
  have p2 := NP.out.cell 2 rfl
  have p3 := NP.out.cell 3 rfl
  have p4 := NP.out.cell 4 rfl
  have p5 := NP.out.cell 5 rfl
  have p6 := NP.out.cell 6 rfl
  have p7 := NP.out.cell 7 rfl
  have p8 := NP.out.cell 8 rfl
  have p9 := NP.out.cell 9 rfl
  have q0 := NP.out.free 0
  have q1 := NP.out.free 1
  have q2 := NP.out.free 2
  have q3 := NP.out.free 3
  have q4 := NP.out.free 4
  have q5 := NP.out.free 5
  have q6 := NP.out.free 6
  have q7 := NP.out.free 7
  have q8 := NP.out.free 8
  have q9 := NP.out.free 9
  have r0 := NR.out.cell 0 rfl
  have r1 := NR.out.cell 1 rfl
  have r2 := NR.out.cell 2 rfl
  have r3 := NR.out.cell 3 rfl
  have r4 := NR.out.cell 4 rfl
  have r5 := NR.out.cell 5 rfl
  have r6 := NR.out.cell 6 rfl
  have r7 := NR.out.cell 7 rfl
  have r8 := NR.out.cell 8 rfl
  have r9 := NR.out.cell 9 rfl
  have s0 := NR.out.free 0
  have s1 := NR.out.free 1
  have s2 := NR.out.free 2
  have s3 := NR.out.free 3
  have s4 := NR.out.free 4
  have s5 := NR.out.free 5
  have s6 := NR.out.free 6
  have s7 := NR.out.free 7
  have s8 := NR.out.free 8
  have s9 := NR.out.free 9
  go_wp2_with fail
  refine (HC.out _ B0.out).mono ?_
  rintro e wx ⟨rfl, bx⟩
  clear p0 p1 p2 p3 p4 p5 p6 p7 p8 p9 q0 q1 q2 q3 q4 q5 q6 q7 q8 q9 r0 r1 r2 r3 r4 r5 r6 r7 r8 r9 s0 s1 s2 s3 s4 s5 s6 s7 s8 s9
  replace NR := hide (NR.out.below bx)
  replace NP := hide (NP.out.below bx)
  have BX := hide (chain B0.out bx)
  have p0 := NP.out.cell 0 rfl
  have p1 := NP.out.cell 1 rfl
  have p2 := NP.out.cell 2 rfl
  have p3 := NP.out.cell 3 rfl
  have p4 := NP.out.cell 4 rfl
  have p5 := NP.out.cell 5 rfl
  have p6 := NP.out.cell 6 rfl
  have p7 := NP.out.cell 7 rfl
  have p8 := NP.out.cell 8 rfl
  have p9 := NP.out.cell 9 rfl
  have q0 := NP.out.free 0
  have q1 := NP.out.free 1
  have q2 := NP.out.free 2
  have q3 := NP.out.free 3
  have q4 := NP.out.free 4
  have q5 := NP.out.free 5
  have q6 := NP.out.free 6
  have q7 := NP.out.free 7
  have q8 := NP.out.free 8
  have q9 := NP.out.free 9
  have r0 := NR.out.cell 0 rfl
  have r1 := NR.out.cell 1 rfl
  have r2 := NR.out.cell 2 rfl
  have r3 := NR.out.cell 3 rfl
  have r4 := NR.out.cell 4 rfl
  have r5 := NR.out.cell 5 rfl
  have r6 := NR.out.cell 6 rfl
  have r7 := NR.out.cell 7 rfl
  have r8 := NR.out.cell 8 rfl
  have r9 := NR.out.cell 9 rfl
  have s0 := NR.out.free 0
  have s1 := NR.out.free 1
  have s2 := NR.out.free 2
  have s3 := NR.out.free 3
  have s4 := NR.out.free 4
  have s5 := NR.out.free 5
  have s6 := NR.out.free 6
  have s7 := NR.out.free 7
  have s8 := NR.out.free 8
  have s9 := NR.out.free 9
  go_wp2_with fail
  refine bodyPost_ret (v := .agg #[.string t, .bool c1, .bool c2, .bool c3, .bool c4, .bool c5, .bool c6, .bool c7, .string c8, .slice fp c9.length fc]) (by simp [results, go_sem, r0, r1, r2, r3, r4, r5, r6, r7, r8, r9]) rfl ?_
  exact ⟨rfl, ct_endB (Nat.le_succ _) (BX.out.setCell (Nat.le_refl _) _) _ _ _ _ _ _ _ _ _ _⟩
set_option maxHeartbeats 4000000 in
set_option maxRecDepth 100000 in
theorem refChanged_A3 (k : Int) (C : Ct) (fv v : Value) (ax : List (ByteArray × ByteArray)) (w : World) (hf : FilesV w fv C.files) (hv : AttrsV w v ax) (hz : AxOK ax) (name : ByteArray) (hk : k < 23) (hm : modeV k = 1) (hn : anyOfS name = false) :
    Calls Tryz.prog 21 #[.int .i64 k, ctV C fv, v, .string name] w fun e w' => e = .returned (ctV C fv) ∧ Below w.heap.size w w' := by
  have HM := hide (fun W => refMode_any k W)
  have HA := hide (fun W (hb : Below w.heap.size w W) => refAttrS_any v ax name W (hv.below hb) hz.len)
  have k23 : k < 23 := hk
  have k32 : (k == 32) = false := by rw [beq_eq_false_iff_ne]; omega
  rw [hm] at HM
  have hn2 := of_decide_eq_false hn
  have f0 : (name.toList == [118, 97, 108, 117, 101]) = false := by rw [lit_decK]; exact decide_eq_false (fun q => hn2 (.inl q))
  have f1 : (name.toList == [109, 117, 108, 116, 105, 112, 108, 101]) = false := by rw [lit_decK]; exact decide_eq_false (fun q => hn2 (.inr (.inl q)))
  have f2 : (name.toList == [109, 105, 110]) = false := by rw [lit_decK]; exact decide_eq_false (fun q => hn2 (.inr (.inr (.inl q))))
  have f3 : (name.toList == [109, 97, 120]) = false := by rw [lit_decK]; exact decide_eq_false (fun q => hn2 (.inr (.inr (.inr (.inl q)))))
  have f4 : (name.toList == [115, 116, 101, 112]) = false := by rw [lit_decK]; exact decide_eq_false (fun q => hn2 (.inr (.inr (.inr (.inr (q))))))
  clear hz hm hk hn hn2
  generalize fndS ax name = fs0 at *
  generalize (findA ax name).isSome = is0 at *
  obtain ⟨p, c, rfl, _⟩ := hv
  obtain ⟨fp, fc, rfl, _⟩ := hf
  obtain ⟨c0, c1, c2, c3, c4, c5, c6, c7, c8, c9⟩ := C
  unfold ctV ctCells
  have B0 : Hid (Below w.heap.size w ((w.alloc (.cells #[.string c0, .bool c1, .bool c2, .bool c3, .bool c4, .bool c5, .bool c6, .bool c7, .string c8, .slice fp c9.length fc] 24)).alloc (.cells #[.string ⟨#[]⟩, .bool false, .bool false, .bool false, .bool false, .bool false, .bool false, .bool false, .string ⟨#[]⟩, .slice none 0 0] 24))) := ((Below.refl _ w).alloc (Nat.le_refl _) _).alloc ((Below.refl _ w).alloc (Nat.le_refl _) (.cells #[.string c0, .bool c1, .bool c2, .bool c3, .bool c4, .bool c5, .bool c6, .bool c7, .string c8, .slice fp c9.length fc] 24)).size _
  have NP := hide ((Bk.new w [.string c0, .bool c1, .bool c2, .bool c3, .bool c4, .bool c5, .bool c6, .bool c7, .string c8, .slice fp c9.length fc] 24).below ((Below.refl _ (w.alloc (.cells #[.string c0, .bool c1, .bool c2, .bool c3, .bool c4, .bool c5, .bool c6, .bool c7, .string c8, .slice fp c9.length fc] 24))).alloc (Nat.le_refl _) (.cells #[.string ⟨#[]⟩, .bool false, .bool false, .bool false, .bool false, .bool false, .bool false, .bool false, .string ⟨#[]⟩, .slice none 0 0] 24)))
  have NR0 := hide (Bk.new (w.alloc (.cells #[.string c0, .bool c1, .bool c2, .bool c3, .bool c4, .bool c5, .bool c6, .bool c7, .string c8, .slice fp c9.length fc] 24)) [.string ⟨#[]⟩, .bool false, .bool false, .bool false, .bool false, .bool false, .bool false, .bool false, .string ⟨#[]⟩, .slice none 0 0] 24)
  have NR : Hid (Bk ((w.alloc (.cells #[.string c0, .bool c1, .bool c2, .bool c3, .bool c4, .bool c5, .bool c6, .bool c7, .string c8, .slice fp c9.length fc] 24)).alloc (.cells #[.string ⟨#[]⟩, .bool false, .bool false, .bool false, .bool false, .bool false, .bool false, .bool false, .string ⟨#[]⟩, .slice none 0 0] 24)) (w.heap.size + 1) [.string ⟨#[]⟩, .bool false, .bool false, .bool false, .bool false, .bool false, .bool false, .bool false, .string ⟨#[]⟩, .slice none 0 0] 24) := by
    have e : (w.alloc (.cells #[.string c0, .bool c1, .bool c2, .bool c3, .bool c4, .bool c5, .bool c6, .bool c7, .string c8, .slice fp c9.length fc] 24)).heap.size = w.heap.size + 1 := by simp
    rw [e] at NR0; exact NR0
  clear NR0
  go_enter Tryz.func21, Tryz.ntmps21
  go_upto_region 1 with fail
  generalize (w.alloc (.cells #[.string c0, .bool c1, .bool c2, .bool c3, .bool c4, .bool c5, .bool c6, .bool c7, .string c8, .slice fp c9.length fc] 24)).alloc (.cells #[.string ⟨#[]⟩, .bool false, .bool false, .bool false, .bool false, .bool false, .bool false, .bool false, .string ⟨#[]⟩, .slice none 0 0] 24) = w0 at *
  go_wp2_with fail
  refine (HA.out _ B0.out).mono ?_
  rintro e wa ⟨rfl, hwa⟩
  obtain rfl : w0 = wa := hwa.symm
  go_wp2_with fail
  refine (HM.out _).mono ?_
  rintro e wm ⟨rfl, hwm⟩
  obtain rfl : w0 = wm := hwm.symm
  have p0 := NP.out.cell 0 rfl
  have p1 := NP.out.cell 1 rfl
  have p2 := NP.out.cell 2 rfl
  have p3 := NP.out.cell 3 rfl
  have p4 := NP.out.cell 4 rfl
  have p5 := NP.out.cell 5 rfl
  have p6 := NP.out.cell 6 rfl
  have p7 := NP.out.cell 7 rfl
  have p8 := NP.out.cell 8 rfl
  have p9 := NP.out.cell 9 rfl
  have q0 := NP.out.free 0
  have q1 := NP.out.free 1
  have q2 := NP.out.free 2
  have q3 := NP.out.free 3
  have q4 := NP.out.free 4
  have q5 := NP.out.free 5
  have q6 := NP.out.free 6
  have q7 := NP.out.free 7
  have q8 := NP.out.free 8
  have q9 := NP.out.free 9
  have r0 := NR.out.cell 0 rfl
  have r1 := NR.out.cell 1 rfl
  have r2 := NR.out.cell 2 rfl
  have r3 := NR.out.cell 3 rfl
  have r4 := NR.out.cell 4 rfl
  have r5 := NR.out.cell 5 rfl
  have r6 := NR.out.cell 6 rfl
  have r7 := NR.out.cell 7 rfl
  have r8 := NR.out.cell 8 rfl
  have r9 := NR.out.cell 9 rfl
  have s0 := NR.out.free 0
  have s1 := NR.out.free 1
  have s2 := NR.out.free 2
  have s3 := NR.out.free 3
  have s4 := NR.out.free 4
  have s5 := NR.out.free 5
  have s6 := NR.out.free 6
  have s7 := NR.out.free 7
  have s8 := NR.out.free 8
  have s9 := NR.out.free 9
  go_wp2_with fail
  refine bodyPost_ret (v := .agg #[.string c0, .bool c1, .bool c2, .bool c3, .bool c4, .bool c5, .bool c6, .bool c7, .string c8, .slice fp c9.length fc]) (by simp [results, go_sem, r0, r1, r2, r3, r4, r5, r6, r7, r8, r9]) rfl ?_
  exact ⟨rfl, ct_endB (Nat.le_succ _) B0.out _ _ _ _ _ _ _ _ _ _⟩

end Go.Proofs.YtfjfkkbgkjmghaaGreatDoor
