/- The program's Reset, Write, Type, Changed, Retype of layer 14. Stage 14's wakes and long, and its laws, walked. -/
import Derived.Test.YtfjfkkbgkjmghaaGreatDoorJct33

namespace Go.Proofs.YtfjfkkbgkjmghaaGreatDoor
open Go.RowKit
set_option maxRecDepth 100000
theorem nil_fs : FsOK [] := ⟨by decide, by decide, fun e q => (by cases q), fun e q => (by cases q)⟩
set_option maxHeartbeats 8000000 in
theorem ctWrite_long (k : Int) (C : Ct) (fv : Value) (v : Value) (ax : List (ByteArray × ByteArray)) (w : World) (hf : FilesV w fv C.files) (hv : AttrsV w v ax) (_hz : AxOK ax) (s : ByteArray) (hs : s.size ≤ 100000) (_hO : CtOK C) (_hT : CtTabs w) (hl : 4000 < s.size) :
    Calls Tryz.prog 16 #[.int .i64 k, ctV C fv, v, .string s] w fun e w' => e = .returned (.tuple #[ctV ct0 (.slice none 0 0), .bool false, .int .i64 2]) ∧ Below w.heap.size w w' := by
  have HM := hide (mode_any k)
  have l1 : (4000 : Int) < (s.size : Int) := by omega
  generalize modeV k = M at *
  clear hs
  clear hl
  obtain ⟨p, c, rfl, _⟩ := hv
  obtain ⟨fp, fc, rfl, _⟩ := hf
  obtain ⟨c0, c1, c2, c3, c4, c5, c6, c7, c8, c9⟩ := C
  unfold ctV ctCells
  have B0 : Hid (Below w.heap.size w ((w.alloc (.cells #[.string c0, .bool c1, .bool c2, .bool c3, .bool c4, .bool c5, .bool c6, .bool c7, .string c8, .slice fp c9.length fc] 24)).alloc (.cells #[.string ⟨#[]⟩, .bool false, .bool false, .bool false, .bool false, .bool false, .bool false, .bool false, .string ⟨#[]⟩, .slice none 0 0] 24))) := ((Below.refl _ w).alloc (Nat.le_refl _) _).alloc ((Below.refl _ w).alloc (Nat.le_refl _) (.cells #[.string c0, .bool c1, .bool c2, .bool c3, .bool c4, .bool c5, .bool c6, .bool c7, .string c8, .slice fp c9.length fc] 24)).size _
  have NP := hide ((Bk.new w [.string c0, .bool c1, .bool c2, .bool c3, .bool c4, .bool c5, .bool c6, .bool c7, .string c8, .slice fp c9.length fc] 24).below ((Below.refl _ (w.alloc (.cells #[.string c0, .bool c1, .bool c2, .bool c3, .bool c4, .bool c5, .bool c6, .bool c7, .string c8, .slice fp c9.length fc] 24))).alloc (Nat.le_refl _) (.cells #[.string ⟨#[]⟩, .bool false, .bool false, .bool false, .bool false, .bool false, .bool false, .bool false, .string ⟨#[]⟩, .slice none 0 0] 24)))
  have NR0 := hide (Bk.new (w.alloc (.cells #[.string c0, .bool c1, .bool c2, .bool c3, .bool c4, .bool c5, .bool c6, .bool c7, .string c8, .slice fp c9.length fc] 24)) [.string ⟨#[]⟩, .bool false, .bool false, .bool false, .bool false, .bool false, .bool false, .bool false, .string ⟨#[]⟩, .slice none 0 0] 24)
  have NR : Hid (Bk ((w.alloc (.cells #[.string c0, .bool c1, .bool c2, .bool c3, .bool c4, .bool c5, .bool c6, .bool c7, .string c8, .slice fp c9.length fc] 24)).alloc (.cells #[.string ⟨#[]⟩, .bool false, .bool false, .bool false, .bool false, .bool false, .bool false, .bool false, .string ⟨#[]⟩, .slice none 0 0] 24)) (w.heap.size + 1) [.string ⟨#[]⟩, .bool false, .bool false, .bool false, .bool false, .bool false, .bool false, .bool false, .string ⟨#[]⟩, .slice none 0 0] 24) := by
    have e : (w.alloc (.cells #[.string c0, .bool c1, .bool c2, .bool c3, .bool c4, .bool c5, .bool c6, .bool c7, .string c8, .slice fp c9.length fc] 24)).heap.size = w.heap.size + 1 := by simp
    rw [e] at NR0; exact NR0
  clear NR0
  go_enter Tryz.func16, Tryz.ntmps16
  go_upto_region 1 with fail
  generalize (w.alloc (.cells #[.string c0, .bool c1, .bool c2, .bool c3, .bool c4, .bool c5, .bool c6, .bool c7, .string c8, .slice fp c9.length fc] 24)).alloc (.cells #[.string ⟨#[]⟩, .bool false, .bool false, .bool false, .bool false, .bool false, .bool false, .bool false, .string ⟨#[]⟩, .slice none 0 0] 24) = w0 at *
  have l0 : w.heap.size + 1 < w0.heap.size := NR.out.lt
  go_wp2_with fail
  refine (HM.out _).mono ?_
  rintro e u ⟨rfl, hu⟩
  obtain rfl : w0 = u := hu.symm
  have r0 := NR.out.cell 0 rfl
  have r1 := NR.out.cell 1 rfl
  have r2 := NR.out.cell 2 rfl
  have r3 := NR.out.cell 3 rfl
  have r4 := NR.out.cell 4 rfl
  have r5 := NR.out.cell 5 rfl
  have r6 := NR.out.cell 6 rfl
  have r7 := NR.out.cell 7 rfl
  have r8 := NR.out.cell 8 rfl
  have r9 := NR.out.cell 9 rfl
  have s0 := NR.out.free 0
  have s1 := NR.out.free 1
  have s2 := NR.out.free 2
  have s3 := NR.out.free 3
  have s4 := NR.out.free 4
  have s5 := NR.out.free 5
  have s6 := NR.out.free 6
  have s7 := NR.out.free 7
  have s8 := NR.out.free 8
  have s9 := NR.out.free 9
  go_wp2_with fail
  refine bodyPost_ret (v := .tuple #[.agg #[.string ⟨#[]⟩, .bool false, .bool false, .bool false, .bool false, .bool false, .bool false, .bool false, .string ⟨#[]⟩, .slice none 0 0], .bool false, .int .i64 2]) (by simp [results, go_sem, r0, r1, r2, r3, r4, r5, r6, r7, r8, r9]) rfl ?_
  exact ⟨rfl, low_set10 (Nat.le_succ _) B0.out _ _ _ _ _ _ _ _ _ _⟩
set_option maxHeartbeats 8000000 in
theorem ctWrite_m1 (k : Int) (C : Ct) (fv : Value) (v : Value) (ax : List (ByteArray × ByteArray)) (w : World) (hf : FilesV w fv C.files) (hv : AttrsV w v ax) (hz : AxOK ax) (s : ByteArray) (hs : s.size ≤ 100000) (hO : CtOK C) (hT : CtTabs w) (hl : ¬ 4000 < s.size) (hm : modeV k = 1) (t : ByteArray) (ht : ClnIs k ax s t) :
    Calls Tryz.prog 16 #[.int .i64 k, ctV C fv, v, .string s] w fun e w' => ∃ fv', e = .returned (.tuple #[ctV { C with val := t, dirty := true, typed := false } fv', .bool false, .int .i64 0]) ∧ OwnR w.heap.size w' fv' C.files ∧ Below w.heap.size w w' := by
  have HM := hide (mode_any k)
  have l1 : ¬ (4000 : Int) < (s.size : Int) := by omega
  have l2 : decide ((4000 : Int) < (s.size : Int)) = false := decide_eq_false l1
  have HW := hide (fun W (hb : Below w.heap.size w W) => ctWritten_any k C fv v ax W (hf.below hb) (hv.below hb) hz s t false hs ht hO (hT.below hb))
  unfold ctV ctCells at HW
  rw [hm] at HM
  clear hz hs hO hT
  clear hl hm ht
  obtain ⟨p, c, rfl, _⟩ := hv
  obtain ⟨fp, fc, rfl, _⟩ := hf
  obtain ⟨c0, c1, c2, c3, c4, c5, c6, c7, c8, c9⟩ := C
  unfold ctV ctCells
  have B0 : Hid (Below w.heap.size w ((w.alloc (.cells #[.string c0, .bool c1, .bool c2, .bool c3, .bool c4, .bool c5, .bool c6, .bool c7, .string c8, .slice fp c9.length fc] 24)).alloc (.cells #[.string ⟨#[]⟩, .bool false, .bool false, .bool false, .bool false, .bool false, .bool false, .bool false, .string ⟨#[]⟩, .slice none 0 0] 24))) := ((Below.refl _ w).alloc (Nat.le_refl _) _).alloc ((Below.refl _ w).alloc (Nat.le_refl _) (.cells #[.string c0, .bool c1, .bool c2, .bool c3, .bool c4, .bool c5, .bool c6, .bool c7, .string c8, .slice fp c9.length fc] 24)).size _
  have NP := hide ((Bk.new w [.string c0, .bool c1, .bool c2, .bool c3, .bool c4, .bool c5, .bool c6, .bool c7, .string c8, .slice fp c9.length fc] 24).below ((Below.refl _ (w.alloc (.cells #[.string c0, .bool c1, .bool c2, .bool c3, .bool c4, .bool c5, .bool c6, .bool c7, .string c8, .slice fp c9.length fc] 24))).alloc (Nat.le_refl _) (.cells #[.string ⟨#[]⟩, .bool false, .bool false, .bool false, .bool false, .bool false, .bool false, .bool false, .string ⟨#[]⟩, .slice none 0 0] 24)))
  have NR0 := hide (Bk.new (w.alloc (.cells #[.string c0, .bool c1, .bool c2, .bool c3, .bool c4, .bool c5, .bool c6, .bool c7, .string c8, .slice fp c9.length fc] 24)) [.string ⟨#[]⟩, .bool false, .bool false, .bool false, .bool false, .bool false, .bool false, .bool false, .string ⟨#[]⟩, .slice none 0 0] 24)
  have NR : Hid (Bk ((w.alloc (.cells #[.string c0, .bool c1, .bool c2, .bool c3, .bool c4, .bool c5, .bool c6, .bool c7, .string c8, .slice fp c9.length fc] 24)).alloc (.cells #[.string ⟨#[]⟩, .bool false, .bool false, .bool false, .bool false, .bool false, .bool false, .bool false, .string ⟨#[]⟩, .slice none 0 0] 24)) (w.heap.size + 1) [.string ⟨#[]⟩, .bool false, .bool false, .bool false, .bool false, .bool false, .bool false, .bool false, .string ⟨#[]⟩, .slice none 0 0] 24) := by
    have e : (w.alloc (.cells #[.string c0, .bool c1, .bool c2, .bool c3, .bool c4, .bool c5, .bool c6, .bool c7, .string c8, .slice fp c9.length fc] 24)).heap.size = w.heap.size + 1 := by simp
    rw [e] at NR0; exact NR0
  clear NR0
  go_enter Tryz.func16, Tryz.ntmps16
  go_upto_region 1 with fail
  generalize (w.alloc (.cells #[.string c0, .bool c1, .bool c2, .bool c3, .bool c4, .bool c5, .bool c6, .bool c7, .string c8, .slice fp c9.length fc] 24)).alloc (.cells #[.string ⟨#[]⟩, .bool false, .bool false, .bool false, .bool false, .bool false, .bool false, .bool false, .string ⟨#[]⟩, .slice none 0 0] 24) = w0 at *
  have l0 : w.heap.size + 1 < w0.heap.size := NR.out.lt
  have p0 := NP.out.cell 0 rfl
  have p1 := NP.out.cell 1 rfl
  have p2 := NP.out.cell 2 rfl
  have p3 := NP.out.cell 3 rfl
  have p4 := NP.out.cell 4 rfl
  have p5 := NP.out.cell 5 rfl
  have p6 := NP.out.cell 6 rfl
  have p7 := NP.out.cell 7 rfl
  have p8 := NP.out.cell 8 rfl
  have p9 := NP.out.cell 9 rfl
  go_wp2_with fail
  refine (HM.out _).mono ?_
  rintro e u ⟨rfl, hu⟩
  obtain rfl : w0 = u := hu.symm
  have BC := B0
  have LC : Hid (w.heap.size + 1 < w0.heap.size) := l0
  go_wp2_with fail
  refine (HW.out _ B0.out).mono ?_
  rintro e w1 ⟨f1, rfl, o1, b1⟩
  obtain ⟨p1', kc, rfl⟩ : ∃ p c, f1 = .slice p c9.length c := o1.form
  have B1 := hide (chain BC.out b1)
  have O1 := hide o1
  replace NR := hide (NR.out.below b1)
  have FR : Hid (∀ g, (Value.slice p1' c9.length kc).ownBlock = some g → g ≠ w.heap.size + 1) := fun g hg => by have := (O1.out.at_ g hg).1; have := LC.out; omega
  have LE0 : Hid (w.heap.size ≤ w0.heap.size) := by show _ ≤ _; have := LC.out; omega
  clear o1 b1
  have r0 := NR.out.cell 0 rfl
  have r1 := NR.out.cell 1 rfl
  have r2 := NR.out.cell 2 rfl
  have r3 := NR.out.cell 3 rfl
  have r4 := NR.out.cell 4 rfl
  have r5 := NR.out.cell 5 rfl
  have r6 := NR.out.cell 6 rfl
  have r7 := NR.out.cell 7 rfl
  have r8 := NR.out.cell 8 rfl
  have r9 := NR.out.cell 9 rfl
  have s0 := NR.out.free 0
  have s1 := NR.out.free 1
  have s2 := NR.out.free 2
  have s3 := NR.out.free 3
  have s4 := NR.out.free 4
  have s5 := NR.out.free 5
  have s6 := NR.out.free 6
  have s7 := NR.out.free 7
  have s8 := NR.out.free 8
  have s9 := NR.out.free 9
  go_wp2_with fail
  refine bodyPost_ret (v := .tuple #[.agg #[.string t, .bool true, .bool false, .bool c3, .bool c4, .bool c5, .bool c6, .bool c7, .string c8, .slice p1' c9.length kc], .bool false, .int .i64 0]) (by simp [results, go_sem, r0, r1, r2, r3, r4, r5, r6, r7, r8, r9]) rfl ?_
  exact ⟨_, rfl, (O1.out.mono LE0.out).set10 FR.out _ _ _ _ _ _ _ _ _ _, low_set10 (Nat.le_succ _) B1.out _ _ _ _ _ _ _ _ _ _⟩
set_option maxHeartbeats 8000000 in
theorem ctWrite_m3 (k : Int) (C : Ct) (fv : Value) (v : Value) (ax : List (ByteArray × ByteArray)) (w : World) (hf : FilesV w fv C.files) (hv : AttrsV w v ax) (_hz : AxOK ax) (s : ByteArray) (hs : s.size ≤ 100000) (hO : CtOK C) (_hT : CtTabs w) (hl : ¬ 4000 < s.size) (hm : modeV k = 3) :
    Calls Tryz.prog 16 #[.int .i64 k, ctV C fv, v, .string s] w fun e w' => ∃ fv', e = .returned (.tuple #[ctV C fv', .bool true, .int .i64 0]) ∧ OwnR w.heap.size w' fv' C.files ∧ Below w.heap.size w w' := by
  have HM := hide (mode_any k)
  have l1 : ¬ (4000 : Int) < (s.size : Int) := by omega
  have l2 : decide ((4000 : Int) < (s.size : Int)) = false := decide_eq_false l1
  have HCp := hide (fun W (hb : Below w.heap.size w W) => ctCopied_any C fv W (hf.below hb) hO)
  unfold ctV ctCells at HCp
  rw [hm] at HM
  clear hs hO
  clear hl hm
  obtain ⟨p, c, rfl, _⟩ := hv
  obtain ⟨fp, fc, rfl, _⟩ := hf
  obtain ⟨c0, c1, c2, c3, c4, c5, c6, c7, c8, c9⟩ := C
  unfold ctV ctCells
  have B0 : Hid (Below w.heap.size w ((w.alloc (.cells #[.string c0, .bool c1, .bool c2, .bool c3, .bool c4, .bool c5, .bool c6, .bool c7, .string c8, .slice fp c9.length fc] 24)).alloc (.cells #[.string ⟨#[]⟩, .bool false, .bool false, .bool false, .bool false, .bool false, .bool false, .bool false, .string ⟨#[]⟩, .slice none 0 0] 24))) := ((Below.refl _ w).alloc (Nat.le_refl _) _).alloc ((Below.refl _ w).alloc (Nat.le_refl _) (.cells #[.string c0, .bool c1, .bool c2, .bool c3, .bool c4, .bool c5, .bool c6, .bool c7, .string c8, .slice fp c9.length fc] 24)).size _
  have NP := hide ((Bk.new w [.string c0, .bool c1, .bool c2, .bool c3, .bool c4, .bool c5, .bool c6, .bool c7, .string c8, .slice fp c9.length fc] 24).below ((Below.refl _ (w.alloc (.cells #[.string c0, .bool c1, .bool c2, .bool c3, .bool c4, .bool c5, .bool c6, .bool c7, .string c8, .slice fp c9.length fc] 24))).alloc (Nat.le_refl _) (.cells #[.string ⟨#[]⟩, .bool false, .bool false, .bool false, .bool false, .bool false, .bool false, .bool false, .string ⟨#[]⟩, .slice none 0 0] 24)))
  have NR0 := hide (Bk.new (w.alloc (.cells #[.string c0, .bool c1, .bool c2, .bool c3, .bool c4, .bool c5, .bool c6, .bool c7, .string c8, .slice fp c9.length fc] 24)) [.string ⟨#[]⟩, .bool false, .bool false, .bool false, .bool false, .bool false, .bool false, .bool false, .string ⟨#[]⟩, .slice none 0 0] 24)
  have NR : Hid (Bk ((w.alloc (.cells #[.string c0, .bool c1, .bool c2, .bool c3, .bool c4, .bool c5, .bool c6, .bool c7, .string c8, .slice fp c9.length fc] 24)).alloc (.cells #[.string ⟨#[]⟩, .bool false, .bool false, .bool false, .bool false, .bool false, .bool false, .bool false, .string ⟨#[]⟩, .slice none 0 0] 24)) (w.heap.size + 1) [.string ⟨#[]⟩, .bool false, .bool false, .bool false, .bool false, .bool false, .bool false, .bool false, .string ⟨#[]⟩, .slice none 0 0] 24) := by
    have e : (w.alloc (.cells #[.string c0, .bool c1, .bool c2, .bool c3, .bool c4, .bool c5, .bool c6, .bool c7, .string c8, .slice fp c9.length fc] 24)).heap.size = w.heap.size + 1 := by simp
    rw [e] at NR0; exact NR0
  clear NR0
  go_enter Tryz.func16, Tryz.ntmps16
  go_upto_region 1 with fail
  generalize (w.alloc (.cells #[.string c0, .bool c1, .bool c2, .bool c3, .bool c4, .bool c5, .bool c6, .bool c7, .string c8, .slice fp c9.length fc] 24)).alloc (.cells #[.string ⟨#[]⟩, .bool false, .bool false, .bool false, .bool false, .bool false, .bool false, .bool false, .string ⟨#[]⟩, .slice none 0 0] 24) = w0 at *
  have l0 : w.heap.size + 1 < w0.heap.size := NR.out.lt
  have p0 := NP.out.cell 0 rfl
  have p1 := NP.out.cell 1 rfl
  have p2 := NP.out.cell 2 rfl
  have p3 := NP.out.cell 3 rfl
  have p4 := NP.out.cell 4 rfl
  have p5 := NP.out.cell 5 rfl
  have p6 := NP.out.cell 6 rfl
  have p7 := NP.out.cell 7 rfl
  have p8 := NP.out.cell 8 rfl
  have p9 := NP.out.cell 9 rfl
  go_wp2_with fail
  refine (HM.out _).mono ?_
  rintro e u ⟨rfl, hu⟩
  obtain rfl : w0 = u := hu.symm
  have BC := B0
  have LC : Hid (w.heap.size + 1 < w0.heap.size) := l0
  go_wp2_with fail
  refine (HCp.out _ B0.out).mono ?_
  rintro e w1 ⟨f1, rfl, o1, b1⟩
  obtain ⟨p1', kc, rfl⟩ : ∃ p c, f1 = .slice p c9.length c := o1.form
  have B1 := hide (chain BC.out b1)
  have O1 := hide o1
  replace NR := hide (NR.out.below b1)
  have FR : Hid (∀ g, (Value.slice p1' c9.length kc).ownBlock = some g → g ≠ w.heap.size + 1) := fun g hg => by have := (O1.out.at_ g hg).1; have := LC.out; omega
  have LE0 : Hid (w.heap.size ≤ w0.heap.size) := by show _ ≤ _; have := LC.out; omega
  clear o1 b1
  have r0 := NR.out.cell 0 rfl
  have r1 := NR.out.cell 1 rfl
  have r2 := NR.out.cell 2 rfl
  have r3 := NR.out.cell 3 rfl
  have r4 := NR.out.cell 4 rfl
  have r5 := NR.out.cell 5 rfl
  have r6 := NR.out.cell 6 rfl
  have r7 := NR.out.cell 7 rfl
  have r8 := NR.out.cell 8 rfl
  have r9 := NR.out.cell 9 rfl
  have s0 := NR.out.free 0
  have s1 := NR.out.free 1
  have s2 := NR.out.free 2
  have s3 := NR.out.free 3
  have s4 := NR.out.free 4
  have s5 := NR.out.free 5
  have s6 := NR.out.free 6
  have s7 := NR.out.free 7
  have s8 := NR.out.free 8
  have s9 := NR.out.free 9
  go_wp2_with fail
  refine bodyPost_ret (v := .tuple #[.agg #[.string c0, .bool c1, .bool c2, .bool c3, .bool c4, .bool c5, .bool c6, .bool c7, .string c8, .slice p1' c9.length kc], .bool true, .int .i64 0]) (by simp [results, go_sem, r0, r1, r2, r3, r4, r5, r6, r7, r8, r9]) rfl ?_
  exact ⟨_, rfl, (O1.out.mono LE0.out).set10 FR.out _ _ _ _ _ _ _ _ _ _, low_set10 (Nat.le_succ _) B1.out _ _ _ _ _ _ _ _ _ _⟩
set_option maxHeartbeats 8000000 in
theorem ctWrite_ia (k : Int) (C : Ct) (fv : Value) (v : Value) (ax : List (ByteArray × ByteArray)) (w : World) (hf : FilesV w fv C.files) (hv : AttrsV w v ax) (_hz : AxOK ax) (s : ByteArray) (hs : s.size ≤ 100000) (hO : CtOK C) (_hT : CtTabs w) (hl : ¬ 4000 < s.size) (hm : ¬ modeV k = 1 ∧ ¬ modeV k = 3) (hi : iaB k = true) :
    Calls Tryz.prog 16 #[.int .i64 k, ctV C fv, v, .string s] w fun e w' => ∃ fv', e = .returned (.tuple #[ctV C fv', .bool true, .int .i64 0]) ∧ OwnR w.heap.size w' fv' C.files ∧ Below w.heap.size w w' := by
  have HM := hide (mode_any k)
  have l1 : ¬ (4000 : Int) < (s.size : Int) := by omega
  have l2 : decide ((4000 : Int) < (s.size : Int)) = false := decide_eq_false l1
  have HCp := hide (fun W (hb : Below w.heap.size w W) => ctCopied_any C fv W (hf.below hb) hO)
  unfold ctV ctCells at HCp
  have HI := hide (ctInAttr_any k)
  rw [hi] at HI
  have m1 : (modeV k == 1) = false := beq_eq_false_iff_ne.2 hm.1
  have m3 : (modeV k == 3) = false := beq_eq_false_iff_ne.2 hm.2
  generalize modeV k = M at *
  clear hs hO
  clear hl hm hi
  obtain ⟨p, c, rfl, _⟩ := hv
  obtain ⟨fp, fc, rfl, _⟩ := hf
  obtain ⟨c0, c1, c2, c3, c4, c5, c6, c7, c8, c9⟩ := C
  unfold ctV ctCells
  have B0 : Hid (Below w.heap.size w ((w.alloc (.cells #[.string c0, .bool c1, .bool c2, .bool c3, .bool c4, .bool c5, .bool c6, .bool c7, .string c8, .slice fp c9.length fc] 24)).alloc (.cells #[.string ⟨#[]⟩, .bool false, .bool false, .bool false, .bool false, .bool false, .bool false, .bool false, .string ⟨#[]⟩, .slice none 0 0] 24))) := ((Below.refl _ w).alloc (Nat.le_refl _) _).alloc ((Below.refl _ w).alloc (Nat.le_refl _) (.cells #[.string c0, .bool c1, .bool c2, .bool c3, .bool c4, .bool c5, .bool c6, .bool c7, .string c8, .slice fp c9.length fc] 24)).size _
  have NP := hide ((Bk.new w [.string c0, .bool c1, .bool c2, .bool c3, .bool c4, .bool c5, .bool c6, .bool c7, .string c8, .slice fp c9.length fc] 24).below ((Below.refl _ (w.alloc (.cells #[.string c0, .bool c1, .bool c2, .bool c3, .bool c4, .bool c5, .bool c6, .bool c7, .string c8, .slice fp c9.length fc] 24))).alloc (Nat.le_refl _) (.cells #[.string ⟨#[]⟩, .bool false, .bool false, .bool false, .bool false, .bool false, .bool false, .bool false, .string ⟨#[]⟩, .slice none 0 0] 24)))
  have NR0 := hide (Bk.new (w.alloc (.cells #[.string c0, .bool c1, .bool c2, .bool c3, .bool c4, .bool c5, .bool c6, .bool c7, .string c8, .slice fp c9.length fc] 24)) [.string ⟨#[]⟩, .bool false, .bool false, .bool false, .bool false, .bool false, .bool false, .bool false, .string ⟨#[]⟩, .slice none 0 0] 24)
  have NR : Hid (Bk ((w.alloc (.cells #[.string c0, .bool c1, .bool c2, .bool c3, .bool c4, .bool c5, .bool c6, .bool c7, .string c8, .slice fp c9.length fc] 24)).alloc (.cells #[.string ⟨#[]⟩, .bool false, .bool false, .bool false, .bool false, .bool false, .bool false, .bool false, .string ⟨#[]⟩, .slice none 0 0] 24)) (w.heap.size + 1) [.string ⟨#[]⟩, .bool false, .bool false, .bool false, .bool false, .bool false, .bool false, .bool false, .string ⟨#[]⟩, .slice none 0 0] 24) := by
    have e : (w.alloc (.cells #[.string c0, .bool c1, .bool c2, .bool c3, .bool c4, .bool c5, .bool c6, .bool c7, .string c8, .slice fp c9.length fc] 24)).heap.size = w.heap.size + 1 := by simp
    rw [e] at NR0; exact NR0
  clear NR0
  go_enter Tryz.func16, Tryz.ntmps16
  go_upto_region 1 with fail
  generalize (w.alloc (.cells #[.string c0, .bool c1, .bool c2, .bool c3, .bool c4, .bool c5, .bool c6, .bool c7, .string c8, .slice fp c9.length fc] 24)).alloc (.cells #[.string ⟨#[]⟩, .bool false, .bool false, .bool false, .bool false, .bool false, .bool false, .bool false, .string ⟨#[]⟩, .slice none 0 0] 24) = w0 at *
  have l0 : w.heap.size + 1 < w0.heap.size := NR.out.lt
  have p0 := NP.out.cell 0 rfl
  have p1 := NP.out.cell 1 rfl
  have p2 := NP.out.cell 2 rfl
  have p3 := NP.out.cell 3 rfl
  have p4 := NP.out.cell 4 rfl
  have p5 := NP.out.cell 5 rfl
  have p6 := NP.out.cell 6 rfl
  have p7 := NP.out.cell 7 rfl
  have p8 := NP.out.cell 8 rfl
  have p9 := NP.out.cell 9 rfl
  go_wp2_with fail
  refine (HM.out _).mono ?_
  rintro e u ⟨rfl, hu⟩
  obtain rfl : w0 = u := hu.symm
  go_wp2_with fail
  refine (HI.out _).mono ?_
  rintro e u ⟨rfl, hu⟩
  obtain rfl : w0 = u := hu.symm
  have BC := B0
  have LC : Hid (w.heap.size + 1 < w0.heap.size) := l0
  go_wp2_with fail
  refine (HCp.out _ B0.out).mono ?_
  rintro e w1 ⟨f1, rfl, o1, b1⟩
  obtain ⟨p1', kc, rfl⟩ : ∃ p c, f1 = .slice p c9.length c := o1.form
  have B1 := hide (chain BC.out b1)
  have O1 := hide o1
  replace NR := hide (NR.out.below b1)
  have FR : Hid (∀ g, (Value.slice p1' c9.length kc).ownBlock = some g → g ≠ w.heap.size + 1) := fun g hg => by have := (O1.out.at_ g hg).1; have := LC.out; omega
  have LE0 : Hid (w.heap.size ≤ w0.heap.size) := by show _ ≤ _; have := LC.out; omega
  clear o1 b1
  have r0 := NR.out.cell 0 rfl
  have r1 := NR.out.cell 1 rfl
  have r2 := NR.out.cell 2 rfl
  have r3 := NR.out.cell 3 rfl
  have r4 := NR.out.cell 4 rfl
  have r5 := NR.out.cell 5 rfl
  have r6 := NR.out.cell 6 rfl
  have r7 := NR.out.cell 7 rfl
  have r8 := NR.out.cell 8 rfl
  have r9 := NR.out.cell 9 rfl
  have s0 := NR.out.free 0
  have s1 := NR.out.free 1
  have s2 := NR.out.free 2
  have s3 := NR.out.free 3
  have s4 := NR.out.free 4
  have s5 := NR.out.free 5
  have s6 := NR.out.free 6
  have s7 := NR.out.free 7
  have s8 := NR.out.free 8
  have s9 := NR.out.free 9
  go_wp2_with fail
  refine bodyPost_ret (v := .tuple #[.agg #[.string c0, .bool c1, .bool c2, .bool c3, .bool c4, .bool c5, .bool c6, .bool c7, .string c8, .slice p1' c9.length kc], .bool true, .int .i64 0]) (by simp [results, go_sem, r0, r1, r2, r3, r4, r5, r6, r7, r8, r9]) rfl ?_
  exact ⟨_, rfl, (O1.out.mono LE0.out).set10 FR.out _ _ _ _ _ _ _ _ _ _, low_set10 (Nat.le_succ _) B1.out _ _ _ _ _ _ _ _ _ _⟩
set_option maxHeartbeats 8000000 in
theorem ctWrite_m4y (k : Int) (C : Ct) (fv : Value) (v : Value) (ax : List (ByteArray × ByteArray)) (w : World) (hf : FilesV w fv C.files) (hv : AttrsV w v ax) (_hz : AxOK ax) (s : ByteArray) (hs : s.size ≤ 100000) (_hO : CtOK C) (_hT : CtTabs w) (hl : ¬ 4000 < s.size) (hm : modeV k = 4) (hi : iaB k = false) (h0 : ¬ s = ⟨#[]⟩) :
    Calls Tryz.prog 16 #[.int .i64 k, ctV C fv, v, .string s] w fun e w' => e = .returned (.tuple #[ctV ct0 (.slice none 0 0), .bool false, .int .i64 8]) ∧ Below w.heap.size w w' := by
  have HM := hide (mode_any k)
  have l1 : ¬ (4000 : Int) < (s.size : Int) := by omega
  have l2 : decide ((4000 : Int) < (s.size : Int)) = false := decide_eq_false l1
  have HI := hide (ctInAttr_any k)
  rw [hi] at HI
  have e0 : (s.toList == []) = false := by rw [lit_decC]; exact decide_eq_false h0
  have e1 : (s.toList != []) = true := by rw [bne, e0]; rfl
  rw [hm] at HM
  clear hs
  clear hl hm hi h0
  obtain ⟨p, c, rfl, _⟩ := hv
  obtain ⟨fp, fc, rfl, _⟩ := hf
  obtain ⟨c0, c1, c2, c3, c4, c5, c6, c7, c8, c9⟩ := C
  unfold ctV ctCells
  have B0 : Hid (Below w.heap.size w ((w.alloc (.cells #[.string c0, .bool c1, .bool c2, .bool c3, .bool c4, .bool c5, .bool c6, .bool c7, .string c8, .slice fp c9.length fc] 24)).alloc (.cells #[.string ⟨#[]⟩, .bool false, .bool false, .bool false, .bool false, .bool false, .bool false, .bool false, .string ⟨#[]⟩, .slice none 0 0] 24))) := ((Below.refl _ w).alloc (Nat.le_refl _) _).alloc ((Below.refl _ w).alloc (Nat.le_refl _) (.cells #[.string c0, .bool c1, .bool c2, .bool c3, .bool c4, .bool c5, .bool c6, .bool c7, .string c8, .slice fp c9.length fc] 24)).size _
  have NP := hide ((Bk.new w [.string c0, .bool c1, .bool c2, .bool c3, .bool c4, .bool c5, .bool c6, .bool c7, .string c8, .slice fp c9.length fc] 24).below ((Below.refl _ (w.alloc (.cells #[.string c0, .bool c1, .bool c2, .bool c3, .bool c4, .bool c5, .bool c6, .bool c7, .string c8, .slice fp c9.length fc] 24))).alloc (Nat.le_refl _) (.cells #[.string ⟨#[]⟩, .bool false, .bool false, .bool false, .bool false, .bool false, .bool false, .bool false, .string ⟨#[]⟩, .slice none 0 0] 24)))
  have NR0 := hide (Bk.new (w.alloc (.cells #[.string c0, .bool c1, .bool c2, .bool c3, .bool c4, .bool c5, .bool c6, .bool c7, .string c8, .slice fp c9.length fc] 24)) [.string ⟨#[]⟩, .bool false, .bool false, .bool false, .bool false, .bool false, .bool false, .bool false, .string ⟨#[]⟩, .slice none 0 0] 24)
  have NR : Hid (Bk ((w.alloc (.cells #[.string c0, .bool c1, .bool c2, .bool c3, .bool c4, .bool c5, .bool c6, .bool c7, .string c8, .slice fp c9.length fc] 24)).alloc (.cells #[.string ⟨#[]⟩, .bool false, .bool false, .bool false, .bool false, .bool false, .bool false, .bool false, .string ⟨#[]⟩, .slice none 0 0] 24)) (w.heap.size + 1) [.string ⟨#[]⟩, .bool false, .bool false, .bool false, .bool false, .bool false, .bool false, .bool false, .string ⟨#[]⟩, .slice none 0 0] 24) := by
    have e : (w.alloc (.cells #[.string c0, .bool c1, .bool c2, .bool c3, .bool c4, .bool c5, .bool c6, .bool c7, .string c8, .slice fp c9.length fc] 24)).heap.size = w.heap.size + 1 := by simp
    rw [e] at NR0; exact NR0
  clear NR0
  go_enter Tryz.func16, Tryz.ntmps16
  go_upto_region 1 with fail
  generalize (w.alloc (.cells #[.string c0, .bool c1, .bool c2, .bool c3, .bool c4, .bool c5, .bool c6, .bool c7, .string c8, .slice fp c9.length fc] 24)).alloc (.cells #[.string ⟨#[]⟩, .bool false, .bool false, .bool false, .bool false, .bool false, .bool false, .bool false, .string ⟨#[]⟩, .slice none 0 0] 24) = w0 at *
  have l0 : w.heap.size + 1 < w0.heap.size := NR.out.lt
  go_wp2_with fail
  refine (HM.out _).mono ?_
  rintro e u ⟨rfl, hu⟩
  obtain rfl : w0 = u := hu.symm
  go_wp2_with fail
  refine (HI.out _).mono ?_
  rintro e u ⟨rfl, hu⟩
  obtain rfl : w0 = u := hu.symm
  have r0 := NR.out.cell 0 rfl
  have r1 := NR.out.cell 1 rfl
  have r2 := NR.out.cell 2 rfl
  have r3 := NR.out.cell 3 rfl
  have r4 := NR.out.cell 4 rfl
  have r5 := NR.out.cell 5 rfl
  have r6 := NR.out.cell 6 rfl
  have r7 := NR.out.cell 7 rfl
  have r8 := NR.out.cell 8 rfl
  have r9 := NR.out.cell 9 rfl
  have s0 := NR.out.free 0
  have s1 := NR.out.free 1
  have s2 := NR.out.free 2
  have s3 := NR.out.free 3
  have s4 := NR.out.free 4
  have s5 := NR.out.free 5
  have s6 := NR.out.free 6
  have s7 := NR.out.free 7
  have s8 := NR.out.free 8
  have s9 := NR.out.free 9
  go_wp2_with fail
  refine bodyPost_ret (v := .tuple #[.agg #[.string ⟨#[]⟩, .bool false, .bool false, .bool false, .bool false, .bool false, .bool false, .bool false, .string ⟨#[]⟩, .slice none 0 0], .bool false, .int .i64 8]) (by simp [results, go_sem, r0, r1, r2, r3, r4, r5, r6, r7, r8, r9]) rfl ?_
  exact ⟨rfl, low_set10 (Nat.le_succ _) B0.out _ _ _ _ _ _ _ _ _ _⟩
set_option maxHeartbeats 8000000 in
theorem ctWrite_m4n (k : Int) (C : Ct) (fv : Value) (v : Value) (ax : List (ByteArray × ByteArray)) (w : World) (hf : FilesV w fv C.files) (hv : AttrsV w v ax) (_hz : AxOK ax) (s : ByteArray) (hs : s.size ≤ 100000) (hO : CtOK C) (_hT : CtTabs w) (hl : ¬ 4000 < s.size) (hm : modeV k = 4) (hi : iaB k = false) (h0 : s = ⟨#[]⟩) :
    Calls Tryz.prog 16 #[.int .i64 k, ctV C fv, v, .string s] w fun e w' => ∃ fv', e = .returned (.tuple #[ctV { C with files := [] } fv', .bool false, .int .i64 0]) ∧ OwnR w.heap.size w' fv' [] ∧ Below w.heap.size w w' := by
  have HM := hide (mode_any k)
  have l1 : ¬ (4000 : Int) < (s.size : Int) := by omega
  have l2 : decide ((4000 : Int) < (s.size : Int)) = false := decide_eq_false l1
  have HI := hide (ctInAttr_any k)
  rw [hi] at HI
  have HCp := hide (fun W (hb : Below w.heap.size w W) => ctCopied_any { C with files := [] } (.slice none 0 0) W (files_nil W) ⟨nil_fs, hO.custom, hO.val⟩)
  unfold ctV ctCells at HCp
  subst h0
  rw [hm] at HM
  clear hs hO
  clear hl hm hi
  obtain ⟨p, c, rfl, _⟩ := hv
  obtain ⟨fp, fc, rfl, _⟩ := hf
  obtain ⟨c0, c1, c2, c3, c4, c5, c6, c7, c8, c9⟩ := C
  unfold ctV ctCells
  have B0 : Hid (Below w.heap.size w ((w.alloc (.cells #[.string c0, .bool c1, .bool c2, .bool c3, .bool c4, .bool c5, .bool c6, .bool c7, .string c8, .slice fp c9.length fc] 24)).alloc (.cells #[.string ⟨#[]⟩, .bool false, .bool false, .bool false, .bool false, .bool false, .bool false, .bool false, .string ⟨#[]⟩, .slice none 0 0] 24))) := ((Below.refl _ w).alloc (Nat.le_refl _) _).alloc ((Below.refl _ w).alloc (Nat.le_refl _) (.cells #[.string c0, .bool c1, .bool c2, .bool c3, .bool c4, .bool c5, .bool c6, .bool c7, .string c8, .slice fp c9.length fc] 24)).size _
  have NP := hide ((Bk.new w [.string c0, .bool c1, .bool c2, .bool c3, .bool c4, .bool c5, .bool c6, .bool c7, .string c8, .slice fp c9.length fc] 24).below ((Below.refl _ (w.alloc (.cells #[.string c0, .bool c1, .bool c2, .bool c3, .bool c4, .bool c5, .bool c6, .bool c7, .string c8, .slice fp c9.length fc] 24))).alloc (Nat.le_refl _) (.cells #[.string ⟨#[]⟩, .bool false, .bool false, .bool false, .bool false, .bool false, .bool false, .bool false, .string ⟨#[]⟩, .slice none 0 0] 24)))
  have NR0 := hide (Bk.new (w.alloc (.cells #[.string c0, .bool c1, .bool c2, .bool c3, .bool c4, .bool c5, .bool c6, .bool c7, .string c8, .slice fp c9.length fc] 24)) [.string ⟨#[]⟩, .bool false, .bool false, .bool false, .bool false, .bool false, .bool false, .bool false, .string ⟨#[]⟩, .slice none 0 0] 24)
  have NR : Hid (Bk ((w.alloc (.cells #[.string c0, .bool c1, .bool c2, .bool c3, .bool c4, .bool c5, .bool c6, .bool c7, .string c8, .slice fp c9.length fc] 24)).alloc (.cells #[.string ⟨#[]⟩, .bool false, .bool false, .bool false, .bool false, .bool false, .bool false, .bool false, .string ⟨#[]⟩, .slice none 0 0] 24)) (w.heap.size + 1) [.string ⟨#[]⟩, .bool false, .bool false, .bool false, .bool false, .bool false, .bool false, .bool false, .string ⟨#[]⟩, .slice none 0 0] 24) := by
    have e : (w.alloc (.cells #[.string c0, .bool c1, .bool c2, .bool c3, .bool c4, .bool c5, .bool c6, .bool c7, .string c8, .slice fp c9.length fc] 24)).heap.size = w.heap.size + 1 := by simp
    rw [e] at NR0; exact NR0
  clear NR0
  go_enter Tryz.func16, Tryz.ntmps16
  go_upto_region 1 with fail
  generalize (w.alloc (.cells #[.string c0, .bool c1, .bool c2, .bool c3, .bool c4, .bool c5, .bool c6, .bool c7, .string c8, .slice fp c9.length fc] 24)).alloc (.cells #[.string ⟨#[]⟩, .bool false, .bool false, .bool false, .bool false, .bool false, .bool false, .bool false, .string ⟨#[]⟩, .slice none 0 0] 24) = w0 at *
  have l0 : w.heap.size + 1 < w0.heap.size := NR.out.lt
  go_wp2_with fail
  refine (HM.out _).mono ?_
  rintro e u ⟨rfl, hu⟩
  obtain rfl : w0 = u := hu.symm
  go_wp2_with fail
  refine (HI.out _).mono ?_
  rintro e u ⟨rfl, hu⟩
  obtain rfl : w0 = u := hu.symm
  go_upto_region 11 with fail
  have p0 := NP.out.cell 0 rfl
  have p1 := NP.out.cell 1 rfl
  have p2 := NP.out.cell 2 rfl
  have p3 := NP.out.cell 3 rfl
  have p4 := NP.out.cell 4 rfl
  have p5 := NP.out.cell 5 rfl
  have p6 := NP.out.cell 6 rfl
  have p7 := NP.out.cell 7 rfl
  have p8 := NP.out.cell 8 rfl
  have p9 := NP.out.cell 9 rfl
  have q0 := NP.out.free 0
  have q1 := NP.out.free 1
  have q2 := NP.out.free 2
  have q3 := NP.out.free 3
  have q4 := NP.out.free 4
  have q5 := NP.out.free 5
  have q6 := NP.out.free 6
  have q7 := NP.out.free 7
  have q8 := NP.out.free 8
  have q9 := NP.out.free 9
  go_upto_region 12 with fail
  have B1 : Hid (Below w.heap.size w (w0.setCell ⟨w.heap.size, 9, none⟩ (.slice none 0 0))) := B0.out.setCell (Nat.le_refl _) _
  have NP1 := hide (NP.out.set 9 (.slice none 0 0))
  have NR1 : Hid (Bk (w0.setCell ⟨w.heap.size, 9, none⟩ (.slice none 0 0)) (w.heap.size + 1) [.string ⟨#[]⟩, .bool false, .bool false, .bool false, .bool false, .bool false, .bool false, .bool false, .string ⟨#[]⟩, .slice none 0 0] 24) := NR.out.other (Nat.ne_of_lt (Nat.lt_succ_self _)) _ _
  have LC : Hid (w.heap.size + 1 < (w0.setCell ⟨w.heap.size, 9, none⟩ (.slice none 0 0)).heap.size) := NR1.out.lt
  clear p0 p1 p2 p3 p4 p5 p6 p7 p8 p9 q0 q1 q2 q3 q4 q5 q6 q7 q8 q9 NP NR B0 l0
  generalize w0.setCell ⟨w.heap.size, 9, none⟩ (.slice none 0 0) = w5 at *
  have NR := NR1
  have BC := B1
  clear B1 NR1
  have p0 := NP1.out.cell 0 rfl
  have p1 := NP1.out.cell 1 rfl
  have p2 := NP1.out.cell 2 rfl
  have p3 := NP1.out.cell 3 rfl
  have p4 := NP1.out.cell 4 rfl
  have p5 := NP1.out.cell 5 rfl
  have p6 := NP1.out.cell 6 rfl
  have p7 := NP1.out.cell 7 rfl
  have p8 := NP1.out.cell 8 rfl
  have p9 := NP1.out.cell 9 rfl
  go_wp2_with fail
  refine (HCp.out _ BC.out).mono ?_
  rintro e w1 ⟨f1, rfl, o1, b1⟩
  obtain ⟨p1', kc, rfl⟩ : ∃ p c, f1 = .slice p ([] : List En).length c := o1.form
  have B1 := hide (chain BC.out b1)
  have O1 := hide o1
  replace NR := hide (NR.out.below b1)
  have FR : Hid (∀ g, (Value.slice p1' ([] : List En).length kc).ownBlock = some g → g ≠ w.heap.size + 1) := fun g hg => by have := (O1.out.at_ g hg).1; have := LC.out; omega
  have LE0 : Hid (w.heap.size ≤ w5.heap.size) := by show _ ≤ _; have := LC.out; omega
  clear o1 b1
  have r0 := NR.out.cell 0 rfl
  have r1 := NR.out.cell 1 rfl
  have r2 := NR.out.cell 2 rfl
  have r3 := NR.out.cell 3 rfl
  have r4 := NR.out.cell 4 rfl
  have r5 := NR.out.cell 5 rfl
  have r6 := NR.out.cell 6 rfl
  have r7 := NR.out.cell 7 rfl
  have r8 := NR.out.cell 8 rfl
  have r9 := NR.out.cell 9 rfl
  have s0 := NR.out.free 0
  have s1 := NR.out.free 1
  have s2 := NR.out.free 2
  have s3 := NR.out.free 3
  have s4 := NR.out.free 4
  have s5 := NR.out.free 5
  have s6 := NR.out.free 6
  have s7 := NR.out.free 7
  have s8 := NR.out.free 8
  have s9 := NR.out.free 9
  go_wp2_with fail
  refine bodyPost_ret (v := .tuple #[.agg #[.string c0, .bool c1, .bool c2, .bool c3, .bool c4, .bool c5, .bool c6, .bool c7, .string c8, .slice p1' ([] : List En).length kc], .bool false, .int .i64 0]) (by simp [results, go_sem, r0, r1, r2, r3, r4, r5, r6, r7, r8, r9]) rfl ?_
  exact ⟨_, rfl, (O1.out.mono LE0.out).set10 FR.out _ _ _ _ _ _ _ _ _ _, low_set10 (Nat.le_succ _) B1.out _ _ _ _ _ _ _ _ _ _⟩
set_option maxHeartbeats 8000000 in
theorem ctWrite_else (k : Int) (C : Ct) (fv : Value) (v : Value) (ax : List (ByteArray × ByteArray)) (w : World) (hf : FilesV w fv C.files) (hv : AttrsV w v ax) (_hz : AxOK ax) (s : ByteArray) (hs : s.size ≤ 100000) (_hO : CtOK C) (_hT : CtTabs w) (hl : ¬ 4000 < s.size) (hm : ¬ modeV k = 1 ∧ ¬ modeV k = 3) (h4 : ¬ modeV k = 4) (hi : iaB k = false) :
    Calls Tryz.prog 16 #[.int .i64 k, ctV C fv, v, .string s] w fun e w' => e = .returned (.tuple #[ctV ct0 (.slice none 0 0), .bool false, .int .i64 3]) ∧ Below w.heap.size w w' := by
  have HM := hide (mode_any k)
  have l1 : ¬ (4000 : Int) < (s.size : Int) := by omega
  have l2 : decide ((4000 : Int) < (s.size : Int)) = false := decide_eq_false l1
  have HI := hide (ctInAttr_any k)
  rw [hi] at HI
  have m4 : (modeV k == 4) = false := beq_eq_false_iff_ne.2 h4
  have m1 : (modeV k == 1) = false := beq_eq_false_iff_ne.2 hm.1
  have m3 : (modeV k == 3) = false := beq_eq_false_iff_ne.2 hm.2
  generalize modeV k = M at *
  clear hs
  clear hl hm hi h4
  obtain ⟨p, c, rfl, _⟩ := hv
  obtain ⟨fp, fc, rfl, _⟩ := hf
  obtain ⟨c0, c1, c2, c3, c4, c5, c6, c7, c8, c9⟩ := C
  unfold ctV ctCells
  have B0 : Hid (Below w.heap.size w ((w.alloc (.cells #[.string c0, .bool c1, .bool c2, .bool c3, .bool c4, .bool c5, .bool c6, .bool c7, .string c8, .slice fp c9.length fc] 24)).alloc (.cells #[.string ⟨#[]⟩, .bool false, .bool false, .bool false, .bool false, .bool false, .bool false, .bool false, .string ⟨#[]⟩, .slice none 0 0] 24))) := ((Below.refl _ w).alloc (Nat.le_refl _) _).alloc ((Below.refl _ w).alloc (Nat.le_refl _) (.cells #[.string c0, .bool c1, .bool c2, .bool c3, .bool c4, .bool c5, .bool c6, .bool c7, .string c8, .slice fp c9.length fc] 24)).size _
  have NP := hide ((Bk.new w [.string c0, .bool c1, .bool c2, .bool c3, .bool c4, .bool c5, .bool c6, .bool c7, .string c8, .slice fp c9.length fc] 24).below ((Below.refl _ (w.alloc (.cells #[.string c0, .bool c1, .bool c2, .bool c3, .bool c4, .bool c5, .bool c6, .bool c7, .string c8, .slice fp c9.length fc] 24))).alloc (Nat.le_refl _) (.cells #[.string ⟨#[]⟩, .bool false, .bool false, .bool false, .bool false, .bool false, .bool false, .bool false, .string ⟨#[]⟩, .slice none 0 0] 24)))
  have NR0 := hide (Bk.new (w.alloc (.cells #[.string c0, .bool c1, .bool c2, .bool c3, .bool c4, .bool c5, .bool c6, .bool c7, .string c8, .slice fp c9.length fc] 24)) [.string ⟨#[]⟩, .bool false, .bool false, .bool false, .bool false, .bool false, .bool false, .bool false, .string ⟨#[]⟩, .slice none 0 0] 24)
  have NR : Hid (Bk ((w.alloc (.cells #[.string c0, .bool c1, .bool c2, .bool c3, .bool c4, .bool c5, .bool c6, .bool c7, .string c8, .slice fp c9.length fc] 24)).alloc (.cells #[.string ⟨#[]⟩, .bool false, .bool false, .bool false, .bool false, .bool false, .bool false, .bool false, .string ⟨#[]⟩, .slice none 0 0] 24)) (w.heap.size + 1) [.string ⟨#[]⟩, .bool false, .bool false, .bool false, .bool false, .bool false, .bool false, .bool false, .string ⟨#[]⟩, .slice none 0 0] 24) := by
    have e : (w.alloc (.cells #[.string c0, .bool c1, .bool c2, .bool c3, .bool c4, .bool c5, .bool c6, .bool c7, .string c8, .slice fp c9.length fc] 24)).heap.size = w.heap.size + 1 := by simp
    rw [e] at NR0; exact NR0
  clear NR0
  go_enter Tryz.func16, Tryz.ntmps16
  go_upto_region 1 with fail
  generalize (w.alloc (.cells #[.string c0, .bool c1, .bool c2, .bool c3, .bool c4, .bool c5, .bool c6, .bool c7, .string c8, .slice fp c9.length fc] 24)).alloc (.cells #[.string ⟨#[]⟩, .bool false, .bool false, .bool false, .bool false, .bool false, .bool false, .bool false, .string ⟨#[]⟩, .slice none 0 0] 24) = w0 at *
  have l0 : w.heap.size + 1 < w0.heap.size := NR.out.lt
  go_wp2_with fail
  refine (HM.out _).mono ?_
  rintro e u ⟨rfl, hu⟩
  obtain rfl : w0 = u := hu.symm
  go_wp2_with fail
  refine (HI.out _).mono ?_
  rintro e u ⟨rfl, hu⟩
  obtain rfl : w0 = u := hu.symm
  have r0 := NR.out.cell 0 rfl
  have r1 := NR.out.cell 1 rfl
  have r2 := NR.out.cell 2 rfl
  have r3 := NR.out.cell 3 rfl
  have r4 := NR.out.cell 4 rfl
  have r5 := NR.out.cell 5 rfl
  have r6 := NR.out.cell 6 rfl
  have r7 := NR.out.cell 7 rfl
  have r8 := NR.out.cell 8 rfl
  have r9 := NR.out.cell 9 rfl
  have s0 := NR.out.free 0
  have s1 := NR.out.free 1
  have s2 := NR.out.free 2
  have s3 := NR.out.free 3
  have s4 := NR.out.free 4
  have s5 := NR.out.free 5
  have s6 := NR.out.free 6
  have s7 := NR.out.free 7
  have s8 := NR.out.free 8
  have s9 := NR.out.free 9
  go_wp2_with fail
  refine bodyPost_ret (v := .tuple #[.agg #[.string ⟨#[]⟩, .bool false, .bool false, .bool false, .bool false, .bool false, .bool false, .bool false, .string ⟨#[]⟩, .slice none 0 0], .bool false, .int .i64 3]) (by simp [results, go_sem, r0, r1, r2, r3, r4, r5, r6, r7, r8, r9]) rfl ?_
  exact ⟨rfl, low_set10 (Nat.le_succ _) B0.out _ _ _ _ _ _ _ _ _ _⟩
theorem ia_is (k : Int) : iaB k = true ↔ isPush k = true ∨ modeV k = 2 := by
  unfold iaB
  rw [decide_eq_true_eq]
theorem mode_push {k : Int} (h : modeV k = 4) : iaB k = false := by
  refine decide_eq_false fun q => ?_
  rcases q with q | q
  · unfold isPush at q
    have := of_decide_eq_true q
    unfold modeV at h
    rw [if_neg (by omega), if_neg (by omega), if_neg (by omega), if_neg (by omega)] at h
    cases h
  · rw [h] at q; cases q
theorem ctWrite_any (k : Int) (C : Ct) (fv v : Value) (ax : List (ByteArray × ByteArray)) (w : World) (hf : FilesV w fv C.files) (hv : AttrsV w v ax) (hz : AxOK ax) (s : ByteArray) (hs : s.size ≤ 100000) (t : ByteArray) (ht : ClnIs k ax s t) (hO : CtOK C) (hT : CtTabs w) :
    Calls Tryz.prog 16 #[.int .i64 k, ctV C fv, v, .string s] w fun e w' => ∃ fv', e = .returned (.tuple #[ctV (writeP k C s t).1 fv', .bool (writeP k C s t).2.1, .int .i64 (writeP k C s t).2.2]) ∧ FilesV w' fv' (writeP k C s t).1.files ∧ Below w.heap.size w w' := by
  have n0 : ∀ w', FilesV w' (.slice none 0 0) ct0.files := fun w' => files_nil w'
  unfold writeP
  by_cases hl : 4000 < s.size
  · rw [if_pos hl]
    exact (ctWrite_long k C fv v ax w hf hv hz s hs hO hT hl).mono fun e w' ⟨h, b⟩ => ⟨_, h, n0 _, b⟩
  · rw [if_neg hl]
    by_cases h1 : modeV k = 1
    · rw [if_pos h1]
      exact (ctWrite_m1 k C fv v ax w hf hv hz s hs hO hT hl h1 t ht).mono fun e w' ⟨f, h, o, b⟩ => ⟨f, h, o.files, b⟩
    · rw [if_neg h1]
      by_cases h2 : modeV k = 2 ∨ modeV k = 3 ∨ isPush k = true
      · rw [if_pos h2]
        by_cases q3 : modeV k = 3
        · exact (ctWrite_m3 k C fv v ax w hf hv hz s hs hO hT hl q3).mono fun e w' ⟨f, h, o, b⟩ => ⟨f, h, o.files, b⟩
        · have hi : iaB k = true := (ia_is k).2 (by
            rcases h2 with q | q | q
            · exact .inr q
            · exact absurd q q3
            · exact .inl q)
          exact (ctWrite_ia k C fv v ax w hf hv hz s hs hO hT hl ⟨h1, q3⟩ hi).mono fun e w' ⟨f, h, o, b⟩ => ⟨f, h, o.files, b⟩
      · rw [if_neg h2]
        by_cases h4 : modeV k = 4
        · rw [if_pos h4]
          by_cases h0 : 0 < s.size
          · rw [if_pos h0]
            exact (ctWrite_m4y k C fv v ax w hf hv hz s hs hO hT hl h4 (mode_push h4) (fun q => by rw [q] at h0; exact absurd h0 (by decide))).mono fun e w' ⟨h, b⟩ => ⟨_, h, n0 _, b⟩
          · rw [if_neg h0]
            have e0 : s = ⟨#[]⟩ := by
              obtain ⟨d⟩ := s
              have : d.size = 0 := by have h0 : ¬ 0 < d.size := h0; omega
              rw [Array.eq_empty_of_size_eq_zero this]
            exact (ctWrite_m4n k C fv v ax w hf hv hz s hs hO hT hl h4 (mode_push h4) e0).mono fun e w' ⟨f, h, o, b⟩ => ⟨f, h, o.files, b⟩
        · rw [if_neg h4]
          have hi : iaB k = false := by
            cases q : iaB k with
            | false => rfl
            | true =>
              rcases (ia_is k).1 q with q | q
              · exact absurd (.inr (.inr q)) h2
              · exact absurd (.inl q) h2
          exact (ctWrite_else k C fv v ax w hf hv hz s hs hO hT hl ⟨h1, fun q => h2 (.inr (.inl q))⟩ h4 hi).mono fun e w' ⟨h, b⟩ => ⟨_, h, n0 _, b⟩
end Go.Proofs.YtfjfkkbgkjmghaaGreatDoor

namespace Go.Proofs.YtfjfkkbgkjmghaaGreatDoor
open Go.RowKit
/-- A control: its kind, what it has, its attributes. -/
def itV (k : Int) (C : Ct) (fv v : Value) : Value := .agg #[.int .i64 k, .string C.val, .bool C.dirty, .bool C.typed, .bool C.chk, .bool C.dchk, .bool C.mixed, .bool C.sel, .bool C.dsel, .string C.custom, fv, v]
/-- Is anything longer than a statement takes? -/
def longI (C : Ct) (ax : List (ByteArray × ByteArray)) (s : ByteArray) : Bool := decide (100 < ax.length) || (decide (8192 < s.size) || (decide (8192 < C.val.size) || ax.any fun a => decide (8192 < a.2.size)))
structure ShortI (C : Ct) (ax : List (ByteArray × ByteArray)) (s : ByteArray) : Prop where
  small : ∀ a ∈ ax, a.2.size ≤ 8192
  ax : AxOK ax
  s : s.size ≤ 8192
  val : C.val.size ≤ 8192
theorem longI_no {C : Ct} {ax : List (ByteArray × ByteArray)} {s : ByteArray} (h : longI C ax s = false) : ShortI C ax s := by
  unfold longI at h
  rw [Bool.or_eq_false_iff, Bool.or_eq_false_iff, Bool.or_eq_false_iff, decide_eq_false_iff_not, decide_eq_false_iff_not, decide_eq_false_iff_not, List.any_eq_false] at h
  have sm : ∀ a ∈ ax, a.2.size ≤ 8192 := fun a q => by
    have := h.2.2.2 a q
    simp only [decide_eq_true_eq] at this
    omega
  exact ⟨sm, ⟨by omega, fun a q => Nat.le_trans (sm a q) (by decide)⟩, by omega, by omega⟩
set_option maxHeartbeats 4000000 in
set_option maxRecDepth 100000 in
theorem ctLong_any (k : Int) (C : Ct) (fv v : Value) (ax : List (ByteArray × ByteArray)) (s : ByteArray) (w : World) (hf : FilesV w fv C.files) (hv : AttrsV w v ax) (hl : ax.length ≤ 4398046511104) :
    Calls Tryz.prog 10 #[itV k C fv v, .string s] w fun e w' => e = .returned (.bool (longI C ax s)) ∧ Below w.heap.size w w' := by
  have DF : Hid (longI C ax s = (decide (100 < ax.length) || (decide (8192 < s.size) || (decide (8192 < C.val.size) || ax.any fun a => decide (8192 < a.2.size))))) := rfl
  generalize longI C ax s = LB at *
  obtain ⟨p, c, rfl, hk⟩ := hv
  obtain ⟨fp, fc, rfl, _⟩ := hf
  obtain ⟨c0, c1, c2, c3, c4, c5, c6, c7, c8, c9⟩ := C
  unfold itV
  have B0 : Hid (Below w.heap.size w (w.alloc (.cells #[.int .i64 k, .string c0, .bool c1, .bool c2, .bool c3, .bool c4, .bool c5, .bool c6, .bool c7, .string c8, .slice fp c9.length fc, .slice p ax.length c] 27))) := (Below.refl _ w).alloc (Nat.le_refl _) _
  have NX := hide (Bk.new w [.int .i64 k, .string c0, .bool c1, .bool c2, .bool c3, .bool c4, .bool c5, .bool c6, .bool c7, .string c8, .slice fp c9.length fc, .slice p ax.length c] 27)
  have DF2 : Hid (LB = (decide (100 < ax.length) || (decide (8192 < s.size) || (decide (8192 < c0.size) || ax.any fun a => decide (8192 < a.2.size))))) := DF
  clear DF
  have HB := hide hk
  clear hk
  go_enter Tryz.func10, Tryz.ntmps10
  go_upto_region 1 with fail
  generalize w.alloc (.cells #[.int .i64 k, .string c0, .bool c1, .bool c2, .bool c3, .bool c4, .bool c5, .bool c6, .bool c7, .string c8, .slice fp c9.length fc, .slice p ax.length c] 27) = w0 at *
  have x0 := NX.out.cell 0 rfl
  have x1 := NX.out.cell 1 rfl
  have x2 := NX.out.cell 2 rfl
  have x3 := NX.out.cell 3 rfl
  have x4 := NX.out.cell 4 rfl
  have x5 := NX.out.cell 5 rfl
  have x6 := NX.out.cell 6 rfl
  have x7 := NX.out.cell 7 rfl
  have x8 := NX.out.cell 8 rfl
  have x9 := NX.out.cell 9 rfl
  have x10 := NX.out.cell 10 rfl
  have x11 := NX.out.cell 11 rfl
  by_cases h1 : 100 < ax.length
  · have E : Hid (LB = true) := by show _ = _; rw [DF2.out, decide_eq_true h1]; rfl
    have g1 : (100 : Int) < (ax.length : Int) := by omega
    clear HB h1 DF2
    go_wp2_with fail
    go_ret
    exact ⟨ret_bool E.out.symm, B0.out⟩
  · have g1 : ¬ (100 : Int) < (ax.length : Int) := by omega
    have d1 : decide ((100 : Int) < (ax.length : Int)) = false := decide_eq_false g1
    by_cases h2 : 8192 < s.size
    · have E : Hid (LB = true) := by show _ = _; rw [DF2.out, decide_eq_true h2, Bool.true_or, Bool.or_true]
      have g2 : (8192 : Int) < (s.size : Int) := by omega
      clear HB h1 h2 DF2
      go_wp2_with fail
      go_ret
      exact ⟨ret_bool E.out.symm, B0.out⟩
    · have g2 : ¬ (8192 : Int) < (s.size : Int) := by omega
      have d2 : decide ((8192 : Int) < (s.size : Int)) = false := decide_eq_false g2
      by_cases h3 : 8192 < c0.size
      · have E : Hid (LB = true) := by show _ = _; rw [DF2.out, decide_eq_true h3, Bool.true_or, Bool.or_true, Bool.or_true]
        have g3 : (8192 : Int) < (c0.size : Int) := by omega
        clear HB h1 h2 h3 DF2
        go_wp2_with fail
        go_ret
        exact ⟨ret_bool E.out.symm, B0.out⟩
      · have g3 : ¬ (8192 : Int) < (c0.size : Int) := by omega
        have d3 : decide ((8192 : Int) < (c0.size : Int)) = false := decide_eq_false g3
        have E : Hid (LB = ax.any fun a => decide (8192 < a.2.size)) := by show _ = _; rw [DF2.out, decide_eq_false h1, decide_eq_false h2, decide_eq_false h3]; rfl
        clear h1 h2 h3 DF2
        go_wp2_with fail
        go_loop [25] (fun iv => ∃ k : Nat, k ≤ ax.length ∧ iv = .int .i64 k ∧ Hid (∀ j (_ : j < ax.length), j < k → ax[j].2.size ≤ 8192)) (fun iv => ax.length - (intOf iv).toNat)
        case atStart => exact ⟨0, Nat.zero_le _, rfl, fun j _ q => by omega⟩
        case round =>
          obtain ⟨j, hj, rfl, hd⟩ := hrel
          by_cases h : j < ax.length
          · have i1 : (j : Int) < (ax.length : Int) := by omega
            have i0 : (0 : Int) ≤ (j : Int) := by omega
            obtain ⟨b, o, rfl, hc⟩ : ∃ b o, p = some ⟨b, o, none⟩ ∧ ∀ i (h : i < ax.length), w.cell? ⟨b, o + i * 2, none⟩ = some (.string ax[i].1) ∧ w.cell? ⟨b, o + i * 2 + 1, none⟩ = some (.string ax[i].2) := by
              rcases HB.out with t | t
              · rw [t] at h; simp at h
              · exact t
            have y1 := cell_below (hc j h).2 B0.out
            clear hc HB
            by_cases q : 8192 < ax[j].2.size
            · have q1 : (8192 : Int) < (ax[j].2.size : Int) := by omega
              have E2 : Hid (LB = true) := by
                show _ = _
                rw [E.out, List.any_eq_true]
                exact ⟨_, List.getElem_mem h, decide_eq_true q⟩
              clear q hd
              generalize ax[j].2 = t at *
              go_wp2_with fail
              go_ret
              exact ⟨ret_bool E2.out.symm, B0.out⟩
            · have q1 : ¬ (8192 : Int) < (ax[j].2.size : Int) := by omega
              have ND : Hid (∀ i (_ : i < ax.length), i < j + 1 → ax[i].2.size ≤ 8192) := by
                intro i hi r
                rcases Nat.lt_or_ge i j with t | t
                · exact hd.out i hi t
                · obtain rfl : i = j := by omega
                  omega
              clear q hd
              generalize ax[j].2 = t at *
              go_wp2_with fail
              go_round
              case rel => exact ⟨j + 1, by omega, by go_num, ND⟩
              case measure => simp [intOf]; omega
          · obtain rfl : j = ax.length := by omega
            have E2 : Hid (LB = false) := by
              show _ = _
              rw [E.out, List.any_eq_false]
              intro a ha
              obtain ⟨i, hi, rfl⟩ := List.getElem_of_mem ha
              have := hd.out i hi hi
              simp only [decide_eq_true_eq]
              omega
            clear hd h
            go_wp2_with fail
            go_ret
            exact ⟨ret_bool E2.out.symm, B0.out⟩
theorem attrs_one (w : World) (a b : ByteArray) : AttrsV (w.alloc (.cells #[.string a, .string b] 49)) (.slice (some ⟨w.heap.size, 0, none⟩) 1 1) [(a, b)] := by
  refine ⟨_, 1, rfl, .inr ⟨w.heap.size, 0, rfl, fun i h => ?_⟩⟩
  obtain rfl : i = 0 := by simp at h; omega
  exact ⟨by simp, by simp⟩
theorem one_ok : AxOK [(⟨#[118, 97, 108, 117, 101]⟩, ⟨#[97, 10]⟩)] := ⟨by decide, fun a q => by rw [List.mem_singleton.1 q]; decide⟩
theorem nil_okC : AxOK [] := ⟨by decide, fun a q => by cases q⟩
theorem nil_attrsC (w : World) : AttrsV w (.slice none 0 0) [] := ⟨none, 0, rfl, .inl rfl⟩
theorem wk_write (t : ByteArray) : writeP 18 ct0 ⟨#[97]⟩ t = (ct0, false, 8) := by
  unfold writeP
  rw [if_neg (by decide), if_neg (by decide), if_neg (by decide), if_pos (by decide), if_pos (by decide)]
theorem wk_src : srcS 2 [(⟨#[118, 97, 108, 117, 101]⟩, ⟨#[97, 10]⟩)] ⟨#[]⟩ = ⟨#[97, 10]⟩ := by decide
theorem wk_cln : ClnIs 2 [(⟨#[118, 97, 108, 117, 101]⟩, ⟨#[97, 10]⟩)] (srcS 2 [(⟨#[118, 97, 108, 117, 101]⟩, ⟨#[97, 10]⟩)] ⟨#[]⟩) ⟨#[97]⟩ := by
  rw [wk_src]
  exact .inr ⟨by decide, .inl ⟨.inl rfl, by decide +kernel⟩⟩
theorem wk_start : startP 2 [(⟨#[118, 97, 108, 117, 101]⟩, ⟨#[97, 10]⟩)] ⟨#[]⟩ ⟨#[97]⟩ = { ct0 with val := ⟨#[97]⟩ } := by
  unfold startP
  rw [if_neg (by decide), if_pos (by decide)]
theorem wk_value : valueP 16 ct0 [] = ⟨#[111, 110]⟩ := by
  unfold valueP
  rw [if_neg (by decide), if_neg (by decide), if_pos (by decide)]
  rfl
set_option maxHeartbeats 4000000 in
set_option maxRecDepth 100000 in
theorem ctWakes_any (w : World) (hT : CtTabs w) :
    Calls Tryz.prog 9 #[] w fun e w' => e = .returned (.bool true) ∧ Below w.heap.size w w' := by
  obtain ⟨t, ht⟩ := cln_some 18 [] ⟨#[97]⟩
  have H1 := hide (ctWrite_any 18 ct0 (.slice none 0 0) (.slice none 0 0) [] w (files_nil w) (nil_attrsC w) nil_okC ⟨#[97]⟩ (by decide) t ht ct0_ok hT)
  rw [wk_write, show ctV ct0 (.slice none 0 0) = .agg #[.string ⟨#[]⟩, .bool false, .bool false, .bool false, .bool false, .bool false, .bool false, .bool false, .string ⟨#[]⟩, .slice none 0 0] from rfl] at H1
  have H2 := hide (fun W (hb : Below w.heap.size w W) => ctStart_any 2 _ _ _ (attrs_one W ⟨#[118, 97, 108, 117, 101]⟩ ⟨#[97, 10]⟩) one_ok ⟨#[]⟩ ⟨#[97]⟩ wk_cln (by decide) (hT.below (hb.alloc hb.size _)))
  rw [wk_start] at H2
  have H3 := hide (fun W (hb : Below w.heap.size w W) => ctValue_any 16 ct0 (.slice none 0 0) (.slice none 0 0) [] W (files_nil W) (nil_attrsC W) nil_okC ct0_ok (hT.below hb))
  rw [wk_value, show ctV ct0 (.slice none 0 0) = .agg #[.string ⟨#[]⟩, .bool false, .bool false, .bool false, .bool false, .bool false, .bool false, .bool false, .string ⟨#[]⟩, .slice none 0 0] from rfl] at H3
  have AB : Hid (∀ W, Below w.heap.size w W → ∀ o, Below w.heap.size w (W.alloc o)) := fun W hb o => hb.alloc hb.size _
  clear hT ht
  go_enter Tryz.func9, Tryz.ntmps9
  go_wp2_with fail
  refine H1.out.mono ?_
  rintro e w1 ⟨f1, rfl, g1, b1⟩
  obtain ⟨p1, c1, rfl, _⟩ := g1
  unfold ctV ctCells
  go_wp2_with fail
  have K2 := hide (H2.out (w1.alloc (.cells #[.string ct0.val, .bool ct0.dirty, .bool ct0.typed, .bool ct0.chk, .bool ct0.dchk, .bool ct0.mixed, .bool ct0.sel, .bool ct0.dsel, .string ct0.custom, .slice p1 ct0.files.length c1] 24)) (AB.out _ b1 _))
  rw [show (w1.alloc (.cells #[.string ct0.val, .bool ct0.dirty, .bool ct0.typed, .bool ct0.chk, .bool ct0.dchk, .bool ct0.mixed, .bool ct0.sel, .bool ct0.dsel, .string ct0.custom, .slice p1 ct0.files.length c1] 24)).heap.size = w1.heap.size + 1 by simp] at K2
  refine K2.out.mono ?_
  rintro e w2 ⟨f2, rfl, g2, b2⟩
  obtain ⟨p2, c2, rfl, _⟩ := g2
  have B2 := hide (chain (AB.out _ (AB.out _ b1 _) _) b2)
  unfold ctV ctCells
  go_wp2_with fail
  refine (H3.out _ (AB.out _ B2.out _)).mono ?_
  rintro e w3 ⟨rfl, b3⟩
  have k0 := ((Bk.new w2 [.string ⟨#[97]⟩, .bool ct0.dirty, .bool ct0.typed, .bool ct0.chk, .bool ct0.dchk, .bool ct0.mixed, .bool ct0.sel, .bool ct0.dsel, .string ct0.custom, .slice p2 ct0.files.length c2] 24).below b3).cell 0 rfl
  go_wp2_with fail
  go_ret
  exact ⟨rfl, chain (AB.out _ B2.out _) b3⟩

end Go.Proofs.YtfjfkkbgkjmghaaGreatDoor
