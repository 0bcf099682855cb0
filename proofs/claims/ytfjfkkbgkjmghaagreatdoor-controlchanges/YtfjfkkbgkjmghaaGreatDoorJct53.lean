/- The program's Changed and Retype of layer 14. -/
import Derived.Test.YtfjfkkbgkjmghaaGreatDoorJct33
import Derived.Test.YtfjfkkbgkjmghaaGreatDoorJct52

namespace Go.Proofs.YtfjfkkbgkjmghaaGreatDoor
open Go.RowKit
set_option maxRecDepth 100000
theorem sb_is {k : Int} : sbB k = true ↔ modeV k = 1 ∧ k < 23 := by
  unfold sbB
  rw [decide_eq_true_eq]
  unfold modeV
  (repeat' split) <;> constructor <;> intro h <;> omega
theorem chg_one {k : Int} (h : sbB k = true) (C : Ct) (ax : List (ByteArray × ByteArray)) (n t : ByteArray) : changedP k C ax n t = { C with val := if anyOfS n = true then t else C.val } := by
  obtain ⟨m, l⟩ := sb_is.1 h
  unfold changedP chgSel chgChk chgVal
  rw [if_neg (fun q => by omega), if_neg (fun q => by rw [m] at q; exact absurd q.1 (by decide))]
  by_cases a : anyOfS n = true
  · rw [if_pos ⟨m, l, a⟩, if_pos a]
  · rw [if_neg (fun q => a q.2.2), if_neg a]
theorem chg_val_no {k : Int} (h : sbB k = false) (C : Ct) (n t : ByteArray) : chgVal k C n t = C := by
  unfold chgVal
  rw [if_neg (fun q => by rw [sb_is.2 ⟨q.1, q.2.1⟩] at h; cases h)]
set_option maxHeartbeats 8000000 in
theorem ctChanged_sb (k : Int) (C : Ct) (fv : Value) (v : Value) (ax : List (ByteArray × ByteArray)) (w : World) (hf : FilesV w fv C.files) (hv : AttrsV w v ax) (hz : AxOK ax) (name : ByteArray) (hO : CtOK C) (hT : CtTabs w) (t : ByteArray) (ht : ClnIs k ax (chgSrc C ax name) t) (hb0 : sbB k = true) :
    Calls Tryz.prog 20 #[.int .i64 k, ctV C fv, v, .string name] w fun e w' => ∃ fv', e = .returned (ctV { C with val := if anyOfS name = true then t else C.val } fv') ∧ OwnR w.heap.size w' fv' C.files ∧ Below w.heap.size w w' := by
  have HCp := hide (fun W (hb : Below w.heap.size w W) => ctCopied_any C fv W (hf.below hb) hO)
  have HS := hide (ctStartsBy_any k)
  rw [hb0] at HS
  have hm : modeV k = 1 := (of_decide_eq_true hb0).1
  have h24 : ¬ k = 24 := (of_decide_eq_true hb0).2.1
  have h28 : ¬ k = 28 := (of_decide_eq_true hb0).2.2
  have HCV := hide (fun W (hb : Below w.heap.size w W) => (fun fv2 (hf2 : FilesV W fv2 C.files) => ctChV_any k C fv2 v ax W hf2 (hv.below hb) hz name t h24 h28 hm ht hO (hT.below hb)))
  unfold ctV ctCells at HCV
  generalize (if anyOfS name = true then t else C.val) = R at *
  clear hz hO hT ht hb0 hm h24 h28
  obtain ⟨p, c, rfl, _⟩ := hv
  obtain ⟨fp, fc, rfl, _⟩ := hf
  obtain ⟨c0, c1, c2, c3, c4, c5, c6, c7, c8, c9⟩ := C
  unfold ctV ctCells
  unfold ctV ctCells at HCp
  have B0 : Hid (Below w.heap.size w ((w.alloc (.cells #[.string c0, .bool c1, .bool c2, .bool c3, .bool c4, .bool c5, .bool c6, .bool c7, .string c8, .slice fp c9.length fc] 24)).alloc (.cells #[.string ⟨#[]⟩, .bool false, .bool false, .bool false, .bool false, .bool false, .bool false, .bool false, .string ⟨#[]⟩, .slice none 0 0] 24))) := ((Below.refl _ w).alloc (Nat.le_refl _) _).alloc ((Below.refl _ w).alloc (Nat.le_refl _) (.cells #[.string c0, .bool c1, .bool c2, .bool c3, .bool c4, .bool c5, .bool c6, .bool c7, .string c8, .slice fp c9.length fc] 24)).size _
  have NP := hide ((Bk.new w [.string c0, .bool c1, .bool c2, .bool c3, .bool c4, .bool c5, .bool c6, .bool c7, .string c8, .slice fp c9.length fc] 24).below ((Below.refl _ (w.alloc (.cells #[.string c0, .bool c1, .bool c2, .bool c3, .bool c4, .bool c5, .bool c6, .bool c7, .string c8, .slice fp c9.length fc] 24))).alloc (Nat.le_refl _) (.cells #[.string ⟨#[]⟩, .bool false, .bool false, .bool false, .bool false, .bool false, .bool false, .bool false, .string ⟨#[]⟩, .slice none 0 0] 24)))
  have NR0 := hide (Bk.new (w.alloc (.cells #[.string c0, .bool c1, .bool c2, .bool c3, .bool c4, .bool c5, .bool c6, .bool c7, .string c8, .slice fp c9.length fc] 24)) [.string ⟨#[]⟩, .bool false, .bool false, .bool false, .bool false, .bool false, .bool false, .bool false, .string ⟨#[]⟩, .slice none 0 0] 24)
  have NR : Hid (Bk ((w.alloc (.cells #[.string c0, .bool c1, .bool c2, .bool c3, .bool c4, .bool c5, .bool c6, .bool c7, .string c8, .slice fp c9.length fc] 24)).alloc (.cells #[.string ⟨#[]⟩, .bool false, .bool false, .bool false, .bool false, .bool false, .bool false, .bool false, .string ⟨#[]⟩, .slice none 0 0] 24)) (w.heap.size + 1) [.string ⟨#[]⟩, .bool false, .bool false, .bool false, .bool false, .bool false, .bool false, .bool false, .string ⟨#[]⟩, .slice none 0 0] 24) := by
    have e : (w.alloc (.cells #[.string c0, .bool c1, .bool c2, .bool c3, .bool c4, .bool c5, .bool c6, .bool c7, .string c8, .slice fp c9.length fc] 24)).heap.size = w.heap.size + 1 := by simp
    rw [e] at NR0; exact NR0
  clear NR0
  go_enter Tryz.func20, Tryz.ntmps20
  go_upto_region 1 with fail
  generalize (w.alloc (.cells #[.string c0, .bool c1, .bool c2, .bool c3, .bool c4, .bool c5, .bool c6, .bool c7, .string c8, .slice fp c9.length fc] 24)).alloc (.cells #[.string ⟨#[]⟩, .bool false, .bool false, .bool false, .bool false, .bool false, .bool false, .bool false, .string ⟨#[]⟩, .slice none 0 0] 24) = w0 at *
  have l0 : w.heap.size + 1 < w0.heap.size := NR.out.lt
  have p0 := NP.out.cell 0 rfl
  have p1 := NP.out.cell 1 rfl
  have p2 := NP.out.cell 2 rfl
  have p3 := NP.out.cell 3 rfl
  have p4 := NP.out.cell 4 rfl
  have p5 := NP.out.cell 5 rfl
  have p6 := NP.out.cell 6 rfl
  have p7 := NP.out.cell 7 rfl
  have p8 := NP.out.cell 8 rfl
  have p9 := NP.out.cell 9 rfl
  go_wp2_with fail
  refine (HCp.out _ B0.out).mono ?_
  rintro e w1 ⟨f1, rfl, o1, b1⟩
  obtain ⟨p1', kc, rfl⟩ : ∃ p c, f1 = .slice p c9.length c := o1.form
  have B1 := hide (chain B0.out b1)
  have O1 := hide o1
  have l1 : w0.heap.size ≤ w1.heap.size := b1.size
  replace NR := hide (NR.out.below b1)
  replace NP := hide (NP.out.below b1)
  clear o1 b1 B0 p0 p1 p2 p3 p4 p5 p6 p7 p8 p9
  have AL : Hid (Below w1.heap.size w1 (w1.alloc (.cells #[.string c0, .bool c1, .bool c2, .bool c3, .bool c4, .bool c5, .bool c6, .bool c7, .string c8, .slice p1' c9.length kc] 24))) := (Below.refl _ w1).alloc (Nat.le_refl _) _
  have NO := hide (Bk.new w1 [.string c0, .bool c1, .bool c2, .bool c3, .bool c4, .bool c5, .bool c6, .bool c7, .string c8, .slice p1' c9.length kc] 24)
  go_upto_region 2 with fail
  generalize w1.alloc (.cells #[.string c0, .bool c1, .bool c2, .bool c3, .bool c4, .bool c5, .bool c6, .bool c7, .string c8, .slice p1' c9.length kc] 24) = w2 at *
  replace NR := hide (NR.out.below AL.out)
  replace NP := hide (NP.out.below AL.out)
  have B2 := hide (chain B1.out AL.out)
  have O2 := hide (O1.out.below AL.out)
  have FAR : Hid (∀ g, (Value.slice p1' c9.length kc).ownBlock = some g → w0.heap.size ≤ g ∧ g < w1.heap.size) := fun g hg => O1.out.at_ g hg
  have n1 : w.heap.size + 1 ≠ w1.heap.size := by omega
  have n2 : w1.heap.size ≠ w.heap.size + 1 := by omega
  clear O1 B1 AL
  go_wp2_with fail
  refine (HS.out _).mono ?_
  rintro e u ⟨rfl, hu⟩
  obtain rfl : w2 = u := hu.symm
  have k0 := NO.out.cell 0 rfl
  have k1 := NO.out.cell 1 rfl
  have k2 := NO.out.cell 2 rfl
  have k3 := NO.out.cell 3 rfl
  have k4 := NO.out.cell 4 rfl
  have k5 := NO.out.cell 5 rfl
  have k6 := NO.out.cell 6 rfl
  have k7 := NO.out.cell 7 rfl
  have k8 := NO.out.cell 8 rfl
  have k9 := NO.out.cell 9 rfl
  go_wp2_with fail
  refine (HCV.out _ B2.out _ O2.out.files).mono ?_
  rintro e wx ⟨rfl, bx⟩
  replace NR := hide (NR.out.below bx)
  replace NO := hide (NO.out.below bx)
  have OX := hide (O2.out.below bx)
  have BX := hide (chain B2.out bx)
  clear bx O2 B2 NP
  clear k0 k1 k2 k3 k4 k5 k6 k7 k8 k9
  have k0 := NO.out.cell 0 rfl
  have k1 := NO.out.cell 1 rfl
  have k2 := NO.out.cell 2 rfl
  have k3 := NO.out.cell 3 rfl
  have k4 := NO.out.cell 4 rfl
  have k5 := NO.out.cell 5 rfl
  have k6 := NO.out.cell 6 rfl
  have k7 := NO.out.cell 7 rfl
  have k8 := NO.out.cell 8 rfl
  have k9 := NO.out.cell 9 rfl
  have g0 := NO.out.free 0
  have g1 := NO.out.free 1
  have g2 := NO.out.free 2
  have g3 := NO.out.free 3
  have g4 := NO.out.free 4
  have g5 := NO.out.free 5
  have g6 := NO.out.free 6
  have g7 := NO.out.free 7
  have g8 := NO.out.free 8
  have g9 := NO.out.free 9
  have r0 := NR.out.cell 0 rfl
  have r1 := NR.out.cell 1 rfl
  have r2 := NR.out.cell 2 rfl
  have r3 := NR.out.cell 3 rfl
  have r4 := NR.out.cell 4 rfl
  have r5 := NR.out.cell 5 rfl
  have r6 := NR.out.cell 6 rfl
  have r7 := NR.out.cell 7 rfl
  have r8 := NR.out.cell 8 rfl
  have r9 := NR.out.cell 9 rfl
  have s0 := NR.out.free 0
  have s1 := NR.out.free 1
  have s2 := NR.out.free 2
  have s3 := NR.out.free 3
  have s4 := NR.out.free 4
  have s5 := NR.out.free 5
  have s6 := NR.out.free 6
  have s7 := NR.out.free 7
  have s8 := NR.out.free 8
  have s9 := NR.out.free 9
  have LE0 : Hid (w.heap.size ≤ w0.heap.size) := Nat.le_trans (Nat.le_succ _) (Nat.le_of_lt l0)
  have LE1 : Hid (w.heap.size ≤ w1.heap.size) := Nat.le_trans LE0.out l1
  have LE2 : Hid (w.heap.size ≤ w.heap.size + 1) := Nat.le_succ _
  have FD : Hid (∀ g, (Value.slice p1' c9.length kc).ownBlock = some g → g ≠ w1.heap.size) := fun g hg => Nat.ne_of_lt (FAR.out g hg).2
  have FR : Hid (∀ g, (Value.slice p1' c9.length kc).ownBlock = some g → g ≠ w.heap.size + 1) := fun g hg => by have := (FAR.out g hg).1; omega
  go_wp2_with fail
  refine bodyPost_ret (v := .agg #[.string R, .bool c1, .bool c2, .bool c3, .bool c4, .bool c5, .bool c6, .bool c7, .string c8, .slice p1' c9.length kc]) (by simp [results, go_sem, r0, r1, r2, r3, r4, r5, r6, r7, r8, r9]) rfl ?_
  exact ⟨_, rfl, ((OX.out.mono LE0.out).set FD.out _ _).set10 FR.out _ _ _ _ _ _ _ _ _ _, low_set10 LE2.out (BX.out.setCell LE1.out _) _ _ _ _ _ _ _ _ _ _⟩
set_option maxHeartbeats 8000000 in
theorem ctChanged_chk (k : Int) (C : Ct) (fv : Value) (v : Value) (ax : List (ByteArray × ByteArray)) (w : World) (hf : FilesV w fv C.files) (hv : AttrsV w v ax) (hz : AxOK ax) (name : ByteArray) (hO : CtOK C) (_hT : CtTabs w) (hb0 : sbB k = false) (hm : modeV k = 3) (hn : name = chkS) (hd : C.dchk = false) :
    Calls Tryz.prog 20 #[.int .i64 k, ctV C fv, v, .string name] w fun e w' => ∃ fv', e = .returned (ctV { C with chk := (findA ax name).isSome } fv') ∧ OwnR w.heap.size w' fv' C.files ∧ Below w.heap.size w w' := by
  have HCp := hide (fun W (hb : Below w.heap.size w W) => ctCopied_any C fv W (hf.below hb) hO)
  have HS := hide (ctStartsBy_any k)
  rw [hb0] at HS
  have HM := hide (mode_any k)
  rw [hm] at HM
  have HH := hide (fun W (hb : Below w.heap.size w W) => ctHas_any v ax name W (hv.below hb) hz.len)
  generalize (findA ax name).isSome = R at *
  have f0 : (name.toList == [99, 104, 101, 99, 107, 101, 100]) = true := by rw [lit_decC]; exact decide_eq_true hn
  clear hz hO hb0
  clear hm hn
  obtain ⟨p, c, rfl, _⟩ := hv
  obtain ⟨fp, fc, rfl, _⟩ := hf
  obtain ⟨c0, c1, c2, c3, c4, c5, c6, c7, c8, c9⟩ := C
  have hd : c4 = false := hd
  subst hd
  unfold ctV ctCells
  unfold ctV ctCells at HCp
  have B0 : Hid (Below w.heap.size w ((w.alloc (.cells #[.string c0, .bool c1, .bool c2, .bool c3, .bool false, .bool c5, .bool c6, .bool c7, .string c8, .slice fp c9.length fc] 24)).alloc (.cells #[.string ⟨#[]⟩, .bool false, .bool false, .bool false, .bool false, .bool false, .bool false, .bool false, .string ⟨#[]⟩, .slice none 0 0] 24))) := ((Below.refl _ w).alloc (Nat.le_refl _) _).alloc ((Below.refl _ w).alloc (Nat.le_refl _) (.cells #[.string c0, .bool c1, .bool c2, .bool c3, .bool false, .bool c5, .bool c6, .bool c7, .string c8, .slice fp c9.length fc] 24)).size _
  have NP := hide ((Bk.new w [.string c0, .bool c1, .bool c2, .bool c3, .bool false, .bool c5, .bool c6, .bool c7, .string c8, .slice fp c9.length fc] 24).below ((Below.refl _ (w.alloc (.cells #[.string c0, .bool c1, .bool c2, .bool c3, .bool false, .bool c5, .bool c6, .bool c7, .string c8, .slice fp c9.length fc] 24))).alloc (Nat.le_refl _) (.cells #[.string ⟨#[]⟩, .bool false, .bool false, .bool false, .bool false, .bool false, .bool false, .bool false, .string ⟨#[]⟩, .slice none 0 0] 24)))
  have NR0 := hide (Bk.new (w.alloc (.cells #[.string c0, .bool c1, .bool c2, .bool c3, .bool false, .bool c5, .bool c6, .bool c7, .string c8, .slice fp c9.length fc] 24)) [.string ⟨#[]⟩, .bool false, .bool false, .bool false, .bool false, .bool false, .bool false, .bool false, .string ⟨#[]⟩, .slice none 0 0] 24)
  have NR : Hid (Bk ((w.alloc (.cells #[.string c0, .bool c1, .bool c2, .bool c3, .bool false, .bool c5, .bool c6, .bool c7, .string c8, .slice fp c9.length fc] 24)).alloc (.cells #[.string ⟨#[]⟩, .bool false, .bool false, .bool false, .bool false, .bool false, .bool false, .bool false, .string ⟨#[]⟩, .slice none 0 0] 24)) (w.heap.size + 1) [.string ⟨#[]⟩, .bool false, .bool false, .bool false, .bool false, .bool false, .bool false, .bool false, .string ⟨#[]⟩, .slice none 0 0] 24) := by
    have e : (w.alloc (.cells #[.string c0, .bool c1, .bool c2, .bool c3, .bool false, .bool c5, .bool c6, .bool c7, .string c8, .slice fp c9.length fc] 24)).heap.size = w.heap.size + 1 := by simp
    rw [e] at NR0; exact NR0
  clear NR0
  go_enter Tryz.func20, Tryz.ntmps20
  go_upto_region 1 with fail
  generalize (w.alloc (.cells #[.string c0, .bool c1, .bool c2, .bool c3, .bool false, .bool c5, .bool c6, .bool c7, .string c8, .slice fp c9.length fc] 24)).alloc (.cells #[.string ⟨#[]⟩, .bool false, .bool false, .bool false, .bool false, .bool false, .bool false, .bool false, .string ⟨#[]⟩, .slice none 0 0] 24) = w0 at *
  have l0 : w.heap.size + 1 < w0.heap.size := NR.out.lt
  have p0 := NP.out.cell 0 rfl
  have p1 := NP.out.cell 1 rfl
  have p2 := NP.out.cell 2 rfl
  have p3 := NP.out.cell 3 rfl
  have p4 := NP.out.cell 4 rfl
  have p5 := NP.out.cell 5 rfl
  have p6 := NP.out.cell 6 rfl
  have p7 := NP.out.cell 7 rfl
  have p8 := NP.out.cell 8 rfl
  have p9 := NP.out.cell 9 rfl
  go_wp2_with fail
  refine (HCp.out _ B0.out).mono ?_
  rintro e w1 ⟨f1, rfl, o1, b1⟩
  obtain ⟨p1', kc, rfl⟩ : ∃ p c, f1 = .slice p c9.length c := o1.form
  have B1 := hide (chain B0.out b1)
  have O1 := hide o1
  have l1 : w0.heap.size ≤ w1.heap.size := b1.size
  replace NR := hide (NR.out.below b1)
  replace NP := hide (NP.out.below b1)
  clear o1 b1 B0 p0 p1 p2 p3 p4 p5 p6 p7 p8 p9
  have AL : Hid (Below w1.heap.size w1 (w1.alloc (.cells #[.string c0, .bool c1, .bool c2, .bool c3, .bool false, .bool c5, .bool c6, .bool c7, .string c8, .slice p1' c9.length kc] 24))) := (Below.refl _ w1).alloc (Nat.le_refl _) _
  have NO := hide (Bk.new w1 [.string c0, .bool c1, .bool c2, .bool c3, .bool false, .bool c5, .bool c6, .bool c7, .string c8, .slice p1' c9.length kc] 24)
  go_upto_region 2 with fail
  generalize w1.alloc (.cells #[.string c0, .bool c1, .bool c2, .bool c3, .bool false, .bool c5, .bool c6, .bool c7, .string c8, .slice p1' c9.length kc] 24) = w2 at *
  replace NR := hide (NR.out.below AL.out)
  replace NP := hide (NP.out.below AL.out)
  have B2 := hide (chain B1.out AL.out)
  have O2 := hide (O1.out.below AL.out)
  have FAR : Hid (∀ g, (Value.slice p1' c9.length kc).ownBlock = some g → w0.heap.size ≤ g ∧ g < w1.heap.size) := fun g hg => O1.out.at_ g hg
  have n1 : w.heap.size + 1 ≠ w1.heap.size := by omega
  have n2 : w1.heap.size ≠ w.heap.size + 1 := by omega
  clear O1 B1 AL
  go_wp2_with fail
  refine (HS.out _).mono ?_
  rintro e u ⟨rfl, hu⟩
  obtain rfl : w2 = u := hu.symm
  have p0 := NP.out.cell 0 rfl
  have p1 := NP.out.cell 1 rfl
  have p2 := NP.out.cell 2 rfl
  have p3 := NP.out.cell 3 rfl
  have p4 := NP.out.cell 4 rfl
  have p5 := NP.out.cell 5 rfl
  have p6 := NP.out.cell 6 rfl
  have p7 := NP.out.cell 7 rfl
  have p8 := NP.out.cell 8 rfl
  have p9 := NP.out.cell 9 rfl
  go_wp2_with fail
  refine (HM.out _).mono ?_
  rintro e u ⟨rfl, hu⟩
  obtain rfl : w2 = u := hu.symm
  go_wp2_with fail
  refine (HH.out _ B2.out).mono ?_
  rintro e wx ⟨rfl, bx⟩
  replace NR := hide (NR.out.below bx)
  replace NO := hide (NO.out.below bx)
  have OX := hide (O2.out.below bx)
  have BX := hide (chain B2.out bx)
  clear bx O2 B2 NP
  clear p0 p1 p2 p3 p4 p5 p6 p7 p8 p9
  have k0 := NO.out.cell 0 rfl
  have k1 := NO.out.cell 1 rfl
  have k2 := NO.out.cell 2 rfl
  have k3 := NO.out.cell 3 rfl
  have k4 := NO.out.cell 4 rfl
  have k5 := NO.out.cell 5 rfl
  have k6 := NO.out.cell 6 rfl
  have k7 := NO.out.cell 7 rfl
  have k8 := NO.out.cell 8 rfl
  have k9 := NO.out.cell 9 rfl
  have g0 := NO.out.free 0
  have g1 := NO.out.free 1
  have g2 := NO.out.free 2
  have g3 := NO.out.free 3
  have g4 := NO.out.free 4
  have g5 := NO.out.free 5
  have g6 := NO.out.free 6
  have g7 := NO.out.free 7
  have g8 := NO.out.free 8
  have g9 := NO.out.free 9
  have r0 := NR.out.cell 0 rfl
  have r1 := NR.out.cell 1 rfl
  have r2 := NR.out.cell 2 rfl
  have r3 := NR.out.cell 3 rfl
  have r4 := NR.out.cell 4 rfl
  have r5 := NR.out.cell 5 rfl
  have r6 := NR.out.cell 6 rfl
  have r7 := NR.out.cell 7 rfl
  have r8 := NR.out.cell 8 rfl
  have r9 := NR.out.cell 9 rfl
  have s0 := NR.out.free 0
  have s1 := NR.out.free 1
  have s2 := NR.out.free 2
  have s3 := NR.out.free 3
  have s4 := NR.out.free 4
  have s5 := NR.out.free 5
  have s6 := NR.out.free 6
  have s7 := NR.out.free 7
  have s8 := NR.out.free 8
  have s9 := NR.out.free 9
  have LE0 : Hid (w.heap.size ≤ w0.heap.size) := Nat.le_trans (Nat.le_succ _) (Nat.le_of_lt l0)
  have LE1 : Hid (w.heap.size ≤ w1.heap.size) := Nat.le_trans LE0.out l1
  have LE2 : Hid (w.heap.size ≤ w.heap.size + 1) := Nat.le_succ _
  have FD : Hid (∀ g, (Value.slice p1' c9.length kc).ownBlock = some g → g ≠ w1.heap.size) := fun g hg => Nat.ne_of_lt (FAR.out g hg).2
  have FR : Hid (∀ g, (Value.slice p1' c9.length kc).ownBlock = some g → g ≠ w.heap.size + 1) := fun g hg => by have := (FAR.out g hg).1; omega
  go_wp2_with fail
  refine bodyPost_ret (v := .agg #[.string c0, .bool c1, .bool c2, .bool R, .bool false, .bool c5, .bool c6, .bool c7, .string c8, .slice p1' c9.length kc]) (by simp [results, go_sem, r0, r1, r2, r3, r4, r5, r6, r7, r8, r9]) rfl ?_
  exact ⟨_, rfl, ((OX.out.mono LE0.out).set FD.out _ _).set10 FR.out _ _ _ _ _ _ _ _ _ _, low_set10 LE2.out (BX.out.setCell LE1.out _) _ _ _ _ _ _ _ _ _ _⟩
set_option maxHeartbeats 8000000 in
theorem ctChanged_chd (k : Int) (C : Ct) (fv : Value) (v : Value) (ax : List (ByteArray × ByteArray)) (w : World) (hf : FilesV w fv C.files) (hv : AttrsV w v ax) (_hz : AxOK ax) (name : ByteArray) (hO : CtOK C) (_hT : CtTabs w) (hb0 : sbB k = false) (hm : modeV k = 3) (hn : name = chkS) (hd : C.dchk = true) :
    Calls Tryz.prog 20 #[.int .i64 k, ctV C fv, v, .string name] w fun e w' => ∃ fv', e = .returned (ctV C fv') ∧ OwnR w.heap.size w' fv' C.files ∧ Below w.heap.size w w' := by
  have HCp := hide (fun W (hb : Below w.heap.size w W) => ctCopied_any C fv W (hf.below hb) hO)
  have HS := hide (ctStartsBy_any k)
  rw [hb0] at HS
  have HM := hide (mode_any k)
  have b32 : (k == 32) = false := beq_eq_false_iff_ne.2 (mode3 hm).2.1
  rw [hm] at HM
  have f0 : (name.toList == [99, 104, 101, 99, 107, 101, 100]) = true := by rw [lit_decC]; exact decide_eq_true hn
  clear hO hb0
  clear hm hn
  obtain ⟨p, c, rfl, _⟩ := hv
  obtain ⟨fp, fc, rfl, _⟩ := hf
  obtain ⟨c0, c1, c2, c3, c4, c5, c6, c7, c8, c9⟩ := C
  have hd : c4 = true := hd
  subst hd
  unfold ctV ctCells
  unfold ctV ctCells at HCp
  have B0 : Hid (Below w.heap.size w ((w.alloc (.cells #[.string c0, .bool c1, .bool c2, .bool c3, .bool true, .bool c5, .bool c6, .bool c7, .string c8, .slice fp c9.length fc] 24)).alloc (.cells #[.string ⟨#[]⟩, .bool false, .bool false, .bool false, .bool false, .bool false, .bool false, .bool false, .string ⟨#[]⟩, .slice none 0 0] 24))) := ((Below.refl _ w).alloc (Nat.le_refl _) _).alloc ((Below.refl _ w).alloc (Nat.le_refl _) (.cells #[.string c0, .bool c1, .bool c2, .bool c3, .bool true, .bool c5, .bool c6, .bool c7, .string c8, .slice fp c9.length fc] 24)).size _
  have NP := hide ((Bk.new w [.string c0, .bool c1, .bool c2, .bool c3, .bool true, .bool c5, .bool c6, .bool c7, .string c8, .slice fp c9.length fc] 24).below ((Below.refl _ (w.alloc (.cells #[.string c0, .bool c1, .bool c2, .bool c3, .bool true, .bool c5, .bool c6, .bool c7, .string c8, .slice fp c9.length fc] 24))).alloc (Nat.le_refl _) (.cells #[.string ⟨#[]⟩, .bool false, .bool false, .bool false, .bool false, .bool false, .bool false, .bool false, .string ⟨#[]⟩, .slice none 0 0] 24)))
  have NR0 := hide (Bk.new (w.alloc (.cells #[.string c0, .bool c1, .bool c2, .bool c3, .bool true, .bool c5, .bool c6, .bool c7, .string c8, .slice fp c9.length fc] 24)) [.string ⟨#[]⟩, .bool false, .bool false, .bool false, .bool false, .bool false, .bool false, .bool false, .string ⟨#[]⟩, .slice none 0 0] 24)
  have NR : Hid (Bk ((w.alloc (.cells #[.string c0, .bool c1, .bool c2, .bool c3, .bool true, .bool c5, .bool c6, .bool c7, .string c8, .slice fp c9.length fc] 24)).alloc (.cells #[.string ⟨#[]⟩, .bool false, .bool false, .bool false, .bool false, .bool false, .bool false, .bool false, .string ⟨#[]⟩, .slice none 0 0] 24)) (w.heap.size + 1) [.string ⟨#[]⟩, .bool false, .bool false, .bool false, .bool false, .bool false, .bool false, .bool false, .string ⟨#[]⟩, .slice none 0 0] 24) := by
    have e : (w.alloc (.cells #[.string c0, .bool c1, .bool c2, .bool c3, .bool true, .bool c5, .bool c6, .bool c7, .string c8, .slice fp c9.length fc] 24)).heap.size = w.heap.size + 1 := by simp
    rw [e] at NR0; exact NR0
  clear NR0
  go_enter Tryz.func20, Tryz.ntmps20
  go_upto_region 1 with fail
  generalize (w.alloc (.cells #[.string c0, .bool c1, .bool c2, .bool c3, .bool true, .bool c5, .bool c6, .bool c7, .string c8, .slice fp c9.length fc] 24)).alloc (.cells #[.string ⟨#[]⟩, .bool false, .bool false, .bool false, .bool false, .bool false, .bool false, .bool false, .string ⟨#[]⟩, .slice none 0 0] 24) = w0 at *
  have l0 : w.heap.size + 1 < w0.heap.size := NR.out.lt
  have p0 := NP.out.cell 0 rfl
  have p1 := NP.out.cell 1 rfl
  have p2 := NP.out.cell 2 rfl
  have p3 := NP.out.cell 3 rfl
  have p4 := NP.out.cell 4 rfl
  have p5 := NP.out.cell 5 rfl
  have p6 := NP.out.cell 6 rfl
  have p7 := NP.out.cell 7 rfl
  have p8 := NP.out.cell 8 rfl
  have p9 := NP.out.cell 9 rfl
  go_wp2_with fail
  refine (HCp.out _ B0.out).mono ?_
  rintro e w1 ⟨f1, rfl, o1, b1⟩
  obtain ⟨p1', kc, rfl⟩ : ∃ p c, f1 = .slice p c9.length c := o1.form
  have B1 := hide (chain B0.out b1)
  have O1 := hide o1
  have l1 : w0.heap.size ≤ w1.heap.size := b1.size
  replace NR := hide (NR.out.below b1)
  replace NP := hide (NP.out.below b1)
  clear o1 b1 B0 p0 p1 p2 p3 p4 p5 p6 p7 p8 p9
  have AL : Hid (Below w1.heap.size w1 (w1.alloc (.cells #[.string c0, .bool c1, .bool c2, .bool c3, .bool true, .bool c5, .bool c6, .bool c7, .string c8, .slice p1' c9.length kc] 24))) := (Below.refl _ w1).alloc (Nat.le_refl _) _
  have NO := hide (Bk.new w1 [.string c0, .bool c1, .bool c2, .bool c3, .bool true, .bool c5, .bool c6, .bool c7, .string c8, .slice p1' c9.length kc] 24)
  go_upto_region 2 with fail
  generalize w1.alloc (.cells #[.string c0, .bool c1, .bool c2, .bool c3, .bool true, .bool c5, .bool c6, .bool c7, .string c8, .slice p1' c9.length kc] 24) = w2 at *
  replace NR := hide (NR.out.below AL.out)
  replace NP := hide (NP.out.below AL.out)
  have B2 := hide (chain B1.out AL.out)
  have O2 := hide (O1.out.below AL.out)
  have FAR : Hid (∀ g, (Value.slice p1' c9.length kc).ownBlock = some g → w0.heap.size ≤ g ∧ g < w1.heap.size) := fun g hg => O1.out.at_ g hg
  have n1 : w.heap.size + 1 ≠ w1.heap.size := by omega
  have n2 : w1.heap.size ≠ w.heap.size + 1 := by omega
  clear O1 B1 AL
  go_wp2_with fail
  refine (HS.out _).mono ?_
  rintro e u ⟨rfl, hu⟩
  obtain rfl : w2 = u := hu.symm
  have p0 := NP.out.cell 0 rfl
  have p1 := NP.out.cell 1 rfl
  have p2 := NP.out.cell 2 rfl
  have p3 := NP.out.cell 3 rfl
  have p4 := NP.out.cell 4 rfl
  have p5 := NP.out.cell 5 rfl
  have p6 := NP.out.cell 6 rfl
  have p7 := NP.out.cell 7 rfl
  have p8 := NP.out.cell 8 rfl
  have p9 := NP.out.cell 9 rfl
  go_wp2_with fail
  refine (HM.out _).mono ?_
  rintro e u ⟨rfl, hu⟩
  obtain rfl : w2 = u := hu.symm
  have k0 := NO.out.cell 0 rfl
  have k1 := NO.out.cell 1 rfl
  have k2 := NO.out.cell 2 rfl
  have k3 := NO.out.cell 3 rfl
  have k4 := NO.out.cell 4 rfl
  have k5 := NO.out.cell 5 rfl
  have k6 := NO.out.cell 6 rfl
  have k7 := NO.out.cell 7 rfl
  have k8 := NO.out.cell 8 rfl
  have k9 := NO.out.cell 9 rfl
  have g0 := NO.out.free 0
  have g1 := NO.out.free 1
  have g2 := NO.out.free 2
  have g3 := NO.out.free 3
  have g4 := NO.out.free 4
  have g5 := NO.out.free 5
  have g6 := NO.out.free 6
  have g7 := NO.out.free 7
  have g8 := NO.out.free 8
  have g9 := NO.out.free 9
  have r0 := NR.out.cell 0 rfl
  have r1 := NR.out.cell 1 rfl
  have r2 := NR.out.cell 2 rfl
  have r3 := NR.out.cell 3 rfl
  have r4 := NR.out.cell 4 rfl
  have r5 := NR.out.cell 5 rfl
  have r6 := NR.out.cell 6 rfl
  have r7 := NR.out.cell 7 rfl
  have r8 := NR.out.cell 8 rfl
  have r9 := NR.out.cell 9 rfl
  have s0 := NR.out.free 0
  have s1 := NR.out.free 1
  have s2 := NR.out.free 2
  have s3 := NR.out.free 3
  have s4 := NR.out.free 4
  have s5 := NR.out.free 5
  have s6 := NR.out.free 6
  have s7 := NR.out.free 7
  have s8 := NR.out.free 8
  have s9 := NR.out.free 9
  have LE0 : Hid (w.heap.size ≤ w0.heap.size) := Nat.le_trans (Nat.le_succ _) (Nat.le_of_lt l0)
  have LE1 : Hid (w.heap.size ≤ w1.heap.size) := Nat.le_trans LE0.out l1
  have LE2 : Hid (w.heap.size ≤ w.heap.size + 1) := Nat.le_succ _
  have FD : Hid (∀ g, (Value.slice p1' c9.length kc).ownBlock = some g → g ≠ w1.heap.size) := fun g hg => Nat.ne_of_lt (FAR.out g hg).2
  have FR : Hid (∀ g, (Value.slice p1' c9.length kc).ownBlock = some g → g ≠ w.heap.size + 1) := fun g hg => by have := (FAR.out g hg).1; omega
  go_wp2_with fail
  refine bodyPost_ret (v := .agg #[.string c0, .bool c1, .bool c2, .bool c3, .bool true, .bool c5, .bool c6, .bool c7, .string c8, .slice p1' c9.length kc]) (by simp [results, go_sem, r0, r1, r2, r3, r4, r5, r6, r7, r8, r9]) rfl ?_
  exact ⟨_, rfl, (O2.out.mono LE0.out).set10 FR.out _ _ _ _ _ _ _ _ _ _, low_set10 LE2.out B2.out _ _ _ _ _ _ _ _ _ _⟩
set_option maxHeartbeats 8000000 in
theorem ctChanged_chn (k : Int) (C : Ct) (fv : Value) (v : Value) (ax : List (ByteArray × ByteArray)) (w : World) (hf : FilesV w fv C.files) (hv : AttrsV w v ax) (_hz : AxOK ax) (name : ByteArray) (hO : CtOK C) (_hT : CtTabs w) (hb0 : sbB k = false) (hm : modeV k = 3) (hn : ¬ name = chkS) :
    Calls Tryz.prog 20 #[.int .i64 k, ctV C fv, v, .string name] w fun e w' => ∃ fv', e = .returned (ctV C fv') ∧ OwnR w.heap.size w' fv' C.files ∧ Below w.heap.size w w' := by
  have HCp := hide (fun W (hb : Below w.heap.size w W) => ctCopied_any C fv W (hf.below hb) hO)
  have HS := hide (ctStartsBy_any k)
  rw [hb0] at HS
  have HM := hide (mode_any k)
  have b32 : (k == 32) = false := beq_eq_false_iff_ne.2 (mode3 hm).2.1
  rw [hm] at HM
  have f0 : (name.toList == [99, 104, 101, 99, 107, 101, 100]) = false := by rw [lit_decC]; exact decide_eq_false hn
  clear hO hb0
  clear hm hn
  obtain ⟨p, c, rfl, _⟩ := hv
  obtain ⟨fp, fc, rfl, _⟩ := hf
  obtain ⟨c0, c1, c2, c3, c4, c5, c6, c7, c8, c9⟩ := C
  unfold ctV ctCells
  unfold ctV ctCells at HCp
  have B0 : Hid (Below w.heap.size w ((w.alloc (.cells #[.string c0, .bool c1, .bool c2, .bool c3, .bool c4, .bool c5, .bool c6, .bool c7, .string c8, .slice fp c9.length fc] 24)).alloc (.cells #[.string ⟨#[]⟩, .bool false, .bool false, .bool false, .bool false, .bool false, .bool false, .bool false, .string ⟨#[]⟩, .slice none 0 0] 24))) := ((Below.refl _ w).alloc (Nat.le_refl _) _).alloc ((Below.refl _ w).alloc (Nat.le_refl _) (.cells #[.string c0, .bool c1, .bool c2, .bool c3, .bool c4, .bool c5, .bool c6, .bool c7, .string c8, .slice fp c9.length fc] 24)).size _
  have NP := hide ((Bk.new w [.string c0, .bool c1, .bool c2, .bool c3, .bool c4, .bool c5, .bool c6, .bool c7, .string c8, .slice fp c9.length fc] 24).below ((Below.refl _ (w.alloc (.cells #[.string c0, .bool c1, .bool c2, .bool c3, .bool c4, .bool c5, .bool c6, .bool c7, .string c8, .slice fp c9.length fc] 24))).alloc (Nat.le_refl _) (.cells #[.string ⟨#[]⟩, .bool false, .bool false, .bool false, .bool false, .bool false, .bool false, .bool false, .string ⟨#[]⟩, .slice none 0 0] 24)))
  have NR0 := hide (Bk.new (w.alloc (.cells #[.string c0, .bool c1, .bool c2, .bool c3, .bool c4, .bool c5, .bool c6, .bool c7, .string c8, .slice fp c9.length fc] 24)) [.string ⟨#[]⟩, .bool false, .bool false, .bool false, .bool false, .bool false, .bool false, .bool false, .string ⟨#[]⟩, .slice none 0 0] 24)
  have NR : Hid (Bk ((w.alloc (.cells #[.string c0, .bool c1, .bool c2, .bool c3, .bool c4, .bool c5, .bool c6, .bool c7, .string c8, .slice fp c9.length fc] 24)).alloc (.cells #[.string ⟨#[]⟩, .bool false, .bool false, .bool false, .bool false, .bool false, .bool false, .bool false, .string ⟨#[]⟩, .slice none 0 0] 24)) (w.heap.size + 1) [.string ⟨#[]⟩, .bool false, .bool false, .bool false, .bool false, .bool false, .bool false, .bool false, .string ⟨#[]⟩, .slice none 0 0] 24) := by
    have e : (w.alloc (.cells #[.string c0, .bool c1, .bool c2, .bool c3, .bool c4, .bool c5, .bool c6, .bool c7, .string c8, .slice fp c9.length fc] 24)).heap.size = w.heap.size + 1 := by simp
    rw [e] at NR0; exact NR0
  clear NR0
  go_enter Tryz.func20, Tryz.ntmps20
  go_upto_region 1 with fail
  generalize (w.alloc (.cells #[.string c0, .bool c1, .bool c2, .bool c3, .bool c4, .bool c5, .bool c6, .bool c7, .string c8, .slice fp c9.length fc] 24)).alloc (.cells #[.string ⟨#[]⟩, .bool false, .bool false, .bool false, .bool false, .bool false, .bool false, .bool false, .string ⟨#[]⟩, .slice none 0 0] 24) = w0 at *
  have l0 : w.heap.size + 1 < w0.heap.size := NR.out.lt
  have p0 := NP.out.cell 0 rfl
  have p1 := NP.out.cell 1 rfl
  have p2 := NP.out.cell 2 rfl
  have p3 := NP.out.cell 3 rfl
  have p4 := NP.out.cell 4 rfl
  have p5 := NP.out.cell 5 rfl
  have p6 := NP.out.cell 6 rfl
  have p7 := NP.out.cell 7 rfl
  have p8 := NP.out.cell 8 rfl
  have p9 := NP.out.cell 9 rfl
  go_wp2_with fail
  refine (HCp.out _ B0.out).mono ?_
  rintro e w1 ⟨f1, rfl, o1, b1⟩
  obtain ⟨p1', kc, rfl⟩ : ∃ p c, f1 = .slice p c9.length c := o1.form
  have B1 := hide (chain B0.out b1)
  have O1 := hide o1
  have l1 : w0.heap.size ≤ w1.heap.size := b1.size
  replace NR := hide (NR.out.below b1)
  replace NP := hide (NP.out.below b1)
  clear o1 b1 B0 p0 p1 p2 p3 p4 p5 p6 p7 p8 p9
  have AL : Hid (Below w1.heap.size w1 (w1.alloc (.cells #[.string c0, .bool c1, .bool c2, .bool c3, .bool c4, .bool c5, .bool c6, .bool c7, .string c8, .slice p1' c9.length kc] 24))) := (Below.refl _ w1).alloc (Nat.le_refl _) _
  have NO := hide (Bk.new w1 [.string c0, .bool c1, .bool c2, .bool c3, .bool c4, .bool c5, .bool c6, .bool c7, .string c8, .slice p1' c9.length kc] 24)
  go_upto_region 2 with fail
  generalize w1.alloc (.cells #[.string c0, .bool c1, .bool c2, .bool c3, .bool c4, .bool c5, .bool c6, .bool c7, .string c8, .slice p1' c9.length kc] 24) = w2 at *
  replace NR := hide (NR.out.below AL.out)
  replace NP := hide (NP.out.below AL.out)
  have B2 := hide (chain B1.out AL.out)
  have O2 := hide (O1.out.below AL.out)
  have FAR : Hid (∀ g, (Value.slice p1' c9.length kc).ownBlock = some g → w0.heap.size ≤ g ∧ g < w1.heap.size) := fun g hg => O1.out.at_ g hg
  have n1 : w.heap.size + 1 ≠ w1.heap.size := by omega
  have n2 : w1.heap.size ≠ w.heap.size + 1 := by omega
  clear O1 B1 AL
  go_wp2_with fail
  refine (HS.out _).mono ?_
  rintro e u ⟨rfl, hu⟩
  obtain rfl : w2 = u := hu.symm
  have p0 := NP.out.cell 0 rfl
  have p1 := NP.out.cell 1 rfl
  have p2 := NP.out.cell 2 rfl
  have p3 := NP.out.cell 3 rfl
  have p4 := NP.out.cell 4 rfl
  have p5 := NP.out.cell 5 rfl
  have p6 := NP.out.cell 6 rfl
  have p7 := NP.out.cell 7 rfl
  have p8 := NP.out.cell 8 rfl
  have p9 := NP.out.cell 9 rfl
  go_wp2_with fail
  refine (HM.out _).mono ?_
  rintro e u ⟨rfl, hu⟩
  obtain rfl : w2 = u := hu.symm
  have k0 := NO.out.cell 0 rfl
  have k1 := NO.out.cell 1 rfl
  have k2 := NO.out.cell 2 rfl
  have k3 := NO.out.cell 3 rfl
  have k4 := NO.out.cell 4 rfl
  have k5 := NO.out.cell 5 rfl
  have k6 := NO.out.cell 6 rfl
  have k7 := NO.out.cell 7 rfl
  have k8 := NO.out.cell 8 rfl
  have k9 := NO.out.cell 9 rfl
  have g0 := NO.out.free 0
  have g1 := NO.out.free 1
  have g2 := NO.out.free 2
  have g3 := NO.out.free 3
  have g4 := NO.out.free 4
  have g5 := NO.out.free 5
  have g6 := NO.out.free 6
  have g7 := NO.out.free 7
  have g8 := NO.out.free 8
  have g9 := NO.out.free 9
  have r0 := NR.out.cell 0 rfl
  have r1 := NR.out.cell 1 rfl
  have r2 := NR.out.cell 2 rfl
  have r3 := NR.out.cell 3 rfl
  have r4 := NR.out.cell 4 rfl
  have r5 := NR.out.cell 5 rfl
  have r6 := NR.out.cell 6 rfl
  have r7 := NR.out.cell 7 rfl
  have r8 := NR.out.cell 8 rfl
  have r9 := NR.out.cell 9 rfl
  have s0 := NR.out.free 0
  have s1 := NR.out.free 1
  have s2 := NR.out.free 2
  have s3 := NR.out.free 3
  have s4 := NR.out.free 4
  have s5 := NR.out.free 5
  have s6 := NR.out.free 6
  have s7 := NR.out.free 7
  have s8 := NR.out.free 8
  have s9 := NR.out.free 9
  have LE0 : Hid (w.heap.size ≤ w0.heap.size) := Nat.le_trans (Nat.le_succ _) (Nat.le_of_lt l0)
  have LE1 : Hid (w.heap.size ≤ w1.heap.size) := Nat.le_trans LE0.out l1
  have LE2 : Hid (w.heap.size ≤ w.heap.size + 1) := Nat.le_succ _
  have FD : Hid (∀ g, (Value.slice p1' c9.length kc).ownBlock = some g → g ≠ w1.heap.size) := fun g hg => Nat.ne_of_lt (FAR.out g hg).2
  have FR : Hid (∀ g, (Value.slice p1' c9.length kc).ownBlock = some g → g ≠ w.heap.size + 1) := fun g hg => by have := (FAR.out g hg).1; omega
  go_wp2_with fail
  refine bodyPost_ret (v := .agg #[.string c0, .bool c1, .bool c2, .bool c3, .bool c4, .bool c5, .bool c6, .bool c7, .string c8, .slice p1' c9.length kc]) (by simp [results, go_sem, r0, r1, r2, r3, r4, r5, r6, r7, r8, r9]) rfl ?_
  exact ⟨_, rfl, (O2.out.mono LE0.out).set10 FR.out _ _ _ _ _ _ _ _ _ _, low_set10 LE2.out B2.out _ _ _ _ _ _ _ _ _ _⟩
set_option maxHeartbeats 8000000 in
theorem ctChanged_sel (k : Int) (C : Ct) (fv : Value) (v : Value) (ax : List (ByteArray × ByteArray)) (w : World) (hf : FilesV w fv C.files) (hv : AttrsV w v ax) (hz : AxOK ax) (name : ByteArray) (hO : CtOK C) (_hT : CtTabs w) (hb0 : sbB k = false) (hk : k = 32) (hn : name = selS) (hd : C.dsel = false) :
    Calls Tryz.prog 20 #[.int .i64 k, ctV C fv, v, .string name] w fun e w' => ∃ fv', e = .returned (ctV { C with sel := (findA ax name).isSome } fv') ∧ OwnR w.heap.size w' fv' C.files ∧ Below w.heap.size w w' := by
  have HCp := hide (fun W (hb : Below w.heap.size w W) => ctCopied_any C fv W (hf.below hb) hO)
  have HS := hide (ctStartsBy_any k)
  rw [hb0] at HS
  have HM := hide (mode_any k)
  subst hk
  rw [show modeV 32 = 0 from by decide] at HM
  have HH := hide (fun W (hb : Below w.heap.size w W) => ctHas_any v ax name W (hv.below hb) hz.len)
  generalize (findA ax name).isSome = R at *
  have f0 : (name.toList == [115, 101, 108, 101, 99, 116, 101, 100]) = true := by rw [lit_decC]; exact decide_eq_true hn
  clear hz hO hb0
  clear hn
  obtain ⟨p, c, rfl, _⟩ := hv
  obtain ⟨fp, fc, rfl, _⟩ := hf
  obtain ⟨c0, c1, c2, c3, c4, c5, c6, c7, c8, c9⟩ := C
  have hd : c7 = false := hd
  subst hd
  unfold ctV ctCells
  unfold ctV ctCells at HCp
  have B0 : Hid (Below w.heap.size w ((w.alloc (.cells #[.string c0, .bool c1, .bool c2, .bool c3, .bool c4, .bool c5, .bool c6, .bool false, .string c8, .slice fp c9.length fc] 24)).alloc (.cells #[.string ⟨#[]⟩, .bool false, .bool false, .bool false, .bool false, .bool false, .bool false, .bool false, .string ⟨#[]⟩, .slice none 0 0] 24))) := ((Below.refl _ w).alloc (Nat.le_refl _) _).alloc ((Below.refl _ w).alloc (Nat.le_refl _) (.cells #[.string c0, .bool c1, .bool c2, .bool c3, .bool c4, .bool c5, .bool c6, .bool false, .string c8, .slice fp c9.length fc] 24)).size _
  have NP := hide ((Bk.new w [.string c0, .bool c1, .bool c2, .bool c3, .bool c4, .bool c5, .bool c6, .bool false, .string c8, .slice fp c9.length fc] 24).below ((Below.refl _ (w.alloc (.cells #[.string c0, .bool c1, .bool c2, .bool c3, .bool c4, .bool c5, .bool c6, .bool false, .string c8, .slice fp c9.length fc] 24))).alloc (Nat.le_refl _) (.cells #[.string ⟨#[]⟩, .bool false, .bool false, .bool false, .bool false, .bool false, .bool false, .bool false, .string ⟨#[]⟩, .slice none 0 0] 24)))
  have NR0 := hide (Bk.new (w.alloc (.cells #[.string c0, .bool c1, .bool c2, .bool c3, .bool c4, .bool c5, .bool c6, .bool false, .string c8, .slice fp c9.length fc] 24)) [.string ⟨#[]⟩, .bool false, .bool false, .bool false, .bool false, .bool false, .bool false, .bool false, .string ⟨#[]⟩, .slice none 0 0] 24)
  have NR : Hid (Bk ((w.alloc (.cells #[.string c0, .bool c1, .bool c2, .bool c3, .bool c4, .bool c5, .bool c6, .bool false, .string c8, .slice fp c9.length fc] 24)).alloc (.cells #[.string ⟨#[]⟩, .bool false, .bool false, .bool false, .bool false, .bool false, .bool false, .bool false, .string ⟨#[]⟩, .slice none 0 0] 24)) (w.heap.size + 1) [.string ⟨#[]⟩, .bool false, .bool false, .bool false, .bool false, .bool false, .bool false, .bool false, .string ⟨#[]⟩, .slice none 0 0] 24) := by
    have e : (w.alloc (.cells #[.string c0, .bool c1, .bool c2, .bool c3, .bool c4, .bool c5, .bool c6, .bool false, .string c8, .slice fp c9.length fc] 24)).heap.size = w.heap.size + 1 := by simp
    rw [e] at NR0; exact NR0
  clear NR0
  go_enter Tryz.func20, Tryz.ntmps20
  go_upto_region 1 with fail
  generalize (w.alloc (.cells #[.string c0, .bool c1, .bool c2, .bool c3, .bool c4, .bool c5, .bool c6, .bool false, .string c8, .slice fp c9.length fc] 24)).alloc (.cells #[.string ⟨#[]⟩, .bool false, .bool false, .bool false, .bool false, .bool false, .bool false, .bool false, .string ⟨#[]⟩, .slice none 0 0] 24) = w0 at *
  have l0 : w.heap.size + 1 < w0.heap.size := NR.out.lt
  have p0 := NP.out.cell 0 rfl
  have p1 := NP.out.cell 1 rfl
  have p2 := NP.out.cell 2 rfl
  have p3 := NP.out.cell 3 rfl
  have p4 := NP.out.cell 4 rfl
  have p5 := NP.out.cell 5 rfl
  have p6 := NP.out.cell 6 rfl
  have p7 := NP.out.cell 7 rfl
  have p8 := NP.out.cell 8 rfl
  have p9 := NP.out.cell 9 rfl
  go_wp2_with fail
  refine (HCp.out _ B0.out).mono ?_
  rintro e w1 ⟨f1, rfl, o1, b1⟩
  obtain ⟨p1', kc, rfl⟩ : ∃ p c, f1 = .slice p c9.length c := o1.form
  have B1 := hide (chain B0.out b1)
  have O1 := hide o1
  have l1 : w0.heap.size ≤ w1.heap.size := b1.size
  replace NR := hide (NR.out.below b1)
  replace NP := hide (NP.out.below b1)
  clear o1 b1 B0 p0 p1 p2 p3 p4 p5 p6 p7 p8 p9
  have AL : Hid (Below w1.heap.size w1 (w1.alloc (.cells #[.string c0, .bool c1, .bool c2, .bool c3, .bool c4, .bool c5, .bool c6, .bool false, .string c8, .slice p1' c9.length kc] 24))) := (Below.refl _ w1).alloc (Nat.le_refl _) _
  have NO := hide (Bk.new w1 [.string c0, .bool c1, .bool c2, .bool c3, .bool c4, .bool c5, .bool c6, .bool false, .string c8, .slice p1' c9.length kc] 24)
  go_upto_region 2 with fail
  generalize w1.alloc (.cells #[.string c0, .bool c1, .bool c2, .bool c3, .bool c4, .bool c5, .bool c6, .bool false, .string c8, .slice p1' c9.length kc] 24) = w2 at *
  replace NR := hide (NR.out.below AL.out)
  replace NP := hide (NP.out.below AL.out)
  have B2 := hide (chain B1.out AL.out)
  have O2 := hide (O1.out.below AL.out)
  have FAR : Hid (∀ g, (Value.slice p1' c9.length kc).ownBlock = some g → w0.heap.size ≤ g ∧ g < w1.heap.size) := fun g hg => O1.out.at_ g hg
  have n1 : w.heap.size + 1 ≠ w1.heap.size := by omega
  have n2 : w1.heap.size ≠ w.heap.size + 1 := by omega
  clear O1 B1 AL
  go_wp2_with fail
  refine (HS.out _).mono ?_
  rintro e u ⟨rfl, hu⟩
  obtain rfl : w2 = u := hu.symm
  have p0 := NP.out.cell 0 rfl
  have p1 := NP.out.cell 1 rfl
  have p2 := NP.out.cell 2 rfl
  have p3 := NP.out.cell 3 rfl
  have p4 := NP.out.cell 4 rfl
  have p5 := NP.out.cell 5 rfl
  have p6 := NP.out.cell 6 rfl
  have p7 := NP.out.cell 7 rfl
  have p8 := NP.out.cell 8 rfl
  have p9 := NP.out.cell 9 rfl
  go_wp2_with fail
  refine (HM.out _).mono ?_
  rintro e u ⟨rfl, hu⟩
  obtain rfl : w2 = u := hu.symm
  go_wp2_with fail
  refine (HH.out _ B2.out).mono ?_
  rintro e wx ⟨rfl, bx⟩
  replace NR := hide (NR.out.below bx)
  replace NO := hide (NO.out.below bx)
  have OX := hide (O2.out.below bx)
  have BX := hide (chain B2.out bx)
  clear bx O2 B2 NP
  clear p0 p1 p2 p3 p4 p5 p6 p7 p8 p9
  have k0 := NO.out.cell 0 rfl
  have k1 := NO.out.cell 1 rfl
  have k2 := NO.out.cell 2 rfl
  have k3 := NO.out.cell 3 rfl
  have k4 := NO.out.cell 4 rfl
  have k5 := NO.out.cell 5 rfl
  have k6 := NO.out.cell 6 rfl
  have k7 := NO.out.cell 7 rfl
  have k8 := NO.out.cell 8 rfl
  have k9 := NO.out.cell 9 rfl
  have g0 := NO.out.free 0
  have g1 := NO.out.free 1
  have g2 := NO.out.free 2
  have g3 := NO.out.free 3
  have g4 := NO.out.free 4
  have g5 := NO.out.free 5
  have g6 := NO.out.free 6
  have g7 := NO.out.free 7
  have g8 := NO.out.free 8
  have g9 := NO.out.free 9
  have r0 := NR.out.cell 0 rfl
  have r1 := NR.out.cell 1 rfl
  have r2 := NR.out.cell 2 rfl
  have r3 := NR.out.cell 3 rfl
  have r4 := NR.out.cell 4 rfl
  have r5 := NR.out.cell 5 rfl
  have r6 := NR.out.cell 6 rfl
  have r7 := NR.out.cell 7 rfl
  have r8 := NR.out.cell 8 rfl
  have r9 := NR.out.cell 9 rfl
  have s0 := NR.out.free 0
  have s1 := NR.out.free 1
  have s2 := NR.out.free 2
  have s3 := NR.out.free 3
  have s4 := NR.out.free 4
  have s5 := NR.out.free 5
  have s6 := NR.out.free 6
  have s7 := NR.out.free 7
  have s8 := NR.out.free 8
  have s9 := NR.out.free 9
  have LE0 : Hid (w.heap.size ≤ w0.heap.size) := Nat.le_trans (Nat.le_succ _) (Nat.le_of_lt l0)
  have LE1 : Hid (w.heap.size ≤ w1.heap.size) := Nat.le_trans LE0.out l1
  have LE2 : Hid (w.heap.size ≤ w.heap.size + 1) := Nat.le_succ _
  have FD : Hid (∀ g, (Value.slice p1' c9.length kc).ownBlock = some g → g ≠ w1.heap.size) := fun g hg => Nat.ne_of_lt (FAR.out g hg).2
  have FR : Hid (∀ g, (Value.slice p1' c9.length kc).ownBlock = some g → g ≠ w.heap.size + 1) := fun g hg => by have := (FAR.out g hg).1; omega
  go_wp2_with fail
  refine bodyPost_ret (v := .agg #[.string c0, .bool c1, .bool c2, .bool c3, .bool c4, .bool c5, .bool R, .bool false, .string c8, .slice p1' c9.length kc]) (by simp [results, go_sem, r0, r1, r2, r3, r4, r5, r6, r7, r8, r9]) rfl ?_
  exact ⟨_, rfl, ((OX.out.mono LE0.out).set FD.out _ _).set10 FR.out _ _ _ _ _ _ _ _ _ _, low_set10 LE2.out (BX.out.setCell LE1.out _) _ _ _ _ _ _ _ _ _ _⟩
set_option maxHeartbeats 8000000 in
theorem ctChanged_sed (k : Int) (C : Ct) (fv : Value) (v : Value) (ax : List (ByteArray × ByteArray)) (w : World) (hf : FilesV w fv C.files) (hv : AttrsV w v ax) (_hz : AxOK ax) (name : ByteArray) (hO : CtOK C) (_hT : CtTabs w) (hb0 : sbB k = false) (hk : k = 32) (hn : name = selS) (hd : C.dsel = true) :
    Calls Tryz.prog 20 #[.int .i64 k, ctV C fv, v, .string name] w fun e w' => ∃ fv', e = .returned (ctV C fv') ∧ OwnR w.heap.size w' fv' C.files ∧ Below w.heap.size w w' := by
  have HCp := hide (fun W (hb : Below w.heap.size w W) => ctCopied_any C fv W (hf.below hb) hO)
  have HS := hide (ctStartsBy_any k)
  rw [hb0] at HS
  have HM := hide (mode_any k)
  subst hk
  rw [show modeV 32 = 0 from by decide] at HM
  have f0 : (name.toList == [115, 101, 108, 101, 99, 116, 101, 100]) = true := by rw [lit_decC]; exact decide_eq_true hn
  clear hO hb0
  clear hn
  obtain ⟨p, c, rfl, _⟩ := hv
  obtain ⟨fp, fc, rfl, _⟩ := hf
  obtain ⟨c0, c1, c2, c3, c4, c5, c6, c7, c8, c9⟩ := C
  have hd : c7 = true := hd
  subst hd
  unfold ctV ctCells
  unfold ctV ctCells at HCp
  have B0 : Hid (Below w.heap.size w ((w.alloc (.cells #[.string c0, .bool c1, .bool c2, .bool c3, .bool c4, .bool c5, .bool c6, .bool true, .string c8, .slice fp c9.length fc] 24)).alloc (.cells #[.string ⟨#[]⟩, .bool false, .bool false, .bool false, .bool false, .bool false, .bool false, .bool false, .string ⟨#[]⟩, .slice none 0 0] 24))) := ((Below.refl _ w).alloc (Nat.le_refl _) _).alloc ((Below.refl _ w).alloc (Nat.le_refl _) (.cells #[.string c0, .bool c1, .bool c2, .bool c3, .bool c4, .bool c5, .bool c6, .bool true, .string c8, .slice fp c9.length fc] 24)).size _
  have NP := hide ((Bk.new w [.string c0, .bool c1, .bool c2, .bool c3, .bool c4, .bool c5, .bool c6, .bool true, .string c8, .slice fp c9.length fc] 24).below ((Below.refl _ (w.alloc (.cells #[.string c0, .bool c1, .bool c2, .bool c3, .bool c4, .bool c5, .bool c6, .bool true, .string c8, .slice fp c9.length fc] 24))).alloc (Nat.le_refl _) (.cells #[.string ⟨#[]⟩, .bool false, .bool false, .bool false, .bool false, .bool false, .bool false, .bool false, .string ⟨#[]⟩, .slice none 0 0] 24)))
  have NR0 := hide (Bk.new (w.alloc (.cells #[.string c0, .bool c1, .bool c2, .bool c3, .bool c4, .bool c5, .bool c6, .bool true, .string c8, .slice fp c9.length fc] 24)) [.string ⟨#[]⟩, .bool false, .bool false, .bool false, .bool false, .bool false, .bool false, .bool false, .string ⟨#[]⟩, .slice none 0 0] 24)
  have NR : Hid (Bk ((w.alloc (.cells #[.string c0, .bool c1, .bool c2, .bool c3, .bool c4, .bool c5, .bool c6, .bool true, .string c8, .slice fp c9.length fc] 24)).alloc (.cells #[.string ⟨#[]⟩, .bool false, .bool false, .bool false, .bool false, .bool false, .bool false, .bool false, .string ⟨#[]⟩, .slice none 0 0] 24)) (w.heap.size + 1) [.string ⟨#[]⟩, .bool false, .bool false, .bool false, .bool false, .bool false, .bool false, .bool false, .string ⟨#[]⟩, .slice none 0 0] 24) := by
    have e : (w.alloc (.cells #[.string c0, .bool c1, .bool c2, .bool c3, .bool c4, .bool c5, .bool c6, .bool true, .string c8, .slice fp c9.length fc] 24)).heap.size = w.heap.size + 1 := by simp
    rw [e] at NR0; exact NR0
  clear NR0
  go_enter Tryz.func20, Tryz.ntmps20
  go_upto_region 1 with fail
  generalize (w.alloc (.cells #[.string c0, .bool c1, .bool c2, .bool c3, .bool c4, .bool c5, .bool c6, .bool true, .string c8, .slice fp c9.length fc] 24)).alloc (.cells #[.string ⟨#[]⟩, .bool false, .bool false, .bool false, .bool false, .bool false, .bool false, .bool false, .string ⟨#[]⟩, .slice none 0 0] 24) = w0 at *
  have l0 : w.heap.size + 1 < w0.heap.size := NR.out.lt
  have p0 := NP.out.cell 0 rfl
  have p1 := NP.out.cell 1 rfl
  have p2 := NP.out.cell 2 rfl
  have p3 := NP.out.cell 3 rfl
  have p4 := NP.out.cell 4 rfl
  have p5 := NP.out.cell 5 rfl
  have p6 := NP.out.cell 6 rfl
  have p7 := NP.out.cell 7 rfl
  have p8 := NP.out.cell 8 rfl
  have p9 := NP.out.cell 9 rfl
  go_wp2_with fail
  refine (HCp.out _ B0.out).mono ?_
  rintro e w1 ⟨f1, rfl, o1, b1⟩
  obtain ⟨p1', kc, rfl⟩ : ∃ p c, f1 = .slice p c9.length c := o1.form
  have B1 := hide (chain B0.out b1)
  have O1 := hide o1
  have l1 : w0.heap.size ≤ w1.heap.size := b1.size
  replace NR := hide (NR.out.below b1)
  replace NP := hide (NP.out.below b1)
  clear o1 b1 B0 p0 p1 p2 p3 p4 p5 p6 p7 p8 p9
  have AL : Hid (Below w1.heap.size w1 (w1.alloc (.cells #[.string c0, .bool c1, .bool c2, .bool c3, .bool c4, .bool c5, .bool c6, .bool true, .string c8, .slice p1' c9.length kc] 24))) := (Below.refl _ w1).alloc (Nat.le_refl _) _
  have NO := hide (Bk.new w1 [.string c0, .bool c1, .bool c2, .bool c3, .bool c4, .bool c5, .bool c6, .bool true, .string c8, .slice p1' c9.length kc] 24)
  go_upto_region 2 with fail
  generalize w1.alloc (.cells #[.string c0, .bool c1, .bool c2, .bool c3, .bool c4, .bool c5, .bool c6, .bool true, .string c8, .slice p1' c9.length kc] 24) = w2 at *
  replace NR := hide (NR.out.below AL.out)
  replace NP := hide (NP.out.below AL.out)
  have B2 := hide (chain B1.out AL.out)
  have O2 := hide (O1.out.below AL.out)
  have FAR : Hid (∀ g, (Value.slice p1' c9.length kc).ownBlock = some g → w0.heap.size ≤ g ∧ g < w1.heap.size) := fun g hg => O1.out.at_ g hg
  have n1 : w.heap.size + 1 ≠ w1.heap.size := by omega
  have n2 : w1.heap.size ≠ w.heap.size + 1 := by omega
  clear O1 B1 AL
  go_wp2_with fail
  refine (HS.out _).mono ?_
  rintro e u ⟨rfl, hu⟩
  obtain rfl : w2 = u := hu.symm
  have p0 := NP.out.cell 0 rfl
  have p1 := NP.out.cell 1 rfl
  have p2 := NP.out.cell 2 rfl
  have p3 := NP.out.cell 3 rfl
  have p4 := NP.out.cell 4 rfl
  have p5 := NP.out.cell 5 rfl
  have p6 := NP.out.cell 6 rfl
  have p7 := NP.out.cell 7 rfl
  have p8 := NP.out.cell 8 rfl
  have p9 := NP.out.cell 9 rfl
  go_wp2_with fail
  refine (HM.out _).mono ?_
  rintro e u ⟨rfl, hu⟩
  obtain rfl : w2 = u := hu.symm
  have k0 := NO.out.cell 0 rfl
  have k1 := NO.out.cell 1 rfl
  have k2 := NO.out.cell 2 rfl
  have k3 := NO.out.cell 3 rfl
  have k4 := NO.out.cell 4 rfl
  have k5 := NO.out.cell 5 rfl
  have k6 := NO.out.cell 6 rfl
  have k7 := NO.out.cell 7 rfl
  have k8 := NO.out.cell 8 rfl
  have k9 := NO.out.cell 9 rfl
  have g0 := NO.out.free 0
  have g1 := NO.out.free 1
  have g2 := NO.out.free 2
  have g3 := NO.out.free 3
  have g4 := NO.out.free 4
  have g5 := NO.out.free 5
  have g6 := NO.out.free 6
  have g7 := NO.out.free 7
  have g8 := NO.out.free 8
  have g9 := NO.out.free 9
  have r0 := NR.out.cell 0 rfl
  have r1 := NR.out.cell 1 rfl
  have r2 := NR.out.cell 2 rfl
  have r3 := NR.out.cell 3 rfl
  have r4 := NR.out.cell 4 rfl
  have r5 := NR.out.cell 5 rfl
  have r6 := NR.out.cell 6 rfl
  have r7 := NR.out.cell 7 rfl
  have r8 := NR.out.cell 8 rfl
  have r9 := NR.out.cell 9 rfl
  have s0 := NR.out.free 0
  have s1 := NR.out.free 1
  have s2 := NR.out.free 2
  have s3 := NR.out.free 3
  have s4 := NR.out.free 4
  have s5 := NR.out.free 5
  have s6 := NR.out.free 6
  have s7 := NR.out.free 7
  have s8 := NR.out.free 8
  have s9 := NR.out.free 9
  have LE0 : Hid (w.heap.size ≤ w0.heap.size) := Nat.le_trans (Nat.le_succ _) (Nat.le_of_lt l0)
  have LE1 : Hid (w.heap.size ≤ w1.heap.size) := Nat.le_trans LE0.out l1
  have LE2 : Hid (w.heap.size ≤ w.heap.size + 1) := Nat.le_succ _
  have FD : Hid (∀ g, (Value.slice p1' c9.length kc).ownBlock = some g → g ≠ w1.heap.size) := fun g hg => Nat.ne_of_lt (FAR.out g hg).2
  have FR : Hid (∀ g, (Value.slice p1' c9.length kc).ownBlock = some g → g ≠ w.heap.size + 1) := fun g hg => by have := (FAR.out g hg).1; omega
  go_wp2_with fail
  refine bodyPost_ret (v := .agg #[.string c0, .bool c1, .bool c2, .bool c3, .bool c4, .bool c5, .bool c6, .bool true, .string c8, .slice p1' c9.length kc]) (by simp [results, go_sem, r0, r1, r2, r3, r4, r5, r6, r7, r8, r9]) rfl ?_
  exact ⟨_, rfl, (O2.out.mono LE0.out).set10 FR.out _ _ _ _ _ _ _ _ _ _, low_set10 LE2.out B2.out _ _ _ _ _ _ _ _ _ _⟩

end Go.Proofs.YtfjfkkbgkjmghaaGreatDoor
