/- The program's Changed and Retype of layer 14. Stage 14's laws ControlWrites, ControlTypes, ControlChanges, ControlRetypes, ControlResets, walked. -/
import Derived.Test.YtfjfkkbgkjmghaaGreatDoorJct34
import Derived.Test.YtfjfkkbgkjmghaaGreatDoorJct41
import Derived.Test.YtfjfkkbgkjmghaaGreatDoorJct53
import Derived.Test.YtfjfkkbgkjmghaaGreatDoorJct56

namespace Go.Proofs.YtfjfkkbgkjmghaaGreatDoor
open Go.RowKit
set_option maxRecDepth 100000
set_option maxHeartbeats 8000000 in
theorem ctChanged_sen (k : Int) (C : Ct) (fv : Value) (v : Value) (ax : List (ByteArray × ByteArray)) (w : World) (hf : FilesV w fv C.files) (hv : AttrsV w v ax) (_hz : AxOK ax) (name : ByteArray) (hO : CtOK C) (_hT : CtTabs w) (hb0 : sbB k = false) (hk : k = 32) (hn : ¬ name = selS) :
    Calls Tryz.prog 20 #[.int .i64 k, ctV C fv, v, .string name] w fun e w' => ∃ fv', e = .returned (ctV C fv') ∧ OwnR w.heap.size w' fv' C.files ∧ Below w.heap.size w w' := by
  have HCp := hide (fun W (hb : Below w.heap.size w W) => ctCopied_any C fv W (hf.below hb) hO)
  have HS := hide (ctStartsBy_any k)
  rw [hb0] at HS
  have HM := hide (mode_any k)
  subst hk
  rw [show modeV 32 = 0 from by decide] at HM
  have f0 : (name.toList == [115, 101, 108, 101, 99, 116, 101, 100]) = false := by rw [lit_decC]; exact decide_eq_false hn
  clear hO hb0
  clear hn
  obtain ⟨p, c, rfl, _⟩ := hv
  obtain ⟨fp, fc, rfl, _⟩ := hf
  obtain ⟨c0, c1, c2, c3, c4, c5, c6, c7, c8, c9⟩ := C
  unfold ctV ctCells
  unfold ctV ctCells at HCp
  have B0 : Hid (Below w.heap.size w ((w.alloc (.cells #[.string c0, .bool c1, .bool c2, .bool c3, .bool c4, .bool c5, .bool c6, .bool c7, .string c8, .slice fp c9.length fc] 24)).alloc (.cells #[.string ⟨#[]⟩, .bool false, .bool false, .bool false, .bool false, .bool false, .bool false, .bool false, .string ⟨#[]⟩, .slice none 0 0] 24))) := ((Below.refl _ w).alloc (Nat.le_refl _) _).alloc ((Below.refl _ w).alloc (Nat.le_refl _) (.cells #[.string c0, .bool c1, .bool c2, .bool c3, .bool c4, .bool c5, .bool c6, .bool c7, .string c8, .slice fp c9.length fc] 24)).size _
  have NP := hide ((Bk.new w [.string c0, .bool c1, .bool c2, .bool c3, .bool c4, .bool c5, .bool c6, .bool c7, .string c8, .slice fp c9.length fc] 24).below ((Below.refl _ (w.alloc (.cells #[.string c0, .bool c1, .bool c2, .bool c3, .bool c4, .bool c5, .bool c6, .bool c7, .string c8, .slice fp c9.length fc] 24))).alloc (Nat.le_refl _) (.cells #[.string ⟨#[]⟩, .bool false, .bool false, .bool false, .bool false, .bool false, .bool false, .bool false, .string ⟨#[]⟩, .slice none 0 0] 24)))
  have NR0 := hide (Bk.new (w.alloc (.cells #[.string c0, .bool c1, .bool c2, .bool c3, .bool c4, .bool c5, .bool c6, .bool c7, .string c8, .slice fp c9.length fc] 24)) [.string ⟨#[]⟩, .bool false, .bool false, .bool false, .bool false, .bool false, .bool false, .bool false, .string ⟨#[]⟩, .slice none 0 0] 24)
  have NR : Hid (Bk ((w.alloc (.cells #[.string c0, .bool c1, .bool c2, .bool c3, .bool c4, .bool c5, .bool c6, .bool c7, .string c8, .slice fp c9.length fc] 24)).alloc (.cells #[.string ⟨#[]⟩, .bool false, .bool false, .bool false, .bool false, .bool false, .bool false, .bool false, .string ⟨#[]⟩, .slice none 0 0] 24)) (w.heap.size + 1) [.string ⟨#[]⟩, .bool false, .bool false, .bool false, .bool false, .bool false, .bool false, .bool false, .string ⟨#[]⟩, .slice none 0 0] 24) := by
    have e : (w.alloc (.cells #[.string c0, .bool c1, .bool c2, .bool c3, .bool c4, .bool c5, .bool c6, .bool c7, .string c8, .slice fp c9.length fc] 24)).heap.size = w.heap.size + 1 := by simp
    rw [e] at NR0; exact NR0
  clear NR0
  go_enter Tryz.func20, Tryz.ntmps20
  go_upto_region 1 with fail
  generalize (w.alloc (.cells #[.string c0, .bool c1, .bool c2, .bool c3, .bool c4, .bool c5, .bool c6, .bool c7, .string c8, .slice fp c9.length fc] 24)).alloc (.cells #[.string ⟨#[]⟩, .bool false, .bool false, .bool false, .bool false, .bool false, .bool false, .bool false, .string ⟨#[]⟩, .slice none 0 0] 24) = w0 at *
  have l0 : w.heap.size + 1 < w0.heap.size := NR.out.lt
  have p0 := NP.out.cell 0 rfl
  have p1 := NP.out.cell 1 rfl
  have p2 := NP.out.cell 2 rfl
  have p3 := NP.out.cell 3 rfl
  have p4 := NP.out.cell 4 rfl
  have p5 := NP.out.cell 5 rfl
  have p6 := NP.out.cell 6 rfl
  have p7 := NP.out.cell 7 rfl
  have p8 := NP.out.cell 8 rfl
  have p9 := NP.out.cell 9 rfl
  go_wp2_with fail
  refine (HCp.out _ B0.out).mono ?_
  rintro e w1 ⟨f1, rfl, o1, b1⟩
  obtain ⟨p1', kc, rfl⟩ : ∃ p c, f1 = .slice p c9.length c := o1.form
  have B1 := hide (chain B0.out b1)
  have O1 := hide o1
  have l1 : w0.heap.size ≤ w1.heap.size := b1.size
  replace NR := hide (NR.out.below b1)
  replace NP := hide (NP.out.below b1)
  clear o1 b1 B0 p0 p1 p2 p3 p4 p5 p6 p7 p8 p9
  have AL : Hid (Below w1.heap.size w1 (w1.alloc (.cells #[.string c0, .bool c1, .bool c2, .bool c3, .bool c4, .bool c5, .bool c6, .bool c7, .string c8, .slice p1' c9.length kc] 24))) := (Below.refl _ w1).alloc (Nat.le_refl _) _
  have NO := hide (Bk.new w1 [.string c0, .bool c1, .bool c2, .bool c3, .bool c4, .bool c5, .bool c6, .bool c7, .string c8, .slice p1' c9.length kc] 24)
  go_upto_region 2 with fail
  generalize w1.alloc (.cells #[.string c0, .bool c1, .bool c2, .bool c3, .bool c4, .bool c5, .bool c6, .bool c7, .string c8, .slice p1' c9.length kc] 24) = w2 at *
  replace NR := hide (NR.out.below AL.out)
  replace NP := hide (NP.out.below AL.out)
  have B2 := hide (chain B1.out AL.out)
  have O2 := hide (O1.out.below AL.out)
  have FAR : Hid (∀ g, (Value.slice p1' c9.length kc).ownBlock = some g → w0.heap.size ≤ g ∧ g < w1.heap.size) := fun g hg => O1.out.at_ g hg
  have n1 : w.heap.size + 1 ≠ w1.heap.size := by omega
  have n2 : w1.heap.size ≠ w.heap.size + 1 := by omega
  clear O1 B1 AL
  go_wp2_with fail
  refine (HS.out _).mono ?_
  rintro e u ⟨rfl, hu⟩
  obtain rfl : w2 = u := hu.symm
  have p0 := NP.out.cell 0 rfl
  have p1 := NP.out.cell 1 rfl
  have p2 := NP.out.cell 2 rfl
  have p3 := NP.out.cell 3 rfl
  have p4 := NP.out.cell 4 rfl
  have p5 := NP.out.cell 5 rfl
  have p6 := NP.out.cell 6 rfl
  have p7 := NP.out.cell 7 rfl
  have p8 := NP.out.cell 8 rfl
  have p9 := NP.out.cell 9 rfl
  go_wp2_with fail
  refine (HM.out _).mono ?_
  rintro e u ⟨rfl, hu⟩
  obtain rfl : w2 = u := hu.symm
  have k0 := NO.out.cell 0 rfl
  have k1 := NO.out.cell 1 rfl
  have k2 := NO.out.cell 2 rfl
  have k3 := NO.out.cell 3 rfl
  have k4 := NO.out.cell 4 rfl
  have k5 := NO.out.cell 5 rfl
  have k6 := NO.out.cell 6 rfl
  have k7 := NO.out.cell 7 rfl
  have k8 := NO.out.cell 8 rfl
  have k9 := NO.out.cell 9 rfl
  have g0 := NO.out.free 0
  have g1 := NO.out.free 1
  have g2 := NO.out.free 2
  have g3 := NO.out.free 3
  have g4 := NO.out.free 4
  have g5 := NO.out.free 5
  have g6 := NO.out.free 6
  have g7 := NO.out.free 7
  have g8 := NO.out.free 8
  have g9 := NO.out.free 9
  have r0 := NR.out.cell 0 rfl
  have r1 := NR.out.cell 1 rfl
  have r2 := NR.out.cell 2 rfl
  have r3 := NR.out.cell 3 rfl
  have r4 := NR.out.cell 4 rfl
  have r5 := NR.out.cell 5 rfl
  have r6 := NR.out.cell 6 rfl
  have r7 := NR.out.cell 7 rfl
  have r8 := NR.out.cell 8 rfl
  have r9 := NR.out.cell 9 rfl
  have s0 := NR.out.free 0
  have s1 := NR.out.free 1
  have s2 := NR.out.free 2
  have s3 := NR.out.free 3
  have s4 := NR.out.free 4
  have s5 := NR.out.free 5
  have s6 := NR.out.free 6
  have s7 := NR.out.free 7
  have s8 := NR.out.free 8
  have s9 := NR.out.free 9
  have LE0 : Hid (w.heap.size ≤ w0.heap.size) := Nat.le_trans (Nat.le_succ _) (Nat.le_of_lt l0)
  have LE1 : Hid (w.heap.size ≤ w1.heap.size) := Nat.le_trans LE0.out l1
  have LE2 : Hid (w.heap.size ≤ w.heap.size + 1) := Nat.le_succ _
  have FD : Hid (∀ g, (Value.slice p1' c9.length kc).ownBlock = some g → g ≠ w1.heap.size) := fun g hg => Nat.ne_of_lt (FAR.out g hg).2
  have FR : Hid (∀ g, (Value.slice p1' c9.length kc).ownBlock = some g → g ≠ w.heap.size + 1) := fun g hg => by have := (FAR.out g hg).1; omega
  go_wp2_with fail
  refine bodyPost_ret (v := .agg #[.string c0, .bool c1, .bool c2, .bool c3, .bool c4, .bool c5, .bool c6, .bool c7, .string c8, .slice p1' c9.length kc]) (by simp [results, go_sem, r0, r1, r2, r3, r4, r5, r6, r7, r8, r9]) rfl ?_
  exact ⟨_, rfl, (O2.out.mono LE0.out).set10 FR.out _ _ _ _ _ _ _ _ _ _, low_set10 LE2.out B2.out _ _ _ _ _ _ _ _ _ _⟩
set_option maxHeartbeats 8000000 in
theorem ctChanged_no (k : Int) (C : Ct) (fv : Value) (v : Value) (ax : List (ByteArray × ByteArray)) (w : World) (hf : FilesV w fv C.files) (hv : AttrsV w v ax) (_hz : AxOK ax) (name : ByteArray) (hO : CtOK C) (_hT : CtTabs w) (hb0 : sbB k = false) (hm : ¬ modeV k = 3) (hk : ¬ k = 32) :
    Calls Tryz.prog 20 #[.int .i64 k, ctV C fv, v, .string name] w fun e w' => ∃ fv', e = .returned (ctV C fv') ∧ OwnR w.heap.size w' fv' C.files ∧ Below w.heap.size w w' := by
  have HCp := hide (fun W (hb : Below w.heap.size w W) => ctCopied_any C fv W (hf.below hb) hO)
  have HS := hide (ctStartsBy_any k)
  rw [hb0] at HS
  have HM := hide (mode_any k)
  have b32 : (k == 32) = false := beq_eq_false_iff_ne.2 hk
  have m3 : (modeV k == 3) = false := beq_eq_false_iff_ne.2 hm
  generalize modeV k = M at *
  clear hO hb0
  clear hm hk
  obtain ⟨p, c, rfl, _⟩ := hv
  obtain ⟨fp, fc, rfl, _⟩ := hf
  obtain ⟨c0, c1, c2, c3, c4, c5, c6, c7, c8, c9⟩ := C
  unfold ctV ctCells
  unfold ctV ctCells at HCp
  have B0 : Hid (Below w.heap.size w ((w.alloc (.cells #[.string c0, .bool c1, .bool c2, .bool c3, .bool c4, .bool c5, .bool c6, .bool c7, .string c8, .slice fp c9.length fc] 24)).alloc (.cells #[.string ⟨#[]⟩, .bool false, .bool false, .bool false, .bool false, .bool false, .bool false, .bool false, .string ⟨#[]⟩, .slice none 0 0] 24))) := ((Below.refl _ w).alloc (Nat.le_refl _) _).alloc ((Below.refl _ w).alloc (Nat.le_refl _) (.cells #[.string c0, .bool c1, .bool c2, .bool c3, .bool c4, .bool c5, .bool c6, .bool c7, .string c8, .slice fp c9.length fc] 24)).size _
  have NP := hide ((Bk.new w [.string c0, .bool c1, .bool c2, .bool c3, .bool c4, .bool c5, .bool c6, .bool c7, .string c8, .slice fp c9.length fc] 24).below ((Below.refl _ (w.alloc (.cells #[.string c0, .bool c1, .bool c2, .bool c3, .bool c4, .bool c5, .bool c6, .bool c7, .string c8, .slice fp c9.length fc] 24))).alloc (Nat.le_refl _) (.cells #[.string ⟨#[]⟩, .bool false, .bool false, .bool false, .bool false, .bool false, .bool false, .bool false, .string ⟨#[]⟩, .slice none 0 0] 24)))
  have NR0 := hide (Bk.new (w.alloc (.cells #[.string c0, .bool c1, .bool c2, .bool c3, .bool c4, .bool c5, .bool c6, .bool c7, .string c8, .slice fp c9.length fc] 24)) [.string ⟨#[]⟩, .bool false, .bool false, .bool false, .bool false, .bool false, .bool false, .bool false, .string ⟨#[]⟩, .slice none 0 0] 24)
  have NR : Hid (Bk ((w.alloc (.cells #[.string c0, .bool c1, .bool c2, .bool c3, .bool c4, .bool c5, .bool c6, .bool c7, .string c8, .slice fp c9.length fc] 24)).alloc (.cells #[.string ⟨#[]⟩, .bool false, .bool false, .bool false, .bool false, .bool false, .bool false, .bool false, .string ⟨#[]⟩, .slice none 0 0] 24)) (w.heap.size + 1) [.string ⟨#[]⟩, .bool false, .bool false, .bool false, .bool false, .bool false, .bool false, .bool false, .string ⟨#[]⟩, .slice none 0 0] 24) := by
    have e : (w.alloc (.cells #[.string c0, .bool c1, .bool c2, .bool c3, .bool c4, .bool c5, .bool c6, .bool c7, .string c8, .slice fp c9.length fc] 24)).heap.size = w.heap.size + 1 := by simp
    rw [e] at NR0; exact NR0
  clear NR0
  go_enter Tryz.func20, Tryz.ntmps20
  go_upto_region 1 with fail
  generalize (w.alloc (.cells #[.string c0, .bool c1, .bool c2, .bool c3, .bool c4, .bool c5, .bool c6, .bool c7, .string c8, .slice fp c9.length fc] 24)).alloc (.cells #[.string ⟨#[]⟩, .bool false, .bool false, .bool false, .bool false, .bool false, .bool false, .bool false, .string ⟨#[]⟩, .slice none 0 0] 24) = w0 at *
  have l0 : w.heap.size + 1 < w0.heap.size := NR.out.lt
  have p0 := NP.out.cell 0 rfl
  have p1 := NP.out.cell 1 rfl
  have p2 := NP.out.cell 2 rfl
  have p3 := NP.out.cell 3 rfl
  have p4 := NP.out.cell 4 rfl
  have p5 := NP.out.cell 5 rfl
  have p6 := NP.out.cell 6 rfl
  have p7 := NP.out.cell 7 rfl
  have p8 := NP.out.cell 8 rfl
  have p9 := NP.out.cell 9 rfl
  go_wp2_with fail
  refine (HCp.out _ B0.out).mono ?_
  rintro e w1 ⟨f1, rfl, o1, b1⟩
  obtain ⟨p1', kc, rfl⟩ : ∃ p c, f1 = .slice p c9.length c := o1.form
  have B1 := hide (chain B0.out b1)
  have O1 := hide o1
  have l1 : w0.heap.size ≤ w1.heap.size := b1.size
  replace NR := hide (NR.out.below b1)
  replace NP := hide (NP.out.below b1)
  clear o1 b1 B0 p0 p1 p2 p3 p4 p5 p6 p7 p8 p9
  have AL : Hid (Below w1.heap.size w1 (w1.alloc (.cells #[.string c0, .bool c1, .bool c2, .bool c3, .bool c4, .bool c5, .bool c6, .bool c7, .string c8, .slice p1' c9.length kc] 24))) := (Below.refl _ w1).alloc (Nat.le_refl _) _
  have NO := hide (Bk.new w1 [.string c0, .bool c1, .bool c2, .bool c3, .bool c4, .bool c5, .bool c6, .bool c7, .string c8, .slice p1' c9.length kc] 24)
  go_upto_region 2 with fail
  generalize w1.alloc (.cells #[.string c0, .bool c1, .bool c2, .bool c3, .bool c4, .bool c5, .bool c6, .bool c7, .string c8, .slice p1' c9.length kc] 24) = w2 at *
  replace NR := hide (NR.out.below AL.out)
  replace NP := hide (NP.out.below AL.out)
  have B2 := hide (chain B1.out AL.out)
  have O2 := hide (O1.out.below AL.out)
  have FAR : Hid (∀ g, (Value.slice p1' c9.length kc).ownBlock = some g → w0.heap.size ≤ g ∧ g < w1.heap.size) := fun g hg => O1.out.at_ g hg
  have n1 : w.heap.size + 1 ≠ w1.heap.size := by omega
  have n2 : w1.heap.size ≠ w.heap.size + 1 := by omega
  clear O1 B1 AL
  go_wp2_with fail
  refine (HS.out _).mono ?_
  rintro e u ⟨rfl, hu⟩
  obtain rfl : w2 = u := hu.symm
  go_wp2_with fail
  refine (HM.out _).mono ?_
  rintro e u ⟨rfl, hu⟩
  obtain rfl : w2 = u := hu.symm
  have k0 := NO.out.cell 0 rfl
  have k1 := NO.out.cell 1 rfl
  have k2 := NO.out.cell 2 rfl
  have k3 := NO.out.cell 3 rfl
  have k4 := NO.out.cell 4 rfl
  have k5 := NO.out.cell 5 rfl
  have k6 := NO.out.cell 6 rfl
  have k7 := NO.out.cell 7 rfl
  have k8 := NO.out.cell 8 rfl
  have k9 := NO.out.cell 9 rfl
  have g0 := NO.out.free 0
  have g1 := NO.out.free 1
  have g2 := NO.out.free 2
  have g3 := NO.out.free 3
  have g4 := NO.out.free 4
  have g5 := NO.out.free 5
  have g6 := NO.out.free 6
  have g7 := NO.out.free 7
  have g8 := NO.out.free 8
  have g9 := NO.out.free 9
  have r0 := NR.out.cell 0 rfl
  have r1 := NR.out.cell 1 rfl
  have r2 := NR.out.cell 2 rfl
  have r3 := NR.out.cell 3 rfl
  have r4 := NR.out.cell 4 rfl
  have r5 := NR.out.cell 5 rfl
  have r6 := NR.out.cell 6 rfl
  have r7 := NR.out.cell 7 rfl
  have r8 := NR.out.cell 8 rfl
  have r9 := NR.out.cell 9 rfl
  have s0 := NR.out.free 0
  have s1 := NR.out.free 1
  have s2 := NR.out.free 2
  have s3 := NR.out.free 3
  have s4 := NR.out.free 4
  have s5 := NR.out.free 5
  have s6 := NR.out.free 6
  have s7 := NR.out.free 7
  have s8 := NR.out.free 8
  have s9 := NR.out.free 9
  have LE0 : Hid (w.heap.size ≤ w0.heap.size) := Nat.le_trans (Nat.le_succ _) (Nat.le_of_lt l0)
  have LE1 : Hid (w.heap.size ≤ w1.heap.size) := Nat.le_trans LE0.out l1
  have LE2 : Hid (w.heap.size ≤ w.heap.size + 1) := Nat.le_succ _
  have FD : Hid (∀ g, (Value.slice p1' c9.length kc).ownBlock = some g → g ≠ w1.heap.size) := fun g hg => Nat.ne_of_lt (FAR.out g hg).2
  have FR : Hid (∀ g, (Value.slice p1' c9.length kc).ownBlock = some g → g ≠ w.heap.size + 1) := fun g hg => by have := (FAR.out g hg).1; omega
  go_wp2_with fail
  refine bodyPost_ret (v := .agg #[.string c0, .bool c1, .bool c2, .bool c3, .bool c4, .bool c5, .bool c6, .bool c7, .string c8, .slice p1' c9.length kc]) (by simp [results, go_sem, r0, r1, r2, r3, r4, r5, r6, r7, r8, r9]) rfl ?_
  exact ⟨_, rfl, (O2.out.mono LE0.out).set10 FR.out _ _ _ _ _ _ _ _ _ _, low_set10 LE2.out B2.out _ _ _ _ _ _ _ _ _ _⟩
theorem chg_chk_no {k : Int} {C : Ct} {ax : List (ByteArray × ByteArray)} {n : ByteArray} (h : ¬ (modeV k = 3 ∧ n = chkS ∧ C.dchk = false)) : chgChk k C ax n = C := if_neg h
theorem chg_sel_no {k : Int} {C : Ct} {ax : List (ByteArray × ByteArray)} {n : ByteArray} (h : ¬ (k = 32 ∧ n = selS ∧ C.dsel = false)) : chgSel k C ax n = C := if_neg h
theorem ctChanged_own (k : Int) (C : Ct) (fv v : Value) (ax : List (ByteArray × ByteArray)) (w : World) (hf : FilesV w fv C.files) (hv : AttrsV w v ax) (hz : AxOK ax) (name t : ByteArray) (ht : ClnIs k ax (chgSrc C ax name) t) (hO : CtOK C) (hT : CtTabs w) :
    Calls Tryz.prog 20 #[.int .i64 k, ctV C fv, v, .string name] w fun e w' => ∃ fv', e = .returned (ctV (changedP k C ax name t) fv') ∧ OwnR w.heap.size w' fv' C.files ∧ Below w.heap.size w w' := by
  cases hb0 : sbB k with
  | true =>
    rw [chg_one hb0]
    exact ctChanged_sb k C fv v ax w hf hv hz name hO hT t ht hb0
  | false =>
    unfold changedP
    rw [chg_val_no hb0]
    by_cases hm : modeV k = 3
    · have n32 := (mode3 hm).2.1
      by_cases hn : name = chkS
      · cases hd : C.dchk with
        | false =>
          rw [show chgChk k C ax name = { C with chk := (findA ax name).isSome } from if_pos ⟨hm, hn, hd⟩, chg_sel_no (fun q => n32 q.1)]
          exact ctChanged_chk k C fv v ax w hf hv hz name hO hT hb0 hm hn hd
        | true =>
          rw [chg_chk_no (fun q => by rw [hd] at q; cases q.2.2), chg_sel_no (fun q => n32 q.1)]
          exact ctChanged_chd k C fv v ax w hf hv hz name hO hT hb0 hm hn hd
      · rw [chg_chk_no (fun q => hn q.2.1), chg_sel_no (fun q => n32 q.1)]
        exact ctChanged_chn k C fv v ax w hf hv hz name hO hT hb0 hm hn
    · rw [chg_chk_no (fun q => hm q.1)]
      by_cases hk : k = 32
      · by_cases hn : name = selS
        · cases hd : C.dsel with
          | false =>
            rw [show chgSel k C ax name = { C with sel := (findA ax name).isSome } from if_pos ⟨hk, hn, hd⟩]
            exact ctChanged_sel k C fv v ax w hf hv hz name hO hT hb0 hk hn hd
          | true =>
            rw [chg_sel_no (fun q => by rw [hd] at q; cases q.2.2)]
            exact ctChanged_sed k C fv v ax w hf hv hz name hO hT hb0 hk hn hd
        · rw [chg_sel_no (fun q => hn q.2.1)]
          exact ctChanged_sen k C fv v ax w hf hv hz name hO hT hb0 hk hn
      · rw [chg_sel_no (fun q => hk q.1)]
        exact ctChanged_no k C fv v ax w hf hv hz name hO hT hb0 hm hk
theorem chg_fs (k : Int) (C : Ct) (ax : List (ByteArray × ByteArray)) (n t : ByteArray) : (changedP k C ax n t).files = C.files := by
  unfold changedP chgSel chgChk chgVal
  (repeat' split) <;> rfl
theorem ctChanged_any (k : Int) (C : Ct) (fv v : Value) (ax : List (ByteArray × ByteArray)) (w : World) (hf : FilesV w fv C.files) (hv : AttrsV w v ax) (hz : AxOK ax) (name t : ByteArray) (ht : ClnIs k ax (chgSrc C ax name) t) (hO : CtOK C) (hT : CtTabs w) :
    Calls Tryz.prog 20 #[.int .i64 k, ctV C fv, v, .string name] w fun e w' => ∃ fv', e = .returned (ctV (changedP k C ax name t) fv') ∧ FilesV w' fv' (changedP k C ax name t).files ∧ Below w.heap.size w w' :=
  (ctChanged_own k C fv v ax w hf hv hz name t ht hO hT).mono fun e w' ⟨f, h, o, b⟩ => ⟨f, h, by rw [chg_fs]; exact o.files, b⟩
end Go.Proofs.YtfjfkkbgkjmghaaGreatDoor

namespace Go.Proofs.YtfjfkkbgkjmghaaGreatDoor
open Go.RowKit
theorem refChanged_ex (k : Int) (C : Ct) (fv v : Value) (ax : List (ByteArray × ByteArray)) (w : World) (hf : FilesV w fv C.files) (hv : AttrsV w v ax) (hz : AxOK ax) (name t : ByteArray) (hcs : C.val.size ≤ 100000) (ht : ClnIs k ax (chgSrc C ax name) t) :
    Calls Tryz.prog 21 #[.int .i64 k, ctV C fv, v, .string name] w fun e w' => ∃ fv', e = .returned (ctV (changedP k C ax name t) fv') ∧ FilesV w' fv' (changedP k C ax name t).files ∧ Below w.heap.size w w' :=
  (refChanged_any k C fv v ax w hf hv hz name t hcs ht).mono fun e w' ⟨h, b⟩ => ⟨fv, h, by rw [chg_files]; exact hf.below b, b⟩
set_option maxHeartbeats 4000000 in
set_option maxRecDepth 100000 in
theorem controlChanges_walk (k : Int) (C : Ct) (fv v : Value) (ax : List (ByteArray × ByteArray)) (w : World) (hf : FilesV w fv C.files) (hF : FsOK C.files) (hcu : C.custom.size ≤ 140737488355328) (hv : AttrsV w v ax) (hl : ax.length ≤ 4398046511104) (name : ByteArray) (hT : CtTabs w) :
    Calls Tryz.prog 6 #[itV k C fv v, .string name] w fun e w' => e = .returned (.bool true) ∧ Below w.heap.size w w' := by
  have HW := hide (fun W (hb : Below w.heap.size w W) => ctWakes_any W (hT.below hb))
  have HG := hide (fun W (hb : Below w.heap.size w W) => ctLong_any k C fv v ax name W (hf.below hb) (hv.below hb) hl)
  have HT := hide hT
  have HV := hide hv
  have HFV := hide hf
  clear hT
  cases q : longI C ax name with
  | true =>
    rw [q] at HG
    clear q HV HFV HT hF hcu
    obtain ⟨p, c, rfl, _⟩ := hv
    obtain ⟨fp, fc, rfl, _⟩ := hf
    obtain ⟨c0, c1, c2, c3, c4, c5, c6, c7, c8, c9⟩ := C
    unfold itV
    have B0 : Hid (Below w.heap.size w (w.alloc (.cells #[.int .i64 k, .string c0, .bool c1, .bool c2, .bool c3, .bool c4, .bool c5, .bool c6, .bool c7, .string c8, .slice fp c9.length fc, .slice p ax.length c] 27))) := (Below.refl _ w).alloc (Nat.le_refl _) _
    have NX := hide (Bk.new w [.int .i64 k, .string c0, .bool c1, .bool c2, .bool c3, .bool c4, .bool c5, .bool c6, .bool c7, .string c8, .slice fp c9.length fc, .slice p ax.length c] 27)
    unfold itV at HG
    go_enter Tryz.func6, Tryz.ntmps6
    go_upto_region 1 with fail
    generalize w.alloc (.cells #[.int .i64 k, .string c0, .bool c1, .bool c2, .bool c3, .bool c4, .bool c5, .bool c6, .bool c7, .string c8, .slice fp c9.length fc, .slice p ax.length c] 27) = w0 at *
    have x0 := NX.out.cell 0 rfl
    have x1 := NX.out.cell 1 rfl
    have x2 := NX.out.cell 2 rfl
    have x3 := NX.out.cell 3 rfl
    have x4 := NX.out.cell 4 rfl
    have x5 := NX.out.cell 5 rfl
    have x6 := NX.out.cell 6 rfl
    have x7 := NX.out.cell 7 rfl
    have x8 := NX.out.cell 8 rfl
    have x9 := NX.out.cell 9 rfl
    have x10 := NX.out.cell 10 rfl
    have x11 := NX.out.cell 11 rfl
    go_wp2_with fail
    refine (HW.out _ B0.out).mono ?_
    rintro e w1 ⟨rfl, b1⟩
    have B1 := hide (chain B0.out b1)
    replace NX := hide (NX.out.below b1)
    clear x0 x1 x2 x3 x4 x5 x6 x7 x8 x9 x10 x11
    have x0 := NX.out.cell 0 rfl
    have x1 := NX.out.cell 1 rfl
    have x2 := NX.out.cell 2 rfl
    have x3 := NX.out.cell 3 rfl
    have x4 := NX.out.cell 4 rfl
    have x5 := NX.out.cell 5 rfl
    have x6 := NX.out.cell 6 rfl
    have x7 := NX.out.cell 7 rfl
    have x8 := NX.out.cell 8 rfl
    have x9 := NX.out.cell 9 rfl
    have x10 := NX.out.cell 10 rfl
    have x11 := NX.out.cell 11 rfl
    go_wp2_with fail
    refine (HG.out _ B1.out).mono ?_
    rintro e w2 ⟨rfl, b2⟩
    go_wp2_with fail
    go_ret
    exact ⟨rfl, chain B1.out b2⟩
  | false =>
    rw [q] at HG
    have S := longI_no q
    have CO : CtOK C := ⟨hF, hcu, Nat.le_trans S.val (by decide)⟩
    clear q
    obtain ⟨t, ht⟩ := cln_some k ax (chgSrc C ax name)
    have H1 := hide (fun W (hb : Below w.heap.size w W) => ctChanged_any k C fv v ax W (HFV.out.below hb) (HV.out.below hb) S.ax name t ht CO (HT.out.below hb))
    have H2 := hide (fun W (hb : Below w.heap.size w W) => refChanged_ex k C fv v ax W (HFV.out.below hb) (HV.out.below hb) S.ax name t (Nat.le_trans S.val (by decide)) ht)
    have few : (changedP k C ax name t).files.length ≤ 4398046511104 := by rw [chg_files]; exact hF.len
    generalize changedP k C ax name t = SP at *
    have H5 := hide (fun W va vb (ha : CtlV W va SP) (hb : CtlV W vb SP) => refCtSame_yes va vb SP W ha hb few)
    clear S ht hF hcu CO HT HV HFV
    obtain ⟨p, c, rfl, _⟩ := hv
    obtain ⟨fp, fc, rfl, _⟩ := hf
    obtain ⟨c0, c1, c2, c3, c4, c5, c6, c7, c8, c9⟩ := C
    unfold itV
    have B0 : Hid (Below w.heap.size w (w.alloc (.cells #[.int .i64 k, .string c0, .bool c1, .bool c2, .bool c3, .bool c4, .bool c5, .bool c6, .bool c7, .string c8, .slice fp c9.length fc, .slice p ax.length c] 27))) := (Below.refl _ w).alloc (Nat.le_refl _) _
    have NX := hide (Bk.new w [.int .i64 k, .string c0, .bool c1, .bool c2, .bool c3, .bool c4, .bool c5, .bool c6, .bool c7, .string c8, .slice fp c9.length fc, .slice p ax.length c] 27)
    unfold itV at HG
    go_enter Tryz.func6, Tryz.ntmps6
    go_upto_region 1 with fail
    generalize w.alloc (.cells #[.int .i64 k, .string c0, .bool c1, .bool c2, .bool c3, .bool c4, .bool c5, .bool c6, .bool c7, .string c8, .slice fp c9.length fc, .slice p ax.length c] 27) = w0 at *
    have x0 := NX.out.cell 0 rfl
    have x1 := NX.out.cell 1 rfl
    have x2 := NX.out.cell 2 rfl
    have x3 := NX.out.cell 3 rfl
    have x4 := NX.out.cell 4 rfl
    have x5 := NX.out.cell 5 rfl
    have x6 := NX.out.cell 6 rfl
    have x7 := NX.out.cell 7 rfl
    have x8 := NX.out.cell 8 rfl
    have x9 := NX.out.cell 9 rfl
    have x10 := NX.out.cell 10 rfl
    have x11 := NX.out.cell 11 rfl
    go_wp2_with fail
    refine (HW.out _ B0.out).mono ?_
    rintro e w1 ⟨rfl, b1⟩
    have B1 := hide (chain B0.out b1)
    replace NX := hide (NX.out.below b1)
    clear x0 x1 x2 x3 x4 x5 x6 x7 x8 x9 x10 x11 b1 B0
    have x0 := NX.out.cell 0 rfl
    have x1 := NX.out.cell 1 rfl
    have x2 := NX.out.cell 2 rfl
    have x3 := NX.out.cell 3 rfl
    have x4 := NX.out.cell 4 rfl
    have x5 := NX.out.cell 5 rfl
    have x6 := NX.out.cell 6 rfl
    have x7 := NX.out.cell 7 rfl
    have x8 := NX.out.cell 8 rfl
    have x9 := NX.out.cell 9 rfl
    have x10 := NX.out.cell 10 rfl
    have x11 := NX.out.cell 11 rfl
    go_wp2_with fail
    refine (HG.out _ B1.out).mono ?_
    rintro e w2 ⟨rfl, b2⟩
    have B2 := hide (chain B1.out b2)
    replace NX := hide (NX.out.below b2)
    clear x0 x1 x2 x3 x4 x5 x6 x7 x8 x9 x10 x11 b2 B1 HW HG
    have x0 := NX.out.cell 0 rfl
    have x1 := NX.out.cell 1 rfl
    have x2 := NX.out.cell 2 rfl
    have x3 := NX.out.cell 3 rfl
    have x4 := NX.out.cell 4 rfl
    have x5 := NX.out.cell 5 rfl
    have x6 := NX.out.cell 6 rfl
    have x7 := NX.out.cell 7 rfl
    have x8 := NX.out.cell 8 rfl
    have x9 := NX.out.cell 9 rfl
    have x10 := NX.out.cell 10 rfl
    have x11 := NX.out.cell 11 rfl
    obtain ⟨s0, s1, s2, s3, s4, s5, s6, s7, s8, s9⟩ := SP
    unfold ctV ctCells at H1 H2
    clear NX
    go_wp2_with fail
    go_region_held3 (fun w' => w'.cell? ⟨w.heap.size, 0, none⟩ = some (.int .i64 k) ∧ w'.cell? ⟨w.heap.size, 1, none⟩ = some (.string c0) ∧ w'.cell? ⟨w.heap.size, 2, none⟩ = some (.bool c1) ∧ w'.cell? ⟨w.heap.size, 3, none⟩ = some (.bool c2) ∧ w'.cell? ⟨w.heap.size, 4, none⟩ = some (.bool c3) ∧ w'.cell? ⟨w.heap.size, 5, none⟩ = some (.bool c4) ∧ w'.cell? ⟨w.heap.size, 6, none⟩ = some (.bool c5) ∧ w'.cell? ⟨w.heap.size, 7, none⟩ = some (.bool c6) ∧ w'.cell? ⟨w.heap.size, 8, none⟩ = some (.bool c7) ∧ w'.cell? ⟨w.heap.size, 9, none⟩ = some (.string c8) ∧ w'.cell? ⟨w.heap.size, 10, none⟩ = some (.slice fp c9.length fc) ∧ w'.cell? ⟨w.heap.size, 11, none⟩ = some (.slice p ax.length c)) (first | go_keep | exact ⟨cell_below x0 U3.out, cell_below x1 U3.out, cell_below x2 U3.out, cell_below x3 U3.out, cell_below x4 U3.out, cell_below x5 U3.out, cell_below x6 U3.out, cell_below x7 U3.out, cell_below x8 U3.out, cell_below x9 U3.out, cell_below x10 U3.out, cell_below x11 U3.out⟩ | exact ⟨cell_below x0 U4.out, cell_below x1 U4.out, cell_below x2 U4.out, cell_below x3 U4.out, cell_below x4 U4.out, cell_below x5 U4.out, cell_below x6 U4.out, cell_below x7 U4.out, cell_below x8 U4.out, cell_below x9 U4.out, cell_below x10 U4.out, cell_below x11 U4.out⟩ | exact ⟨cell_below x0 U5.out, cell_below x1 U5.out, cell_below x2 U5.out, cell_below x3 U5.out, cell_below x4 U5.out, cell_below x5 U5.out, cell_below x6 U5.out, cell_below x7 U5.out, cell_below x8 U5.out, cell_below x9 U5.out, cell_below x10 U5.out, cell_below x11 U5.out⟩)
      (first | (go_at_call 20; refine (H1.out _ (belR B2.out 1)).mono ?_; rintro e w3 ⟨f3, rfl, g3, b3⟩; have G3 := hide g3; obtain ⟨p3, d3, rfl, _⟩ := g3; have U3 : Hid (Below w2.heap.size w2 w3) := undrewC b3; have B3 : Hid (Below w.heap.size w w3) := chain B2.out U3.out) | (go_at_call 21; refine (H2.out _ B3.out).mono ?_; rintro e w4 ⟨f4, rfl, g4, b4⟩; have G4 := hide g4; obtain ⟨p4, d4, rfl, _⟩ := g4; have U4 : Hid (Below w2.heap.size w2 w4) := chain U3.out b4; have B4 : Hid (Below w.heap.size w w4) := chain B2.out U4.out) | (go_at_call 11; refine (H5.out _ _ _ ⟨_, rfl, G3.out.below b4⟩ ⟨_, rfl, G4.out⟩).mono ?_; rintro e w5 ⟨rfl, b5⟩; have U5 : Hid (Below w2.heap.size w2 w5) := chain U4.out b5; have B5 : Hid (Below w.heap.size w w5) := chain B2.out U5.out))
    go_wp2_with fail
    go_ret
    exact ⟨rfl, B5.out⟩

end Go.Proofs.YtfjfkkbgkjmghaaGreatDoor
