/- The program's changedValue and written of layer 14. The program's Start, Value, Reset of layer 14. -/
import Derived.Test.YtfjfkkbgkjmghaaGreatDoorJct28

namespace Go.Proofs.YtfjfkkbgkjmghaaGreatDoor
open Go.RowKit
set_option maxRecDepth 100000
set_option maxHeartbeats 8000000 in
theorem ctWritten_24 (k : Int) (C : Ct) (fv : Value) (v : Value) (ax : List (ByteArray × ByteArray)) (w : World) (hf : FilesV w fv C.files) (hv : AttrsV w v ax) (_hz : AxOK ax) (s t : ByteArray) (ty : Bool) (hs : s.size ≤ 100000) (ht : ClnIs k ax s t) (hO : CtOK C) (_hT : CtTabs w) (hk : k = 24) :
    Calls Tryz.prog 38 #[.int .i64 k, ctV C fv, v, .string s, .bool ty] w fun e w' => ∃ fv', e = .returned (ctV { C with val := t, dirty := true, typed := ty } fv') ∧ OwnR w.heap.size w' fv' C.files ∧ Below w.heap.size w w' := by
  have HCp := hide (fun W (hb : Below w.heap.size w W) => ctCopied_any C fv W (hf.below hb) hO)
  subst hk
  have et : t = linesS s := by
    rcases ht with ⟨_, q⟩ | ⟨q, _⟩
    · exact q
    · exact absurd rfl q
  have HC := hide (fun W (_ : Below w.heap.size w W) => lines_any s W (by omega))
  rw [← et] at HC
  clear ht hs hO et
  obtain ⟨p, c, rfl, _⟩ := hv
  obtain ⟨fp, fc, rfl, _⟩ := hf
  obtain ⟨c0, c1, c2, c3, c4, c5, c6, c7, c8, c9⟩ := C
  unfold ctV ctCells
  unfold ctV ctCells at HCp
  have B0 : Hid (Below w.heap.size w ((w.alloc (.cells #[.string c0, .bool c1, .bool c2, .bool c3, .bool c4, .bool c5, .bool c6, .bool c7, .string c8, .slice fp c9.length fc] 24)).alloc (.cells #[.string ⟨#[]⟩, .bool false, .bool false, .bool false, .bool false, .bool false, .bool false, .bool false, .string ⟨#[]⟩, .slice none 0 0] 24))) := ((Below.refl _ w).alloc (Nat.le_refl _) _).alloc ((Below.refl _ w).alloc (Nat.le_refl _) (.cells #[.string c0, .bool c1, .bool c2, .bool c3, .bool c4, .bool c5, .bool c6, .bool c7, .string c8, .slice fp c9.length fc] 24)).size _
  have NP := hide ((Bk.new w [.string c0, .bool c1, .bool c2, .bool c3, .bool c4, .bool c5, .bool c6, .bool c7, .string c8, .slice fp c9.length fc] 24).below ((Below.refl _ (w.alloc (.cells #[.string c0, .bool c1, .bool c2, .bool c3, .bool c4, .bool c5, .bool c6, .bool c7, .string c8, .slice fp c9.length fc] 24))).alloc (Nat.le_refl _) (.cells #[.string ⟨#[]⟩, .bool false, .bool false, .bool false, .bool false, .bool false, .bool false, .bool false, .string ⟨#[]⟩, .slice none 0 0] 24)))
  have NR0 := hide (Bk.new (w.alloc (.cells #[.string c0, .bool c1, .bool c2, .bool c3, .bool c4, .bool c5, .bool c6, .bool c7, .string c8, .slice fp c9.length fc] 24)) [.string ⟨#[]⟩, .bool false, .bool false, .bool false, .bool false, .bool false, .bool false, .bool false, .string ⟨#[]⟩, .slice none 0 0] 24)
  have NR : Hid (Bk ((w.alloc (.cells #[.string c0, .bool c1, .bool c2, .bool c3, .bool c4, .bool c5, .bool c6, .bool c7, .string c8, .slice fp c9.length fc] 24)).alloc (.cells #[.string ⟨#[]⟩, .bool false, .bool false, .bool false, .bool false, .bool false, .bool false, .bool false, .string ⟨#[]⟩, .slice none 0 0] 24)) (w.heap.size + 1) [.string ⟨#[]⟩, .bool false, .bool false, .bool false, .bool false, .bool false, .bool false, .bool false, .string ⟨#[]⟩, .slice none 0 0] 24) := by
    have e : (w.alloc (.cells #[.string c0, .bool c1, .bool c2, .bool c3, .bool c4, .bool c5, .bool c6, .bool c7, .string c8, .slice fp c9.length fc] 24)).heap.size = w.heap.size + 1 := by simp
    rw [e] at NR0; exact NR0
  clear NR0
  go_enter Tryz.func38, Tryz.ntmps38
  go_upto_region 1 with fail
  generalize (w.alloc (.cells #[.string c0, .bool c1, .bool c2, .bool c3, .bool c4, .bool c5, .bool c6, .bool c7, .string c8, .slice fp c9.length fc] 24)).alloc (.cells #[.string ⟨#[]⟩, .bool false, .bool false, .bool false, .bool false, .bool false, .bool false, .bool false, .string ⟨#[]⟩, .slice none 0 0] 24) = w0 at *
  have l0 : w.heap.size + 1 < w0.heap.size := NR.out.lt
  have p0 := NP.out.cell 0 rfl
  have p1 := NP.out.cell 1 rfl
  have p2 := NP.out.cell 2 rfl
  have p3 := NP.out.cell 3 rfl
  have p4 := NP.out.cell 4 rfl
  have p5 := NP.out.cell 5 rfl
  have p6 := NP.out.cell 6 rfl
  have p7 := NP.out.cell 7 rfl
  have p8 := NP.out.cell 8 rfl
  have p9 := NP.out.cell 9 rfl
  go_wp2_with fail
  refine (HCp.out _ B0.out).mono ?_
  rintro e w1 ⟨f1, rfl, o1, b1⟩
  obtain ⟨p1', kc, rfl⟩ : ∃ p c, f1 = .slice p c9.length c := o1.form
  have B1 := hide (chain B0.out b1)
  have O1 := hide o1
  have l1 : w0.heap.size ≤ w1.heap.size := b1.size
  replace NR := hide (NR.out.below b1)
  replace NP := hide (NP.out.below b1)
  clear o1 b1 B0 p0 p1 p2 p3 p4 p5 p6 p7 p8 p9
  have AL : Hid (Below w1.heap.size w1 (w1.alloc (.cells #[.string c0, .bool c1, .bool c2, .bool c3, .bool c4, .bool c5, .bool c6, .bool c7, .string c8, .slice p1' c9.length kc] 24))) := (Below.refl _ w1).alloc (Nat.le_refl _) _
  have NO := hide (Bk.new w1 [.string c0, .bool c1, .bool c2, .bool c3, .bool c4, .bool c5, .bool c6, .bool c7, .string c8, .slice p1' c9.length kc] 24)
  go_upto_region 2 with fail
  generalize w1.alloc (.cells #[.string c0, .bool c1, .bool c2, .bool c3, .bool c4, .bool c5, .bool c6, .bool c7, .string c8, .slice p1' c9.length kc] 24) = w2 at *
  replace NR := hide (NR.out.below AL.out)
  replace NP := hide (NP.out.below AL.out)
  have B2 := hide (chain B1.out AL.out)
  have O2 := hide (O1.out.below AL.out)
  have FAR : Hid (∀ g, (Value.slice p1' c9.length kc).ownBlock = some g → w0.heap.size ≤ g ∧ g < w1.heap.size) := fun g hg => O1.out.at_ g hg
  have n1 : w.heap.size + 1 ≠ w1.heap.size := by omega
  have n2 : w1.heap.size ≠ w.heap.size + 1 := by omega
  clear O1 B1 AL
  go_wp2_with fail
  refine (HC.out _ B2.out).mono ?_
  rintro e wx ⟨rfl, bx⟩
  replace NR := hide (NR.out.below bx)
  replace NO := hide (NO.out.below bx)
  have OX := hide (O2.out.below bx)
  have BX := hide (chain B2.out bx)
  clear bx O2 B2 NP
  have k0 := NO.out.cell 0 rfl
  have k1 := NO.out.cell 1 rfl
  have k2 := NO.out.cell 2 rfl
  have k3 := NO.out.cell 3 rfl
  have k4 := NO.out.cell 4 rfl
  have k5 := NO.out.cell 5 rfl
  have k6 := NO.out.cell 6 rfl
  have k7 := NO.out.cell 7 rfl
  have k8 := NO.out.cell 8 rfl
  have k9 := NO.out.cell 9 rfl
  have g0 := NO.out.free 0
  have g1 := NO.out.free 1
  have g2 := NO.out.free 2
  have g3 := NO.out.free 3
  have g4 := NO.out.free 4
  have g5 := NO.out.free 5
  have g6 := NO.out.free 6
  have g7 := NO.out.free 7
  have g8 := NO.out.free 8
  have g9 := NO.out.free 9
  have r0 := NR.out.cell 0 rfl
  have r1 := NR.out.cell 1 rfl
  have r2 := NR.out.cell 2 rfl
  have r3 := NR.out.cell 3 rfl
  have r4 := NR.out.cell 4 rfl
  have r5 := NR.out.cell 5 rfl
  have r6 := NR.out.cell 6 rfl
  have r7 := NR.out.cell 7 rfl
  have r8 := NR.out.cell 8 rfl
  have r9 := NR.out.cell 9 rfl
  have s0 := NR.out.free 0
  have s1 := NR.out.free 1
  have s2 := NR.out.free 2
  have s3 := NR.out.free 3
  have s4 := NR.out.free 4
  have s5 := NR.out.free 5
  have s6 := NR.out.free 6
  have s7 := NR.out.free 7
  have s8 := NR.out.free 8
  have s9 := NR.out.free 9
  have LE0 : Hid (w.heap.size ≤ w0.heap.size) := Nat.le_trans (Nat.le_succ _) (Nat.le_of_lt l0)
  have LE1 : Hid (w.heap.size ≤ w1.heap.size) := Nat.le_trans LE0.out l1
  have LE2 : Hid (w.heap.size ≤ w.heap.size + 1) := Nat.le_succ _
  have FD : Hid (∀ g, (Value.slice p1' c9.length kc).ownBlock = some g → g ≠ w1.heap.size) := fun g hg => Nat.ne_of_lt (FAR.out g hg).2
  have FR : Hid (∀ g, (Value.slice p1' c9.length kc).ownBlock = some g → g ≠ w.heap.size + 1) := fun g hg => by have := (FAR.out g hg).1; omega
  go_wp2_with fail
  refine bodyPost_ret (v := .agg #[.string t, .bool true, .bool ty, .bool c3, .bool c4, .bool c5, .bool c6, .bool c7, .string c8, .slice p1' c9.length kc]) (by simp [results, go_sem, r0, r1, r2, r3, r4, r5, r6, r7, r8, r9]) rfl ?_
  exact ⟨_, rfl, ((((OX.out.mono LE0.out).set FD.out _ _).set FD.out _ _).set FD.out _ _).set10 FR.out _ _ _ _ _ _ _ _ _ _, low_set10 LE2.out (((BX.out.setCell LE1.out _).setCell LE1.out _).setCell LE1.out _) _ _ _ _ _ _ _ _ _ _⟩
set_option maxHeartbeats 8000000 in
theorem ctWritten_el (k : Int) (C : Ct) (fv : Value) (v : Value) (ax : List (ByteArray × ByteArray)) (w : World) (hf : FilesV w fv C.files) (hv : AttrsV w v ax) (hz : AxOK ax) (s t : ByteArray) (ty : Bool) (hs : s.size ≤ 100000) (ht : ClnIs k ax s t) (hO : CtOK C) (hT : CtTabs w) (hk : ¬ k = 24) :
    Calls Tryz.prog 38 #[.int .i64 k, ctV C fv, v, .string s, .bool ty] w fun e w' => ∃ fv', e = .returned (ctV { C with val := t, dirty := true, typed := ty } fv') ∧ OwnR w.heap.size w' fv' C.files ∧ Below w.heap.size w w' := by
  have HCp := hide (fun W (hb : Below w.heap.size w W) => ctCopied_any C fv W (hf.below hb) hO)
  have HC := hide (fun W (hb : Below w.heap.size w W) => ctClean_any v ax W (hv.below hb) hz ht hk hs (hT.below hb))
  have bk : (k == 24) = false := beq_eq_false_iff_ne.2 hk
  clear ht hs hO hT hz hk
  obtain ⟨p, c, rfl, _⟩ := hv
  obtain ⟨fp, fc, rfl, _⟩ := hf
  obtain ⟨c0, c1, c2, c3, c4, c5, c6, c7, c8, c9⟩ := C
  unfold ctV ctCells
  unfold ctV ctCells at HCp
  have B0 : Hid (Below w.heap.size w ((w.alloc (.cells #[.string c0, .bool c1, .bool c2, .bool c3, .bool c4, .bool c5, .bool c6, .bool c7, .string c8, .slice fp c9.length fc] 24)).alloc (.cells #[.string ⟨#[]⟩, .bool false, .bool false, .bool false, .bool false, .bool false, .bool false, .bool false, .string ⟨#[]⟩, .slice none 0 0] 24))) := ((Below.refl _ w).alloc (Nat.le_refl _) _).alloc ((Below.refl _ w).alloc (Nat.le_refl _) (.cells #[.string c0, .bool c1, .bool c2, .bool c3, .bool c4, .bool c5, .bool c6, .bool c7, .string c8, .slice fp c9.length fc] 24)).size _
  have NP := hide ((Bk.new w [.string c0, .bool c1, .bool c2, .bool c3, .bool c4, .bool c5, .bool c6, .bool c7, .string c8, .slice fp c9.length fc] 24).below ((Below.refl _ (w.alloc (.cells #[.string c0, .bool c1, .bool c2, .bool c3, .bool c4, .bool c5, .bool c6, .bool c7, .string c8, .slice fp c9.length fc] 24))).alloc (Nat.le_refl _) (.cells #[.string ⟨#[]⟩, .bool false, .bool false, .bool false, .bool false, .bool false, .bool false, .bool false, .string ⟨#[]⟩, .slice none 0 0] 24)))
  have NR0 := hide (Bk.new (w.alloc (.cells #[.string c0, .bool c1, .bool c2, .bool c3, .bool c4, .bool c5, .bool c6, .bool c7, .string c8, .slice fp c9.length fc] 24)) [.string ⟨#[]⟩, .bool false, .bool false, .bool false, .bool false, .bool false, .bool false, .bool false, .string ⟨#[]⟩, .slice none 0 0] 24)
  have NR : Hid (Bk ((w.alloc (.cells #[.string c0, .bool c1, .bool c2, .bool c3, .bool c4, .bool c5, .bool c6, .bool c7, .string c8, .slice fp c9.length fc] 24)).alloc (.cells #[.string ⟨#[]⟩, .bool false, .bool false, .bool false, .bool false, .bool false, .bool false, .bool false, .string ⟨#[]⟩, .slice none 0 0] 24)) (w.heap.size + 1) [.string ⟨#[]⟩, .bool false, .bool false, .bool false, .bool false, .bool false, .bool false, .bool false, .string ⟨#[]⟩, .slice none 0 0] 24) := by
    have e : (w.alloc (.cells #[.string c0, .bool c1, .bool c2, .bool c3, .bool c4, .bool c5, .bool c6, .bool c7, .string c8, .slice fp c9.length fc] 24)).heap.size = w.heap.size + 1 := by simp
    rw [e] at NR0; exact NR0
  clear NR0
  go_enter Tryz.func38, Tryz.ntmps38
  go_upto_region 1 with fail
  generalize (w.alloc (.cells #[.string c0, .bool c1, .bool c2, .bool c3, .bool c4, .bool c5, .bool c6, .bool c7, .string c8, .slice fp c9.length fc] 24)).alloc (.cells #[.string ⟨#[]⟩, .bool false, .bool false, .bool false, .bool false, .bool false, .bool false, .bool false, .string ⟨#[]⟩, .slice none 0 0] 24) = w0 at *
  have l0 : w.heap.size + 1 < w0.heap.size := NR.out.lt
  have p0 := NP.out.cell 0 rfl
  have p1 := NP.out.cell 1 rfl
  have p2 := NP.out.cell 2 rfl
  have p3 := NP.out.cell 3 rfl
  have p4 := NP.out.cell 4 rfl
  have p5 := NP.out.cell 5 rfl
  have p6 := NP.out.cell 6 rfl
  have p7 := NP.out.cell 7 rfl
  have p8 := NP.out.cell 8 rfl
  have p9 := NP.out.cell 9 rfl
  go_wp2_with fail
  refine (HCp.out _ B0.out).mono ?_
  rintro e w1 ⟨f1, rfl, o1, b1⟩
  obtain ⟨p1', kc, rfl⟩ : ∃ p c, f1 = .slice p c9.length c := o1.form
  have B1 := hide (chain B0.out b1)
  have O1 := hide o1
  have l1 : w0.heap.size ≤ w1.heap.size := b1.size
  replace NR := hide (NR.out.below b1)
  replace NP := hide (NP.out.below b1)
  clear o1 b1 B0 p0 p1 p2 p3 p4 p5 p6 p7 p8 p9
  have AL : Hid (Below w1.heap.size w1 (w1.alloc (.cells #[.string c0, .bool c1, .bool c2, .bool c3, .bool c4, .bool c5, .bool c6, .bool c7, .string c8, .slice p1' c9.length kc] 24))) := (Below.refl _ w1).alloc (Nat.le_refl _) _
  have NO := hide (Bk.new w1 [.string c0, .bool c1, .bool c2, .bool c3, .bool c4, .bool c5, .bool c6, .bool c7, .string c8, .slice p1' c9.length kc] 24)
  go_upto_region 2 with fail
  generalize w1.alloc (.cells #[.string c0, .bool c1, .bool c2, .bool c3, .bool c4, .bool c5, .bool c6, .bool c7, .string c8, .slice p1' c9.length kc] 24) = w2 at *
  replace NR := hide (NR.out.below AL.out)
  replace NP := hide (NP.out.below AL.out)
  have B2 := hide (chain B1.out AL.out)
  have O2 := hide (O1.out.below AL.out)
  have FAR : Hid (∀ g, (Value.slice p1' c9.length kc).ownBlock = some g → w0.heap.size ≤ g ∧ g < w1.heap.size) := fun g hg => O1.out.at_ g hg
  have n1 : w.heap.size + 1 ≠ w1.heap.size := by omega
  have n2 : w1.heap.size ≠ w.heap.size + 1 := by omega
  clear O1 B1 AL
  go_wp2_with fail
  refine (HC.out _ B2.out).mono ?_
  rintro e wx ⟨rfl, bx⟩
  replace NR := hide (NR.out.below bx)
  replace NO := hide (NO.out.below bx)
  have OX := hide (O2.out.below bx)
  have BX := hide (chain B2.out bx)
  clear bx O2 B2 NP
  have k0 := NO.out.cell 0 rfl
  have k1 := NO.out.cell 1 rfl
  have k2 := NO.out.cell 2 rfl
  have k3 := NO.out.cell 3 rfl
  have k4 := NO.out.cell 4 rfl
  have k5 := NO.out.cell 5 rfl
  have k6 := NO.out.cell 6 rfl
  have k7 := NO.out.cell 7 rfl
  have k8 := NO.out.cell 8 rfl
  have k9 := NO.out.cell 9 rfl
  have g0 := NO.out.free 0
  have g1 := NO.out.free 1
  have g2 := NO.out.free 2
  have g3 := NO.out.free 3
  have g4 := NO.out.free 4
  have g5 := NO.out.free 5
  have g6 := NO.out.free 6
  have g7 := NO.out.free 7
  have g8 := NO.out.free 8
  have g9 := NO.out.free 9
  have r0 := NR.out.cell 0 rfl
  have r1 := NR.out.cell 1 rfl
  have r2 := NR.out.cell 2 rfl
  have r3 := NR.out.cell 3 rfl
  have r4 := NR.out.cell 4 rfl
  have r5 := NR.out.cell 5 rfl
  have r6 := NR.out.cell 6 rfl
  have r7 := NR.out.cell 7 rfl
  have r8 := NR.out.cell 8 rfl
  have r9 := NR.out.cell 9 rfl
  have s0 := NR.out.free 0
  have s1 := NR.out.free 1
  have s2 := NR.out.free 2
  have s3 := NR.out.free 3
  have s4 := NR.out.free 4
  have s5 := NR.out.free 5
  have s6 := NR.out.free 6
  have s7 := NR.out.free 7
  have s8 := NR.out.free 8
  have s9 := NR.out.free 9
  have LE0 : Hid (w.heap.size ≤ w0.heap.size) := Nat.le_trans (Nat.le_succ _) (Nat.le_of_lt l0)
  have LE1 : Hid (w.heap.size ≤ w1.heap.size) := Nat.le_trans LE0.out l1
  have LE2 : Hid (w.heap.size ≤ w.heap.size + 1) := Nat.le_succ _
  have FD : Hid (∀ g, (Value.slice p1' c9.length kc).ownBlock = some g → g ≠ w1.heap.size) := fun g hg => Nat.ne_of_lt (FAR.out g hg).2
  have FR : Hid (∀ g, (Value.slice p1' c9.length kc).ownBlock = some g → g ≠ w.heap.size + 1) := fun g hg => by have := (FAR.out g hg).1; omega
  go_wp2_with fail
  refine bodyPost_ret (v := .agg #[.string t, .bool true, .bool ty, .bool c3, .bool c4, .bool c5, .bool c6, .bool c7, .string c8, .slice p1' c9.length kc]) (by simp [results, go_sem, r0, r1, r2, r3, r4, r5, r6, r7, r8, r9]) rfl ?_
  exact ⟨_, rfl, ((((OX.out.mono LE0.out).set FD.out _ _).set FD.out _ _).set FD.out _ _).set10 FR.out _ _ _ _ _ _ _ _ _ _, low_set10 LE2.out (((BX.out.setCell LE1.out _).setCell LE1.out _).setCell LE1.out _) _ _ _ _ _ _ _ _ _ _⟩
theorem ctWritten_any (k : Int) (C : Ct) (fv : Value) (v : Value) (ax : List (ByteArray × ByteArray)) (w : World) (hf : FilesV w fv C.files) (hv : AttrsV w v ax) (hz : AxOK ax) (s t : ByteArray) (ty : Bool) (hs : s.size ≤ 100000) (ht : ClnIs k ax s t) (hO : CtOK C) (hT : CtTabs w) :
    Calls Tryz.prog 38 #[.int .i64 k, ctV C fv, v, .string s, .bool ty] w fun e w' => ∃ fv', e = .returned (ctV { C with val := t, dirty := true, typed := ty } fv') ∧ OwnR w.heap.size w' fv' C.files ∧ Below w.heap.size w w' := by
  by_cases hk : k = 24
  · exact ctWritten_24 k C fv v ax w hf hv hz s t ty hs ht hO hT hk
  · exact ctWritten_el k C fv v ax w hf hv hz s t ty hs ht hO hT hk
end Go.Proofs.YtfjfkkbgkjmghaaGreatDoor

namespace Go.Proofs.YtfjfkkbgkjmghaaGreatDoor
open Go.RowKit
set_option maxRecDepth 100000
theorem mode3 {k : Int} (h : modeV k = 3) : ¬ k = 28 ∧ ¬ k = 32 ∧ ¬ k = 24 := by
  refine ⟨fun q => ?_, fun q => ?_, fun q => ?_⟩ <;> (subst q; revert h; decide)
theorem start_chk {k : Int} (h : modeV k = 3) (ax : List (ByteArray × ByteArray)) (text t : ByteArray) : startP k ax text t = { ct0 with chk := (findA ax chkS).isSome } ∧ svP k text t = ⟨#[]⟩ := by
  have n1 : ¬ modeV k = 1 := by rw [h]; decide
  refine ⟨?_, ?_⟩
  · unfold startP
    rw [if_neg (mode3 h).1, if_neg n1, if_pos h]
  · unfold svP
    rw [if_neg (mode3 h).1, if_neg n1]
theorem start_sel (ax : List (ByteArray × ByteArray)) (text t : ByteArray) : startP 32 ax text t = { ct0 with sel := (findA ax selS).isSome } ∧ svP 32 text t = ⟨#[]⟩ := ⟨rfl, rfl⟩
theorem start_else {k : Int} (h : ¬ modeV k = 3) (h32 : ¬ k = 32) (ax : List (ByteArray × ByteArray)) (text t : ByteArray) : startP k ax text t = { ct0 with val := svP k text t } := by
  unfold startP svP
  by_cases h28 : k = 28
  · rw [if_pos h28, if_pos h28]
  · rw [if_neg h28, if_neg h28]
    by_cases m : modeV k = 1
    · rw [if_pos m, if_pos m]
    · rw [if_neg m, if_neg m, if_neg h, if_neg h32]
      rfl
set_option maxHeartbeats 8000000 in
theorem ctStart_chk (k : Int) (v : Value) (ax : List (ByteArray × ByteArray)) (w : World) (hv : AttrsV w v ax) (hz : AxOK ax) (text t : ByteArray) (ht : ClnIs k ax (srcS k ax text) t) (hs : text.size ≤ 100000) (hT : CtTabs w) (h : modeV k = 3) :
    Calls Tryz.prog 12 #[.int .i64 k, v, .string text] w fun e w' => e = .returned (ctV { ct0 with chk := (findA ax ⟨#[99, 104, 101, 99, 107, 101, 100]⟩).isSome } (.slice none 0 0)) ∧ Below w.heap.size w w' := by
  have HV := hide (fun W (hb : Below w.heap.size w W) => ctStartV_any k v ax W (hv.below hb) hz text t ht hs (hT.below hb))
  have HM := hide (mode_any k)
  have HH := hide (fun n W (hb : Below w.heap.size w W) => ctHas_any v ax n W (hv.below hb) hz.len)
  rw [(start_chk h ax text t).2] at HV
  replace HH := hide (HH.out chkS)
  rw [show chkS = ⟨#[99, 104, 101, 99, 107, 101, 100]⟩ from rfl] at HH
  have b32 : (k == 32) = false := beq_eq_false_iff_ne.2 (mode3 h).2.1
  have b32' : ¬ k = 32 := (mode3 h).2.1
  rw [h] at HM
  generalize (findA ax ⟨#[99, 104, 101, 99, 107, 101, 100]⟩).isSome = R at *
  clear hz ht hs hT h
  obtain ⟨p, c, rfl, _⟩ := hv
  have B0 : Hid (Below w.heap.size w (w.alloc (.cells #[.string ⟨#[]⟩, .bool false, .bool false, .bool false, .bool false, .bool false, .bool false, .bool false, .string ⟨#[]⟩, .slice none 0 0] 24))) := (Below.refl _ w).alloc (Nat.le_refl _) _
  have NR := hide (Bk.new w [.string ⟨#[]⟩, .bool false, .bool false, .bool false, .bool false, .bool false, .bool false, .bool false, .string ⟨#[]⟩, .slice none 0 0] 24)
  go_enter Tryz.func12, Tryz.ntmps12
  go_upto_region 1 with fail
  generalize w.alloc (.cells #[.string ⟨#[]⟩, .bool false, .bool false, .bool false, .bool false, .bool false, .bool false, .bool false, .string ⟨#[]⟩, .slice none 0 0] 24) = w0 at *
  go_wp2_with fail
  refine (HV.out _ B0.out).mono ?_
  rintro e w1 ⟨rfl, b1⟩
  have B1 := hide (chain B0.out b1)
  replace NR := hide (NR.out.below b1)
  go_wp2_with fail
  refine (HM.out _).mono ?_
  rintro e u ⟨rfl, rfl⟩
  go_wp2_with fail
  refine (HH.out _ B1.out).mono ?_
  rintro e w2 ⟨rfl, b2⟩
  have B2 := hide (chain B1.out b2)
  replace NR := hide (NR.out.below b2)
  have r0 := NR.out.cell 0 rfl
  have r1 := NR.out.cell 1 rfl
  have r2 := NR.out.cell 2 rfl
  have r3 := NR.out.cell 3 rfl
  have r4 := NR.out.cell 4 rfl
  have r5 := NR.out.cell 5 rfl
  have r6 := NR.out.cell 6 rfl
  have r7 := NR.out.cell 7 rfl
  have r8 := NR.out.cell 8 rfl
  have r9 := NR.out.cell 9 rfl
  have s0 := NR.out.free 0
  have s1 := NR.out.free 1
  have s2 := NR.out.free 2
  have s3 := NR.out.free 3
  have s4 := NR.out.free 4
  have s5 := NR.out.free 5
  have s6 := NR.out.free 6
  have s7 := NR.out.free 7
  have s8 := NR.out.free 8
  have s9 := NR.out.free 9
  go_wp2_with fail
  refine bodyPost_ret (v := .agg #[.string ⟨#[]⟩, .bool false, .bool false, .bool R, .bool false, .bool false, .bool false, .bool false, .string ⟨#[]⟩, .slice none 0 0]) (by simp [results, go_sem, r0, r1, r2, r3, r4, r5, r6, r7, r8, r9]) rfl ?_
  exact ⟨rfl, low_set10 (Nat.le_refl _) B2.out _ _ _ _ _ _ _ _ _ _⟩
set_option maxHeartbeats 8000000 in
theorem ctStart_sel (k : Int) (v : Value) (ax : List (ByteArray × ByteArray)) (w : World) (hv : AttrsV w v ax) (hz : AxOK ax) (text t : ByteArray) (ht : ClnIs k ax (srcS k ax text) t) (hs : text.size ≤ 100000) (hT : CtTabs w) (h : k = 32) :
    Calls Tryz.prog 12 #[.int .i64 k, v, .string text] w fun e w' => e = .returned (ctV { ct0 with sel := (findA ax ⟨#[115, 101, 108, 101, 99, 116, 101, 100]⟩).isSome } (.slice none 0 0)) ∧ Below w.heap.size w w' := by
  have HV := hide (fun W (hb : Below w.heap.size w W) => ctStartV_any k v ax W (hv.below hb) hz text t ht hs (hT.below hb))
  have HM := hide (mode_any k)
  have HH := hide (fun n W (hb : Below w.heap.size w W) => ctHas_any v ax n W (hv.below hb) hz.len)
  subst h
  rw [(start_sel ax text t).2] at HV
  replace HH := hide (HH.out selS)
  rw [show selS = ⟨#[115, 101, 108, 101, 99, 116, 101, 100]⟩ from rfl] at HH
  rw [show modeV 32 = 0 from by decide] at HM
  generalize (findA ax ⟨#[115, 101, 108, 101, 99, 116, 101, 100]⟩).isSome = R at *
  clear hz ht hs hT
  obtain ⟨p, c, rfl, _⟩ := hv
  have B0 : Hid (Below w.heap.size w (w.alloc (.cells #[.string ⟨#[]⟩, .bool false, .bool false, .bool false, .bool false, .bool false, .bool false, .bool false, .string ⟨#[]⟩, .slice none 0 0] 24))) := (Below.refl _ w).alloc (Nat.le_refl _) _
  have NR := hide (Bk.new w [.string ⟨#[]⟩, .bool false, .bool false, .bool false, .bool false, .bool false, .bool false, .bool false, .string ⟨#[]⟩, .slice none 0 0] 24)
  go_enter Tryz.func12, Tryz.ntmps12
  go_upto_region 1 with fail
  generalize w.alloc (.cells #[.string ⟨#[]⟩, .bool false, .bool false, .bool false, .bool false, .bool false, .bool false, .bool false, .string ⟨#[]⟩, .slice none 0 0] 24) = w0 at *
  go_wp2_with fail
  refine (HV.out _ B0.out).mono ?_
  rintro e w1 ⟨rfl, b1⟩
  have B1 := hide (chain B0.out b1)
  replace NR := hide (NR.out.below b1)
  go_wp2_with fail
  refine (HM.out _).mono ?_
  rintro e u ⟨rfl, rfl⟩
  go_wp2_with fail
  refine (HH.out _ B1.out).mono ?_
  rintro e w2 ⟨rfl, b2⟩
  have B2 := hide (chain B1.out b2)
  replace NR := hide (NR.out.below b2)
  have r0 := NR.out.cell 0 rfl
  have r1 := NR.out.cell 1 rfl
  have r2 := NR.out.cell 2 rfl
  have r3 := NR.out.cell 3 rfl
  have r4 := NR.out.cell 4 rfl
  have r5 := NR.out.cell 5 rfl
  have r6 := NR.out.cell 6 rfl
  have r7 := NR.out.cell 7 rfl
  have r8 := NR.out.cell 8 rfl
  have r9 := NR.out.cell 9 rfl
  have s0 := NR.out.free 0
  have s1 := NR.out.free 1
  have s2 := NR.out.free 2
  have s3 := NR.out.free 3
  have s4 := NR.out.free 4
  have s5 := NR.out.free 5
  have s6 := NR.out.free 6
  have s7 := NR.out.free 7
  have s8 := NR.out.free 8
  have s9 := NR.out.free 9
  go_wp2_with fail
  refine bodyPost_ret (v := .agg #[.string ⟨#[]⟩, .bool false, .bool false, .bool false, .bool false, .bool false, .bool R, .bool false, .string ⟨#[]⟩, .slice none 0 0]) (by simp [results, go_sem, r0, r1, r2, r3, r4, r5, r6, r7, r8, r9]) rfl ?_
  exact ⟨rfl, low_set10 (Nat.le_refl _) B2.out _ _ _ _ _ _ _ _ _ _⟩
set_option maxHeartbeats 8000000 in
theorem ctStart_else (k : Int) (v : Value) (ax : List (ByteArray × ByteArray)) (w : World) (hv : AttrsV w v ax) (hz : AxOK ax) (text t : ByteArray) (ht : ClnIs k ax (srcS k ax text) t) (hs : text.size ≤ 100000) (hT : CtTabs w) (h : ¬ modeV k = 3) (h32 : ¬ k = 32) :
    Calls Tryz.prog 12 #[.int .i64 k, v, .string text] w fun e w' => e = .returned (ctV { ct0 with val := svP k text t } (.slice none 0 0)) ∧ Below w.heap.size w w' := by
  have HV := hide (fun W (hb : Below w.heap.size w W) => ctStartV_any k v ax W (hv.below hb) hz text t ht hs (hT.below hb))
  have HM := hide (mode_any k)
  skip
  have m3 : (modeV k == 3) = false := beq_eq_false_iff_ne.2 h
  have b32 : (k == 32) = false := beq_eq_false_iff_ne.2 h32
  generalize modeV k = M at *
  generalize svP k text t = sv at *
  clear hz ht hs hT
  obtain ⟨p, c, rfl, _⟩ := hv
  have B0 : Hid (Below w.heap.size w (w.alloc (.cells #[.string ⟨#[]⟩, .bool false, .bool false, .bool false, .bool false, .bool false, .bool false, .bool false, .string ⟨#[]⟩, .slice none 0 0] 24))) := (Below.refl _ w).alloc (Nat.le_refl _) _
  have NR := hide (Bk.new w [.string ⟨#[]⟩, .bool false, .bool false, .bool false, .bool false, .bool false, .bool false, .bool false, .string ⟨#[]⟩, .slice none 0 0] 24)
  go_enter Tryz.func12, Tryz.ntmps12
  go_upto_region 1 with fail
  generalize w.alloc (.cells #[.string ⟨#[]⟩, .bool false, .bool false, .bool false, .bool false, .bool false, .bool false, .bool false, .string ⟨#[]⟩, .slice none 0 0] 24) = w0 at *
  go_wp2_with fail
  refine (HV.out _ B0.out).mono ?_
  rintro e w1 ⟨rfl, b1⟩
  have B1 := hide (chain B0.out b1)
  replace NR := hide (NR.out.below b1)
  go_wp2_with fail
  refine (HM.out _).mono ?_
  rintro e u ⟨rfl, rfl⟩
  have r0 := NR.out.cell 0 rfl
  have r1 := NR.out.cell 1 rfl
  have r2 := NR.out.cell 2 rfl
  have r3 := NR.out.cell 3 rfl
  have r4 := NR.out.cell 4 rfl
  have r5 := NR.out.cell 5 rfl
  have r6 := NR.out.cell 6 rfl
  have r7 := NR.out.cell 7 rfl
  have r8 := NR.out.cell 8 rfl
  have r9 := NR.out.cell 9 rfl
  have s0 := NR.out.free 0
  have s1 := NR.out.free 1
  have s2 := NR.out.free 2
  have s3 := NR.out.free 3
  have s4 := NR.out.free 4
  have s5 := NR.out.free 5
  have s6 := NR.out.free 6
  have s7 := NR.out.free 7
  have s8 := NR.out.free 8
  have s9 := NR.out.free 9
  go_wp2_with fail
  refine bodyPost_ret (v := .agg #[.string sv, .bool false, .bool false, .bool false, .bool false, .bool false, .bool false, .bool false, .string ⟨#[]⟩, .slice none 0 0]) (by simp [results, go_sem, r0, r1, r2, r3, r4, r5, r6, r7, r8, r9]) rfl ?_
  exact ⟨rfl, low_set10 (Nat.le_refl _) B1.out _ _ _ _ _ _ _ _ _ _⟩
theorem ctStart_raw (k : Int) (v : Value) (ax : List (ByteArray × ByteArray)) (w : World) (hv : AttrsV w v ax) (hz : AxOK ax) (text t : ByteArray) (ht : ClnIs k ax (srcS k ax text) t) (hs : text.size ≤ 100000) (hT : CtTabs w) :
    Calls Tryz.prog 12 #[.int .i64 k, v, .string text] w fun e w' => e = .returned (ctV (startP k ax text t) (.slice none 0 0)) ∧ Below w.heap.size w w' := by
  by_cases h : modeV k = 3
  · rw [(start_chk h ax text t).1]
    exact ctStart_chk k v ax w hv hz text t ht hs hT h
  · by_cases h32 : k = 32
    · rw [h32, (start_sel ax text t).1, ← h32]
      exact ctStart_sel k v ax w hv hz text t ht hs hT h32
    · rw [start_else h h32 ax text t]
      exact ctStart_else k v ax w hv hz text t ht hs hT h h32
theorem ctStart_nil (k : Int) (ax : List (ByteArray × ByteArray)) (text t : ByteArray) : (startP k ax text t).files = [] := by
  unfold startP
  (repeat' split) <;> rfl
theorem ctStart_any (k : Int) (v : Value) (ax : List (ByteArray × ByteArray)) (w : World) (hv : AttrsV w v ax) (hz : AxOK ax) (text t : ByteArray) (ht : ClnIs k ax (srcS k ax text) t) (hs : text.size ≤ 100000) (hT : CtTabs w) :
    Calls Tryz.prog 12 #[.int .i64 k, v, .string text] w fun e w' => ∃ fv', e = .returned (ctV (startP k ax text t) fv') ∧ FilesV w' fv' (startP k ax text t).files ∧ Below w.heap.size w w' :=
  (ctStart_raw k v ax w hv hz text t ht hs hT).mono fun e w' ⟨h, b⟩ => ⟨_, h, by rw [ctStart_nil]; exact files_nil _, b⟩
set_option maxHeartbeats 8000000 in
theorem ctValue_m1 (k : Int) (C : Ct) (fv : Value) (v : Value) (ax : List (ByteArray × ByteArray)) (w : World) (hf : FilesV w fv C.files) (hv : AttrsV w v ax) (_hz : AxOK ax) (hO : CtOK C) (hm : modeV k = 1) :
    Calls Tryz.prog 14 #[.int .i64 k, ctV C fv, v] w fun e w' => e = .returned (.string C.val) ∧ Below w.heap.size w w' := by
  have HM := hide (mode_any k)
  have HC := hide (fun W => clone_any C.val W (by have := hO.val; omega))
  rw [hm] at HM
  clear hO hm
  obtain ⟨p, c, rfl, _⟩ := hv
  obtain ⟨fp, fc, rfl, _⟩ := hf
  obtain ⟨c0, c1, c2, c3, c4, c5, c6, c7, c8, c9⟩ := C
  unfold ctV ctCells
  have B0 : Hid (Below w.heap.size w (w.alloc (.cells #[.string c0, .bool c1, .bool c2, .bool c3, .bool c4, .bool c5, .bool c6, .bool c7, .string c8, .slice fp c9.length fc] 24))) := (Below.refl _ w).alloc (Nat.le_refl _) _
  have NP := hide (Bk.new w [.string c0, .bool c1, .bool c2, .bool c3, .bool c4, .bool c5, .bool c6, .bool c7, .string c8, .slice fp c9.length fc] 24)
  go_enter Tryz.func14, Tryz.ntmps14
  go_upto_region 1 with fail
  generalize w.alloc (.cells #[.string c0, .bool c1, .bool c2, .bool c3, .bool c4, .bool c5, .bool c6, .bool c7, .string c8, .slice fp c9.length fc] 24) = w0 at *
  have p0 := NP.out.cell 0 rfl
  have p1 := NP.out.cell 1 rfl
  have p2 := NP.out.cell 2 rfl
  have p3 := NP.out.cell 3 rfl
  have p4 := NP.out.cell 4 rfl
  have p5 := NP.out.cell 5 rfl
  have p6 := NP.out.cell 6 rfl
  have p7 := NP.out.cell 7 rfl
  have p8 := NP.out.cell 8 rfl
  have p9 := NP.out.cell 9 rfl
  go_wp2_with fail
  refine (HM.out _).mono ?_
  rintro e u ⟨rfl, rfl⟩
  go_wp2_with fail
  refine (HC.out _).mono ?_
  rintro e w1 ⟨rfl, b1⟩
  have B1 := hide (chain B0.out b1)
  clear b1
  go_wp2_with fail
  go_ret
  exact ⟨rfl, B1.out⟩
set_option maxHeartbeats 8000000 in
theorem ctValue_m3y (k : Int) (C : Ct) (fv : Value) (v : Value) (ax : List (ByteArray × ByteArray)) (w : World) (hf : FilesV w fv C.files) (hv : AttrsV w v ax) (hz : AxOK ax) (_hO : CtOK C) (hm : modeV k = 3) (hq : (findA ax ⟨#[118, 97, 108, 117, 101]⟩).isSome = true) :
    Calls Tryz.prog 14 #[.int .i64 k, ctV C fv, v] w fun e w' => e = .returned (.string (fndS ax ⟨#[118, 97, 108, 117, 101]⟩)) ∧ Below w.heap.size w w' := by
  have HM := hide (mode_any k)
  have HFi := hide (fun W (hb : Below w.heap.size w W) => ctFind_any v ax ⟨#[118, 97, 108, 117, 101]⟩ W (hv.below hb) hz.len)
  have HC := hide (fun W => clone_any (fndS ax ⟨#[118, 97, 108, 117, 101]⟩) W (by have := fnd_small hz ⟨#[118, 97, 108, 117, 101]⟩; omega))
  rw [hm] at HM
  rw [hq] at HFi
  generalize fndS ax ⟨#[118, 97, 108, 117, 101]⟩ = fs at *
  clear hz hm hq
  obtain ⟨p, c, rfl, _⟩ := hv
  obtain ⟨fp, fc, rfl, _⟩ := hf
  obtain ⟨c0, c1, c2, c3, c4, c5, c6, c7, c8, c9⟩ := C
  unfold ctV ctCells
  have B0 : Hid (Below w.heap.size w (w.alloc (.cells #[.string c0, .bool c1, .bool c2, .bool c3, .bool c4, .bool c5, .bool c6, .bool c7, .string c8, .slice fp c9.length fc] 24))) := (Below.refl _ w).alloc (Nat.le_refl _) _
  have NP := hide (Bk.new w [.string c0, .bool c1, .bool c2, .bool c3, .bool c4, .bool c5, .bool c6, .bool c7, .string c8, .slice fp c9.length fc] 24)
  go_enter Tryz.func14, Tryz.ntmps14
  go_upto_region 1 with fail
  generalize w.alloc (.cells #[.string c0, .bool c1, .bool c2, .bool c3, .bool c4, .bool c5, .bool c6, .bool c7, .string c8, .slice fp c9.length fc] 24) = w0 at *
  have p0 := NP.out.cell 0 rfl
  have p1 := NP.out.cell 1 rfl
  have p2 := NP.out.cell 2 rfl
  have p3 := NP.out.cell 3 rfl
  have p4 := NP.out.cell 4 rfl
  have p5 := NP.out.cell 5 rfl
  have p6 := NP.out.cell 6 rfl
  have p7 := NP.out.cell 7 rfl
  have p8 := NP.out.cell 8 rfl
  have p9 := NP.out.cell 9 rfl
  go_wp2_with fail
  refine (HM.out _).mono ?_
  rintro e u ⟨rfl, rfl⟩
  go_wp2_with fail
  refine (HFi.out _ B0.out).mono ?_
  rintro e w1 ⟨rfl, b1⟩
  have B1 := hide (chain B0.out b1)
  clear b1
  go_wp2_with fail
  refine (HC.out _).mono ?_
  rintro e w2 ⟨rfl, b2⟩
  have B2 := hide (chain B1.out b2)
  clear b2
  go_wp2_with fail
  go_ret
  exact ⟨rfl, B2.out⟩
set_option maxHeartbeats 8000000 in
theorem ctValue_m3n (k : Int) (C : Ct) (fv : Value) (v : Value) (ax : List (ByteArray × ByteArray)) (w : World) (hf : FilesV w fv C.files) (hv : AttrsV w v ax) (hz : AxOK ax) (_hO : CtOK C) (hm : modeV k = 3) (hq : (findA ax ⟨#[118, 97, 108, 117, 101]⟩).isSome = false) :
    Calls Tryz.prog 14 #[.int .i64 k, ctV C fv, v] w fun e w' => e = .returned (.string ⟨#[111, 110]⟩) ∧ Below w.heap.size w w' := by
  have HM := hide (mode_any k)
  have HFi := hide (fun W (hb : Below w.heap.size w W) => ctFind_any v ax ⟨#[118, 97, 108, 117, 101]⟩ W (hv.below hb) hz.len)
  have HC := hide (fun W => clone_any ⟨#[111, 110]⟩ W (by decide))
  rw [hm] at HM
  rw [hq] at HFi
  generalize fndS ax ⟨#[118, 97, 108, 117, 101]⟩ = fs at *
  clear hz hm hq
  obtain ⟨p, c, rfl, _⟩ := hv
  obtain ⟨fp, fc, rfl, _⟩ := hf
  obtain ⟨c0, c1, c2, c3, c4, c5, c6, c7, c8, c9⟩ := C
  unfold ctV ctCells
  have B0 : Hid (Below w.heap.size w (w.alloc (.cells #[.string c0, .bool c1, .bool c2, .bool c3, .bool c4, .bool c5, .bool c6, .bool c7, .string c8, .slice fp c9.length fc] 24))) := (Below.refl _ w).alloc (Nat.le_refl _) _
  have NP := hide (Bk.new w [.string c0, .bool c1, .bool c2, .bool c3, .bool c4, .bool c5, .bool c6, .bool c7, .string c8, .slice fp c9.length fc] 24)
  go_enter Tryz.func14, Tryz.ntmps14
  go_upto_region 1 with fail
  generalize w.alloc (.cells #[.string c0, .bool c1, .bool c2, .bool c3, .bool c4, .bool c5, .bool c6, .bool c7, .string c8, .slice fp c9.length fc] 24) = w0 at *
  have p0 := NP.out.cell 0 rfl
  have p1 := NP.out.cell 1 rfl
  have p2 := NP.out.cell 2 rfl
  have p3 := NP.out.cell 3 rfl
  have p4 := NP.out.cell 4 rfl
  have p5 := NP.out.cell 5 rfl
  have p6 := NP.out.cell 6 rfl
  have p7 := NP.out.cell 7 rfl
  have p8 := NP.out.cell 8 rfl
  have p9 := NP.out.cell 9 rfl
  go_wp2_with fail
  refine (HM.out _).mono ?_
  rintro e u ⟨rfl, rfl⟩
  go_wp2_with fail
  refine (HFi.out _ B0.out).mono ?_
  rintro e w1 ⟨rfl, b1⟩
  have B1 := hide (chain B0.out b1)
  clear b1
  go_wp2_with fail
  refine (HC.out _).mono ?_
  rintro e w2 ⟨rfl, b2⟩
  have B2 := hide (chain B1.out b2)
  clear b2
  go_wp2_with fail
  go_ret
  exact ⟨rfl, B2.out⟩
set_option maxHeartbeats 8000000 in
theorem ctValue_m4 (k : Int) (C : Ct) (fv : Value) (v : Value) (ax : List (ByteArray × ByteArray)) (w : World) (hf : FilesV w fv C.files) (hv : AttrsV w v ax) (_hz : AxOK ax) (hO : CtOK C) (hm : modeV k = 4) :
    Calls Tryz.prog 14 #[.int .i64 k, ctV C fv, v] w fun e w' => e = .returned (.string (fileT C.files)) ∧ Below w.heap.size w w' := by
  have HM := hide (mode_any k)
  have HC := hide (fun W (hb : Below w.heap.size w W) => ctFile_any fv C.files W (hf.below hb) hO.files)
  generalize fileT C.files = R at *
  rw [hm] at HM
  clear hO hm
  obtain ⟨p, c, rfl, _⟩ := hv
  obtain ⟨fp, fc, rfl, _⟩ := hf
  obtain ⟨c0, c1, c2, c3, c4, c5, c6, c7, c8, c9⟩ := C
  unfold ctV ctCells
  have B0 : Hid (Below w.heap.size w (w.alloc (.cells #[.string c0, .bool c1, .bool c2, .bool c3, .bool c4, .bool c5, .bool c6, .bool c7, .string c8, .slice fp c9.length fc] 24))) := (Below.refl _ w).alloc (Nat.le_refl _) _
  have NP := hide (Bk.new w [.string c0, .bool c1, .bool c2, .bool c3, .bool c4, .bool c5, .bool c6, .bool c7, .string c8, .slice fp c9.length fc] 24)
  go_enter Tryz.func14, Tryz.ntmps14
  go_upto_region 1 with fail
  generalize w.alloc (.cells #[.string c0, .bool c1, .bool c2, .bool c3, .bool c4, .bool c5, .bool c6, .bool c7, .string c8, .slice fp c9.length fc] 24) = w0 at *
  have p0 := NP.out.cell 0 rfl
  have p1 := NP.out.cell 1 rfl
  have p2 := NP.out.cell 2 rfl
  have p3 := NP.out.cell 3 rfl
  have p4 := NP.out.cell 4 rfl
  have p5 := NP.out.cell 5 rfl
  have p6 := NP.out.cell 6 rfl
  have p7 := NP.out.cell 7 rfl
  have p8 := NP.out.cell 8 rfl
  have p9 := NP.out.cell 9 rfl
  go_wp2_with fail
  refine (HM.out _).mono ?_
  rintro e u ⟨rfl, rfl⟩
  go_wp2_with fail
  refine (HC.out _ B0.out).mono ?_
  rintro e w1 ⟨rfl, b1⟩
  have B1 := hide (chain B0.out b1)
  clear b1
  go_wp2_with fail
  go_ret
  exact ⟨rfl, B1.out⟩
set_option maxHeartbeats 8000000 in
theorem ctValue_iy (k : Int) (C : Ct) (fv : Value) (v : Value) (ax : List (ByteArray × ByteArray)) (w : World) (hf : FilesV w fv C.files) (hv : AttrsV w v ax) (hz : AxOK ax) (_hO : CtOK C) (hm : ¬ modeV k = 1 ∧ ¬ modeV k = 3 ∧ ¬ modeV k = 4) (hi : iaB k = true) :
    Calls Tryz.prog 14 #[.int .i64 k, ctV C fv, v] w fun e w' => e = .returned (.string (fndS ax ⟨#[118, 97, 108, 117, 101]⟩)) ∧ Below w.heap.size w w' := by
  have HM := hide (mode_any k)
  have HFi := hide (fun W (hb : Below w.heap.size w W) => ctFind_any v ax ⟨#[118, 97, 108, 117, 101]⟩ W (hv.below hb) hz.len)
  have HC := hide (fun W => clone_any (fndS ax ⟨#[118, 97, 108, 117, 101]⟩) W (by have := fnd_small hz ⟨#[118, 97, 108, 117, 101]⟩; omega))
  have HI := hide (ctInAttr_any k)
  have m1 : (modeV k == 1) = false := beq_eq_false_iff_ne.2 hm.1
  have m3 : (modeV k == 3) = false := beq_eq_false_iff_ne.2 hm.2.1
  have m4 : (modeV k == 4) = false := beq_eq_false_iff_ne.2 hm.2.2
  rw [hi] at HI
  generalize modeV k = M at *
  clear hi
  generalize fndS ax ⟨#[118, 97, 108, 117, 101]⟩ = fs at *
  generalize (findA ax ⟨#[118, 97, 108, 117, 101]⟩).isSome = fb at *
  clear hz hm
  obtain ⟨p, c, rfl, _⟩ := hv
  obtain ⟨fp, fc, rfl, _⟩ := hf
  obtain ⟨c0, c1, c2, c3, c4, c5, c6, c7, c8, c9⟩ := C
  unfold ctV ctCells
  have B0 : Hid (Below w.heap.size w (w.alloc (.cells #[.string c0, .bool c1, .bool c2, .bool c3, .bool c4, .bool c5, .bool c6, .bool c7, .string c8, .slice fp c9.length fc] 24))) := (Below.refl _ w).alloc (Nat.le_refl _) _
  have NP := hide (Bk.new w [.string c0, .bool c1, .bool c2, .bool c3, .bool c4, .bool c5, .bool c6, .bool c7, .string c8, .slice fp c9.length fc] 24)
  go_enter Tryz.func14, Tryz.ntmps14
  go_upto_region 1 with fail
  generalize w.alloc (.cells #[.string c0, .bool c1, .bool c2, .bool c3, .bool c4, .bool c5, .bool c6, .bool c7, .string c8, .slice fp c9.length fc] 24) = w0 at *
  have p0 := NP.out.cell 0 rfl
  have p1 := NP.out.cell 1 rfl
  have p2 := NP.out.cell 2 rfl
  have p3 := NP.out.cell 3 rfl
  have p4 := NP.out.cell 4 rfl
  have p5 := NP.out.cell 5 rfl
  have p6 := NP.out.cell 6 rfl
  have p7 := NP.out.cell 7 rfl
  have p8 := NP.out.cell 8 rfl
  have p9 := NP.out.cell 9 rfl
  go_wp2_with fail
  refine (HM.out _).mono ?_
  rintro e u ⟨rfl, rfl⟩
  go_wp2_with fail
  refine (HI.out _).mono ?_
  rintro e u ⟨rfl, rfl⟩
  go_wp2_with fail
  refine (HFi.out _ B0.out).mono ?_
  rintro e w1 ⟨rfl, b1⟩
  have B1 := hide (chain B0.out b1)
  clear b1
  go_wp2_with fail
  refine (HC.out _).mono ?_
  rintro e w2 ⟨rfl, b2⟩
  have B2 := hide (chain B1.out b2)
  clear b2
  go_wp2_with fail
  go_ret
  exact ⟨rfl, B2.out⟩
set_option maxHeartbeats 8000000 in
theorem ctValue_in (k : Int) (C : Ct) (fv : Value) (v : Value) (ax : List (ByteArray × ByteArray)) (w : World) (hf : FilesV w fv C.files) (hv : AttrsV w v ax) (_hz : AxOK ax) (_hO : CtOK C) (hm : ¬ modeV k = 1 ∧ ¬ modeV k = 3 ∧ ¬ modeV k = 4) (hi : iaB k = false) :
    Calls Tryz.prog 14 #[.int .i64 k, ctV C fv, v] w fun e w' => e = .returned (.string ⟨#[]⟩) ∧ Below w.heap.size w w' := by
  have HM := hide (mode_any k)
  have HI := hide (ctInAttr_any k)
  have m1 : (modeV k == 1) = false := beq_eq_false_iff_ne.2 hm.1
  have m3 : (modeV k == 3) = false := beq_eq_false_iff_ne.2 hm.2.1
  have m4 : (modeV k == 4) = false := beq_eq_false_iff_ne.2 hm.2.2
  rw [hi] at HI
  generalize modeV k = M at *
  clear hi
  clear hm
  obtain ⟨p, c, rfl, _⟩ := hv
  obtain ⟨fp, fc, rfl, _⟩ := hf
  obtain ⟨c0, c1, c2, c3, c4, c5, c6, c7, c8, c9⟩ := C
  unfold ctV ctCells
  have B0 : Hid (Below w.heap.size w (w.alloc (.cells #[.string c0, .bool c1, .bool c2, .bool c3, .bool c4, .bool c5, .bool c6, .bool c7, .string c8, .slice fp c9.length fc] 24))) := (Below.refl _ w).alloc (Nat.le_refl _) _
  have NP := hide (Bk.new w [.string c0, .bool c1, .bool c2, .bool c3, .bool c4, .bool c5, .bool c6, .bool c7, .string c8, .slice fp c9.length fc] 24)
  go_enter Tryz.func14, Tryz.ntmps14
  go_upto_region 1 with fail
  generalize w.alloc (.cells #[.string c0, .bool c1, .bool c2, .bool c3, .bool c4, .bool c5, .bool c6, .bool c7, .string c8, .slice fp c9.length fc] 24) = w0 at *
  have p0 := NP.out.cell 0 rfl
  have p1 := NP.out.cell 1 rfl
  have p2 := NP.out.cell 2 rfl
  have p3 := NP.out.cell 3 rfl
  have p4 := NP.out.cell 4 rfl
  have p5 := NP.out.cell 5 rfl
  have p6 := NP.out.cell 6 rfl
  have p7 := NP.out.cell 7 rfl
  have p8 := NP.out.cell 8 rfl
  have p9 := NP.out.cell 9 rfl
  go_wp2_with fail
  refine (HM.out _).mono ?_
  rintro e u ⟨rfl, rfl⟩
  go_wp2_with fail
  refine (HI.out _).mono ?_
  rintro e u ⟨rfl, rfl⟩
  go_wp2_with fail
  go_ret
  exact ⟨rfl, B0.out⟩
theorem ctValue_any (k : Int) (C : Ct) (fv v : Value) (ax : List (ByteArray × ByteArray)) (w : World) (hf : FilesV w fv C.files) (hv : AttrsV w v ax) (hz : AxOK ax) (hO : CtOK C) (_hT : CtTabs w) :
    Calls Tryz.prog 14 #[.int .i64 k, ctV C fv, v] w fun e w' => e = .returned (.string (valueP k C ax)) ∧ Below w.heap.size w w' := by
  unfold valueP
  by_cases h1 : modeV k = 1
  · rw [if_pos h1]
    exact ctValue_m1 k C fv v ax w hf hv hz hO h1
  · rw [if_neg h1]
    by_cases h2 : modeV k = 2
    · rw [if_pos h2]
      exact ctValue_iy k C fv v ax w hf hv hz hO ⟨h1, by rw [h2]; decide, by rw [h2]; decide⟩ (decide_eq_true (.inr h2))
    · rw [if_neg h2]
      by_cases h3 : modeV k = 3
      · rw [if_pos h3]
        cases hq : (findA ax valS).isSome with
        | true =>
          rw [if_pos rfl]
          exact ctValue_m3y k C fv v ax w hf hv hz hO h3 hq
        | false =>
          rw [if_neg (by decide)]
          exact ctValue_m3n k C fv v ax w hf hv hz hO h3 hq
      · rw [if_neg h3]
        by_cases h4 : modeV k = 4
        · rw [if_pos h4]
          exact ctValue_m4 k C fv v ax w hf hv hz hO h4
        · rw [if_neg h4]
          cases hp : isPush k with
          | true =>
            rw [if_pos rfl]
            exact ctValue_iy k C fv v ax w hf hv hz hO ⟨h1, h3, h4⟩ (decide_eq_true (.inl hp))
          | false =>
            rw [if_neg (by decide)]
            exact ctValue_in k C fv v ax w hf hv hz hO ⟨h1, h3, h4⟩ (decide_eq_false (fun q => q.elim (fun q => by rw [hp] at q; cases q) h2))

end Go.Proofs.YtfjfkkbgkjmghaaGreatDoor
