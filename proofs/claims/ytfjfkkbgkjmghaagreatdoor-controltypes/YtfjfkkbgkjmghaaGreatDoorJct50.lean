/- What a control has, and how it changes, as functions of kinds, attributes and texts. The program's Reset, Write, Type, Changed, Retype of layer 14. The document's Write and Type of layer 14. -/
import Derived.Test.YtfjfkkbgkjmghaaGreatDoorJct33
import Derived.Test.YtfjfkkbgkjmghaaGreatDoorJct38
import Derived.Test.YtfjfkkbgkjmghaaGreatDoorJct39
import Derived.Test.YtfjfkkbgkjmghaaGreatDoorJct40

namespace Go.Proofs.YtfjfkkbgkjmghaaGreatDoor
open Go.RowKit
def typeP (k : Int) (c : Ct) (s t : ByteArray) : Ct × Int :=
  if 4000 < s.size then (ct0, 2) else if ¬ modeV k = 1 ∨ k = 28 then (ct0, 3) else ({ c with val := t, dirty := true, typed := true }, 0)
theorem type_write {k : Int} {c : Ct} {s t : ByteArray} (h : (typeP k c s t).2 = 0) : (typeP k c s t).1 = { (writeP k c s t).1 with typed := true } := by
  unfold typeP at h ⊢
  unfold writeP
  split at h
  · cases h
  · rename_i h1
    split at h
    · cases h
    · rename_i h2
      have m : modeV k = 1 := Decidable.byContradiction fun q => h2 (.inl q)
      rw [if_neg h1, if_neg h2, if_neg h1, if_pos m]
end Go.Proofs.YtfjfkkbgkjmghaaGreatDoor

namespace Go.Proofs.YtfjfkkbgkjmghaaGreatDoor
open Go.RowKit
set_option maxRecDepth 100000
set_option maxHeartbeats 8000000 in
theorem ctType_long (k : Int) (C : Ct) (fv : Value) (v : Value) (ax : List (ByteArray × ByteArray)) (w : World) (hf : FilesV w fv C.files) (hv : AttrsV w v ax) (_hz : AxOK ax) (s : ByteArray) (hs : s.size ≤ 100000) (_hO : CtOK C) (_hT : CtTabs w) (hl : 4000 < s.size) :
    Calls Tryz.prog 18 #[.int .i64 k, ctV C fv, v, .string s] w fun e w' => e = .returned (.tuple #[ctV ct0 (.slice none 0 0), .int .i64 2]) ∧ Below w.heap.size w w' := by
  have l1 : (4000 : Int) < (s.size : Int) := by omega
  clear hs
  clear hl
  obtain ⟨p, c, rfl, _⟩ := hv
  obtain ⟨fp, fc, rfl, _⟩ := hf
  obtain ⟨c0, c1, c2, c3, c4, c5, c6, c7, c8, c9⟩ := C
  unfold ctV ctCells
  have B0 : Hid (Below w.heap.size w ((w.alloc (.cells #[.string c0, .bool c1, .bool c2, .bool c3, .bool c4, .bool c5, .bool c6, .bool c7, .string c8, .slice fp c9.length fc] 24)).alloc (.cells #[.string ⟨#[]⟩, .bool false, .bool false, .bool false, .bool false, .bool false, .bool false, .bool false, .string ⟨#[]⟩, .slice none 0 0] 24))) := ((Below.refl _ w).alloc (Nat.le_refl _) _).alloc ((Below.refl _ w).alloc (Nat.le_refl _) (.cells #[.string c0, .bool c1, .bool c2, .bool c3, .bool c4, .bool c5, .bool c6, .bool c7, .string c8, .slice fp c9.length fc] 24)).size _
  have NP := hide ((Bk.new w [.string c0, .bool c1, .bool c2, .bool c3, .bool c4, .bool c5, .bool c6, .bool c7, .string c8, .slice fp c9.length fc] 24).below ((Below.refl _ (w.alloc (.cells #[.string c0, .bool c1, .bool c2, .bool c3, .bool c4, .bool c5, .bool c6, .bool c7, .string c8, .slice fp c9.length fc] 24))).alloc (Nat.le_refl _) (.cells #[.string ⟨#[]⟩, .bool false, .bool false, .bool false, .bool false, .bool false, .bool false, .bool false, .string ⟨#[]⟩, .slice none 0 0] 24)))
  have NR0 := hide (Bk.new (w.alloc (.cells #[.string c0, .bool c1, .bool c2, .bool c3, .bool c4, .bool c5, .bool c6, .bool c7, .string c8, .slice fp c9.length fc] 24)) [.string ⟨#[]⟩, .bool false, .bool false, .bool false, .bool false, .bool false, .bool false, .bool false, .string ⟨#[]⟩, .slice none 0 0] 24)
  have NR : Hid (Bk ((w.alloc (.cells #[.string c0, .bool c1, .bool c2, .bool c3, .bool c4, .bool c5, .bool c6, .bool c7, .string c8, .slice fp c9.length fc] 24)).alloc (.cells #[.string ⟨#[]⟩, .bool false, .bool false, .bool false, .bool false, .bool false, .bool false, .bool false, .string ⟨#[]⟩, .slice none 0 0] 24)) (w.heap.size + 1) [.string ⟨#[]⟩, .bool false, .bool false, .bool false, .bool false, .bool false, .bool false, .bool false, .string ⟨#[]⟩, .slice none 0 0] 24) := by
    have e : (w.alloc (.cells #[.string c0, .bool c1, .bool c2, .bool c3, .bool c4, .bool c5, .bool c6, .bool c7, .string c8, .slice fp c9.length fc] 24)).heap.size = w.heap.size + 1 := by simp
    rw [e] at NR0; exact NR0
  clear NR0
  go_enter Tryz.func18, Tryz.ntmps18
  go_upto_region 1 with fail
  generalize (w.alloc (.cells #[.string c0, .bool c1, .bool c2, .bool c3, .bool c4, .bool c5, .bool c6, .bool c7, .string c8, .slice fp c9.length fc] 24)).alloc (.cells #[.string ⟨#[]⟩, .bool false, .bool false, .bool false, .bool false, .bool false, .bool false, .bool false, .string ⟨#[]⟩, .slice none 0 0] 24) = w0 at *
  have l0 : w.heap.size + 1 < w0.heap.size := NR.out.lt
  have r0 := NR.out.cell 0 rfl
  have r1 := NR.out.cell 1 rfl
  have r2 := NR.out.cell 2 rfl
  have r3 := NR.out.cell 3 rfl
  have r4 := NR.out.cell 4 rfl
  have r5 := NR.out.cell 5 rfl
  have r6 := NR.out.cell 6 rfl
  have r7 := NR.out.cell 7 rfl
  have r8 := NR.out.cell 8 rfl
  have r9 := NR.out.cell 9 rfl
  have s0 := NR.out.free 0
  have s1 := NR.out.free 1
  have s2 := NR.out.free 2
  have s3 := NR.out.free 3
  have s4 := NR.out.free 4
  have s5 := NR.out.free 5
  have s6 := NR.out.free 6
  have s7 := NR.out.free 7
  have s8 := NR.out.free 8
  have s9 := NR.out.free 9
  go_wp2_with fail
  refine bodyPost_ret (v := .tuple #[.agg #[.string ⟨#[]⟩, .bool false, .bool false, .bool false, .bool false, .bool false, .bool false, .bool false, .string ⟨#[]⟩, .slice none 0 0], .int .i64 2]) (by simp [results, go_sem, r0, r1, r2, r3, r4, r5, r6, r7, r8, r9]) rfl ?_
  exact ⟨rfl, low_set10 (Nat.le_succ _) B0.out _ _ _ _ _ _ _ _ _ _⟩
set_option maxHeartbeats 8000000 in
theorem ctType_no (k : Int) (C : Ct) (fv : Value) (v : Value) (ax : List (ByteArray × ByteArray)) (w : World) (hf : FilesV w fv C.files) (hv : AttrsV w v ax) (_hz : AxOK ax) (s : ByteArray) (hs : s.size ≤ 100000) (_hO : CtOK C) (_hT : CtTabs w) (hl : ¬ 4000 < s.size) (hm : ¬ modeV k = 1) :
    Calls Tryz.prog 18 #[.int .i64 k, ctV C fv, v, .string s] w fun e w' => e = .returned (.tuple #[ctV ct0 (.slice none 0 0), .int .i64 3]) ∧ Below w.heap.size w w' := by
  have HM := hide (mode_any k)
  have l1 : ¬ (4000 : Int) < (s.size : Int) := by omega
  have l2 : decide ((4000 : Int) < (s.size : Int)) = false := decide_eq_false l1
  have m1 : (modeV k == 1) = false := beq_eq_false_iff_ne.2 hm
  generalize modeV k = M at *
  clear hs
  clear hl hm
  obtain ⟨p, c, rfl, _⟩ := hv
  obtain ⟨fp, fc, rfl, _⟩ := hf
  obtain ⟨c0, c1, c2, c3, c4, c5, c6, c7, c8, c9⟩ := C
  unfold ctV ctCells
  have B0 : Hid (Below w.heap.size w ((w.alloc (.cells #[.string c0, .bool c1, .bool c2, .bool c3, .bool c4, .bool c5, .bool c6, .bool c7, .string c8, .slice fp c9.length fc] 24)).alloc (.cells #[.string ⟨#[]⟩, .bool false, .bool false, .bool false, .bool false, .bool false, .bool false, .bool false, .string ⟨#[]⟩, .slice none 0 0] 24))) := ((Below.refl _ w).alloc (Nat.le_refl _) _).alloc ((Below.refl _ w).alloc (Nat.le_refl _) (.cells #[.string c0, .bool c1, .bool c2, .bool c3, .bool c4, .bool c5, .bool c6, .bool c7, .string c8, .slice fp c9.length fc] 24)).size _
  have NP := hide ((Bk.new w [.string c0, .bool c1, .bool c2, .bool c3, .bool c4, .bool c5, .bool c6, .bool c7, .string c8, .slice fp c9.length fc] 24).below ((Below.refl _ (w.alloc (.cells #[.string c0, .bool c1, .bool c2, .bool c3, .bool c4, .bool c5, .bool c6, .bool c7, .string c8, .slice fp c9.length fc] 24))).alloc (Nat.le_refl _) (.cells #[.string ⟨#[]⟩, .bool false, .bool false, .bool false, .bool false, .bool false, .bool false, .bool false, .string ⟨#[]⟩, .slice none 0 0] 24)))
  have NR0 := hide (Bk.new (w.alloc (.cells #[.string c0, .bool c1, .bool c2, .bool c3, .bool c4, .bool c5, .bool c6, .bool c7, .string c8, .slice fp c9.length fc] 24)) [.string ⟨#[]⟩, .bool false, .bool false, .bool false, .bool false, .bool false, .bool false, .bool false, .string ⟨#[]⟩, .slice none 0 0] 24)
  have NR : Hid (Bk ((w.alloc (.cells #[.string c0, .bool c1, .bool c2, .bool c3, .bool c4, .bool c5, .bool c6, .bool c7, .string c8, .slice fp c9.length fc] 24)).alloc (.cells #[.string ⟨#[]⟩, .bool false, .bool false, .bool false, .bool false, .bool false, .bool false, .bool false, .string ⟨#[]⟩, .slice none 0 0] 24)) (w.heap.size + 1) [.string ⟨#[]⟩, .bool false, .bool false, .bool false, .bool false, .bool false, .bool false, .bool false, .string ⟨#[]⟩, .slice none 0 0] 24) := by
    have e : (w.alloc (.cells #[.string c0, .bool c1, .bool c2, .bool c3, .bool c4, .bool c5, .bool c6, .bool c7, .string c8, .slice fp c9.length fc] 24)).heap.size = w.heap.size + 1 := by simp
    rw [e] at NR0; exact NR0
  clear NR0
  go_enter Tryz.func18, Tryz.ntmps18
  go_upto_region 1 with fail
  generalize (w.alloc (.cells #[.string c0, .bool c1, .bool c2, .bool c3, .bool c4, .bool c5, .bool c6, .bool c7, .string c8, .slice fp c9.length fc] 24)).alloc (.cells #[.string ⟨#[]⟩, .bool false, .bool false, .bool false, .bool false, .bool false, .bool false, .bool false, .string ⟨#[]⟩, .slice none 0 0] 24) = w0 at *
  have l0 : w.heap.size + 1 < w0.heap.size := NR.out.lt
  go_wp2_with fail
  refine (HM.out _).mono ?_
  rintro e u ⟨rfl, hu⟩
  obtain rfl : w0 = u := hu.symm
  have r0 := NR.out.cell 0 rfl
  have r1 := NR.out.cell 1 rfl
  have r2 := NR.out.cell 2 rfl
  have r3 := NR.out.cell 3 rfl
  have r4 := NR.out.cell 4 rfl
  have r5 := NR.out.cell 5 rfl
  have r6 := NR.out.cell 6 rfl
  have r7 := NR.out.cell 7 rfl
  have r8 := NR.out.cell 8 rfl
  have r9 := NR.out.cell 9 rfl
  have s0 := NR.out.free 0
  have s1 := NR.out.free 1
  have s2 := NR.out.free 2
  have s3 := NR.out.free 3
  have s4 := NR.out.free 4
  have s5 := NR.out.free 5
  have s6 := NR.out.free 6
  have s7 := NR.out.free 7
  have s8 := NR.out.free 8
  have s9 := NR.out.free 9
  go_wp2_with fail
  refine bodyPost_ret (v := .tuple #[.agg #[.string ⟨#[]⟩, .bool false, .bool false, .bool false, .bool false, .bool false, .bool false, .bool false, .string ⟨#[]⟩, .slice none 0 0], .int .i64 3]) (by simp [results, go_sem, r0, r1, r2, r3, r4, r5, r6, r7, r8, r9]) rfl ?_
  exact ⟨rfl, low_set10 (Nat.le_succ _) B0.out _ _ _ _ _ _ _ _ _ _⟩
set_option maxHeartbeats 8000000 in
theorem ctType_28 (k : Int) (C : Ct) (fv : Value) (v : Value) (ax : List (ByteArray × ByteArray)) (w : World) (hf : FilesV w fv C.files) (hv : AttrsV w v ax) (_hz : AxOK ax) (s : ByteArray) (hs : s.size ≤ 100000) (_hO : CtOK C) (_hT : CtTabs w) (hl : ¬ 4000 < s.size) (h28 : k = 28) :
    Calls Tryz.prog 18 #[.int .i64 k, ctV C fv, v, .string s] w fun e w' => e = .returned (.tuple #[ctV ct0 (.slice none 0 0), .int .i64 3]) ∧ Below w.heap.size w w' := by
  have HM := hide (mode_any k)
  have l1 : ¬ (4000 : Int) < (s.size : Int) := by omega
  have l2 : decide ((4000 : Int) < (s.size : Int)) = false := decide_eq_false l1
  subst h28
  rw [show modeV 28 = 1 from by decide] at HM
  clear hs
  clear hl
  obtain ⟨p, c, rfl, _⟩ := hv
  obtain ⟨fp, fc, rfl, _⟩ := hf
  obtain ⟨c0, c1, c2, c3, c4, c5, c6, c7, c8, c9⟩ := C
  unfold ctV ctCells
  have B0 : Hid (Below w.heap.size w ((w.alloc (.cells #[.string c0, .bool c1, .bool c2, .bool c3, .bool c4, .bool c5, .bool c6, .bool c7, .string c8, .slice fp c9.length fc] 24)).alloc (.cells #[.string ⟨#[]⟩, .bool false, .bool false, .bool false, .bool false, .bool false, .bool false, .bool false, .string ⟨#[]⟩, .slice none 0 0] 24))) := ((Below.refl _ w).alloc (Nat.le_refl _) _).alloc ((Below.refl _ w).alloc (Nat.le_refl _) (.cells #[.string c0, .bool c1, .bool c2, .bool c3, .bool c4, .bool c5, .bool c6, .bool c7, .string c8, .slice fp c9.length fc] 24)).size _
  have NP := hide ((Bk.new w [.string c0, .bool c1, .bool c2, .bool c3, .bool c4, .bool c5, .bool c6, .bool c7, .string c8, .slice fp c9.length fc] 24).below ((Below.refl _ (w.alloc (.cells #[.string c0, .bool c1, .bool c2, .bool c3, .bool c4, .bool c5, .bool c6, .bool c7, .string c8, .slice fp c9.length fc] 24))).alloc (Nat.le_refl _) (.cells #[.string ⟨#[]⟩, .bool false, .bool false, .bool false, .bool false, .bool false, .bool false, .bool false, .string ⟨#[]⟩, .slice none 0 0] 24)))
  have NR0 := hide (Bk.new (w.alloc (.cells #[.string c0, .bool c1, .bool c2, .bool c3, .bool c4, .bool c5, .bool c6, .bool c7, .string c8, .slice fp c9.length fc] 24)) [.string ⟨#[]⟩, .bool false, .bool false, .bool false, .bool false, .bool false, .bool false, .bool false, .string ⟨#[]⟩, .slice none 0 0] 24)
  have NR : Hid (Bk ((w.alloc (.cells #[.string c0, .bool c1, .bool c2, .bool c3, .bool c4, .bool c5, .bool c6, .bool c7, .string c8, .slice fp c9.length fc] 24)).alloc (.cells #[.string ⟨#[]⟩, .bool false, .bool false, .bool false, .bool false, .bool false, .bool false, .bool false, .string ⟨#[]⟩, .slice none 0 0] 24)) (w.heap.size + 1) [.string ⟨#[]⟩, .bool false, .bool false, .bool false, .bool false, .bool false, .bool false, .bool false, .string ⟨#[]⟩, .slice none 0 0] 24) := by
    have e : (w.alloc (.cells #[.string c0, .bool c1, .bool c2, .bool c3, .bool c4, .bool c5, .bool c6, .bool c7, .string c8, .slice fp c9.length fc] 24)).heap.size = w.heap.size + 1 := by simp
    rw [e] at NR0; exact NR0
  clear NR0
  go_enter Tryz.func18, Tryz.ntmps18
  go_upto_region 1 with fail
  generalize (w.alloc (.cells #[.string c0, .bool c1, .bool c2, .bool c3, .bool c4, .bool c5, .bool c6, .bool c7, .string c8, .slice fp c9.length fc] 24)).alloc (.cells #[.string ⟨#[]⟩, .bool false, .bool false, .bool false, .bool false, .bool false, .bool false, .bool false, .string ⟨#[]⟩, .slice none 0 0] 24) = w0 at *
  have l0 : w.heap.size + 1 < w0.heap.size := NR.out.lt
  go_wp2_with fail
  refine (HM.out _).mono ?_
  rintro e u ⟨rfl, hu⟩
  obtain rfl : w0 = u := hu.symm
  have r0 := NR.out.cell 0 rfl
  have r1 := NR.out.cell 1 rfl
  have r2 := NR.out.cell 2 rfl
  have r3 := NR.out.cell 3 rfl
  have r4 := NR.out.cell 4 rfl
  have r5 := NR.out.cell 5 rfl
  have r6 := NR.out.cell 6 rfl
  have r7 := NR.out.cell 7 rfl
  have r8 := NR.out.cell 8 rfl
  have r9 := NR.out.cell 9 rfl
  have s0 := NR.out.free 0
  have s1 := NR.out.free 1
  have s2 := NR.out.free 2
  have s3 := NR.out.free 3
  have s4 := NR.out.free 4
  have s5 := NR.out.free 5
  have s6 := NR.out.free 6
  have s7 := NR.out.free 7
  have s8 := NR.out.free 8
  have s9 := NR.out.free 9
  go_wp2_with fail
  refine bodyPost_ret (v := .tuple #[.agg #[.string ⟨#[]⟩, .bool false, .bool false, .bool false, .bool false, .bool false, .bool false, .bool false, .string ⟨#[]⟩, .slice none 0 0], .int .i64 3]) (by simp [results, go_sem, r0, r1, r2, r3, r4, r5, r6, r7, r8, r9]) rfl ?_
  exact ⟨rfl, low_set10 (Nat.le_succ _) B0.out _ _ _ _ _ _ _ _ _ _⟩
set_option maxHeartbeats 8000000 in
theorem ctType_m1 (k : Int) (C : Ct) (fv : Value) (v : Value) (ax : List (ByteArray × ByteArray)) (w : World) (hf : FilesV w fv C.files) (hv : AttrsV w v ax) (hz : AxOK ax) (s : ByteArray) (hs : s.size ≤ 100000) (hO : CtOK C) (hT : CtTabs w) (hl : ¬ 4000 < s.size) (hm : modeV k = 1) (h28 : ¬ k = 28) (t : ByteArray) (ht : ClnIs k ax s t) :
    Calls Tryz.prog 18 #[.int .i64 k, ctV C fv, v, .string s] w fun e w' => ∃ fv', e = .returned (.tuple #[ctV { C with val := t, dirty := true, typed := true } fv', .int .i64 0]) ∧ OwnR w.heap.size w' fv' C.files ∧ Below w.heap.size w w' := by
  have HM := hide (mode_any k)
  have l1 : ¬ (4000 : Int) < (s.size : Int) := by omega
  have l2 : decide ((4000 : Int) < (s.size : Int)) = false := decide_eq_false l1
  have HW := hide (fun W (hb : Below w.heap.size w W) => ctWritten_any k C fv v ax W (hf.below hb) (hv.below hb) hz s t true hs ht hO (hT.below hb))
  unfold ctV ctCells at HW
  have b28 : (k == 28) = false := beq_eq_false_iff_ne.2 h28
  rw [hm] at HM
  clear hz hs hO hT
  clear hl hm ht
  obtain ⟨p, c, rfl, _⟩ := hv
  obtain ⟨fp, fc, rfl, _⟩ := hf
  obtain ⟨c0, c1, c2, c3, c4, c5, c6, c7, c8, c9⟩ := C
  unfold ctV ctCells
  have B0 : Hid (Below w.heap.size w ((w.alloc (.cells #[.string c0, .bool c1, .bool c2, .bool c3, .bool c4, .bool c5, .bool c6, .bool c7, .string c8, .slice fp c9.length fc] 24)).alloc (.cells #[.string ⟨#[]⟩, .bool false, .bool false, .bool false, .bool false, .bool false, .bool false, .bool false, .string ⟨#[]⟩, .slice none 0 0] 24))) := ((Below.refl _ w).alloc (Nat.le_refl _) _).alloc ((Below.refl _ w).alloc (Nat.le_refl _) (.cells #[.string c0, .bool c1, .bool c2, .bool c3, .bool c4, .bool c5, .bool c6, .bool c7, .string c8, .slice fp c9.length fc] 24)).size _
  have NP := hide ((Bk.new w [.string c0, .bool c1, .bool c2, .bool c3, .bool c4, .bool c5, .bool c6, .bool c7, .string c8, .slice fp c9.length fc] 24).below ((Below.refl _ (w.alloc (.cells #[.string c0, .bool c1, .bool c2, .bool c3, .bool c4, .bool c5, .bool c6, .bool c7, .string c8, .slice fp c9.length fc] 24))).alloc (Nat.le_refl _) (.cells #[.string ⟨#[]⟩, .bool false, .bool false, .bool false, .bool false, .bool false, .bool false, .bool false, .string ⟨#[]⟩, .slice none 0 0] 24)))
  have NR0 := hide (Bk.new (w.alloc (.cells #[.string c0, .bool c1, .bool c2, .bool c3, .bool c4, .bool c5, .bool c6, .bool c7, .string c8, .slice fp c9.length fc] 24)) [.string ⟨#[]⟩, .bool false, .bool false, .bool false, .bool false, .bool false, .bool false, .bool false, .string ⟨#[]⟩, .slice none 0 0] 24)
  have NR : Hid (Bk ((w.alloc (.cells #[.string c0, .bool c1, .bool c2, .bool c3, .bool c4, .bool c5, .bool c6, .bool c7, .string c8, .slice fp c9.length fc] 24)).alloc (.cells #[.string ⟨#[]⟩, .bool false, .bool false, .bool false, .bool false, .bool false, .bool false, .bool false, .string ⟨#[]⟩, .slice none 0 0] 24)) (w.heap.size + 1) [.string ⟨#[]⟩, .bool false, .bool false, .bool false, .bool false, .bool false, .bool false, .bool false, .string ⟨#[]⟩, .slice none 0 0] 24) := by
    have e : (w.alloc (.cells #[.string c0, .bool c1, .bool c2, .bool c3, .bool c4, .bool c5, .bool c6, .bool c7, .string c8, .slice fp c9.length fc] 24)).heap.size = w.heap.size + 1 := by simp
    rw [e] at NR0; exact NR0
  clear NR0
  go_enter Tryz.func18, Tryz.ntmps18
  go_upto_region 1 with fail
  generalize (w.alloc (.cells #[.string c0, .bool c1, .bool c2, .bool c3, .bool c4, .bool c5, .bool c6, .bool c7, .string c8, .slice fp c9.length fc] 24)).alloc (.cells #[.string ⟨#[]⟩, .bool false, .bool false, .bool false, .bool false, .bool false, .bool false, .bool false, .string ⟨#[]⟩, .slice none 0 0] 24) = w0 at *
  have l0 : w.heap.size + 1 < w0.heap.size := NR.out.lt
  have p0 := NP.out.cell 0 rfl
  have p1 := NP.out.cell 1 rfl
  have p2 := NP.out.cell 2 rfl
  have p3 := NP.out.cell 3 rfl
  have p4 := NP.out.cell 4 rfl
  have p5 := NP.out.cell 5 rfl
  have p6 := NP.out.cell 6 rfl
  have p7 := NP.out.cell 7 rfl
  have p8 := NP.out.cell 8 rfl
  have p9 := NP.out.cell 9 rfl
  go_wp2_with fail
  refine (HM.out _).mono ?_
  rintro e u ⟨rfl, hu⟩
  obtain rfl : w0 = u := hu.symm
  have BC := B0
  have LC : Hid (w.heap.size + 1 < w0.heap.size) := l0
  go_wp2_with fail
  refine (HW.out _ B0.out).mono ?_
  rintro e w1 ⟨f1, rfl, o1, b1⟩
  obtain ⟨p1', kc, rfl⟩ : ∃ p c, f1 = .slice p c9.length c := o1.form
  have B1 := hide (chain BC.out b1)
  have O1 := hide o1
  replace NR := hide (NR.out.below b1)
  have FR : Hid (∀ g, (Value.slice p1' c9.length kc).ownBlock = some g → g ≠ w.heap.size + 1) := fun g hg => by have := (O1.out.at_ g hg).1; have := LC.out; omega
  have LE0 : Hid (w.heap.size ≤ w0.heap.size) := by show _ ≤ _; have := LC.out; omega
  clear o1 b1
  have r0 := NR.out.cell 0 rfl
  have r1 := NR.out.cell 1 rfl
  have r2 := NR.out.cell 2 rfl
  have r3 := NR.out.cell 3 rfl
  have r4 := NR.out.cell 4 rfl
  have r5 := NR.out.cell 5 rfl
  have r6 := NR.out.cell 6 rfl
  have r7 := NR.out.cell 7 rfl
  have r8 := NR.out.cell 8 rfl
  have r9 := NR.out.cell 9 rfl
  have s0 := NR.out.free 0
  have s1 := NR.out.free 1
  have s2 := NR.out.free 2
  have s3 := NR.out.free 3
  have s4 := NR.out.free 4
  have s5 := NR.out.free 5
  have s6 := NR.out.free 6
  have s7 := NR.out.free 7
  have s8 := NR.out.free 8
  have s9 := NR.out.free 9
  go_wp2_with fail
  refine bodyPost_ret (v := .tuple #[.agg #[.string t, .bool true, .bool true, .bool c3, .bool c4, .bool c5, .bool c6, .bool c7, .string c8, .slice p1' c9.length kc], .int .i64 0]) (by simp [results, go_sem, r0, r1, r2, r3, r4, r5, r6, r7, r8, r9]) rfl ?_
  exact ⟨_, rfl, (O1.out.mono LE0.out).set10 FR.out _ _ _ _ _ _ _ _ _ _, low_set10 (Nat.le_succ _) B1.out _ _ _ _ _ _ _ _ _ _⟩
theorem ctType_any (k : Int) (C : Ct) (fv v : Value) (ax : List (ByteArray × ByteArray)) (w : World) (hf : FilesV w fv C.files) (hv : AttrsV w v ax) (hz : AxOK ax) (s : ByteArray) (hs : s.size ≤ 100000) (t : ByteArray) (ht : ClnIs k ax s t) (hO : CtOK C) (hT : CtTabs w) :
    Calls Tryz.prog 18 #[.int .i64 k, ctV C fv, v, .string s] w fun e w' => ∃ fv', e = .returned (.tuple #[ctV (typeP k C s t).1 fv', .int .i64 (typeP k C s t).2]) ∧ FilesV w' fv' (typeP k C s t).1.files ∧ Below w.heap.size w w' := by
  have n0 : ∀ w', FilesV w' (.slice none 0 0) ct0.files := fun w' => files_nil w'
  unfold typeP
  by_cases hl : 4000 < s.size
  · rw [if_pos hl]
    exact (ctType_long k C fv v ax w hf hv hz s hs hO hT hl).mono fun e w' ⟨h, b⟩ => ⟨_, h, n0 _, b⟩
  · rw [if_neg hl]
    by_cases h1 : modeV k = 1
    · by_cases h28 : k = 28
      · rw [if_pos (.inr h28)]
        exact (ctType_28 k C fv v ax w hf hv hz s hs hO hT hl h28).mono fun e w' ⟨h, b⟩ => ⟨_, h, n0 _, b⟩
      · rw [if_neg (fun q => q.elim (fun q => q h1) h28)]
        exact (ctType_m1 k C fv v ax w hf hv hz s hs hO hT hl h1 h28 t ht).mono fun e w' ⟨f, h, o, b⟩ => ⟨f, h, o.files, b⟩
    · rw [if_pos (.inl h1)]
      exact (ctType_no k C fv v ax w hf hv hz s hs hO hT hl h1).mono fun e w' ⟨h, b⟩ => ⟨_, h, n0 _, b⟩
end Go.Proofs.YtfjfkkbgkjmghaaGreatDoor

namespace Go.Proofs.YtfjfkkbgkjmghaaGreatDoor
open Go.RowKit
set_option maxHeartbeats 4000000 in
set_option maxRecDepth 100000 in
theorem refType_long (k : Int) (C : Ct) (fv v : Value) (ax : List (ByteArray × ByteArray)) (w : World) (hf : FilesV w fv C.files) (hv : AttrsV w v ax) (_hz : AxOK ax) (s : ByteArray) (hs : s.size ≤ 100000) (hl : 4000 < s.size) :
    Calls Tryz.prog 19 #[.int .i64 k, ctV C fv, v, .string s] w fun e w' => e = .returned (.tuple #[ctV ct0 (.slice none 0 0), .int .i64 2]) ∧ Below w.heap.size w w' := by
  have HM := hide (fun W => refMode_any k W)
  have l1 : (4000 : Int) < (s.size : Int) := by omega
  clear HM hs hl
  obtain ⟨p, c, rfl, _⟩ := hv
  obtain ⟨fp, fc, rfl, _⟩ := hf
  obtain ⟨c0, c1, c2, c3, c4, c5, c6, c7, c8, c9⟩ := C
  unfold ctV ctCells
  have B0 : Hid (Below w.heap.size w ((w.alloc (.cells #[.string c0, .bool c1, .bool c2, .bool c3, .bool c4, .bool c5, .bool c6, .bool c7, .string c8, .slice fp c9.length fc] 24)).alloc (.cells #[.string ⟨#[]⟩, .bool false, .bool false, .bool false, .bool false, .bool false, .bool false, .bool false, .string ⟨#[]⟩, .slice none 0 0] 24))) := ((Below.refl _ w).alloc (Nat.le_refl _) _).alloc ((Below.refl _ w).alloc (Nat.le_refl _) (.cells #[.string c0, .bool c1, .bool c2, .bool c3, .bool c4, .bool c5, .bool c6, .bool c7, .string c8, .slice fp c9.length fc] 24)).size _
  have NP := hide ((Bk.new w [.string c0, .bool c1, .bool c2, .bool c3, .bool c4, .bool c5, .bool c6, .bool c7, .string c8, .slice fp c9.length fc] 24).below ((Below.refl _ (w.alloc (.cells #[.string c0, .bool c1, .bool c2, .bool c3, .bool c4, .bool c5, .bool c6, .bool c7, .string c8, .slice fp c9.length fc] 24))).alloc (Nat.le_refl _) (.cells #[.string ⟨#[]⟩, .bool false, .bool false, .bool false, .bool false, .bool false, .bool false, .bool false, .string ⟨#[]⟩, .slice none 0 0] 24)))
  have NR0 := hide (Bk.new (w.alloc (.cells #[.string c0, .bool c1, .bool c2, .bool c3, .bool c4, .bool c5, .bool c6, .bool c7, .string c8, .slice fp c9.length fc] 24)) [.string ⟨#[]⟩, .bool false, .bool false, .bool false, .bool false, .bool false, .bool false, .bool false, .string ⟨#[]⟩, .slice none 0 0] 24)
  have NR : Hid (Bk ((w.alloc (.cells #[.string c0, .bool c1, .bool c2, .bool c3, .bool c4, .bool c5, .bool c6, .bool c7, .string c8, .slice fp c9.length fc] 24)).alloc (.cells #[.string ⟨#[]⟩, .bool false, .bool false, .bool false, .bool false, .bool false, .bool false, .bool false, .string ⟨#[]⟩, .slice none 0 0] 24)) (w.heap.size + 1) [.string ⟨#[]⟩, .bool false, .bool false, .bool false, .bool false, .bool false, .bool false, .bool false, .string ⟨#[]⟩, .slice none 0 0] 24) := by
    have e : (w.alloc (.cells #[.string c0, .bool c1, .bool c2, .bool c3, .bool c4, .bool c5, .bool c6, .bool c7, .string c8, .slice fp c9.length fc] 24)).heap.size = w.heap.size + 1 := by simp
    rw [e] at NR0; exact NR0
  clear NR0
  go_enter Tryz.func19, Tryz.ntmps19
  go_upto_region 1 with fail
  generalize (w.alloc (.cells #[.string c0, .bool c1, .bool c2, .bool c3, .bool c4, .bool c5, .bool c6, .bool c7, .string c8, .slice fp c9.length fc] 24)).alloc (.cells #[.string ⟨#[]⟩, .bool false, .bool false, .bool false, .bool false, .bool false, .bool false, .bool false, .string ⟨#[]⟩, .slice none 0 0] 24) = w0 at *
  have p0 := NP.out.cell 0 rfl
  have p1 := NP.out.cell 1 rfl
  have p2 := NP.out.cell 2 rfl
  have p3 := NP.out.cell 3 rfl
  have p4 := NP.out.cell 4 rfl
  have p5 := NP.out.cell 5 rfl
  have p6 := NP.out.cell 6 rfl
  have p7 := NP.out.cell 7 rfl
  have p8 := NP.out.cell 8 rfl
  have p9 := NP.out.cell 9 rfl
  have q0 := NP.out.free 0
  have q1 := NP.out.free 1
  have q2 := NP.out.free 2
  have q3 := NP.out.free 3
  have q4 := NP.out.free 4
  have q5 := NP.out.free 5
  have q6 := NP.out.free 6
  have q7 := NP.out.free 7
  have q8 := NP.out.free 8
  have q9 := NP.out.free 9
  have r0 := NR.out.cell 0 rfl
  have r1 := NR.out.cell 1 rfl
  have r2 := NR.out.cell 2 rfl
  have r3 := NR.out.cell 3 rfl
  have r4 := NR.out.cell 4 rfl
  have r5 := NR.out.cell 5 rfl
  have r6 := NR.out.cell 6 rfl
  have r7 := NR.out.cell 7 rfl
  have r8 := NR.out.cell 8 rfl
  have r9 := NR.out.cell 9 rfl
  have s0 := NR.out.free 0
  have s1 := NR.out.free 1
  have s2 := NR.out.free 2
  have s3 := NR.out.free 3
  have s4 := NR.out.free 4
  have s5 := NR.out.free 5
  have s6 := NR.out.free 6
  have s7 := NR.out.free 7
  have s8 := NR.out.free 8
  have s9 := NR.out.free 9
  go_wp2_with fail
  refine bodyPost_ret (v := .tuple #[.agg #[.string ⟨#[]⟩, .bool false, .bool false, .bool false, .bool false, .bool false, .bool false, .bool false, .string ⟨#[]⟩, .slice none 0 0], .int .i64 2]) (by simp [results, go_sem, r0, r1, r2, r3, r4, r5, r6, r7, r8, r9]) rfl ?_
  exact ⟨rfl, ct_endB (Nat.le_succ _) B0.out _ _ _ _ _ _ _ _ _ _⟩
set_option maxHeartbeats 4000000 in
set_option maxRecDepth 100000 in
theorem refType_no (k : Int) (C : Ct) (fv v : Value) (ax : List (ByteArray × ByteArray)) (w : World) (hf : FilesV w fv C.files) (hv : AttrsV w v ax) (_hz : AxOK ax) (s : ByteArray) (hs : s.size ≤ 100000) (hl : ¬ 4000 < s.size) (hm : ¬ modeV k = 1) :
    Calls Tryz.prog 19 #[.int .i64 k, ctV C fv, v, .string s] w fun e w' => e = .returned (.tuple #[ctV ct0 (.slice none 0 0), .int .i64 3]) ∧ Below w.heap.size w w' := by
  have HM := hide (fun W => refMode_any k W)
  have l1 : ¬ (4000 : Int) < (s.size : Int) := by omega
  have l2 : decide ((4000 : Int) < (s.size : Int)) = false := decide_eq_false l1
  have m1 : (modeV k == 1) = false := beq_eq_false_iff_ne.2 hm
  generalize modeV k = mm at *
  clear hl hs
  obtain ⟨p, c, rfl, _⟩ := hv
  obtain ⟨fp, fc, rfl, _⟩ := hf
  obtain ⟨c0, c1, c2, c3, c4, c5, c6, c7, c8, c9⟩ := C
  unfold ctV ctCells
  have B0 : Hid (Below w.heap.size w ((w.alloc (.cells #[.string c0, .bool c1, .bool c2, .bool c3, .bool c4, .bool c5, .bool c6, .bool c7, .string c8, .slice fp c9.length fc] 24)).alloc (.cells #[.string ⟨#[]⟩, .bool false, .bool false, .bool false, .bool false, .bool false, .bool false, .bool false, .string ⟨#[]⟩, .slice none 0 0] 24))) := ((Below.refl _ w).alloc (Nat.le_refl _) _).alloc ((Below.refl _ w).alloc (Nat.le_refl _) (.cells #[.string c0, .bool c1, .bool c2, .bool c3, .bool c4, .bool c5, .bool c6, .bool c7, .string c8, .slice fp c9.length fc] 24)).size _
  have NP := hide ((Bk.new w [.string c0, .bool c1, .bool c2, .bool c3, .bool c4, .bool c5, .bool c6, .bool c7, .string c8, .slice fp c9.length fc] 24).below ((Below.refl _ (w.alloc (.cells #[.string c0, .bool c1, .bool c2, .bool c3, .bool c4, .bool c5, .bool c6, .bool c7, .string c8, .slice fp c9.length fc] 24))).alloc (Nat.le_refl _) (.cells #[.string ⟨#[]⟩, .bool false, .bool false, .bool false, .bool false, .bool false, .bool false, .bool false, .string ⟨#[]⟩, .slice none 0 0] 24)))
  have NR0 := hide (Bk.new (w.alloc (.cells #[.string c0, .bool c1, .bool c2, .bool c3, .bool c4, .bool c5, .bool c6, .bool c7, .string c8, .slice fp c9.length fc] 24)) [.string ⟨#[]⟩, .bool false, .bool false, .bool false, .bool false, .bool false, .bool false, .bool false, .string ⟨#[]⟩, .slice none 0 0] 24)
  have NR : Hid (Bk ((w.alloc (.cells #[.string c0, .bool c1, .bool c2, .bool c3, .bool c4, .bool c5, .bool c6, .bool c7, .string c8, .slice fp c9.length fc] 24)).alloc (.cells #[.string ⟨#[]⟩, .bool false, .bool false, .bool false, .bool false, .bool false, .bool false, .bool false, .string ⟨#[]⟩, .slice none 0 0] 24)) (w.heap.size + 1) [.string ⟨#[]⟩, .bool false, .bool false, .bool false, .bool false, .bool false, .bool false, .bool false, .string ⟨#[]⟩, .slice none 0 0] 24) := by
    have e : (w.alloc (.cells #[.string c0, .bool c1, .bool c2, .bool c3, .bool c4, .bool c5, .bool c6, .bool c7, .string c8, .slice fp c9.length fc] 24)).heap.size = w.heap.size + 1 := by simp
    rw [e] at NR0; exact NR0
  clear NR0
  go_enter Tryz.func19, Tryz.ntmps19
  go_upto_region 1 with fail
  generalize (w.alloc (.cells #[.string c0, .bool c1, .bool c2, .bool c3, .bool c4, .bool c5, .bool c6, .bool c7, .string c8, .slice fp c9.length fc] 24)).alloc (.cells #[.string ⟨#[]⟩, .bool false, .bool false, .bool false, .bool false, .bool false, .bool false, .bool false, .string ⟨#[]⟩, .slice none 0 0] 24) = w0 at *
  go_wp2_with fail
  refine (HM.out _).mono ?_
  rintro e wm ⟨rfl, hwm⟩
  obtain rfl : w0 = wm := hwm.symm
  have p0 := NP.out.cell 0 rfl
  have p1 := NP.out.cell 1 rfl
  have p2 := NP.out.cell 2 rfl
  have p3 := NP.out.cell 3 rfl
  have p4 := NP.out.cell 4 rfl
  have p5 := NP.out.cell 5 rfl
  have p6 := NP.out.cell 6 rfl
  have p7 := NP.out.cell 7 rfl
  have p8 := NP.out.cell 8 rfl
  have p9 := NP.out.cell 9 rfl
  have q0 := NP.out.free 0
  have q1 := NP.out.free 1
  have q2 := NP.out.free 2
  have q3 := NP.out.free 3
  have q4 := NP.out.free 4
  have q5 := NP.out.free 5
  have q6 := NP.out.free 6
  have q7 := NP.out.free 7
  have q8 := NP.out.free 8
  have q9 := NP.out.free 9
  have r0 := NR.out.cell 0 rfl
  have r1 := NR.out.cell 1 rfl
  have r2 := NR.out.cell 2 rfl
  have r3 := NR.out.cell 3 rfl
  have r4 := NR.out.cell 4 rfl
  have r5 := NR.out.cell 5 rfl
  have r6 := NR.out.cell 6 rfl
  have r7 := NR.out.cell 7 rfl
  have r8 := NR.out.cell 8 rfl
  have r9 := NR.out.cell 9 rfl
  have s0 := NR.out.free 0
  have s1 := NR.out.free 1
  have s2 := NR.out.free 2
  have s3 := NR.out.free 3
  have s4 := NR.out.free 4
  have s5 := NR.out.free 5
  have s6 := NR.out.free 6
  have s7 := NR.out.free 7
  have s8 := NR.out.free 8
  have s9 := NR.out.free 9
  go_wp2_with fail
  refine bodyPost_ret (v := .tuple #[.agg #[.string ⟨#[]⟩, .bool false, .bool false, .bool false, .bool false, .bool false, .bool false, .bool false, .string ⟨#[]⟩, .slice none 0 0], .int .i64 3]) (by simp [results, go_sem, r0, r1, r2, r3, r4, r5, r6, r7, r8, r9]) rfl ?_
  exact ⟨rfl, ct_endB (Nat.le_succ _) B0.out _ _ _ _ _ _ _ _ _ _⟩
set_option maxHeartbeats 4000000 in
set_option maxRecDepth 100000 in
theorem refType_28 (k : Int) (C : Ct) (fv v : Value) (ax : List (ByteArray × ByteArray)) (w : World) (hf : FilesV w fv C.files) (hv : AttrsV w v ax) (_hz : AxOK ax) (s : ByteArray) (hs : s.size ≤ 100000) (hl : ¬ 4000 < s.size) (h28 : k = 28) :
    Calls Tryz.prog 19 #[.int .i64 k, ctV C fv, v, .string s] w fun e w' => e = .returned (.tuple #[ctV ct0 (.slice none 0 0), .int .i64 3]) ∧ Below w.heap.size w w' := by
  have HM := hide (fun W => refMode_any k W)
  have l1 : ¬ (4000 : Int) < (s.size : Int) := by omega
  have l2 : decide ((4000 : Int) < (s.size : Int)) = false := decide_eq_false l1
  subst h28
  rw [show modeV 28 = 1 from by decide] at HM
  clear hl hs
  obtain ⟨p, c, rfl, _⟩ := hv
  obtain ⟨fp, fc, rfl, _⟩ := hf
  obtain ⟨c0, c1, c2, c3, c4, c5, c6, c7, c8, c9⟩ := C
  unfold ctV ctCells
  have B0 : Hid (Below w.heap.size w ((w.alloc (.cells #[.string c0, .bool c1, .bool c2, .bool c3, .bool c4, .bool c5, .bool c6, .bool c7, .string c8, .slice fp c9.length fc] 24)).alloc (.cells #[.string ⟨#[]⟩, .bool false, .bool false, .bool false, .bool false, .bool false, .bool false, .bool false, .string ⟨#[]⟩, .slice none 0 0] 24))) := ((Below.refl _ w).alloc (Nat.le_refl _) _).alloc ((Below.refl _ w).alloc (Nat.le_refl _) (.cells #[.string c0, .bool c1, .bool c2, .bool c3, .bool c4, .bool c5, .bool c6, .bool c7, .string c8, .slice fp c9.length fc] 24)).size _
  have NP := hide ((Bk.new w [.string c0, .bool c1, .bool c2, .bool c3, .bool c4, .bool c5, .bool c6, .bool c7, .string c8, .slice fp c9.length fc] 24).below ((Below.refl _ (w.alloc (.cells #[.string c0, .bool c1, .bool c2, .bool c3, .bool c4, .bool c5, .bool c6, .bool c7, .string c8, .slice fp c9.length fc] 24))).alloc (Nat.le_refl _) (.cells #[.string ⟨#[]⟩, .bool false, .bool false, .bool false, .bool false, .bool false, .bool false, .bool false, .string ⟨#[]⟩, .slice none 0 0] 24)))
  have NR0 := hide (Bk.new (w.alloc (.cells #[.string c0, .bool c1, .bool c2, .bool c3, .bool c4, .bool c5, .bool c6, .bool c7, .string c8, .slice fp c9.length fc] 24)) [.string ⟨#[]⟩, .bool false, .bool false, .bool false, .bool false, .bool false, .bool false, .bool false, .string ⟨#[]⟩, .slice none 0 0] 24)
  have NR : Hid (Bk ((w.alloc (.cells #[.string c0, .bool c1, .bool c2, .bool c3, .bool c4, .bool c5, .bool c6, .bool c7, .string c8, .slice fp c9.length fc] 24)).alloc (.cells #[.string ⟨#[]⟩, .bool false, .bool false, .bool false, .bool false, .bool false, .bool false, .bool false, .string ⟨#[]⟩, .slice none 0 0] 24)) (w.heap.size + 1) [.string ⟨#[]⟩, .bool false, .bool false, .bool false, .bool false, .bool false, .bool false, .bool false, .string ⟨#[]⟩, .slice none 0 0] 24) := by
    have e : (w.alloc (.cells #[.string c0, .bool c1, .bool c2, .bool c3, .bool c4, .bool c5, .bool c6, .bool c7, .string c8, .slice fp c9.length fc] 24)).heap.size = w.heap.size + 1 := by simp
    rw [e] at NR0; exact NR0
  clear NR0
  go_enter Tryz.func19, Tryz.ntmps19
  go_upto_region 1 with fail
  generalize (w.alloc (.cells #[.string c0, .bool c1, .bool c2, .bool c3, .bool c4, .bool c5, .bool c6, .bool c7, .string c8, .slice fp c9.length fc] 24)).alloc (.cells #[.string ⟨#[]⟩, .bool false, .bool false, .bool false, .bool false, .bool false, .bool false, .bool false, .string ⟨#[]⟩, .slice none 0 0] 24) = w0 at *
  go_wp2_with fail
  refine (HM.out _).mono ?_
  rintro e wm ⟨rfl, hwm⟩
  obtain rfl : w0 = wm := hwm.symm
  have p0 := NP.out.cell 0 rfl
  have p1 := NP.out.cell 1 rfl
  have p2 := NP.out.cell 2 rfl
  have p3 := NP.out.cell 3 rfl
  have p4 := NP.out.cell 4 rfl
  have p5 := NP.out.cell 5 rfl
  have p6 := NP.out.cell 6 rfl
  have p7 := NP.out.cell 7 rfl
  have p8 := NP.out.cell 8 rfl
  have p9 := NP.out.cell 9 rfl
  have q0 := NP.out.free 0
  have q1 := NP.out.free 1
  have q2 := NP.out.free 2
  have q3 := NP.out.free 3
  have q4 := NP.out.free 4
  have q5 := NP.out.free 5
  have q6 := NP.out.free 6
  have q7 := NP.out.free 7
  have q8 := NP.out.free 8
  have q9 := NP.out.free 9
  have r0 := NR.out.cell 0 rfl
  have r1 := NR.out.cell 1 rfl
  have r2 := NR.out.cell 2 rfl
  have r3 := NR.out.cell 3 rfl
  have r4 := NR.out.cell 4 rfl
  have r5 := NR.out.cell 5 rfl
  have r6 := NR.out.cell 6 rfl
  have r7 := NR.out.cell 7 rfl
  have r8 := NR.out.cell 8 rfl
  have r9 := NR.out.cell 9 rfl
  have s0 := NR.out.free 0
  have s1 := NR.out.free 1
  have s2 := NR.out.free 2
  have s3 := NR.out.free 3
  have s4 := NR.out.free 4
  have s5 := NR.out.free 5
  have s6 := NR.out.free 6
  have s7 := NR.out.free 7
  have s8 := NR.out.free 8
  have s9 := NR.out.free 9
  go_wp2_with fail
  refine bodyPost_ret (v := .tuple #[.agg #[.string ⟨#[]⟩, .bool false, .bool false, .bool false, .bool false, .bool false, .bool false, .bool false, .string ⟨#[]⟩, .slice none 0 0], .int .i64 3]) (by simp [results, go_sem, r0, r1, r2, r3, r4, r5, r6, r7, r8, r9]) rfl ?_
  exact ⟨rfl, ct_endB (Nat.le_succ _) B0.out _ _ _ _ _ _ _ _ _ _⟩
set_option maxHeartbeats 4000000 in
set_option maxRecDepth 100000 in
theorem refType_m1 (k : Int) (C : Ct) (fv v : Value) (ax : List (ByteArray × ByteArray)) (w : World) (hf : FilesV w fv C.files) (hv : AttrsV w v ax) (hz : AxOK ax) (s : ByteArray) (hs : s.size ≤ 100000) (hl : ¬ 4000 < s.size) (hm : modeV k = 1) (h28 : ¬ k = 28) (t : ByteArray) (ht : ClnIs k ax s t) :
    Calls Tryz.prog 19 #[.int .i64 k, ctV C fv, v, .string s] w fun e w' => e = .returned (.tuple #[ctV { C with val := t, dirty := true, typed := true } fv, .int .i64 0]) ∧ Below w.heap.size w w' := by
  have HM := hide (fun W => refMode_any k W)
  have l1 : ¬ (4000 : Int) < (s.size : Int) := by omega
  have l2 : decide ((4000 : Int) < (s.size : Int)) = false := decide_eq_false l1
  have b28 : (k == 28) = false := beq_eq_false_iff_ne.2 h28
  rw [hm] at HM
  have HC := hide (fun W (hb : Below w.heap.size w W) => refCleaned_any v ax W (hv.below hb) hz ht hs)
  clear ht hm hl hs hz
  obtain ⟨p, c, rfl, _⟩ := hv
  obtain ⟨fp, fc, rfl, _⟩ := hf
  obtain ⟨c0, c1, c2, c3, c4, c5, c6, c7, c8, c9⟩ := C
  unfold ctV ctCells
  have B0 : Hid (Below w.heap.size w ((w.alloc (.cells #[.string c0, .bool c1, .bool c2, .bool c3, .bool c4, .bool c5, .bool c6, .bool c7, .string c8, .slice fp c9.length fc] 24)).alloc (.cells #[.string ⟨#[]⟩, .bool false, .bool false, .bool false, .bool false, .bool false, .bool false, .bool false, .string ⟨#[]⟩, .slice none 0 0] 24))) := ((Below.refl _ w).alloc (Nat.le_refl _) _).alloc ((Below.refl _ w).alloc (Nat.le_refl _) (.cells #[.string c0, .bool c1, .bool c2, .bool c3, .bool c4, .bool c5, .bool c6, .bool c7, .string c8, .slice fp c9.length fc] 24)).size _
  have NP := hide ((Bk.new w [.string c0, .bool c1, .bool c2, .bool c3, .bool c4, .bool c5, .bool c6, .bool c7, .string c8, .slice fp c9.length fc] 24).below ((Below.refl _ (w.alloc (.cells #[.string c0, .bool c1, .bool c2, .bool c3, .bool c4, .bool c5, .bool c6, .bool c7, .string c8, .slice fp c9.length fc] 24))).alloc (Nat.le_refl _) (.cells #[.string ⟨#[]⟩, .bool false, .bool false, .bool false, .bool false, .bool false, .bool false, .bool false, .string ⟨#[]⟩, .slice none 0 0] 24)))
  have NR0 := hide (Bk.new (w.alloc (.cells #[.string c0, .bool c1, .bool c2, .bool c3, .bool c4, .bool c5, .bool c6, .bool c7, .string c8, .slice fp c9.length fc] 24)) [.string ⟨#[]⟩, .bool false, .bool false, .bool false, .bool false, .bool false, .bool false, .bool false, .string ⟨#[]⟩, .slice none 0 0] 24)
  have NR : Hid (Bk ((w.alloc (.cells #[.string c0, .bool c1, .bool c2, .bool c3, .bool c4, .bool c5, .bool c6, .bool c7, .string c8, .slice fp c9.length fc] 24)).alloc (.cells #[.string ⟨#[]⟩, .bool false, .bool false, .bool false, .bool false, .bool false, .bool false, .bool false, .string ⟨#[]⟩, .slice none 0 0] 24)) (w.heap.size + 1) [.string ⟨#[]⟩, .bool false, .bool false, .bool false, .bool false, .bool false, .bool false, .bool false, .string ⟨#[]⟩, .slice none 0 0] 24) := by
    have e : (w.alloc (.cells #[.string c0, .bool c1, .bool c2, .bool c3, .bool c4, .bool c5, .bool c6, .bool c7, .string c8, .slice fp c9.length fc] 24)).heap.size = w.heap.size + 1 := by simp
    rw [e] at NR0; exact NR0
  clear NR0
  go_enter Tryz.func19, Tryz.ntmps19
  go_upto_region 1 with fail
  generalize (w.alloc (.cells #[.string c0, .bool c1, .bool c2, .bool c3, .bool c4, .bool c5, .bool c6, .bool c7, .string c8, .slice fp c9.length fc] 24)).alloc (.cells #[.string ⟨#[]⟩, .bool false, .bool false, .bool false, .bool false, .bool false, .bool false, .bool false, .string ⟨#[]⟩, .slice none 0 0] 24) = w0 at *
  go_wp2_with fail
  refine (HM.out _).mono ?_
  rintro e wm ⟨rfl, hwm⟩
  obtain rfl : w0 = wm := hwm.symm
  go_wp2_with fail
  refine (HC.out _ B0.out).mono ?_
  rintro e wx ⟨rfl, bx⟩
  replace NR := hide (NR.out.below bx)
  replace NP := hide (NP.out.below bx)
  have BX := hide (chain B0.out bx)
  have p0 := NP.out.cell 0 rfl
  have p1 := NP.out.cell 1 rfl
  have p2 := NP.out.cell 2 rfl
  have p3 := NP.out.cell 3 rfl
  have p4 := NP.out.cell 4 rfl
  have p5 := NP.out.cell 5 rfl
  have p6 := NP.out.cell 6 rfl
  have p7 := NP.out.cell 7 rfl
  have p8 := NP.out.cell 8 rfl
  have p9 := NP.out.cell 9 rfl
  have q0 := NP.out.free 0
  have q1 := NP.out.free 1
  have q2 := NP.out.free 2
  have q3 := NP.out.free 3
  have q4 := NP.out.free 4
  have q5 := NP.out.free 5
  have q6 := NP.out.free 6
  have q7 := NP.out.free 7
  have q8 := NP.out.free 8
  have q9 := NP.out.free 9
  have r0 := NR.out.cell 0 rfl
  have r1 := NR.out.cell 1 rfl
  have r2 := NR.out.cell 2 rfl
  have r3 := NR.out.cell 3 rfl
  have r4 := NR.out.cell 4 rfl
  have r5 := NR.out.cell 5 rfl
  have r6 := NR.out.cell 6 rfl
  have r7 := NR.out.cell 7 rfl
  have r8 := NR.out.cell 8 rfl
  have r9 := NR.out.cell 9 rfl
  have s0 := NR.out.free 0
  have s1 := NR.out.free 1
  have s2 := NR.out.free 2
  have s3 := NR.out.free 3
  have s4 := NR.out.free 4
  have s5 := NR.out.free 5
  have s6 := NR.out.free 6
  have s7 := NR.out.free 7
  have s8 := NR.out.free 8
  have s9 := NR.out.free 9
  go_wp2_with fail
  refine bodyPost_ret (v := .tuple #[.agg #[.string t, .bool true, .bool true, .bool c3, .bool c4, .bool c5, .bool c6, .bool c7, .string c8, .slice fp c9.length fc], .int .i64 0]) (by simp [results, go_sem, r0, r1, r2, r3, r4, r5, r6, r7, r8, r9]) rfl ?_
  exact ⟨rfl, ct_endB (Nat.le_succ _) (((BX.out.setCell (Nat.le_refl _) _).setCell (Nat.le_refl _) _).setCell (Nat.le_refl _) _) _ _ _ _ _ _ _ _ _ _⟩
theorem refType_any (k : Int) (C : Ct) (fv v : Value) (ax : List (ByteArray × ByteArray)) (w : World) (hf : FilesV w fv C.files) (hv : AttrsV w v ax) (hz : AxOK ax) (s : ByteArray) (hs : s.size ≤ 100000) (t : ByteArray) (ht : ClnIs k ax s t) :
    Calls Tryz.prog 19 #[.int .i64 k, ctV C fv, v, .string s] w fun e w' => ∃ fv', e = .returned (.tuple #[ctV (typeP k C s t).1 fv', .int .i64 (typeP k C s t).2]) ∧ FilesV w' fv' (typeP k C s t).1.files ∧ Below w.heap.size w w' := by
  have n0 : ∀ w', FilesV w' (.slice none 0 0) ct0.files := fun w' => files_nil w'
  unfold typeP
  by_cases hl : 4000 < s.size
  · rw [if_pos hl]
    exact (refType_long k C fv v ax w hf hv hz s hs hl).mono fun e w' ⟨h, b⟩ => ⟨_, h, n0 _, b⟩
  · rw [if_neg hl]
    by_cases h1 : modeV k = 1
    · by_cases h28 : k = 28
      · rw [if_pos (.inr h28)]
        exact (refType_28 k C fv v ax w hf hv hz s hs hl h28).mono fun e w' ⟨h, b⟩ => ⟨_, h, n0 _, b⟩
      · rw [if_neg (fun q => q.elim (fun q => q h1) h28)]
        exact (refType_m1 k C fv v ax w hf hv hz s hs hl h1 h28 t ht).mono fun e w' ⟨h, b⟩ => ⟨_, h, hf.below b, b⟩
    · rw [if_pos (.inl h1)]
      exact (refType_no k C fv v ax w hf hv hz s hs hl h1).mono fun e w' ⟨h, b⟩ => ⟨_, h, n0 _, b⟩

end Go.Proofs.YtfjfkkbgkjmghaaGreatDoor
