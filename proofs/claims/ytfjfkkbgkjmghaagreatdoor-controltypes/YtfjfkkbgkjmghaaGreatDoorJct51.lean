/- Stage 14's laws ControlWrites, ControlTypes, ControlChanges, ControlRetypes, ControlResets, walked. -/
import Derived.Test.YtfjfkkbgkjmghaaGreatDoorJct34
import Derived.Test.YtfjfkkbgkjmghaaGreatDoorJct46
import Derived.Test.YtfjfkkbgkjmghaaGreatDoorJct50

namespace Go.Proofs.YtfjfkkbgkjmghaaGreatDoor
open Go.RowKit
theorem type_files (k : Int) (C : Ct) (s t : ByteArray) : (typeP k C s t).1.files = C.files ∨ (typeP k C s t).1.files = [] := by
  unfold typeP
  (repeat' split) <;> first | exact .inl rfl | exact .inr rfl
set_option maxHeartbeats 4000000 in
set_option maxRecDepth 100000 in
theorem controlTypes_walk (k : Int) (C : Ct) (fv v : Value) (ax : List (ByteArray × ByteArray)) (w : World) (hf : FilesV w fv C.files) (hF : FsOK C.files) (hcu : C.custom.size ≤ 140737488355328) (hv : AttrsV w v ax) (hl : ax.length ≤ 4398046511104) (s : ByteArray) (hT : CtTabs w) :
    Calls Tryz.prog 5 #[itV k C fv v, .string s] w fun e w' => e = .returned (.bool true) ∧ Below w.heap.size w w' := by
  have HW := hide (fun W (hb : Below w.heap.size w W) => ctWakes_any W (hT.below hb))
  have HG := hide (fun W (hb : Below w.heap.size w W) => ctLong_any k C fv v ax s W (hf.below hb) (hv.below hb) hl)
  have HT := hide hT
  have HV := hide hv
  have HFV := hide hf
  clear hT
  cases q : longI C ax s with
  | true =>
    rw [q] at HG
    clear q HV HFV HT hF hcu
    obtain ⟨p, c, rfl, _⟩ := hv
    obtain ⟨fp, fc, rfl, _⟩ := hf
    obtain ⟨c0, c1, c2, c3, c4, c5, c6, c7, c8, c9⟩ := C
    unfold itV
    have B0 : Hid (Below w.heap.size w (w.alloc (.cells #[.int .i64 k, .string c0, .bool c1, .bool c2, .bool c3, .bool c4, .bool c5, .bool c6, .bool c7, .string c8, .slice fp c9.length fc, .slice p ax.length c] 27))) := (Below.refl _ w).alloc (Nat.le_refl _) _
    have NX := hide (Bk.new w [.int .i64 k, .string c0, .bool c1, .bool c2, .bool c3, .bool c4, .bool c5, .bool c6, .bool c7, .string c8, .slice fp c9.length fc, .slice p ax.length c] 27)
    unfold itV at HG
    go_enter Tryz.func5, Tryz.ntmps5
    go_upto_region 1 with fail
    generalize w.alloc (.cells #[.int .i64 k, .string c0, .bool c1, .bool c2, .bool c3, .bool c4, .bool c5, .bool c6, .bool c7, .string c8, .slice fp c9.length fc, .slice p ax.length c] 27) = w0 at *
    have x0 := NX.out.cell 0 rfl
    have x1 := NX.out.cell 1 rfl
    have x2 := NX.out.cell 2 rfl
    have x3 := NX.out.cell 3 rfl
    have x4 := NX.out.cell 4 rfl
    have x5 := NX.out.cell 5 rfl
    have x6 := NX.out.cell 6 rfl
    have x7 := NX.out.cell 7 rfl
    have x8 := NX.out.cell 8 rfl
    have x9 := NX.out.cell 9 rfl
    have x10 := NX.out.cell 10 rfl
    have x11 := NX.out.cell 11 rfl
    go_wp2_with fail
    refine (HW.out _ B0.out).mono ?_
    rintro e w1 ⟨rfl, b1⟩
    have B1 := hide (chain B0.out b1)
    replace NX := hide (NX.out.below b1)
    clear x0 x1 x2 x3 x4 x5 x6 x7 x8 x9 x10 x11
    have x0 := NX.out.cell 0 rfl
    have x1 := NX.out.cell 1 rfl
    have x2 := NX.out.cell 2 rfl
    have x3 := NX.out.cell 3 rfl
    have x4 := NX.out.cell 4 rfl
    have x5 := NX.out.cell 5 rfl
    have x6 := NX.out.cell 6 rfl
    have x7 := NX.out.cell 7 rfl
    have x8 := NX.out.cell 8 rfl
    have x9 := NX.out.cell 9 rfl
    have x10 := NX.out.cell 10 rfl
    have x11 := NX.out.cell 11 rfl
    go_wp2_with fail
    refine (HG.out _ B1.out).mono ?_
    rintro e w2 ⟨rfl, b2⟩
    go_wp2_with fail
    go_ret
    exact ⟨rfl, chain B1.out b2⟩
  | false =>
    rw [q] at HG
    have S := longI_no q
    have CO : CtOK C := ⟨hF, hcu, Nat.le_trans S.val (by decide)⟩
    clear q
    obtain ⟨t, ht⟩ := cln_some k ax s
    have H1 := hide (fun W (hb : Below w.heap.size w W) => ctType_any k C fv v ax W (HFV.out.below hb) (HV.out.below hb) S.ax s (Nat.le_trans S.s (by decide)) t ht CO (HT.out.below hb))
    have H2 := hide (fun W (hb : Below w.heap.size w W) => refType_any k C fv v ax W (HFV.out.below hb) (HV.out.below hb) S.ax s (Nat.le_trans S.s (by decide)) t ht)
    have H6 := hide (fun W (hb : Below w.heap.size w W) => ctWrite_any k C fv v ax W (HFV.out.below hb) (HV.out.below hb) S.ax s (Nat.le_trans S.s (by decide)) t ht CO (HT.out.below hb))
    have TW := hide (fun h => type_write (k := k) (c := C) (s := s) (t := t) h)
    have few := few_of hF (type_files k C s t)
    generalize writeP k C s t = WQ at *
    generalize typeP k C s t = WP at *
    obtain ⟨SP, wz⟩ := WP
    obtain ⟨QP, qb, qz⟩ := WQ
    have H5 := hide (fun W va vb (ha : CtlV W va SP) (hb : CtlV W vb SP) => refCtSame_yes va vb SP W ha hb few)
    replace TW : Hid (wz = 0 → SP = { QP with typed := true }) := TW
    clear S ht hF hcu CO HT HV HFV
    obtain ⟨p, c, rfl, _⟩ := hv
    obtain ⟨fp, fc, rfl, _⟩ := hf
    obtain ⟨c0, c1, c2, c3, c4, c5, c6, c7, c8, c9⟩ := C
    unfold itV
    have B0 : Hid (Below w.heap.size w (w.alloc (.cells #[.int .i64 k, .string c0, .bool c1, .bool c2, .bool c3, .bool c4, .bool c5, .bool c6, .bool c7, .string c8, .slice fp c9.length fc, .slice p ax.length c] 27))) := (Below.refl _ w).alloc (Nat.le_refl _) _
    have NX := hide (Bk.new w [.int .i64 k, .string c0, .bool c1, .bool c2, .bool c3, .bool c4, .bool c5, .bool c6, .bool c7, .string c8, .slice fp c9.length fc, .slice p ax.length c] 27)
    unfold itV at HG
    go_enter Tryz.func5, Tryz.ntmps5
    go_upto_region 1 with fail
    generalize w.alloc (.cells #[.int .i64 k, .string c0, .bool c1, .bool c2, .bool c3, .bool c4, .bool c5, .bool c6, .bool c7, .string c8, .slice fp c9.length fc, .slice p ax.length c] 27) = w0 at *
    have x0 := NX.out.cell 0 rfl
    have x1 := NX.out.cell 1 rfl
    have x2 := NX.out.cell 2 rfl
    have x3 := NX.out.cell 3 rfl
    have x4 := NX.out.cell 4 rfl
    have x5 := NX.out.cell 5 rfl
    have x6 := NX.out.cell 6 rfl
    have x7 := NX.out.cell 7 rfl
    have x8 := NX.out.cell 8 rfl
    have x9 := NX.out.cell 9 rfl
    have x10 := NX.out.cell 10 rfl
    have x11 := NX.out.cell 11 rfl
    go_wp2_with fail
    refine (HW.out _ B0.out).mono ?_
    rintro e w1 ⟨rfl, b1⟩
    have B1 := hide (chain B0.out b1)
    replace NX := hide (NX.out.below b1)
    clear x0 x1 x2 x3 x4 x5 x6 x7 x8 x9 x10 x11 b1 B0
    have x0 := NX.out.cell 0 rfl
    have x1 := NX.out.cell 1 rfl
    have x2 := NX.out.cell 2 rfl
    have x3 := NX.out.cell 3 rfl
    have x4 := NX.out.cell 4 rfl
    have x5 := NX.out.cell 5 rfl
    have x6 := NX.out.cell 6 rfl
    have x7 := NX.out.cell 7 rfl
    have x8 := NX.out.cell 8 rfl
    have x9 := NX.out.cell 9 rfl
    have x10 := NX.out.cell 10 rfl
    have x11 := NX.out.cell 11 rfl
    go_wp2_with fail
    refine (HG.out _ B1.out).mono ?_
    rintro e w2 ⟨rfl, b2⟩
    have B2 := hide (chain B1.out b2)
    replace NX := hide (NX.out.below b2)
    clear x0 x1 x2 x3 x4 x5 x6 x7 x8 x9 x10 x11 b2 B1 HW HG
    have x0 := NX.out.cell 0 rfl
    have x1 := NX.out.cell 1 rfl
    have x2 := NX.out.cell 2 rfl
    have x3 := NX.out.cell 3 rfl
    have x4 := NX.out.cell 4 rfl
    have x5 := NX.out.cell 5 rfl
    have x6 := NX.out.cell 6 rfl
    have x7 := NX.out.cell 7 rfl
    have x8 := NX.out.cell 8 rfl
    have x9 := NX.out.cell 9 rfl
    have x10 := NX.out.cell 10 rfl
    have x11 := NX.out.cell 11 rfl
    obtain ⟨s0, s1, s2, s3, s4, s5, s6, s7, s8, s9⟩ := SP
    obtain ⟨q0, q1, q2, q3, q4, q5, q6, q7, q8, q9⟩ := QP
    unfold ctV ctCells at H1 H2 H6
    by_cases wn : wz = 0
    · have te := TW.out wn
      obtain ⟨rfl, rfl, rfl, rfl, rfl, rfl, rfl, rfl, rfl, rfl⟩ : s0 = q0 ∧ s1 = q1 ∧ s2 = true ∧ s3 = q3 ∧ s4 = q4 ∧ s5 = q5 ∧ s6 = q6 ∧ s7 = q7 ∧ s8 = q8 ∧ s9 = q9 := by
        have h := Ct.mk.inj te
        exact ⟨h.1, h.2.1, h.2.2.1, h.2.2.2.1, h.2.2.2.2.1, h.2.2.2.2.2.1, h.2.2.2.2.2.2.1, h.2.2.2.2.2.2.2.1, h.2.2.2.2.2.2.2.2.1, h.2.2.2.2.2.2.2.2.2⟩
      subst wn
      clear TW te
      go_wp2_with fail
      refine (H1.out _ B2.out).mono ?_
      rintro e w3 ⟨f3, rfl, g3, b3⟩
      have G3 := hide g3
      obtain ⟨p3, d3, rfl, _⟩ := g3
      have B3 := hide (chain B2.out b3)
      have NX3 := hide (NX.out.below b3)
      have lt3 : w.heap.size < w3.heap.size := NX3.out.lt
      have ne3 : w.heap.size ≠ w3.heap.size := by omega
      clear NX B2 b3
      clear x0 x1 x2 x3 x4 x5 x6 x7 x8 x9 x10 x11
      have x0 := NX3.out.cell 0 rfl
      have x1 := NX3.out.cell 1 rfl
      have x2 := NX3.out.cell 2 rfl
      have x3 := NX3.out.cell 3 rfl
      have x4 := NX3.out.cell 4 rfl
      have x5 := NX3.out.cell 5 rfl
      have x6 := NX3.out.cell 6 rfl
      have x7 := NX3.out.cell 7 rfl
      have x8 := NX3.out.cell 8 rfl
      have x9 := NX3.out.cell 9 rfl
      have x10 := NX3.out.cell 10 rfl
      have x11 := NX3.out.cell 11 rfl
      have BX : Hid (Below w3.heap.size w3 (w3.alloc (.cells #[.string s0, .bool s1, .bool true, .bool s3, .bool s4, .bool s5, .bool s6, .bool s7, .string s8, .slice p3 s9.length d3] 24))) := (Below.refl _ w3).alloc (Nat.le_refl _) _
      have NC := hide (Bk.new w3 [.string s0, .bool s1, .bool true, .bool s3, .bool s4, .bool s5, .bool s6, .bool s7, .string s8, .slice p3 s9.length d3] 24)
      go_wp2_with fail
      generalize w3.alloc (.cells #[.string s0, .bool s1, .bool true, .bool s3, .bool s4, .bool s5, .bool s6, .bool s7, .string s8, .slice p3 s9.length d3] 24) = y3 at *
      have Y3 := hide (chain B3.out BX.out)
      have GY := hide (G3.out.below BX.out)
      refine (H2.out _ Y3.out).mono ?_
      rintro e w4 ⟨f4, rfl, g4, b4⟩
      have B4 := hide (chain Y3.out b4)
      have NC4 := hide (NC.out.below b4)
      have lt4 : w3.heap.size < w4.heap.size := NC4.out.lt
      have ne4 : w3.heap.size ≠ w4.heap.size := by omega
      have G4 := hide g4
      obtain ⟨p4, d4, rfl, _⟩ := g4
      have AL : Hid (Below w4.heap.size w4 (w4.alloc (.cells #[.string s0, .bool s1, .bool true, .bool s3, .bool s4, .bool s5, .bool s6, .bool s7, .string s8, .slice p4 s9.length d4] 24))) := (Below.refl _ w4).alloc (Nat.le_refl _) _
      have NX4 := hide ((NX3.out.below BX.out).below b4)
      clear NX3 BX NC ne3
      clear x0 x1 x2 x3 x4 x5 x6 x7 x8 x9 x10 x11
      have k0 := NC4.out.cell 0 rfl
      have k1 := NC4.out.cell 1 rfl
      have k2 := NC4.out.cell 2 rfl
      have k3 := NC4.out.cell 3 rfl
      have k4 := NC4.out.cell 4 rfl
      have k5 := NC4.out.cell 5 rfl
      have k6 := NC4.out.cell 6 rfl
      have k7 := NC4.out.cell 7 rfl
      have k8 := NC4.out.cell 8 rfl
      have k9 := NC4.out.cell 9 rfl
      go_wp2_with fail
      refine (H5.out _ _ _ ⟨_, rfl, (GY.out.below b4).below AL.out⟩ ⟨_, rfl, (G4.out).below AL.out⟩).mono ?_
      rintro e w5 ⟨rfl, b5⟩
      have B5 := hide (chain (chain B4.out AL.out) b5)
      have NX5 := hide ((NX4.out.below AL.out).below b5)
      have NC5 := hide ((NC4.out.below AL.out).below b5)
      have GC := hide (((GY.out.below b4).below AL.out).below b5)
      clear k0 k1 k2 k3 k4 k5 k6 k7 k8 k9 NX4 NC4
      have x0 := NX5.out.cell 0 rfl
      have x1 := NX5.out.cell 1 rfl
      have x2 := NX5.out.cell 2 rfl
      have x3 := NX5.out.cell 3 rfl
      have x4 := NX5.out.cell 4 rfl
      have x5 := NX5.out.cell 5 rfl
      have x6 := NX5.out.cell 6 rfl
      have x7 := NX5.out.cell 7 rfl
      have x8 := NX5.out.cell 8 rfl
      have x9 := NX5.out.cell 9 rfl
      have x10 := NX5.out.cell 10 rfl
      have x11 := NX5.out.cell 11 rfl
      go_wp2_with fail
      refine (H6.out _ B5.out).mono ?_
      rintro e w6 ⟨f6, rfl, g6, b6⟩
      have G6 := hide g6
      obtain ⟨p6, d6, rfl, _⟩ := g6
      have NC6 := hide (NC5.out.below b6)
      have lt6 : w3.heap.size < w6.heap.size := NC6.out.lt
      have ne6 : w3.heap.size ≠ w6.heap.size := by omega
      have A6 : Hid (Below w6.heap.size w6 (w6.alloc (.cells #[.string s0, .bool s1, .bool true, .bool s3, .bool s4, .bool s5, .bool s6, .bool s7, .string s8, .slice p6 s9.length d6] 24))) := (Below.refl _ w6).alloc (Nat.le_refl _) _
      clear x0 x1 x2 x3 x4 x5 x6 x7 x8 x9 x10 x11 NX5 NC5
      have k0 := NC6.out.cell 0 rfl
      have k1 := NC6.out.cell 1 rfl
      have k2 := NC6.out.cell 2 rfl
      have k3 := NC6.out.cell 3 rfl
      have k4 := NC6.out.cell 4 rfl
      have k5 := NC6.out.cell 5 rfl
      have k6 := NC6.out.cell 6 rfl
      have k7 := NC6.out.cell 7 rfl
      have k8 := NC6.out.cell 8 rfl
      have k9 := NC6.out.cell 9 rfl
      go_wp2_with fail
      refine (H5.out _ _ _ ⟨_, rfl, (GC.out.below b6).below A6.out⟩ ⟨_, rfl, G6.out.below A6.out⟩).mono ?_
      rintro e w7 ⟨rfl, b7⟩
      go_wp2_with fail
      go_ret
      exact ⟨rfl, chain (chain (chain B5.out b6) A6.out) b7⟩
    · have z1 : (wz == 0) = false := beq_eq_false_iff_ne.2 wn
      have z2 : (wz != 0) = true := by unfold bne; rw [z1]; rfl
      clear TW H6
      go_wp2_with fail
      refine (H1.out _ B2.out).mono ?_
      rintro e w3 ⟨f3, rfl, g3, b3⟩
      have G3 := hide g3
      obtain ⟨p3, d3, rfl, _⟩ := g3
      have B3 := hide (chain B2.out b3)
      have NX3 := hide (NX.out.below b3)
      have lt3 : w.heap.size < w3.heap.size := NX3.out.lt
      have ne3 : w.heap.size ≠ w3.heap.size := by omega
      clear NX B2 b3
      clear x0 x1 x2 x3 x4 x5 x6 x7 x8 x9 x10 x11
      have x0 := NX3.out.cell 0 rfl
      have x1 := NX3.out.cell 1 rfl
      have x2 := NX3.out.cell 2 rfl
      have x3 := NX3.out.cell 3 rfl
      have x4 := NX3.out.cell 4 rfl
      have x5 := NX3.out.cell 5 rfl
      have x6 := NX3.out.cell 6 rfl
      have x7 := NX3.out.cell 7 rfl
      have x8 := NX3.out.cell 8 rfl
      have x9 := NX3.out.cell 9 rfl
      have x10 := NX3.out.cell 10 rfl
      have x11 := NX3.out.cell 11 rfl
      have BX : Hid (Below w3.heap.size w3 (w3.alloc (.cells #[.string s0, .bool s1, .bool s2, .bool s3, .bool s4, .bool s5, .bool s6, .bool s7, .string s8, .slice p3 s9.length d3] 24))) := (Below.refl _ w3).alloc (Nat.le_refl _) _
      have NC := hide (Bk.new w3 [.string s0, .bool s1, .bool s2, .bool s3, .bool s4, .bool s5, .bool s6, .bool s7, .string s8, .slice p3 s9.length d3] 24)
      go_wp2_with fail
      generalize w3.alloc (.cells #[.string s0, .bool s1, .bool s2, .bool s3, .bool s4, .bool s5, .bool s6, .bool s7, .string s8, .slice p3 s9.length d3] 24) = y3 at *
      have Y3 := hide (chain B3.out BX.out)
      have GY := hide (G3.out.below BX.out)
      refine (H2.out _ Y3.out).mono ?_
      rintro e w4 ⟨f4, rfl, g4, b4⟩
      have B4 := hide (chain Y3.out b4)
      have NC4 := hide (NC.out.below b4)
      have lt4 : w3.heap.size < w4.heap.size := NC4.out.lt
      have ne4 : w3.heap.size ≠ w4.heap.size := by omega
      have G4 := hide g4
      obtain ⟨p4, d4, rfl, _⟩ := g4
      have AL : Hid (Below w4.heap.size w4 (w4.alloc (.cells #[.string s0, .bool s1, .bool s2, .bool s3, .bool s4, .bool s5, .bool s6, .bool s7, .string s8, .slice p4 s9.length d4] 24))) := (Below.refl _ w4).alloc (Nat.le_refl _) _
      have NX4 := hide ((NX3.out.below BX.out).below b4)
      clear NX3 BX NC ne3
      clear x0 x1 x2 x3 x4 x5 x6 x7 x8 x9 x10 x11
      have k0 := NC4.out.cell 0 rfl
      have k1 := NC4.out.cell 1 rfl
      have k2 := NC4.out.cell 2 rfl
      have k3 := NC4.out.cell 3 rfl
      have k4 := NC4.out.cell 4 rfl
      have k5 := NC4.out.cell 5 rfl
      have k6 := NC4.out.cell 6 rfl
      have k7 := NC4.out.cell 7 rfl
      have k8 := NC4.out.cell 8 rfl
      have k9 := NC4.out.cell 9 rfl
      go_wp2_with fail
      refine (H5.out _ _ _ ⟨_, rfl, (GY.out.below b4).below AL.out⟩ ⟨_, rfl, (G4.out).below AL.out⟩).mono ?_
      rintro e w5 ⟨rfl, b5⟩
      have B5 := hide (chain (chain B4.out AL.out) b5)
      go_wp2_with fail
      go_ret
      exact ⟨rfl, B5.out⟩

end Go.Proofs.YtfjfkkbgkjmghaaGreatDoor
