/- Stage 14's law ControlClean, walked. -/
import Derived.Test.YtfjfkkbgkjmghaaGreatDoorJct34
import Derived.Test.YtfjfkkbgkjmghaaGreatDoorJct35
import Derived.Test.YtfjfkkbgkjmghaaGreatDoorJct41
import Derived.Test.YtfjfkkbgkjmghaaGreatDoorJct47
import Derived.Test.YtfjfkkbgkjmghaaGreatDoorJct58
import Derived.Test.YtfjfkkbgkjmghaaGreatDoorJct60

namespace Go.Proofs.YtfjfkkbgkjmghaaGreatDoor
open Go.RowKit
set_option maxHeartbeats 4000000 in
set_option maxRecDepth 100000 in
theorem controlClean_walk (k : Int) (C : Ct) (fv v : Value) (ax : List (ByteArray × ByteArray)) (w : World) (hf : FilesV w fv C.files) (hF : FsOK C.files) (hcu : C.custom.size ≤ 140737488355328) (hv : AttrsV w v ax) (hl : ax.length ≤ 4398046511104) (s : ByteArray) (old : Int) (hT : CtTabs w) :
    Calls Tryz.prog 8 #[itV k C fv v, .string s, .int .i64 old] w fun e w' => e = .returned (.bool true) ∧ Below w.heap.size w w' := by
  have HW := hide (fun W (hb : Below w.heap.size w W) => ctWakes_any W (hT.below hb))
  have HG := hide (fun W (hb : Below w.heap.size w W) => ctLong_any k C fv v ax s W (hf.below hb) (hv.below hb) hl)
  have HT := hide hT
  have HV := hide hv
  have HFV := hide hf
  clear hT
  cases q : longI C ax s with
  | true =>
    rw [q] at HG
    clear q HV HFV HT hF hcu
    obtain ⟨p, c, rfl, _⟩ := hv
    obtain ⟨fp, fc, rfl, _⟩ := hf
    obtain ⟨c0, c1, c2, c3, c4, c5, c6, c7, c8, c9⟩ := C
    unfold itV
    have B0 : Hid (Below w.heap.size w (w.alloc (.cells #[.int .i64 k, .string c0, .bool c1, .bool c2, .bool c3, .bool c4, .bool c5, .bool c6, .bool c7, .string c8, .slice fp c9.length fc, .slice p ax.length c] 27))) := (Below.refl _ w).alloc (Nat.le_refl _) _
    have NX := hide (Bk.new w [.int .i64 k, .string c0, .bool c1, .bool c2, .bool c3, .bool c4, .bool c5, .bool c6, .bool c7, .string c8, .slice fp c9.length fc, .slice p ax.length c] 27)
    unfold itV at HG
    go_enter Tryz.func8, Tryz.ntmps8
    go_upto_region 1 with fail
    generalize w.alloc (.cells #[.int .i64 k, .string c0, .bool c1, .bool c2, .bool c3, .bool c4, .bool c5, .bool c6, .bool c7, .string c8, .slice fp c9.length fc, .slice p ax.length c] 27) = w0 at *
    have x0 := NX.out.cell 0 rfl
    have x1 := NX.out.cell 1 rfl
    have x2 := NX.out.cell 2 rfl
    have x3 := NX.out.cell 3 rfl
    have x4 := NX.out.cell 4 rfl
    have x5 := NX.out.cell 5 rfl
    have x6 := NX.out.cell 6 rfl
    have x7 := NX.out.cell 7 rfl
    have x8 := NX.out.cell 8 rfl
    have x9 := NX.out.cell 9 rfl
    have x10 := NX.out.cell 10 rfl
    have x11 := NX.out.cell 11 rfl
    go_wp2_with fail
    refine (HW.out _ B0.out).mono ?_
    rintro e w1 ⟨rfl, b1⟩
    have B1 := hide (chain B0.out b1)
    replace NX := hide (NX.out.below b1)
    clear x0 x1 x2 x3 x4 x5 x6 x7 x8 x9 x10 x11
    have x0 := NX.out.cell 0 rfl
    have x1 := NX.out.cell 1 rfl
    have x2 := NX.out.cell 2 rfl
    have x3 := NX.out.cell 3 rfl
    have x4 := NX.out.cell 4 rfl
    have x5 := NX.out.cell 5 rfl
    have x6 := NX.out.cell 6 rfl
    have x7 := NX.out.cell 7 rfl
    have x8 := NX.out.cell 8 rfl
    have x9 := NX.out.cell 9 rfl
    have x10 := NX.out.cell 10 rfl
    have x11 := NX.out.cell 11 rfl
    go_wp2_with fail
    refine (HG.out _ B1.out).mono ?_
    rintro e w2 ⟨rfl, b2⟩
    go_wp2_with fail
    go_ret
    exact ⟨rfl, chain B1.out b2⟩
  | false =>
    rw [q] at HG
    have S := longI_no q
    have CO : CtOK C := ⟨hF, hcu, Nat.le_trans S.val (by decide)⟩
    clear q
    obtain ⟨t1, ht1⟩ := cln_some k ax (srcS k ax s)
    obtain ⟨t2, ht2⟩ := cln_some k ax s
    obtain ⟨t3, ht3⟩ := cln_some k ax (retA old k C ax).val
    have H1 := hide (fun W (hb : Below w.heap.size w W) => ctStart_any k v ax W (HV.out.below hb) S.ax s t1 ht1 (Nat.le_trans S.s (by decide)) (HT.out.below hb))
    have H2 := hide (fun W (hb : Below w.heap.size w W) => ctReset_any k C fv v ax W (HFV.out.below hb) (HV.out.below hb) S.ax s t1 ht1 (Nat.le_trans S.s (by decide)) hcu (HT.out.below hb))
    have H3 := hide (fun W (hb : Below w.heap.size w W) => ctWrite_any k C fv v ax W (HFV.out.below hb) (HV.out.below hb) S.ax s (Nat.le_trans S.s (by decide)) t2 ht2 CO (HT.out.below hb))
    have H4 := hide (fun (hk : 2 ≤ k ∧ k ≤ 15) W (hb : Below w.heap.size w W) => ctRetype_any old k C fv v ax W (HFV.out.below hb) (HV.out.below hb) S.ax t3 ht3 hk CO (HT.out.below hb))
    have H5 := hide (fun (u : ByteArray) (hu : FixS k ax u) W (hb : Below w.heap.size w W) => refCleanV_any v ax W (HV.out.below hb) S.ax hu.1 hu.2)
    have F1 := hide (fun a b => start_fix (k := k) (ax := ax) (text := s) (t := t1) a b ht1 (by unfold srcS; split; exact S.s; exact fnd_8192 S.small _))
    have F3 := hide (fun a => write_fix (C := C) a ht2 S.s)
    have F4 := hide (fun a => ret_fix (old := old) (C := C) a ht3 (ret_small S.val S.small))
    have F2 : Hid ((resetP k C ax s t1).val = (startP k ax s t1).val) := rfl
    generalize resetP k C ax s t1 = RP at *
    generalize startP k ax s t1 = SP at *
    generalize writeP k C s t2 = WP at *
    generalize retypeP old k C ax t3 = TP at *
    have few0 := hF.len
    clear S ht1 ht2 ht3 hF hcu CO HT HV HFV few0
    obtain ⟨p, c, rfl, _⟩ := hv
    obtain ⟨fp, fc, rfl, _⟩ := hf
    obtain ⟨c0, c1, c2, c3, c4, c5, c6, c7, c8, c9⟩ := C
    unfold itV
    have B0 : Hid (Below w.heap.size w (w.alloc (.cells #[.int .i64 k, .string c0, .bool c1, .bool c2, .bool c3, .bool c4, .bool c5, .bool c6, .bool c7, .string c8, .slice fp c9.length fc, .slice p ax.length c] 27))) := (Below.refl _ w).alloc (Nat.le_refl _) _
    have NX := hide (Bk.new w [.int .i64 k, .string c0, .bool c1, .bool c2, .bool c3, .bool c4, .bool c5, .bool c6, .bool c7, .string c8, .slice fp c9.length fc, .slice p ax.length c] 27)
    unfold itV at HG
    go_enter Tryz.func8, Tryz.ntmps8
    go_upto_region 1 with fail
    generalize w.alloc (.cells #[.int .i64 k, .string c0, .bool c1, .bool c2, .bool c3, .bool c4, .bool c5, .bool c6, .bool c7, .string c8, .slice fp c9.length fc, .slice p ax.length c] 27) = w0 at *
    have x0 := NX.out.cell 0 rfl
    have x1 := NX.out.cell 1 rfl
    have x2 := NX.out.cell 2 rfl
    have x3 := NX.out.cell 3 rfl
    have x4 := NX.out.cell 4 rfl
    have x5 := NX.out.cell 5 rfl
    have x6 := NX.out.cell 6 rfl
    have x7 := NX.out.cell 7 rfl
    have x8 := NX.out.cell 8 rfl
    have x9 := NX.out.cell 9 rfl
    have x10 := NX.out.cell 10 rfl
    have x11 := NX.out.cell 11 rfl
    go_wp2_with fail
    refine (HW.out _ B0.out).mono ?_
    rintro e w1 ⟨rfl, b1⟩
    have B1 := hide (chain B0.out b1)
    replace NX := hide (NX.out.below b1)
    clear x0 x1 x2 x3 x4 x5 x6 x7 x8 x9 x10 x11 b1 B0
    have x0 := NX.out.cell 0 rfl
    have x1 := NX.out.cell 1 rfl
    have x2 := NX.out.cell 2 rfl
    have x3 := NX.out.cell 3 rfl
    have x4 := NX.out.cell 4 rfl
    have x5 := NX.out.cell 5 rfl
    have x6 := NX.out.cell 6 rfl
    have x7 := NX.out.cell 7 rfl
    have x8 := NX.out.cell 8 rfl
    have x9 := NX.out.cell 9 rfl
    have x10 := NX.out.cell 10 rfl
    have x11 := NX.out.cell 11 rfl
    go_wp2_with fail
    refine (HG.out _ B1.out).mono ?_
    rintro e w2 ⟨rfl, b2⟩
    have B2 := hide (chain B1.out b2)
    replace NX := hide (NX.out.below b2)
    clear x0 x1 x2 x3 x4 x5 x6 x7 x8 x9 x10 x11 b2 B1 HW HG
    have x0 := NX.out.cell 0 rfl
    have x1 := NX.out.cell 1 rfl
    have x2 := NX.out.cell 2 rfl
    have x3 := NX.out.cell 3 rfl
    have x4 := NX.out.cell 4 rfl
    have x5 := NX.out.cell 5 rfl
    have x6 := NX.out.cell 6 rfl
    have x7 := NX.out.cell 7 rfl
    have x8 := NX.out.cell 8 rfl
    have x9 := NX.out.cell 9 rfl
    have x10 := NX.out.cell 10 rfl
    have x11 := NX.out.cell 11 rfl
    obtain ⟨a0, a1, a2, a3, a4, a5, a6, a7, a8, a9⟩ := SP
    obtain ⟨r0, r1, r2, r3, r4, r5, r6, r7, r8, r9⟩ := RP
    obtain ⟨⟨s0, s1, s2, s3, s4, s5, s6, s7, s8, s9⟩, wb, wz⟩ := WP
    obtain ⟨⟨u0, u1, u2, u3, u4, u5, u6, u7, u8, u9⟩, ts, tb⟩ := TP
    unfold ctV ctCells at H1 H2 H3 H4
    by_cases h24 : k = 24
    · subst h24
      go_wp2_with fail
      go_ret
      exact ⟨rfl, B2.out⟩
    by_cases h28 : k = 28
    · subst h28
      go_wp2_with fail
      go_ret
      exact ⟨rfl, B2.out⟩
    have b24 : (k == 24) = false := beq_eq_false_iff_ne.2 h24
    have b28 : (k == 28) = false := beq_eq_false_iff_ne.2 h28
    have ln2 : w.heap.size < w2.heap.size := NX.out.lt
    obtain ⟨iN, hN0, hN1, hN2, hN3⟩ := info_parts info_ctl
    go_wp2_with fail
    go_region_held3 (fun w' => w'.cell? ⟨w.heap.size, 0, none⟩ = some (.int .i64 k) ∧ w'.cell? ⟨w.heap.size, 1, none⟩ = some (.string c0) ∧ w'.cell? ⟨w.heap.size, 2, none⟩ = some (.bool c1) ∧ w'.cell? ⟨w.heap.size, 3, none⟩ = some (.bool c2) ∧ w'.cell? ⟨w.heap.size, 4, none⟩ = some (.bool c3) ∧ w'.cell? ⟨w.heap.size, 5, none⟩ = some (.bool c4) ∧ w'.cell? ⟨w.heap.size, 6, none⟩ = some (.bool c5) ∧ w'.cell? ⟨w.heap.size, 7, none⟩ = some (.bool c6) ∧ w'.cell? ⟨w.heap.size, 8, none⟩ = some (.bool c7) ∧ w'.cell? ⟨w.heap.size, 9, none⟩ = some (.string c8) ∧ w'.cell? ⟨w.heap.size, 10, none⟩ = some (.slice fp c9.length fc) ∧ w'.cell? ⟨w.heap.size, 11, none⟩ = some (.slice p ax.length c)) (first | go_keep | exact ⟨cell_below x0 U3.out, cell_below x1 U3.out, cell_below x2 U3.out, cell_below x3 U3.out, cell_below x4 U3.out, cell_below x5 U3.out, cell_below x6 U3.out, cell_below x7 U3.out, cell_below x8 U3.out, cell_below x9 U3.out, cell_below x10 U3.out, cell_below x11 U3.out⟩ | exact ⟨cell_below x0 U4.out, cell_below x1 U4.out, cell_below x2 U4.out, cell_below x3 U4.out, cell_below x4 U4.out, cell_below x5 U4.out, cell_below x6 U4.out, cell_below x7 U4.out, cell_below x8 U4.out, cell_below x9 U4.out, cell_below x10 U4.out, cell_below x11 U4.out⟩)
      (first | (go_at_call 12; refine (H1.out _ (belR B2.out 1)).mono ?_; rintro e w3 ⟨f3, rfl, g3, b3⟩; have G3 := hide g3; obtain ⟨p3, d3, rfl, _⟩ := g3; have U3 : Hid (Below w2.heap.size w2 w3) := undrewC b3; have B3 : Hid (Below w.heap.size w w3) := chain B2.out U3.out) | (go_at_call 22; refine (H2.out _ B3.out).mono ?_; rintro e w4 ⟨f4, rfl, g4, b4⟩; have G4 := hide g4; obtain ⟨p4, d4, rfl, _⟩ := g4; have U4 : Hid (Below w2.heap.size w2 w4) := chain U3.out b4; have B4 : Hid (Below w.heap.size w w4) := chain B2.out U4.out))
    have BX4 : Hid (Below w4.heap.size w4 (w4.alloc (.cells #[.string a0, .bool a1, .bool a2, .bool a3, .bool a4, .bool a5, .bool a6, .bool a7, .string a8, .slice p3 a9.length d3, .string r0, .bool r1, .bool r2, .bool r3, .bool r4, .bool r5, .bool r6, .bool r7, .string r8, .slice p4 r9.length d4] 24))) := (Below.refl _ w4).alloc (Nat.le_refl _) _
    have fa : FixS k ax a0 := F1.out h24 h28
    have fr : FixS k ax r0 := by have e : r0 = a0 := F2.out; rw [e]; exact fa
    have z4 : w2.heap.size ≤ w4.heap.size := U4.out.size
    have RL4 : Hid (RowL w2.heap.size w2 k ax 2 (w4.alloc (.cells #[.string a0, .bool a1, .bool a2, .bool a3, .bool a4, .bool a5, .bool a6, .bool a7, .string a8, .slice p3 a9.length d3, .string r0, .bool r1, .bool r2, .bool r3, .bool r4, .bool r5, .bool r6, .bool r7, .string r8, .slice p4 r9.length d4] 24)) (.slice (some ⟨w4.heap.size, 0, none⟩) 2 2)) := by
      refine ⟨_, 2, 2, [.string a0, .bool a1, .bool a2, .bool a3, .bool a4, .bool a5, .bool a6, .bool a7, .string a8, .slice p3 a9.length d3, .string r0, .bool r1, .bool r2, .bool r3, .bool r4, .bool r5, .bool r6, .bool r7, .string r8, .slice p4 r9.length d4], rfl, by decide, Nat.le_refl _, World.ownsRow_lit w4 #[.string a0, .bool a1, .bool a2, .bool a3, .bool a4, .bool a5, .bool a6, .bool a7, .string a8, .slice p3 a9.length d3, .string r0, .bool r1, .bool r2, .bool r3, .bool r4, .bool r5, .bool r6, .bool r7, .string r8, .slice p4 r9.length d4] 2 z4 (by decide) rfl, fun i hi => ?_, chain' U4.out BX4.out z4⟩
      rcases (show i = 0 ∨ i = 1 by omega) with rfl | rfl
      · exact ⟨a0, rfl, fa⟩
      · exact ⟨r0, rfl, fr⟩
    have NX0 := NX
    replace NX := hide ((NX.out.below U4.out).below BX4.out)
    have B4' := hide (chain B4.out BX4.out)
    have z4' : w2.heap.size ≤ (w4.alloc (.cells #[.string a0, .bool a1, .bool a2, .bool a3, .bool a4, .bool a5, .bool a6, .bool a7, .string a8, .slice p3 a9.length d3, .string r0, .bool r1, .bool r2, .bool r3, .bool r4, .bool r5, .bool r6, .bool r7, .string r8, .slice p4 r9.length d4] 24)).heap.size := Nat.le_trans z4 BX4.out.size
    clear x0 x1 x2 x3 x4 x5 x6 x7 x8 x9 x10 x11
    go_upto_region 6 with fail
    generalize w4.alloc (.cells #[.string a0, .bool a1, .bool a2, .bool a3, .bool a4, .bool a5, .bool a6, .bool a7, .string a8, .slice p3 a9.length d3, .string r0, .bool r1, .bool r2, .bool r3, .bool r4, .bool r5, .bool r6, .bool r7, .string r8, .slice p4 r9.length d4] 24) = y4 at *
    have x0 := NX.out.cell 0 rfl
    have x1 := NX.out.cell 1 rfl
    have x2 := NX.out.cell 2 rfl
    have x3 := NX.out.cell 3 rfl
    have x4 := NX.out.cell 4 rfl
    have x5 := NX.out.cell 5 rfl
    have x6 := NX.out.cell 6 rfl
    have x7 := NX.out.cell 7 rfl
    have x8 := NX.out.cell 8 rfl
    have x9 := NX.out.cell 9 rfl
    have x10 := NX.out.cell 10 rfl
    have x11 := NX.out.cell 11 rfl
    clear BX4 U3 B3 B4 U4 F1 F2 H1 H2 G3 G4
    go_wp2_with fail
    refine (H3.out _ B4'.out).mono ?_
    rintro e w5 ⟨f5, rfl, g5, b5⟩
    obtain ⟨p5, d5, rfl, _⟩ := g5
    have B5 := hide (chain B4'.out b5)
    have RL5 := hide (RL4.out.below b5 z4')
    have z5 : w2.heap.size ≤ w5.heap.size := Nat.le_trans z4' b5.size
    have BX5 : Hid (Below w5.heap.size w5 (w5.alloc (.cells #[.string s0, .bool s1, .bool s2, .bool s3, .bool s4, .bool s5, .bool s6, .bool s7, .string s8, .slice p5 s9.length d5] 24))) := (Below.refl _ w5).alloc (Nat.le_refl _) _
    have NC := hide (Bk.new w5 [.string s0, .bool s1, .bool s2, .bool s3, .bool s4, .bool s5, .bool s6, .bool s7, .string s8, .slice p5 s9.length d5] 24)
    replace NX := hide ((NX.out.below b5).below BX5.out)
    replace RL5 := hide (RL5.out.below BX5.out z5)
    have z5' : w2.heap.size ≤ (w5.alloc (.cells #[.string s0, .bool s1, .bool s2, .bool s3, .bool s4, .bool s5, .bool s6, .bool s7, .string s8, .slice p5 s9.length d5] 24)).heap.size := Nat.le_trans z5 BX5.out.size
    replace B5 := hide (chain B5.out BX5.out)
    clear x0 x1 x2 x3 x4 x5 x6 x7 x8 x9 x10 x11 RL4 B4' b5
    go_upto_region 7 with fail
    generalize w5.alloc (.cells #[.string s0, .bool s1, .bool s2, .bool s3, .bool s4, .bool s5, .bool s6, .bool s7, .string s8, .slice p5 s9.length d5] 24) = y5 at *
    have x0 := NX.out.cell 0 rfl
    have x1 := NX.out.cell 1 rfl
    have x2 := NX.out.cell 2 rfl
    have x3 := NX.out.cell 3 rfl
    have x4 := NX.out.cell 4 rfl
    have x5 := NX.out.cell 5 rfl
    have x6 := NX.out.cell 6 rfl
    have x7 := NX.out.cell 7 rfl
    have x8 := NX.out.cell 8 rfl
    have x9 := NX.out.cell 9 rfl
    have x10 := NX.out.cell 10 rfl
    have x11 := NX.out.cell 11 rfl
    have k0 := NC.out.cell 0 rfl
    have k1 := NC.out.cell 1 rfl
    have k2 := NC.out.cell 2 rfl
    have k3 := NC.out.cell 3 rfl
    have k4 := NC.out.cell 4 rfl
    have k5 := NC.out.cell 5 rfl
    have k6 := NC.out.cell 6 rfl
    have k7 := NC.out.cell 7 rfl
    have k8 := NC.out.cell 8 rfl
    have k9 := NC.out.cell 9 rfl
    have AL : Hid (Below y5.heap.size y5 (y5.alloc (.cells #[.string s0, .bool s1, .bool s2, .bool s3, .bool s4, .bool s5, .bool s6, .bool s7, .string s8, .slice p5 s9.length d5] 24))) := (Below.refl _ y5).alloc (Nat.le_refl _) _
    by_cases q1 : wz = 0
    · subst q1
      cases s1 with
      | false =>
        go_upto_region 9 with fail
        clear k0 k1 k2 k3 k4 k5 k6 k7 k8 k9 x0 x1 x2 x3 x4 x5 x6 x7 x8 x9 x10 x11
        by_cases hk : 2 ≤ k ∧ k ≤ 15
        · obtain ⟨q, n, cp, ys, e, h1, h2, ho, h4, h5⟩ := RL5.out
          cases e
          have g2 : 2 ≤ k := hk.1
          have g15 : k ≤ 15 := hk.2
          have NW := hide (NX0.out.low ln2 h5)
          have BW := hide (chain B2.out h5)
          have zW : w2.heap.size ≤ y5.heap.size := h5.size
          have fu : FixS k ax u0 := F4.out hk
          have HK := hide hk
          have x0 := NW.out.cell 0 rfl
          have x1 := NW.out.cell 1 rfl
          have x2 := NW.out.cell 2 rfl
          have x3 := NW.out.cell 3 rfl
          have x4 := NW.out.cell 4 rfl
          have x5 := NW.out.cell 5 rfl
          have x6 := NW.out.cell 6 rfl
          have x7 := NW.out.cell 7 rfl
          have x8 := NW.out.cell 8 rfl
          have x9 := NW.out.cell 9 rfl
          have x10 := NW.out.cell 10 rfl
          have x11 := NW.out.cell 11 rfl
          clear RL5 hk
          go_wp2_with fail
          refine (H4.out HK.out _ BW.out).mono ?_
          rintro e w8 ⟨f8, rfl, g8, b8⟩
          obtain ⟨p8, d8, rfl, _⟩ := g8
          have z8 : w2.heap.size ≤ w8.heap.size := Nat.le_trans zW b8.size
          have O8 := owns_below ho b8
          have L8 := chain' h5 b8 zW
          have BX8 : Hid (Below w8.heap.size w8 (w8.alloc (.cells #[.string u0, .bool u1, .bool u2, .bool u3, .bool u4, .bool u5, .bool u6, .bool u7, .string u8, .slice p8 u9.length d8] 24))) := (Below.refl _ w8).alloc (Nat.le_refl _) _
          have N8 := hide (Bk.new w8 [.string u0, .bool u1, .bool u2, .bool u3, .bool u4, .bool u5, .bool u6, .bool u7, .string u8, .slice p8 u9.length d8] 24)
          replace O8 := owns_below O8 BX8.out
          replace L8 := chain' L8 BX8.out z8
          have z9 : w2.heap.size ≤ (w8.alloc (.cells #[.string u0, .bool u1, .bool u2, .bool u3, .bool u4, .bool u5, .bool u6, .bool u7, .string u8, .slice p8 u9.length d8] 24)).heap.size := Nat.le_trans z8 BX8.out.size
          clear x0 x1 x2 x3 x4 x5 x6 x7 x8 x9 x10 x11 ho h5 b8
          go_upto_region 11 with fail
          generalize w8.alloc (.cells #[.string u0, .bool u1, .bool u2, .bool u3, .bool u4, .bool u5, .bool u6, .bool u7, .string u8, .slice p8 u9.length d8] 24) = y8 at *
          have k0 := N8.out.cell 0 rfl
          have k1 := N8.out.cell 1 rfl
          have k2 := N8.out.cell 2 rfl
          have k3 := N8.out.cell 3 rfl
          have k4 := N8.out.cell 4 rfl
          have k5 := N8.out.cell 5 rfl
          have k6 := N8.out.cell 6 rfl
          have k7 := N8.out.cell 7 rfl
          have k8 := N8.out.cell 8 rfl
          have k9 := N8.out.cell 9 rfl
          have A8 : Hid (Below y8.heap.size y8 (y8.alloc (.cells #[.string u0, .bool u1, .bool u2, .bool u3, .bool u4, .bool u5, .bool u6, .bool u7, .string u8, .slice p8 u9.length d8] 24))) := (Below.refl _ y8).alloc (Nat.le_refl _) _
          have OZ8 := hide (owns_below O8 A8.out)
          have RW8 := hide ((Bk.new y8 [.string u0, .bool u1, .bool u2, .bool u3, .bool u4, .bool u5, .bool u6, .bool u7, .string u8, .slice p8 u9.length d8] 24).raw 1 10 rfl 1)
          have WZ8 : Hid (w2.heap.size ≤ (y8.alloc (.cells #[.string u0, .bool u1, .bool u2, .bool u3, .bool u4, .bool u5, .bool u6, .bool u7, .string u8, .slice p8 u9.length d8] 24)).heap.size) := Nat.le_trans z9 A8.out.size
          have L9 := hide (chain' L8 A8.out z9)
          have H4' := hide h4
          clear h4 L8 O8
          go_upto_region 12 with (at_builtin; refine wpList_append_raw rfl _ _ _ rfl w2.heap.size 24 iN _ 10 64 Tryz.underlying43 hN0 hN1 hN2 hN3 rfl (by omega) _ 2 ys rfl OZ8.out _ 1 _ rfl RW8.out (by simp [Value.oneCell']) (by unfold maxLen; omega) (by omega) WZ8.out ?_; intro q9 c9' w9 own9 gr9 at9)
          have RL9 := hide (RowL.push h2 OZ8.out H4'.out L9.out WZ8.out rfl rfl fu own9 gr9)
          clear H4' L9 OZ8 RW8 own9 gr9 at9
          obtain ⟨q, n, cp, ys, e, h1, h2, ho, h4, h5⟩ := RL9.out
          cases e
          obtain ⟨g, cap, e, eg, hg1, hg2, _, _⟩ := owns_at ho (by decide)
          cases e
          have CELL : Hid (∀ i, i < (2 + 1) → ∃ u, w9.cell? ⟨g, i * 10, none⟩ = some (.string u) ∧ FixS k ax u) := fun i hi => by
            obtain ⟨u, e1, e2⟩ := h4 i hi
            exact ⟨u, owns_cell ho eg e1, e2⟩
          have NL := hide (NX0.out.low ln2 h5)
          have BL := hide (chain B2.out h5)
          clear h4 h5 ho h1 h2 RL9
          go_wp2_with fail
          go_loopw [99] (fun iv wr => ∃ j : Nat, j ≤ (2 + 1) ∧ iv = .int .i64 j ∧ Hid (Below w9.heap.size w9 wr)) (fun iv _ => (2 + 1) - (intOf iv).toNat)
          case atStart => exact ⟨0, Nat.zero_le _, rfl, Below.refl _ _⟩
          case round =>
            rename World => wr
            obtain ⟨j, hj, rfl, BR⟩ := hrel
            by_cases h : j < (2 + 1)
            · have i1 : (j : Int) < ((2 + 1) : Int) := by omega
              have i0 : (0 : Int) ≤ (j : Int) := by omega
              obtain ⟨u, cu, fu⟩ := CELL.out j h
              have cv := cell_below cu BR.out
              have NR' := hide (NL.out.below BR.out)
              have x0 := NR'.out.cell 0 rfl
              have x11 := NR'.out.cell 11 rfl
              have HU := hide (H5.out u fu)
              rw [show txt u.data.toList = u from rfl] at HU
              have BW := hide (chain BL.out BR.out)
              clear cu fu CELL NR'
              go_wp2_with fail
              go_region_held3 (fun w' => w'.cell? ⟨w.heap.size, 0, none⟩ = some (.int .i64 k) ∧ w'.cell? ⟨w.heap.size, 11, none⟩ = some (.slice p ax.length c) ∧ w'.cell? ⟨g, j * 10, none⟩ = some (.string u)) (first | go_keep | exact ⟨cell_below x0 UR.out, cell_below x11 UR.out, cell_below cv UR.out⟩)
                (first | (go_at_call 25; refine (HU.out _ (belR BW.out 1)).mono ?_; rintro e wv ⟨rfl, bv⟩; have UR : Hid (Below wr.heap.size wr wv) := undrewC bv))
              go_wp2_with fail
              go_roundw
              case rel => exact ⟨j + 1, by omega, by go_num, chain BR.out UR.out⟩
              case measure => simp [intOf]; omega
            · obtain rfl : j = (2 + 1) := by omega
              go_wp2_with fail
              go_ret
              exact ⟨rfl, chain BL.out BR.out⟩
        · have dk : (decide (2 ≤ k) = false) ∨ (decide (2 ≤ k) = true ∧ decide (k ≤ 15) = false) := by
            by_cases g2 : 2 ≤ k
            · exact .inr ⟨decide_eq_true g2, decide_eq_false (fun q => hk ⟨g2, q⟩)⟩
            · exact .inl (decide_eq_false g2)
          have h5' := RowL.low RL5.out
          have NW := hide (NX0.out.low ln2 h5')
          have x0 := NW.out.cell 0 rfl
          have x1 := NW.out.cell 1 rfl
          have x2 := NW.out.cell 2 rfl
          have x3 := NW.out.cell 3 rfl
          have x4 := NW.out.cell 4 rfl
          have x5 := NW.out.cell 5 rfl
          have x6 := NW.out.cell 6 rfl
          have x7 := NW.out.cell 7 rfl
          have x8 := NW.out.cell 8 rfl
          have x9 := NW.out.cell 9 rfl
          have x10 := NW.out.cell 10 rfl
          have x11 := NW.out.cell 11 rfl
          clear hk h5'
          rcases dk with g2 | ⟨g2, g15⟩
          · have n2 : ¬ 2 ≤ k := of_decide_eq_false g2
            go_upto_region 12 with fail
            clear x0 x1 x2 x3 x4 x5 x6 x7 x8 x9 x10 x11
            obtain ⟨q, n, cp, ys, e, h1, h2, ho, h4, h5⟩ := RL5.out
            cases e
            obtain ⟨g, cap, e, eg, hg1, hg2, _, _⟩ := owns_at ho (by decide)
            cases e
            have CELL : Hid (∀ i, i < 2 → ∃ u, y5.cell? ⟨w4.heap.size, i * 10, none⟩ = some (.string u) ∧ FixS k ax u) := fun i hi => by
              obtain ⟨u, e1, e2⟩ := h4 i hi
              exact ⟨u, owns_cell ho eg e1, e2⟩
            have NL := hide (NX0.out.low ln2 h5)
            have BL := hide (chain B2.out h5)
            clear h4 h5 ho h1 h2 RL5
            go_wp2_with fail
            go_loopw [99] (fun iv wr => ∃ j : Nat, j ≤ 2 ∧ iv = .int .i64 j ∧ Hid (Below y5.heap.size y5 wr)) (fun iv _ => 2 - (intOf iv).toNat)
            case atStart => exact ⟨0, Nat.zero_le _, rfl, Below.refl _ _⟩
            case round =>
              rename World => wr
              obtain ⟨j, hj, rfl, BR⟩ := hrel
              by_cases h : j < 2
              · have i1 : (j : Int) < (2 : Int) := by omega
                have i0 : (0 : Int) ≤ (j : Int) := by omega
                obtain ⟨u, cu, fu⟩ := CELL.out j h
                have cv := cell_below cu BR.out
                have NR' := hide (NL.out.below BR.out)
                have x0 := NR'.out.cell 0 rfl
                have x11 := NR'.out.cell 11 rfl
                have HU := hide (H5.out u fu)
                rw [show txt u.data.toList = u from rfl] at HU
                have BW := hide (chain BL.out BR.out)
                clear cu fu CELL NR'
                go_wp2_with fail
                go_region_held3 (fun w' => w'.cell? ⟨w.heap.size, 0, none⟩ = some (.int .i64 k) ∧ w'.cell? ⟨w.heap.size, 11, none⟩ = some (.slice p ax.length c) ∧ w'.cell? ⟨w4.heap.size, j * 10, none⟩ = some (.string u)) (first | go_keep | exact ⟨cell_below x0 UR.out, cell_below x11 UR.out, cell_below cv UR.out⟩)
                  (first | (go_at_call 25; refine (HU.out _ (belR BW.out 1)).mono ?_; rintro e wv ⟨rfl, bv⟩; have UR : Hid (Below wr.heap.size wr wv) := undrewC bv))
                go_wp2_with fail
                go_roundw
                case rel => exact ⟨j + 1, by omega, by go_num, chain BR.out UR.out⟩
                case measure => simp [intOf]; omega
              · obtain rfl : j = 2 := by omega
                go_wp2_with fail
                go_ret
                exact ⟨rfl, chain BL.out BR.out⟩
          · have n15 : ¬ k ≤ 15 := of_decide_eq_false g15
            have y2 : 2 ≤ k := of_decide_eq_true g2
            go_upto_region 12 with fail
            clear x0 x1 x2 x3 x4 x5 x6 x7 x8 x9 x10 x11
            obtain ⟨q, n, cp, ys, e, h1, h2, ho, h4, h5⟩ := RL5.out
            cases e
            obtain ⟨g, cap, e, eg, hg1, hg2, _, _⟩ := owns_at ho (by decide)
            cases e
            have CELL : Hid (∀ i, i < 2 → ∃ u, y5.cell? ⟨w4.heap.size, i * 10, none⟩ = some (.string u) ∧ FixS k ax u) := fun i hi => by
              obtain ⟨u, e1, e2⟩ := h4 i hi
              exact ⟨u, owns_cell ho eg e1, e2⟩
            have NL := hide (NX0.out.low ln2 h5)
            have BL := hide (chain B2.out h5)
            clear h4 h5 ho h1 h2 RL5
            go_wp2_with fail
            go_loopw [99] (fun iv wr => ∃ j : Nat, j ≤ 2 ∧ iv = .int .i64 j ∧ Hid (Below y5.heap.size y5 wr)) (fun iv _ => 2 - (intOf iv).toNat)
            case atStart => exact ⟨0, Nat.zero_le _, rfl, Below.refl _ _⟩
            case round =>
              rename World => wr
              obtain ⟨j, hj, rfl, BR⟩ := hrel
              by_cases h : j < 2
              · have i1 : (j : Int) < (2 : Int) := by omega
                have i0 : (0 : Int) ≤ (j : Int) := by omega
                obtain ⟨u, cu, fu⟩ := CELL.out j h
                have cv := cell_below cu BR.out
                have NR' := hide (NL.out.below BR.out)
                have x0 := NR'.out.cell 0 rfl
                have x11 := NR'.out.cell 11 rfl
                have HU := hide (H5.out u fu)
                rw [show txt u.data.toList = u from rfl] at HU
                have BW := hide (chain BL.out BR.out)
                clear cu fu CELL NR'
                go_wp2_with fail
                go_region_held3 (fun w' => w'.cell? ⟨w.heap.size, 0, none⟩ = some (.int .i64 k) ∧ w'.cell? ⟨w.heap.size, 11, none⟩ = some (.slice p ax.length c) ∧ w'.cell? ⟨w4.heap.size, j * 10, none⟩ = some (.string u)) (first | go_keep | exact ⟨cell_below x0 UR.out, cell_below x11 UR.out, cell_below cv UR.out⟩)
                  (first | (go_at_call 25; refine (HU.out _ (belR BW.out 1)).mono ?_; rintro e wv ⟨rfl, bv⟩; have UR : Hid (Below wr.heap.size wr wv) := undrewC bv))
                go_wp2_with fail
                go_roundw
                case rel => exact ⟨j + 1, by omega, by go_num, chain BR.out UR.out⟩
                case measure => simp [intOf]; omega
              · obtain rfl : j = 2 := by omega
                go_wp2_with fail
                go_ret
                exact ⟨rfl, chain BL.out BR.out⟩
      | true =>
        cases c1 with
        | true =>
          go_upto_region 9 with fail
          clear k0 k1 k2 k3 k4 k5 k6 k7 k8 k9 x0 x1 x2 x3 x4 x5 x6 x7 x8 x9 x10 x11
          by_cases hk : 2 ≤ k ∧ k ≤ 15
          · obtain ⟨q, n, cp, ys, e, h1, h2, ho, h4, h5⟩ := RL5.out
            cases e
            have g2 : 2 ≤ k := hk.1
            have g15 : k ≤ 15 := hk.2
            have NW := hide (NX0.out.low ln2 h5)
            have BW := hide (chain B2.out h5)
            have zW : w2.heap.size ≤ y5.heap.size := h5.size
            have fu : FixS k ax u0 := F4.out hk
            have HK := hide hk
            have x0 := NW.out.cell 0 rfl
            have x1 := NW.out.cell 1 rfl
            have x2 := NW.out.cell 2 rfl
            have x3 := NW.out.cell 3 rfl
            have x4 := NW.out.cell 4 rfl
            have x5 := NW.out.cell 5 rfl
            have x6 := NW.out.cell 6 rfl
            have x7 := NW.out.cell 7 rfl
            have x8 := NW.out.cell 8 rfl
            have x9 := NW.out.cell 9 rfl
            have x10 := NW.out.cell 10 rfl
            have x11 := NW.out.cell 11 rfl
            clear RL5 hk
            go_wp2_with fail
            refine (H4.out HK.out _ BW.out).mono ?_
            rintro e w8 ⟨f8, rfl, g8, b8⟩
            obtain ⟨p8, d8, rfl, _⟩ := g8
            have z8 : w2.heap.size ≤ w8.heap.size := Nat.le_trans zW b8.size
            have O8 := owns_below ho b8
            have L8 := chain' h5 b8 zW
            have BX8 : Hid (Below w8.heap.size w8 (w8.alloc (.cells #[.string u0, .bool u1, .bool u2, .bool u3, .bool u4, .bool u5, .bool u6, .bool u7, .string u8, .slice p8 u9.length d8] 24))) := (Below.refl _ w8).alloc (Nat.le_refl _) _
            have N8 := hide (Bk.new w8 [.string u0, .bool u1, .bool u2, .bool u3, .bool u4, .bool u5, .bool u6, .bool u7, .string u8, .slice p8 u9.length d8] 24)
            replace O8 := owns_below O8 BX8.out
            replace L8 := chain' L8 BX8.out z8
            have z9 : w2.heap.size ≤ (w8.alloc (.cells #[.string u0, .bool u1, .bool u2, .bool u3, .bool u4, .bool u5, .bool u6, .bool u7, .string u8, .slice p8 u9.length d8] 24)).heap.size := Nat.le_trans z8 BX8.out.size
            clear x0 x1 x2 x3 x4 x5 x6 x7 x8 x9 x10 x11 ho h5 b8
            go_upto_region 11 with fail
            generalize w8.alloc (.cells #[.string u0, .bool u1, .bool u2, .bool u3, .bool u4, .bool u5, .bool u6, .bool u7, .string u8, .slice p8 u9.length d8] 24) = y8 at *
            have k0 := N8.out.cell 0 rfl
            have k1 := N8.out.cell 1 rfl
            have k2 := N8.out.cell 2 rfl
            have k3 := N8.out.cell 3 rfl
            have k4 := N8.out.cell 4 rfl
            have k5 := N8.out.cell 5 rfl
            have k6 := N8.out.cell 6 rfl
            have k7 := N8.out.cell 7 rfl
            have k8 := N8.out.cell 8 rfl
            have k9 := N8.out.cell 9 rfl
            have A8 : Hid (Below y8.heap.size y8 (y8.alloc (.cells #[.string u0, .bool u1, .bool u2, .bool u3, .bool u4, .bool u5, .bool u6, .bool u7, .string u8, .slice p8 u9.length d8] 24))) := (Below.refl _ y8).alloc (Nat.le_refl _) _
            have OZ8 := hide (owns_below O8 A8.out)
            have RW8 := hide ((Bk.new y8 [.string u0, .bool u1, .bool u2, .bool u3, .bool u4, .bool u5, .bool u6, .bool u7, .string u8, .slice p8 u9.length d8] 24).raw 1 10 rfl 1)
            have WZ8 : Hid (w2.heap.size ≤ (y8.alloc (.cells #[.string u0, .bool u1, .bool u2, .bool u3, .bool u4, .bool u5, .bool u6, .bool u7, .string u8, .slice p8 u9.length d8] 24)).heap.size) := Nat.le_trans z9 A8.out.size
            have L9 := hide (chain' L8 A8.out z9)
            have H4' := hide h4
            clear h4 L8 O8
            go_upto_region 12 with (at_builtin; refine wpList_append_raw rfl _ _ _ rfl w2.heap.size 24 iN _ 10 64 Tryz.underlying43 hN0 hN1 hN2 hN3 rfl (by omega) _ 2 ys rfl OZ8.out _ 1 _ rfl RW8.out (by simp [Value.oneCell']) (by unfold maxLen; omega) (by omega) WZ8.out ?_; intro q9 c9' w9 own9 gr9 at9)
            have RL9 := hide (RowL.push h2 OZ8.out H4'.out L9.out WZ8.out rfl rfl fu own9 gr9)
            clear H4' L9 OZ8 RW8 own9 gr9 at9
            obtain ⟨q, n, cp, ys, e, h1, h2, ho, h4, h5⟩ := RL9.out
            cases e
            obtain ⟨g, cap, e, eg, hg1, hg2, _, _⟩ := owns_at ho (by decide)
            cases e
            have CELL : Hid (∀ i, i < (2 + 1) → ∃ u, w9.cell? ⟨g, i * 10, none⟩ = some (.string u) ∧ FixS k ax u) := fun i hi => by
              obtain ⟨u, e1, e2⟩ := h4 i hi
              exact ⟨u, owns_cell ho eg e1, e2⟩
            have NL := hide (NX0.out.low ln2 h5)
            have BL := hide (chain B2.out h5)
            clear h4 h5 ho h1 h2 RL9
            go_wp2_with fail
            go_loopw [99] (fun iv wr => ∃ j : Nat, j ≤ (2 + 1) ∧ iv = .int .i64 j ∧ Hid (Below w9.heap.size w9 wr)) (fun iv _ => (2 + 1) - (intOf iv).toNat)
            case atStart => exact ⟨0, Nat.zero_le _, rfl, Below.refl _ _⟩
            case round =>
              rename World => wr
              obtain ⟨j, hj, rfl, BR⟩ := hrel
              by_cases h : j < (2 + 1)
              · have i1 : (j : Int) < ((2 + 1) : Int) := by omega
                have i0 : (0 : Int) ≤ (j : Int) := by omega
                obtain ⟨u, cu, fu⟩ := CELL.out j h
                have cv := cell_below cu BR.out
                have NR' := hide (NL.out.below BR.out)
                have x0 := NR'.out.cell 0 rfl
                have x11 := NR'.out.cell 11 rfl
                have HU := hide (H5.out u fu)
                rw [show txt u.data.toList = u from rfl] at HU
                have BW := hide (chain BL.out BR.out)
                clear cu fu CELL NR'
                go_wp2_with fail
                go_region_held3 (fun w' => w'.cell? ⟨w.heap.size, 0, none⟩ = some (.int .i64 k) ∧ w'.cell? ⟨w.heap.size, 11, none⟩ = some (.slice p ax.length c) ∧ w'.cell? ⟨g, j * 10, none⟩ = some (.string u)) (first | go_keep | exact ⟨cell_below x0 UR.out, cell_below x11 UR.out, cell_below cv UR.out⟩)
                  (first | (go_at_call 25; refine (HU.out _ (belR BW.out 1)).mono ?_; rintro e wv ⟨rfl, bv⟩; have UR : Hid (Below wr.heap.size wr wv) := undrewC bv))
                go_wp2_with fail
                go_roundw
                case rel => exact ⟨j + 1, by omega, by go_num, chain BR.out UR.out⟩
                case measure => simp [intOf]; omega
              · obtain rfl : j = (2 + 1) := by omega
                go_wp2_with fail
                go_ret
                exact ⟨rfl, chain BL.out BR.out⟩
          · have dk : (decide (2 ≤ k) = false) ∨ (decide (2 ≤ k) = true ∧ decide (k ≤ 15) = false) := by
              by_cases g2 : 2 ≤ k
              · exact .inr ⟨decide_eq_true g2, decide_eq_false (fun q => hk ⟨g2, q⟩)⟩
              · exact .inl (decide_eq_false g2)
            have h5' := RowL.low RL5.out
            have NW := hide (NX0.out.low ln2 h5')
            have x0 := NW.out.cell 0 rfl
            have x1 := NW.out.cell 1 rfl
            have x2 := NW.out.cell 2 rfl
            have x3 := NW.out.cell 3 rfl
            have x4 := NW.out.cell 4 rfl
            have x5 := NW.out.cell 5 rfl
            have x6 := NW.out.cell 6 rfl
            have x7 := NW.out.cell 7 rfl
            have x8 := NW.out.cell 8 rfl
            have x9 := NW.out.cell 9 rfl
            have x10 := NW.out.cell 10 rfl
            have x11 := NW.out.cell 11 rfl
            clear hk h5'
            rcases dk with g2 | ⟨g2, g15⟩
            · have n2 : ¬ 2 ≤ k := of_decide_eq_false g2
              go_upto_region 12 with fail
              clear x0 x1 x2 x3 x4 x5 x6 x7 x8 x9 x10 x11
              obtain ⟨q, n, cp, ys, e, h1, h2, ho, h4, h5⟩ := RL5.out
              cases e
              obtain ⟨g, cap, e, eg, hg1, hg2, _, _⟩ := owns_at ho (by decide)
              cases e
              have CELL : Hid (∀ i, i < 2 → ∃ u, y5.cell? ⟨w4.heap.size, i * 10, none⟩ = some (.string u) ∧ FixS k ax u) := fun i hi => by
                obtain ⟨u, e1, e2⟩ := h4 i hi
                exact ⟨u, owns_cell ho eg e1, e2⟩
              have NL := hide (NX0.out.low ln2 h5)
              have BL := hide (chain B2.out h5)
              clear h4 h5 ho h1 h2 RL5
              go_wp2_with fail
              go_loopw [99] (fun iv wr => ∃ j : Nat, j ≤ 2 ∧ iv = .int .i64 j ∧ Hid (Below y5.heap.size y5 wr)) (fun iv _ => 2 - (intOf iv).toNat)
              case atStart => exact ⟨0, Nat.zero_le _, rfl, Below.refl _ _⟩
              case round =>
                rename World => wr
                obtain ⟨j, hj, rfl, BR⟩ := hrel
                by_cases h : j < 2
                · have i1 : (j : Int) < (2 : Int) := by omega
                  have i0 : (0 : Int) ≤ (j : Int) := by omega
                  obtain ⟨u, cu, fu⟩ := CELL.out j h
                  have cv := cell_below cu BR.out
                  have NR' := hide (NL.out.below BR.out)
                  have x0 := NR'.out.cell 0 rfl
                  have x11 := NR'.out.cell 11 rfl
                  have HU := hide (H5.out u fu)
                  rw [show txt u.data.toList = u from rfl] at HU
                  have BW := hide (chain BL.out BR.out)
                  clear cu fu CELL NR'
                  go_wp2_with fail
                  go_region_held3 (fun w' => w'.cell? ⟨w.heap.size, 0, none⟩ = some (.int .i64 k) ∧ w'.cell? ⟨w.heap.size, 11, none⟩ = some (.slice p ax.length c) ∧ w'.cell? ⟨w4.heap.size, j * 10, none⟩ = some (.string u)) (first | go_keep | exact ⟨cell_below x0 UR.out, cell_below x11 UR.out, cell_below cv UR.out⟩)
                    (first | (go_at_call 25; refine (HU.out _ (belR BW.out 1)).mono ?_; rintro e wv ⟨rfl, bv⟩; have UR : Hid (Below wr.heap.size wr wv) := undrewC bv))
                  go_wp2_with fail
                  go_roundw
                  case rel => exact ⟨j + 1, by omega, by go_num, chain BR.out UR.out⟩
                  case measure => simp [intOf]; omega
                · obtain rfl : j = 2 := by omega
                  go_wp2_with fail
                  go_ret
                  exact ⟨rfl, chain BL.out BR.out⟩
            · have n15 : ¬ k ≤ 15 := of_decide_eq_false g15
              have y2 : 2 ≤ k := of_decide_eq_true g2
              go_upto_region 12 with fail
              clear x0 x1 x2 x3 x4 x5 x6 x7 x8 x9 x10 x11
              obtain ⟨q, n, cp, ys, e, h1, h2, ho, h4, h5⟩ := RL5.out
              cases e
              obtain ⟨g, cap, e, eg, hg1, hg2, _, _⟩ := owns_at ho (by decide)
              cases e
              have CELL : Hid (∀ i, i < 2 → ∃ u, y5.cell? ⟨w4.heap.size, i * 10, none⟩ = some (.string u) ∧ FixS k ax u) := fun i hi => by
                obtain ⟨u, e1, e2⟩ := h4 i hi
                exact ⟨u, owns_cell ho eg e1, e2⟩
              have NL := hide (NX0.out.low ln2 h5)
              have BL := hide (chain B2.out h5)
              clear h4 h5 ho h1 h2 RL5
              go_wp2_with fail
              go_loopw [99] (fun iv wr => ∃ j : Nat, j ≤ 2 ∧ iv = .int .i64 j ∧ Hid (Below y5.heap.size y5 wr)) (fun iv _ => 2 - (intOf iv).toNat)
              case atStart => exact ⟨0, Nat.zero_le _, rfl, Below.refl _ _⟩
              case round =>
                rename World => wr
                obtain ⟨j, hj, rfl, BR⟩ := hrel
                by_cases h : j < 2
                · have i1 : (j : Int) < (2 : Int) := by omega
                  have i0 : (0 : Int) ≤ (j : Int) := by omega
                  obtain ⟨u, cu, fu⟩ := CELL.out j h
                  have cv := cell_below cu BR.out
                  have NR' := hide (NL.out.below BR.out)
                  have x0 := NR'.out.cell 0 rfl
                  have x11 := NR'.out.cell 11 rfl
                  have HU := hide (H5.out u fu)
                  rw [show txt u.data.toList = u from rfl] at HU
                  have BW := hide (chain BL.out BR.out)
                  clear cu fu CELL NR'
                  go_wp2_with fail
                  go_region_held3 (fun w' => w'.cell? ⟨w.heap.size, 0, none⟩ = some (.int .i64 k) ∧ w'.cell? ⟨w.heap.size, 11, none⟩ = some (.slice p ax.length c) ∧ w'.cell? ⟨w4.heap.size, j * 10, none⟩ = some (.string u)) (first | go_keep | exact ⟨cell_below x0 UR.out, cell_below x11 UR.out, cell_below cv UR.out⟩)
                    (first | (go_at_call 25; refine (HU.out _ (belR BW.out 1)).mono ?_; rintro e wv ⟨rfl, bv⟩; have UR : Hid (Below wr.heap.size wr wv) := undrewC bv))
                  go_wp2_with fail
                  go_roundw
                  case rel => exact ⟨j + 1, by omega, by go_num, chain BR.out UR.out⟩
                  case measure => simp [intOf]; omega
                · obtain rfl : j = 2 := by omega
                  go_wp2_with fail
                  go_ret
                  exact ⟨rfl, chain BL.out BR.out⟩
        | false =>
          have fs : FixS k ax s0 := F3.out h24 rfl rfl rfl
          obtain ⟨q, n, cp, ys, e, h1, h2, ho, h4, h5⟩ := RL5.out
          cases e
          have OZ := hide (owns_below ho AL.out)
          have RAW := hide ((Bk.new y5 [.string s0, .bool true, .bool s2, .bool s3, .bool s4, .bool s5, .bool s6, .bool s7, .string s8, .slice p5 s9.length d5] 24).raw 1 10 rfl 1)
          have WZ : Hid (w2.heap.size ≤ (y5.alloc (.cells #[.string s0, .bool true, .bool s2, .bool s3, .bool s4, .bool s5, .bool s6, .bool s7, .string s8, .slice p5 s9.length d5] 24)).heap.size) := Nat.le_trans z5' AL.out.size
          have H5' := hide (chain' h5 AL.out z5')
          have H4' := hide h4
          clear h4 h5 ho RL5
          go_upto_region 9 with (at_builtin; refine wpList_append_raw rfl _ _ _ rfl w2.heap.size 24 iN _ 10 64 Tryz.underlying43 hN0 hN1 hN2 hN3 rfl (by omega) _ 2 ys rfl OZ.out _ 1 _ rfl RAW.out (by simp [Value.oneCell']) (by unfold maxLen; omega) (by omega) WZ.out ?_; intro q6 c6' w6 own6 gr6 at6)
          have RL6 := hide (RowL.push (Nat.le_refl _) OZ.out H4'.out H5'.out WZ.out rfl rfl fs own6 gr6)
          clear k0 k1 k2 k3 k4 k5 k6 k7 k8 k9 x0 x1 x2 x3 x4 x5 x6 x7 x8 x9 x10 x11 H4' H5' OZ RAW own6 gr6 at6
          by_cases hk : 2 ≤ k ∧ k ≤ 15
          · obtain ⟨q, n, cp, ys, e, h1, h2, ho, h4, h5⟩ := RL6.out
            cases e
            have g2 : 2 ≤ k := hk.1
            have g15 : k ≤ 15 := hk.2
            have NW := hide (NX0.out.low ln2 h5)
            have BW := hide (chain B2.out h5)
            have zW : w2.heap.size ≤ w6.heap.size := h5.size
            have fu : FixS k ax u0 := F4.out hk
            have HK := hide hk
            have x0 := NW.out.cell 0 rfl
            have x1 := NW.out.cell 1 rfl
            have x2 := NW.out.cell 2 rfl
            have x3 := NW.out.cell 3 rfl
            have x4 := NW.out.cell 4 rfl
            have x5 := NW.out.cell 5 rfl
            have x6 := NW.out.cell 6 rfl
            have x7 := NW.out.cell 7 rfl
            have x8 := NW.out.cell 8 rfl
            have x9 := NW.out.cell 9 rfl
            have x10 := NW.out.cell 10 rfl
            have x11 := NW.out.cell 11 rfl
            clear RL6 hk
            go_wp2_with fail
            refine (H4.out HK.out _ BW.out).mono ?_
            rintro e w8 ⟨f8, rfl, g8, b8⟩
            obtain ⟨p8, d8, rfl, _⟩ := g8
            have z8 : w2.heap.size ≤ w8.heap.size := Nat.le_trans zW b8.size
            have O8 := owns_below ho b8
            have L8 := chain' h5 b8 zW
            have BX8 : Hid (Below w8.heap.size w8 (w8.alloc (.cells #[.string u0, .bool u1, .bool u2, .bool u3, .bool u4, .bool u5, .bool u6, .bool u7, .string u8, .slice p8 u9.length d8] 24))) := (Below.refl _ w8).alloc (Nat.le_refl _) _
            have N8 := hide (Bk.new w8 [.string u0, .bool u1, .bool u2, .bool u3, .bool u4, .bool u5, .bool u6, .bool u7, .string u8, .slice p8 u9.length d8] 24)
            replace O8 := owns_below O8 BX8.out
            replace L8 := chain' L8 BX8.out z8
            have z9 : w2.heap.size ≤ (w8.alloc (.cells #[.string u0, .bool u1, .bool u2, .bool u3, .bool u4, .bool u5, .bool u6, .bool u7, .string u8, .slice p8 u9.length d8] 24)).heap.size := Nat.le_trans z8 BX8.out.size
            clear x0 x1 x2 x3 x4 x5 x6 x7 x8 x9 x10 x11 ho h5 b8
            go_upto_region 11 with fail
            generalize w8.alloc (.cells #[.string u0, .bool u1, .bool u2, .bool u3, .bool u4, .bool u5, .bool u6, .bool u7, .string u8, .slice p8 u9.length d8] 24) = y8 at *
            have k0 := N8.out.cell 0 rfl
            have k1 := N8.out.cell 1 rfl
            have k2 := N8.out.cell 2 rfl
            have k3 := N8.out.cell 3 rfl
            have k4 := N8.out.cell 4 rfl
            have k5 := N8.out.cell 5 rfl
            have k6 := N8.out.cell 6 rfl
            have k7 := N8.out.cell 7 rfl
            have k8 := N8.out.cell 8 rfl
            have k9 := N8.out.cell 9 rfl
            have A8 : Hid (Below y8.heap.size y8 (y8.alloc (.cells #[.string u0, .bool u1, .bool u2, .bool u3, .bool u4, .bool u5, .bool u6, .bool u7, .string u8, .slice p8 u9.length d8] 24))) := (Below.refl _ y8).alloc (Nat.le_refl _) _
            have OZ8 := hide (owns_below O8 A8.out)
            have RW8 := hide ((Bk.new y8 [.string u0, .bool u1, .bool u2, .bool u3, .bool u4, .bool u5, .bool u6, .bool u7, .string u8, .slice p8 u9.length d8] 24).raw 1 10 rfl 1)
            have WZ8 : Hid (w2.heap.size ≤ (y8.alloc (.cells #[.string u0, .bool u1, .bool u2, .bool u3, .bool u4, .bool u5, .bool u6, .bool u7, .string u8, .slice p8 u9.length d8] 24)).heap.size) := Nat.le_trans z9 A8.out.size
            have L9 := hide (chain' L8 A8.out z9)
            have H4' := hide h4
            clear h4 L8 O8
            go_upto_region 12 with (at_builtin; refine wpList_append_raw rfl _ _ _ rfl w2.heap.size 24 iN _ 10 64 Tryz.underlying43 hN0 hN1 hN2 hN3 rfl (by omega) _ (2 + 1) ys rfl OZ8.out _ 1 _ rfl RW8.out (by simp [Value.oneCell']) (by unfold maxLen; omega) (by omega) WZ8.out ?_; intro q9 c9' w9 own9 gr9 at9)
            have RL9 := hide (RowL.push h2 OZ8.out H4'.out L9.out WZ8.out rfl rfl fu own9 gr9)
            clear H4' L9 OZ8 RW8 own9 gr9 at9
            obtain ⟨q, n, cp, ys, e, h1, h2, ho, h4, h5⟩ := RL9.out
            cases e
            obtain ⟨g, cap, e, eg, hg1, hg2, _, _⟩ := owns_at ho (by decide)
            cases e
            have CELL : Hid (∀ i, i < ((2 + 1) + 1) → ∃ u, w9.cell? ⟨g, i * 10, none⟩ = some (.string u) ∧ FixS k ax u) := fun i hi => by
              obtain ⟨u, e1, e2⟩ := h4 i hi
              exact ⟨u, owns_cell ho eg e1, e2⟩
            have NL := hide (NX0.out.low ln2 h5)
            have BL := hide (chain B2.out h5)
            clear h4 h5 ho h1 h2 RL9
            go_wp2_with fail
            go_loopw [99] (fun iv wr => ∃ j : Nat, j ≤ ((2 + 1) + 1) ∧ iv = .int .i64 j ∧ Hid (Below w9.heap.size w9 wr)) (fun iv _ => ((2 + 1) + 1) - (intOf iv).toNat)
            case atStart => exact ⟨0, Nat.zero_le _, rfl, Below.refl _ _⟩
            case round =>
              rename World => wr
              obtain ⟨j, hj, rfl, BR⟩ := hrel
              by_cases h : j < ((2 + 1) + 1)
              · have i1 : (j : Int) < (((2 + 1) + 1) : Int) := by omega
                have i0 : (0 : Int) ≤ (j : Int) := by omega
                obtain ⟨u, cu, fu⟩ := CELL.out j h
                have cv := cell_below cu BR.out
                have NR' := hide (NL.out.below BR.out)
                have x0 := NR'.out.cell 0 rfl
                have x11 := NR'.out.cell 11 rfl
                have HU := hide (H5.out u fu)
                rw [show txt u.data.toList = u from rfl] at HU
                have BW := hide (chain BL.out BR.out)
                clear cu fu CELL NR'
                go_wp2_with fail
                go_region_held3 (fun w' => w'.cell? ⟨w.heap.size, 0, none⟩ = some (.int .i64 k) ∧ w'.cell? ⟨w.heap.size, 11, none⟩ = some (.slice p ax.length c) ∧ w'.cell? ⟨g, j * 10, none⟩ = some (.string u)) (first | go_keep | exact ⟨cell_below x0 UR.out, cell_below x11 UR.out, cell_below cv UR.out⟩)
                  (first | (go_at_call 25; refine (HU.out _ (belR BW.out 1)).mono ?_; rintro e wv ⟨rfl, bv⟩; have UR : Hid (Below wr.heap.size wr wv) := undrewC bv))
                go_wp2_with fail
                go_roundw
                case rel => exact ⟨j + 1, by omega, by go_num, chain BR.out UR.out⟩
                case measure => simp [intOf]; omega
              · obtain rfl : j = ((2 + 1) + 1) := by omega
                go_wp2_with fail
                go_ret
                exact ⟨rfl, chain BL.out BR.out⟩
          · have dk : (decide (2 ≤ k) = false) ∨ (decide (2 ≤ k) = true ∧ decide (k ≤ 15) = false) := by
              by_cases g2 : 2 ≤ k
              · exact .inr ⟨decide_eq_true g2, decide_eq_false (fun q => hk ⟨g2, q⟩)⟩
              · exact .inl (decide_eq_false g2)
            have h5' := RowL.low RL6.out
            have NW := hide (NX0.out.low ln2 h5')
            have x0 := NW.out.cell 0 rfl
            have x1 := NW.out.cell 1 rfl
            have x2 := NW.out.cell 2 rfl
            have x3 := NW.out.cell 3 rfl
            have x4 := NW.out.cell 4 rfl
            have x5 := NW.out.cell 5 rfl
            have x6 := NW.out.cell 6 rfl
            have x7 := NW.out.cell 7 rfl
            have x8 := NW.out.cell 8 rfl
            have x9 := NW.out.cell 9 rfl
            have x10 := NW.out.cell 10 rfl
            have x11 := NW.out.cell 11 rfl
            clear hk h5'
            rcases dk with g2 | ⟨g2, g15⟩
            · have n2 : ¬ 2 ≤ k := of_decide_eq_false g2
              go_upto_region 12 with fail
              clear x0 x1 x2 x3 x4 x5 x6 x7 x8 x9 x10 x11
              obtain ⟨q, n, cp, ys, e, h1, h2, ho, h4, h5⟩ := RL6.out
              cases e
              obtain ⟨g, cap, e, eg, hg1, hg2, _, _⟩ := owns_at ho (by decide)
              cases e
              have CELL : Hid (∀ i, i < (2 + 1) → ∃ u, w6.cell? ⟨g, i * 10, none⟩ = some (.string u) ∧ FixS k ax u) := fun i hi => by
                obtain ⟨u, e1, e2⟩ := h4 i hi
                exact ⟨u, owns_cell ho eg e1, e2⟩
              have NL := hide (NX0.out.low ln2 h5)
              have BL := hide (chain B2.out h5)
              clear h4 h5 ho h1 h2 RL6
              go_wp2_with fail
              go_loopw [99] (fun iv wr => ∃ j : Nat, j ≤ (2 + 1) ∧ iv = .int .i64 j ∧ Hid (Below w6.heap.size w6 wr)) (fun iv _ => (2 + 1) - (intOf iv).toNat)
              case atStart => exact ⟨0, Nat.zero_le _, rfl, Below.refl _ _⟩
              case round =>
                rename World => wr
                obtain ⟨j, hj, rfl, BR⟩ := hrel
                by_cases h : j < (2 + 1)
                · have i1 : (j : Int) < ((2 + 1) : Int) := by omega
                  have i0 : (0 : Int) ≤ (j : Int) := by omega
                  obtain ⟨u, cu, fu⟩ := CELL.out j h
                  have cv := cell_below cu BR.out
                  have NR' := hide (NL.out.below BR.out)
                  have x0 := NR'.out.cell 0 rfl
                  have x11 := NR'.out.cell 11 rfl
                  have HU := hide (H5.out u fu)
                  rw [show txt u.data.toList = u from rfl] at HU
                  have BW := hide (chain BL.out BR.out)
                  clear cu fu CELL NR'
                  go_wp2_with fail
                  go_region_held3 (fun w' => w'.cell? ⟨w.heap.size, 0, none⟩ = some (.int .i64 k) ∧ w'.cell? ⟨w.heap.size, 11, none⟩ = some (.slice p ax.length c) ∧ w'.cell? ⟨g, j * 10, none⟩ = some (.string u)) (first | go_keep | exact ⟨cell_below x0 UR.out, cell_below x11 UR.out, cell_below cv UR.out⟩)
                    (first | (go_at_call 25; refine (HU.out _ (belR BW.out 1)).mono ?_; rintro e wv ⟨rfl, bv⟩; have UR : Hid (Below wr.heap.size wr wv) := undrewC bv))
                  go_wp2_with fail
                  go_roundw
                  case rel => exact ⟨j + 1, by omega, by go_num, chain BR.out UR.out⟩
                  case measure => simp [intOf]; omega
                · obtain rfl : j = (2 + 1) := by omega
                  go_wp2_with fail
                  go_ret
                  exact ⟨rfl, chain BL.out BR.out⟩
            · have n15 : ¬ k ≤ 15 := of_decide_eq_false g15
              have y2 : 2 ≤ k := of_decide_eq_true g2
              go_upto_region 12 with fail
              clear x0 x1 x2 x3 x4 x5 x6 x7 x8 x9 x10 x11
              obtain ⟨q, n, cp, ys, e, h1, h2, ho, h4, h5⟩ := RL6.out
              cases e
              obtain ⟨g, cap, e, eg, hg1, hg2, _, _⟩ := owns_at ho (by decide)
              cases e
              have CELL : Hid (∀ i, i < (2 + 1) → ∃ u, w6.cell? ⟨g, i * 10, none⟩ = some (.string u) ∧ FixS k ax u) := fun i hi => by
                obtain ⟨u, e1, e2⟩ := h4 i hi
                exact ⟨u, owns_cell ho eg e1, e2⟩
              have NL := hide (NX0.out.low ln2 h5)
              have BL := hide (chain B2.out h5)
              clear h4 h5 ho h1 h2 RL6
              go_wp2_with fail
              go_loopw [99] (fun iv wr => ∃ j : Nat, j ≤ (2 + 1) ∧ iv = .int .i64 j ∧ Hid (Below w6.heap.size w6 wr)) (fun iv _ => (2 + 1) - (intOf iv).toNat)
              case atStart => exact ⟨0, Nat.zero_le _, rfl, Below.refl _ _⟩
              case round =>
                rename World => wr
                obtain ⟨j, hj, rfl, BR⟩ := hrel
                by_cases h : j < (2 + 1)
                · have i1 : (j : Int) < ((2 + 1) : Int) := by omega
                  have i0 : (0 : Int) ≤ (j : Int) := by omega
                  obtain ⟨u, cu, fu⟩ := CELL.out j h
                  have cv := cell_below cu BR.out
                  have NR' := hide (NL.out.below BR.out)
                  have x0 := NR'.out.cell 0 rfl
                  have x11 := NR'.out.cell 11 rfl
                  have HU := hide (H5.out u fu)
                  rw [show txt u.data.toList = u from rfl] at HU
                  have BW := hide (chain BL.out BR.out)
                  clear cu fu CELL NR'
                  go_wp2_with fail
                  go_region_held3 (fun w' => w'.cell? ⟨w.heap.size, 0, none⟩ = some (.int .i64 k) ∧ w'.cell? ⟨w.heap.size, 11, none⟩ = some (.slice p ax.length c) ∧ w'.cell? ⟨g, j * 10, none⟩ = some (.string u)) (first | go_keep | exact ⟨cell_below x0 UR.out, cell_below x11 UR.out, cell_below cv UR.out⟩)
                    (first | (go_at_call 25; refine (HU.out _ (belR BW.out 1)).mono ?_; rintro e wv ⟨rfl, bv⟩; have UR : Hid (Below wr.heap.size wr wv) := undrewC bv))
                  go_wp2_with fail
                  go_roundw
                  case rel => exact ⟨j + 1, by omega, by go_num, chain BR.out UR.out⟩
                  case measure => simp [intOf]; omega
                · obtain rfl : j = (2 + 1) := by omega
                  go_wp2_with fail
                  go_ret
                  exact ⟨rfl, chain BL.out BR.out⟩
    · have b1 : (wz == 0) = false := beq_eq_false_iff_ne.2 q1
      go_upto_region 9 with fail
      clear k0 k1 k2 k3 k4 k5 k6 k7 k8 k9 x0 x1 x2 x3 x4 x5 x6 x7 x8 x9 x10 x11
      by_cases hk : 2 ≤ k ∧ k ≤ 15
      · obtain ⟨q, n, cp, ys, e, h1, h2, ho, h4, h5⟩ := RL5.out
        cases e
        have g2 : 2 ≤ k := hk.1
        have g15 : k ≤ 15 := hk.2
        have NW := hide (NX0.out.low ln2 h5)
        have BW := hide (chain B2.out h5)
        have zW : w2.heap.size ≤ y5.heap.size := h5.size
        have fu : FixS k ax u0 := F4.out hk
        have HK := hide hk
        have x0 := NW.out.cell 0 rfl
        have x1 := NW.out.cell 1 rfl
        have x2 := NW.out.cell 2 rfl
        have x3 := NW.out.cell 3 rfl
        have x4 := NW.out.cell 4 rfl
        have x5 := NW.out.cell 5 rfl
        have x6 := NW.out.cell 6 rfl
        have x7 := NW.out.cell 7 rfl
        have x8 := NW.out.cell 8 rfl
        have x9 := NW.out.cell 9 rfl
        have x10 := NW.out.cell 10 rfl
        have x11 := NW.out.cell 11 rfl
        clear RL5 hk
        go_wp2_with fail
        refine (H4.out HK.out _ BW.out).mono ?_
        rintro e w8 ⟨f8, rfl, g8, b8⟩
        obtain ⟨p8, d8, rfl, _⟩ := g8
        have z8 : w2.heap.size ≤ w8.heap.size := Nat.le_trans zW b8.size
        have O8 := owns_below ho b8
        have L8 := chain' h5 b8 zW
        have BX8 : Hid (Below w8.heap.size w8 (w8.alloc (.cells #[.string u0, .bool u1, .bool u2, .bool u3, .bool u4, .bool u5, .bool u6, .bool u7, .string u8, .slice p8 u9.length d8] 24))) := (Below.refl _ w8).alloc (Nat.le_refl _) _
        have N8 := hide (Bk.new w8 [.string u0, .bool u1, .bool u2, .bool u3, .bool u4, .bool u5, .bool u6, .bool u7, .string u8, .slice p8 u9.length d8] 24)
        replace O8 := owns_below O8 BX8.out
        replace L8 := chain' L8 BX8.out z8
        have z9 : w2.heap.size ≤ (w8.alloc (.cells #[.string u0, .bool u1, .bool u2, .bool u3, .bool u4, .bool u5, .bool u6, .bool u7, .string u8, .slice p8 u9.length d8] 24)).heap.size := Nat.le_trans z8 BX8.out.size
        clear x0 x1 x2 x3 x4 x5 x6 x7 x8 x9 x10 x11 ho h5 b8
        go_upto_region 11 with fail
        generalize w8.alloc (.cells #[.string u0, .bool u1, .bool u2, .bool u3, .bool u4, .bool u5, .bool u6, .bool u7, .string u8, .slice p8 u9.length d8] 24) = y8 at *
        have k0 := N8.out.cell 0 rfl
        have k1 := N8.out.cell 1 rfl
        have k2 := N8.out.cell 2 rfl
        have k3 := N8.out.cell 3 rfl
        have k4 := N8.out.cell 4 rfl
        have k5 := N8.out.cell 5 rfl
        have k6 := N8.out.cell 6 rfl
        have k7 := N8.out.cell 7 rfl
        have k8 := N8.out.cell 8 rfl
        have k9 := N8.out.cell 9 rfl
        have A8 : Hid (Below y8.heap.size y8 (y8.alloc (.cells #[.string u0, .bool u1, .bool u2, .bool u3, .bool u4, .bool u5, .bool u6, .bool u7, .string u8, .slice p8 u9.length d8] 24))) := (Below.refl _ y8).alloc (Nat.le_refl _) _
        have OZ8 := hide (owns_below O8 A8.out)
        have RW8 := hide ((Bk.new y8 [.string u0, .bool u1, .bool u2, .bool u3, .bool u4, .bool u5, .bool u6, .bool u7, .string u8, .slice p8 u9.length d8] 24).raw 1 10 rfl 1)
        have WZ8 : Hid (w2.heap.size ≤ (y8.alloc (.cells #[.string u0, .bool u1, .bool u2, .bool u3, .bool u4, .bool u5, .bool u6, .bool u7, .string u8, .slice p8 u9.length d8] 24)).heap.size) := Nat.le_trans z9 A8.out.size
        have L9 := hide (chain' L8 A8.out z9)
        have H4' := hide h4
        clear h4 L8 O8
        go_upto_region 12 with (at_builtin; refine wpList_append_raw rfl _ _ _ rfl w2.heap.size 24 iN _ 10 64 Tryz.underlying43 hN0 hN1 hN2 hN3 rfl (by omega) _ 2 ys rfl OZ8.out _ 1 _ rfl RW8.out (by simp [Value.oneCell']) (by unfold maxLen; omega) (by omega) WZ8.out ?_; intro q9 c9' w9 own9 gr9 at9)
        have RL9 := hide (RowL.push h2 OZ8.out H4'.out L9.out WZ8.out rfl rfl fu own9 gr9)
        clear H4' L9 OZ8 RW8 own9 gr9 at9
        obtain ⟨q, n, cp, ys, e, h1, h2, ho, h4, h5⟩ := RL9.out
        cases e
        obtain ⟨g, cap, e, eg, hg1, hg2, _, _⟩ := owns_at ho (by decide)
        cases e
        have CELL : Hid (∀ i, i < (2 + 1) → ∃ u, w9.cell? ⟨g, i * 10, none⟩ = some (.string u) ∧ FixS k ax u) := fun i hi => by
          obtain ⟨u, e1, e2⟩ := h4 i hi
          exact ⟨u, owns_cell ho eg e1, e2⟩
        have NL := hide (NX0.out.low ln2 h5)
        have BL := hide (chain B2.out h5)
        clear h4 h5 ho h1 h2 RL9
        go_wp2_with fail
        go_loopw [99] (fun iv wr => ∃ j : Nat, j ≤ (2 + 1) ∧ iv = .int .i64 j ∧ Hid (Below w9.heap.size w9 wr)) (fun iv _ => (2 + 1) - (intOf iv).toNat)
        case atStart => exact ⟨0, Nat.zero_le _, rfl, Below.refl _ _⟩
        case round =>
          rename World => wr
          obtain ⟨j, hj, rfl, BR⟩ := hrel
          by_cases h : j < (2 + 1)
          · have i1 : (j : Int) < ((2 + 1) : Int) := by omega
            have i0 : (0 : Int) ≤ (j : Int) := by omega
            obtain ⟨u, cu, fu⟩ := CELL.out j h
            have cv := cell_below cu BR.out
            have NR' := hide (NL.out.below BR.out)
            have x0 := NR'.out.cell 0 rfl
            have x11 := NR'.out.cell 11 rfl
            have HU := hide (H5.out u fu)
            rw [show txt u.data.toList = u from rfl] at HU
            have BW := hide (chain BL.out BR.out)
            clear cu fu CELL NR'
            go_wp2_with fail
            go_region_held3 (fun w' => w'.cell? ⟨w.heap.size, 0, none⟩ = some (.int .i64 k) ∧ w'.cell? ⟨w.heap.size, 11, none⟩ = some (.slice p ax.length c) ∧ w'.cell? ⟨g, j * 10, none⟩ = some (.string u)) (first | go_keep | exact ⟨cell_below x0 UR.out, cell_below x11 UR.out, cell_below cv UR.out⟩)
              (first | (go_at_call 25; refine (HU.out _ (belR BW.out 1)).mono ?_; rintro e wv ⟨rfl, bv⟩; have UR : Hid (Below wr.heap.size wr wv) := undrewC bv))
            go_wp2_with fail
            go_roundw
            case rel => exact ⟨j + 1, by omega, by go_num, chain BR.out UR.out⟩
            case measure => simp [intOf]; omega
          · obtain rfl : j = (2 + 1) := by omega
            go_wp2_with fail
            go_ret
            exact ⟨rfl, chain BL.out BR.out⟩
      · have dk : (decide (2 ≤ k) = false) ∨ (decide (2 ≤ k) = true ∧ decide (k ≤ 15) = false) := by
          by_cases g2 : 2 ≤ k
          · exact .inr ⟨decide_eq_true g2, decide_eq_false (fun q => hk ⟨g2, q⟩)⟩
          · exact .inl (decide_eq_false g2)
        have h5' := RowL.low RL5.out
        have NW := hide (NX0.out.low ln2 h5')
        have x0 := NW.out.cell 0 rfl
        have x1 := NW.out.cell 1 rfl
        have x2 := NW.out.cell 2 rfl
        have x3 := NW.out.cell 3 rfl
        have x4 := NW.out.cell 4 rfl
        have x5 := NW.out.cell 5 rfl
        have x6 := NW.out.cell 6 rfl
        have x7 := NW.out.cell 7 rfl
        have x8 := NW.out.cell 8 rfl
        have x9 := NW.out.cell 9 rfl
        have x10 := NW.out.cell 10 rfl
        have x11 := NW.out.cell 11 rfl
        clear hk h5'
        rcases dk with g2 | ⟨g2, g15⟩
        · have n2 : ¬ 2 ≤ k := of_decide_eq_false g2
          go_upto_region 12 with fail
          clear x0 x1 x2 x3 x4 x5 x6 x7 x8 x9 x10 x11
          obtain ⟨q, n, cp, ys, e, h1, h2, ho, h4, h5⟩ := RL5.out
          cases e
          obtain ⟨g, cap, e, eg, hg1, hg2, _, _⟩ := owns_at ho (by decide)
          cases e
          have CELL : Hid (∀ i, i < 2 → ∃ u, y5.cell? ⟨w4.heap.size, i * 10, none⟩ = some (.string u) ∧ FixS k ax u) := fun i hi => by
            obtain ⟨u, e1, e2⟩ := h4 i hi
            exact ⟨u, owns_cell ho eg e1, e2⟩
          have NL := hide (NX0.out.low ln2 h5)
          have BL := hide (chain B2.out h5)
          clear h4 h5 ho h1 h2 RL5
          go_wp2_with fail
          go_loopw [99] (fun iv wr => ∃ j : Nat, j ≤ 2 ∧ iv = .int .i64 j ∧ Hid (Below y5.heap.size y5 wr)) (fun iv _ => 2 - (intOf iv).toNat)
          case atStart => exact ⟨0, Nat.zero_le _, rfl, Below.refl _ _⟩
          case round =>
            rename World => wr
            obtain ⟨j, hj, rfl, BR⟩ := hrel
            by_cases h : j < 2
            · have i1 : (j : Int) < (2 : Int) := by omega
              have i0 : (0 : Int) ≤ (j : Int) := by omega
              obtain ⟨u, cu, fu⟩ := CELL.out j h
              have cv := cell_below cu BR.out
              have NR' := hide (NL.out.below BR.out)
              have x0 := NR'.out.cell 0 rfl
              have x11 := NR'.out.cell 11 rfl
              have HU := hide (H5.out u fu)
              rw [show txt u.data.toList = u from rfl] at HU
              have BW := hide (chain BL.out BR.out)
              clear cu fu CELL NR'
              go_wp2_with fail
              go_region_held3 (fun w' => w'.cell? ⟨w.heap.size, 0, none⟩ = some (.int .i64 k) ∧ w'.cell? ⟨w.heap.size, 11, none⟩ = some (.slice p ax.length c) ∧ w'.cell? ⟨w4.heap.size, j * 10, none⟩ = some (.string u)) (first | go_keep | exact ⟨cell_below x0 UR.out, cell_below x11 UR.out, cell_below cv UR.out⟩)
                (first | (go_at_call 25; refine (HU.out _ (belR BW.out 1)).mono ?_; rintro e wv ⟨rfl, bv⟩; have UR : Hid (Below wr.heap.size wr wv) := undrewC bv))
              go_wp2_with fail
              go_roundw
              case rel => exact ⟨j + 1, by omega, by go_num, chain BR.out UR.out⟩
              case measure => simp [intOf]; omega
            · obtain rfl : j = 2 := by omega
              go_wp2_with fail
              go_ret
              exact ⟨rfl, chain BL.out BR.out⟩
        · have n15 : ¬ k ≤ 15 := of_decide_eq_false g15
          have y2 : 2 ≤ k := of_decide_eq_true g2
          go_upto_region 12 with fail
          clear x0 x1 x2 x3 x4 x5 x6 x7 x8 x9 x10 x11
          obtain ⟨q, n, cp, ys, e, h1, h2, ho, h4, h5⟩ := RL5.out
          cases e
          obtain ⟨g, cap, e, eg, hg1, hg2, _, _⟩ := owns_at ho (by decide)
          cases e
          have CELL : Hid (∀ i, i < 2 → ∃ u, y5.cell? ⟨w4.heap.size, i * 10, none⟩ = some (.string u) ∧ FixS k ax u) := fun i hi => by
            obtain ⟨u, e1, e2⟩ := h4 i hi
            exact ⟨u, owns_cell ho eg e1, e2⟩
          have NL := hide (NX0.out.low ln2 h5)
          have BL := hide (chain B2.out h5)
          clear h4 h5 ho h1 h2 RL5
          go_wp2_with fail
          go_loopw [99] (fun iv wr => ∃ j : Nat, j ≤ 2 ∧ iv = .int .i64 j ∧ Hid (Below y5.heap.size y5 wr)) (fun iv _ => 2 - (intOf iv).toNat)
          case atStart => exact ⟨0, Nat.zero_le _, rfl, Below.refl _ _⟩
          case round =>
            rename World => wr
            obtain ⟨j, hj, rfl, BR⟩ := hrel
            by_cases h : j < 2
            · have i1 : (j : Int) < (2 : Int) := by omega
              have i0 : (0 : Int) ≤ (j : Int) := by omega
              obtain ⟨u, cu, fu⟩ := CELL.out j h
              have cv := cell_below cu BR.out
              have NR' := hide (NL.out.below BR.out)
              have x0 := NR'.out.cell 0 rfl
              have x11 := NR'.out.cell 11 rfl
              have HU := hide (H5.out u fu)
              rw [show txt u.data.toList = u from rfl] at HU
              have BW := hide (chain BL.out BR.out)
              clear cu fu CELL NR'
              go_wp2_with fail
              go_region_held3 (fun w' => w'.cell? ⟨w.heap.size, 0, none⟩ = some (.int .i64 k) ∧ w'.cell? ⟨w.heap.size, 11, none⟩ = some (.slice p ax.length c) ∧ w'.cell? ⟨w4.heap.size, j * 10, none⟩ = some (.string u)) (first | go_keep | exact ⟨cell_below x0 UR.out, cell_below x11 UR.out, cell_below cv UR.out⟩)
                (first | (go_at_call 25; refine (HU.out _ (belR BW.out 1)).mono ?_; rintro e wv ⟨rfl, bv⟩; have UR : Hid (Below wr.heap.size wr wv) := undrewC bv))
              go_wp2_with fail
              go_roundw
              case rel => exact ⟨j + 1, by omega, by go_num, chain BR.out UR.out⟩
              case measure => simp [intOf]; omega
            · obtain rfl : j = 2 := by omega
              go_wp2_with fail
              go_ret
              exact ⟨rfl, chain BL.out BR.out⟩

end Go.Proofs.YtfjfkkbgkjmghaaGreatDoor
