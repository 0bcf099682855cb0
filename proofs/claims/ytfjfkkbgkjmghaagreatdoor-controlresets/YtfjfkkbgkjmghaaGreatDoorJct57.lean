/- What a control has, and how it changes, as functions of kinds, attributes and texts. The document's Start, Reset and Value of layer 14. Stage 14's laws ControlWrites, ControlTypes, ControlChanges, ControlRetypes, ControlResets, walked. -/
import Derived.Test.YtfjfkkbgkjmghaaGreatDoorJct34
import Derived.Test.YtfjfkkbgkjmghaaGreatDoorJct41
import Derived.Test.YtfjfkkbgkjmghaaGreatDoorJct44
import Derived.Test.YtfjfkkbgkjmghaaGreatDoorJct45
import Derived.Test.YtfjfkkbgkjmghaaGreatDoorJct47

namespace Go.Proofs.YtfjfkkbgkjmghaaGreatDoor
open Go.RowKit
theorem reset_again (k : Int) (c : Ct) (ax : List (ByteArray × ByteArray)) (text t : ByteArray) : resetP k (resetP k c ax text t) ax text t = resetP k c ax text t := rfl
end Go.Proofs.YtfjfkkbgkjmghaaGreatDoor

namespace Go.Proofs.YtfjfkkbgkjmghaaGreatDoor
open Go.RowKit
set_option maxHeartbeats 4000000 in
set_option maxRecDepth 100000 in
theorem refReset_any (k : Int) (C : Ct) (fv v : Value) (ax : List (ByteArray × ByteArray)) (w : World) (hf : FilesV w fv C.files) (hv : AttrsV w v ax) (hz : AxOK ax) (text t : ByteArray) (ht : ClnIs k ax (srcS k ax text) t) (hs : text.size ≤ 100000) :
    Calls Tryz.prog 23 #[.int .i64 k, ctV C fv, v, .string text] w fun e w' => e = .returned (ctV (resetP k C ax text t) (.slice none 0 0)) ∧ Below w.heap.size w w' := by
  have HS := hide (fun W (hb : Below w.heap.size w W) => refStart_any k v ax W (hv.below hb) hz text t ht hs)
  obtain ⟨p, c, rfl, _⟩ := hv
  obtain ⟨fp, fc, rfl, _⟩ := hf
  unfold resetP
  generalize startP k ax text t = S at *
  clear ht hs hz
  unfold ctV ctCells at *
  obtain ⟨z0, z1, z2, z3, z4, z5, z6, z7, z8, z9⟩ := S
  have B0 : Hid (Below w.heap.size w ((w.alloc (.cells #[.string C.val, .bool C.dirty, .bool C.typed, .bool C.chk, .bool C.dchk, .bool C.mixed, .bool C.sel, .bool C.dsel, .string C.custom, .slice fp C.files.length fc] 24)).alloc (.cells #[.string ⟨#[]⟩, .bool false, .bool false, .bool false, .bool false, .bool false, .bool false, .bool false, .string ⟨#[]⟩, .slice none 0 0] 24))) := ((Below.refl _ w).alloc (Nat.le_refl _) _).alloc ((Below.refl _ w).alloc (Nat.le_refl _) (.cells #[.string C.val, .bool C.dirty, .bool C.typed, .bool C.chk, .bool C.dchk, .bool C.mixed, .bool C.sel, .bool C.dsel, .string C.custom, .slice fp C.files.length fc] 24)).size _
  have NP := hide ((Bk.new w [.string C.val, .bool C.dirty, .bool C.typed, .bool C.chk, .bool C.dchk, .bool C.mixed, .bool C.sel, .bool C.dsel, .string C.custom, .slice fp C.files.length fc] 24).below ((Below.refl _ (w.alloc (.cells #[.string C.val, .bool C.dirty, .bool C.typed, .bool C.chk, .bool C.dchk, .bool C.mixed, .bool C.sel, .bool C.dsel, .string C.custom, .slice fp C.files.length fc] 24))).alloc (Nat.le_refl _) (.cells #[.string ⟨#[]⟩, .bool false, .bool false, .bool false, .bool false, .bool false, .bool false, .bool false, .string ⟨#[]⟩, .slice none 0 0] 24)))
  have NR0 := hide (Bk.new (w.alloc (.cells #[.string C.val, .bool C.dirty, .bool C.typed, .bool C.chk, .bool C.dchk, .bool C.mixed, .bool C.sel, .bool C.dsel, .string C.custom, .slice fp C.files.length fc] 24)) [.string ⟨#[]⟩, .bool false, .bool false, .bool false, .bool false, .bool false, .bool false, .bool false, .string ⟨#[]⟩, .slice none 0 0] 24)
  have NR : Hid (Bk ((w.alloc (.cells #[.string C.val, .bool C.dirty, .bool C.typed, .bool C.chk, .bool C.dchk, .bool C.mixed, .bool C.sel, .bool C.dsel, .string C.custom, .slice fp C.files.length fc] 24)).alloc (.cells #[.string ⟨#[]⟩, .bool false, .bool false, .bool false, .bool false, .bool false, .bool false, .bool false, .string ⟨#[]⟩, .slice none 0 0] 24)) (w.heap.size + 1) [.string ⟨#[]⟩, .bool false, .bool false, .bool false, .bool false, .bool false, .bool false, .bool false, .string ⟨#[]⟩, .slice none 0 0] 24) := by
    have e : (w.alloc (.cells #[.string C.val, .bool C.dirty, .bool C.typed, .bool C.chk, .bool C.dchk, .bool C.mixed, .bool C.sel, .bool C.dsel, .string C.custom, .slice fp C.files.length fc] 24)).heap.size = w.heap.size + 1 := by simp
    rw [e] at NR0; exact NR0
  clear NR0
  go_enter Tryz.func23, Tryz.ntmps23
  go_wp2_with fail
  generalize (w.alloc (.cells #[.string C.val, .bool C.dirty, .bool C.typed, .bool C.chk, .bool C.dchk, .bool C.mixed, .bool C.sel, .bool C.dsel, .string C.custom, .slice fp C.files.length fc] 24)).alloc (.cells #[.string ⟨#[]⟩, .bool false, .bool false, .bool false, .bool false, .bool false, .bool false, .bool false, .string ⟨#[]⟩, .slice none 0 0] 24) = w0 at *
  refine (HS.out _ B0.out).mono ?_
  rintro e w2 ⟨rfl, b2⟩
  have B2 := hide (chain B0.out b2)
  have BX : Hid (Below w2.heap.size w2 (w2.alloc (.cells #[.string z0, .bool z1, .bool z2, .bool z3, .bool z4, .bool z5, .bool z6, .bool z7, .string z8, .slice none 0 0] 24))) := (Below.refl _ w2).alloc (Nat.le_refl _) _
  have NX := hide (Bk.new w2 [.string z0, .bool z1, .bool z2, .bool z3, .bool z4, .bool z5, .bool z6, .bool z7, .string z8, .slice none 0 0] 24)
  replace NP := hide ((NP.out.below b2).below BX.out)
  have NR2 := hide (NR.out.below b2)
  have lt2 := NR2.out.lt
  replace NR := hide (NR2.out.below BX.out)
  have n1 : w.heap.size ≠ w2.heap.size := by omega
  have n2 : ¬ w2.heap.size = w.heap.size := by omega
  have n3 : w.heap.size + 1 ≠ w2.heap.size := by omega
  have n4 : ¬ w2.heap.size = w.heap.size + 1 := by omega
  have n5 : w.heap.size ≤ w2.heap.size := by omega
  go_upto_region 2 with fail
  generalize w2.alloc (.cells #[.string z0, .bool z1, .bool z2, .bool z3, .bool z4, .bool z5, .bool z6, .bool z7, .string z8, .slice none 0 0] 24) = x2 at *
  have B3 := hide (chain B2.out BX.out)
  clear NR2 b2 BX B2 B0
  have p0 := NP.out.cell 0 rfl
  have p1 := NP.out.cell 1 rfl
  have p2 := NP.out.cell 2 rfl
  have p3 := NP.out.cell 3 rfl
  have p4 := NP.out.cell 4 rfl
  have p5 := NP.out.cell 5 rfl
  have p6 := NP.out.cell 6 rfl
  have p7 := NP.out.cell 7 rfl
  have p8 := NP.out.cell 8 rfl
  have p9 := NP.out.cell 9 rfl
  have r0 := NR.out.cell 0 rfl
  have r1 := NR.out.cell 1 rfl
  have r2 := NR.out.cell 2 rfl
  have r3 := NR.out.cell 3 rfl
  have r4 := NR.out.cell 4 rfl
  have r5 := NR.out.cell 5 rfl
  have r6 := NR.out.cell 6 rfl
  have r7 := NR.out.cell 7 rfl
  have r8 := NR.out.cell 8 rfl
  have r9 := NR.out.cell 9 rfl
  have s0 := NR.out.free 0
  have s1 := NR.out.free 1
  have s2 := NR.out.free 2
  have s3 := NR.out.free 3
  have s4 := NR.out.free 4
  have s5 := NR.out.free 5
  have s6 := NR.out.free 6
  have s7 := NR.out.free 7
  have s8 := NR.out.free 8
  have s9 := NR.out.free 9
  have x0 := NX.out.cell 0 rfl
  have x1 := NX.out.cell 1 rfl
  have x2 := NX.out.cell 2 rfl
  have x3 := NX.out.cell 3 rfl
  have x4 := NX.out.cell 4 rfl
  have x5 := NX.out.cell 5 rfl
  have x6 := NX.out.cell 6 rfl
  have x7 := NX.out.cell 7 rfl
  have x8 := NX.out.cell 8 rfl
  have x9 := NX.out.cell 9 rfl
  have y0 := NX.out.free 0
  have y1 := NX.out.free 1
  have y2 := NX.out.free 2
  have y3 := NX.out.free 3
  have y4 := NX.out.free 4
  have y5 := NX.out.free 5
  have y6 := NX.out.free 6
  have y7 := NX.out.free 7
  have y8 := NX.out.free 8
  have y9 := NX.out.free 9
  go_wp2_with fail
  refine bodyPost_ret (v := .agg #[.string z0, .bool z1, .bool z2, .bool z3, .bool z4, .bool C.mixed, .bool z6, .bool z7, .string C.custom, .slice none 0 0]) (by simp [results, go_sem, r0, r1, r2, r3, r4, r5, r6, r7, r8, r9]) rfl ?_
  exact ⟨rfl, ct_endB (Nat.le_succ _) ((B3.out.setCell n5 _).setCell n5 _) _ _ _ _ _ _ _ _ _ _⟩
end Go.Proofs.YtfjfkkbgkjmghaaGreatDoor

namespace Go.Proofs.YtfjfkkbgkjmghaaGreatDoor
open Go.RowKit
theorem reset_files (k : Int) (C : Ct) (ax : List (ByteArray × ByteArray)) (text t : ByteArray) : (resetP k C ax text t).files = [] := start_files k ax text t
theorem refReset_ex (k : Int) (C : Ct) (fv v : Value) (ax : List (ByteArray × ByteArray)) (w : World) (hf : FilesV w fv C.files) (hv : AttrsV w v ax) (hz : AxOK ax) (text t : ByteArray) (ht : ClnIs k ax (srcS k ax text) t) (hs : text.size ≤ 100000) :
    Calls Tryz.prog 23 #[.int .i64 k, ctV C fv, v, .string text] w fun e w' => ∃ fv', e = .returned (ctV (resetP k C ax text t) fv') ∧ FilesV w' fv' (resetP k C ax text t).files ∧ Below w.heap.size w w' :=
  (refReset_any k C fv v ax w hf hv hz text t ht hs).mono fun e w' ⟨h, b⟩ => ⟨_, h, by rw [reset_files]; exact files_nil _, b⟩
set_option maxHeartbeats 4000000 in
set_option maxRecDepth 100000 in
theorem controlResets_walk (k : Int) (C : Ct) (fv v : Value) (ax : List (ByteArray × ByteArray)) (w : World) (hf : FilesV w fv C.files) (hF : FsOK C.files) (hcu : C.custom.size ≤ 140737488355328) (hv : AttrsV w v ax) (hl : ax.length ≤ 4398046511104) (s : ByteArray) (hT : CtTabs w) :
    Calls Tryz.prog 7 #[itV k C fv v, .string s] w fun e w' => e = .returned (.bool true) ∧ Below w.heap.size w w' := by
  have HW := hide (fun W (hb : Below w.heap.size w W) => ctWakes_any W (hT.below hb))
  have HG := hide (fun W (hb : Below w.heap.size w W) => ctLong_any k C fv v ax s W (hf.below hb) (hv.below hb) hl)
  have HT := hide hT
  have HV := hide hv
  have HFV := hide hf
  clear hT
  cases q : longI C ax s with
  | true =>
    rw [q] at HG
    clear q HV HFV HT hF hcu
    obtain ⟨p, c, rfl, _⟩ := hv
    obtain ⟨fp, fc, rfl, _⟩ := hf
    obtain ⟨c0, c1, c2, c3, c4, c5, c6, c7, c8, c9⟩ := C
    unfold itV
    have B0 : Hid (Below w.heap.size w (w.alloc (.cells #[.int .i64 k, .string c0, .bool c1, .bool c2, .bool c3, .bool c4, .bool c5, .bool c6, .bool c7, .string c8, .slice fp c9.length fc, .slice p ax.length c] 27))) := (Below.refl _ w).alloc (Nat.le_refl _) _
    have NX := hide (Bk.new w [.int .i64 k, .string c0, .bool c1, .bool c2, .bool c3, .bool c4, .bool c5, .bool c6, .bool c7, .string c8, .slice fp c9.length fc, .slice p ax.length c] 27)
    unfold itV at HG
    go_enter Tryz.func7, Tryz.ntmps7
    go_upto_region 1 with fail
    generalize w.alloc (.cells #[.int .i64 k, .string c0, .bool c1, .bool c2, .bool c3, .bool c4, .bool c5, .bool c6, .bool c7, .string c8, .slice fp c9.length fc, .slice p ax.length c] 27) = w0 at *
    have x0 := NX.out.cell 0 rfl
    have x1 := NX.out.cell 1 rfl
    have x2 := NX.out.cell 2 rfl
    have x3 := NX.out.cell 3 rfl
    have x4 := NX.out.cell 4 rfl
    have x5 := NX.out.cell 5 rfl
    have x6 := NX.out.cell 6 rfl
    have x7 := NX.out.cell 7 rfl
    have x8 := NX.out.cell 8 rfl
    have x9 := NX.out.cell 9 rfl
    have x10 := NX.out.cell 10 rfl
    have x11 := NX.out.cell 11 rfl
    go_wp2_with fail
    refine (HW.out _ B0.out).mono ?_
    rintro e w1 ⟨rfl, b1⟩
    have B1 := hide (chain B0.out b1)
    replace NX := hide (NX.out.below b1)
    clear x0 x1 x2 x3 x4 x5 x6 x7 x8 x9 x10 x11
    have x0 := NX.out.cell 0 rfl
    have x1 := NX.out.cell 1 rfl
    have x2 := NX.out.cell 2 rfl
    have x3 := NX.out.cell 3 rfl
    have x4 := NX.out.cell 4 rfl
    have x5 := NX.out.cell 5 rfl
    have x6 := NX.out.cell 6 rfl
    have x7 := NX.out.cell 7 rfl
    have x8 := NX.out.cell 8 rfl
    have x9 := NX.out.cell 9 rfl
    have x10 := NX.out.cell 10 rfl
    have x11 := NX.out.cell 11 rfl
    go_wp2_with fail
    refine (HG.out _ B1.out).mono ?_
    rintro e w2 ⟨rfl, b2⟩
    go_wp2_with fail
    go_ret
    exact ⟨rfl, chain B1.out b2⟩
  | false =>
    rw [q] at HG
    have S := longI_no q
    have CO : CtOK C := ⟨hF, hcu, Nat.le_trans S.val (by decide)⟩
    clear q
    obtain ⟨t, ht⟩ := cln_some k ax (srcS k ax s)
    have H1 := hide (fun W (hb : Below w.heap.size w W) => ctReset_any k C fv v ax W (HFV.out.below hb) (HV.out.below hb) S.ax s t ht (Nat.le_trans S.s (by decide)) hcu (HT.out.below hb))
    have H2 := hide (fun W (hb : Below w.heap.size w W) => refReset_ex k C fv v ax W (HFV.out.below hb) (HV.out.below hb) S.ax s t ht (Nat.le_trans S.s (by decide)))
    have H3 := hide (fun gv W (hb : Below w.heap.size w W) (hg : FilesV W gv (resetP k C ax s t).files) => ctReset_any k (resetP k C ax s t) gv v ax W hg (HV.out.below hb) S.ax s t ht (Nat.le_trans S.s (by decide)) hcu (HT.out.below hb))
    rw [reset_again] at H3
    have sf : (resetP k C ax s t).files = [] := reset_files k C ax s t
    have few0 := hF.len
    clear few0
    generalize resetP k C ax s t = SP at *
    have H5 := hide (fun W va vb (ha : CtlV W va SP) (hb : CtlV W vb SP) => refCtSame_yes va vb SP W ha hb (by rw [sf]; decide))
    clear S ht hF hcu CO HT HV HFV
    obtain ⟨p, c, rfl, _⟩ := hv
    obtain ⟨fp, fc, rfl, _⟩ := hf
    obtain ⟨c0, c1, c2, c3, c4, c5, c6, c7, c8, c9⟩ := C
    unfold itV
    have B0 : Hid (Below w.heap.size w (w.alloc (.cells #[.int .i64 k, .string c0, .bool c1, .bool c2, .bool c3, .bool c4, .bool c5, .bool c6, .bool c7, .string c8, .slice fp c9.length fc, .slice p ax.length c] 27))) := (Below.refl _ w).alloc (Nat.le_refl _) _
    have NX := hide (Bk.new w [.int .i64 k, .string c0, .bool c1, .bool c2, .bool c3, .bool c4, .bool c5, .bool c6, .bool c7, .string c8, .slice fp c9.length fc, .slice p ax.length c] 27)
    unfold itV at HG
    go_enter Tryz.func7, Tryz.ntmps7
    go_upto_region 1 with fail
    generalize w.alloc (.cells #[.int .i64 k, .string c0, .bool c1, .bool c2, .bool c3, .bool c4, .bool c5, .bool c6, .bool c7, .string c8, .slice fp c9.length fc, .slice p ax.length c] 27) = w0 at *
    have x0 := NX.out.cell 0 rfl
    have x1 := NX.out.cell 1 rfl
    have x2 := NX.out.cell 2 rfl
    have x3 := NX.out.cell 3 rfl
    have x4 := NX.out.cell 4 rfl
    have x5 := NX.out.cell 5 rfl
    have x6 := NX.out.cell 6 rfl
    have x7 := NX.out.cell 7 rfl
    have x8 := NX.out.cell 8 rfl
    have x9 := NX.out.cell 9 rfl
    have x10 := NX.out.cell 10 rfl
    have x11 := NX.out.cell 11 rfl
    go_wp2_with fail
    refine (HW.out _ B0.out).mono ?_
    rintro e w1 ⟨rfl, b1⟩
    have B1 := hide (chain B0.out b1)
    replace NX := hide (NX.out.below b1)
    clear x0 x1 x2 x3 x4 x5 x6 x7 x8 x9 x10 x11 b1 B0
    have x0 := NX.out.cell 0 rfl
    have x1 := NX.out.cell 1 rfl
    have x2 := NX.out.cell 2 rfl
    have x3 := NX.out.cell 3 rfl
    have x4 := NX.out.cell 4 rfl
    have x5 := NX.out.cell 5 rfl
    have x6 := NX.out.cell 6 rfl
    have x7 := NX.out.cell 7 rfl
    have x8 := NX.out.cell 8 rfl
    have x9 := NX.out.cell 9 rfl
    have x10 := NX.out.cell 10 rfl
    have x11 := NX.out.cell 11 rfl
    go_wp2_with fail
    refine (HG.out _ B1.out).mono ?_
    rintro e w2 ⟨rfl, b2⟩
    have B2 := hide (chain B1.out b2)
    replace NX := hide (NX.out.below b2)
    clear x0 x1 x2 x3 x4 x5 x6 x7 x8 x9 x10 x11 b2 B1 HW HG
    have x0 := NX.out.cell 0 rfl
    have x1 := NX.out.cell 1 rfl
    have x2 := NX.out.cell 2 rfl
    have x3 := NX.out.cell 3 rfl
    have x4 := NX.out.cell 4 rfl
    have x5 := NX.out.cell 5 rfl
    have x6 := NX.out.cell 6 rfl
    have x7 := NX.out.cell 7 rfl
    have x8 := NX.out.cell 8 rfl
    have x9 := NX.out.cell 9 rfl
    have x10 := NX.out.cell 10 rfl
    have x11 := NX.out.cell 11 rfl
    obtain ⟨s0, s1, s2, s3, s4, s5, s6, s7, s8, s9⟩ := SP
    have sf9 : s9 = [] := sf
    subst sf9
    unfold ctV ctCells at H1 H2 H3
    go_wp2_with fail
    refine (H1.out _ B2.out).mono ?_
    rintro e w3 ⟨f3, rfl, g3, b3⟩
    have G3 := hide g3
    obtain ⟨p3, d3, rfl, _⟩ := g3
    have B3 := hide (chain B2.out b3)
    have NX3 := hide (NX.out.below b3)
    have BX : Hid (Below w3.heap.size w3 (w3.alloc (.cells #[.string s0, .bool s1, .bool s2, .bool s3, .bool s4, .bool s5, .bool s6, .bool s7, .string s8, .slice p3 ([] : List En).length d3] 24))) := (Below.refl _ w3).alloc (Nat.le_refl _) _
    have NC := hide (Bk.new w3 [.string s0, .bool s1, .bool s2, .bool s3, .bool s4, .bool s5, .bool s6, .bool s7, .string s8, .slice p3 ([] : List En).length d3] 24)
    clear NX B2 b3
    clear x0 x1 x2 x3 x4 x5 x6 x7 x8 x9 x10 x11
    go_upto_region 6 with fail
    generalize w3.alloc (.cells #[.string s0, .bool s1, .bool s2, .bool s3, .bool s4, .bool s5, .bool s6, .bool s7, .string s8, .slice p3 ([] : List En).length d3] 24) = y3 at *
    have Y3 := hide (chain B3.out BX.out)
    have GY : Hid (FilesV y3 (.slice p3 0 d3) []) := G3.out.below BX.out
    replace NX3 := hide (NX3.out.below BX.out)
    have x0 := NX3.out.cell 0 rfl
    have x1 := NX3.out.cell 1 rfl
    have x2 := NX3.out.cell 2 rfl
    have x3 := NX3.out.cell 3 rfl
    have x4 := NX3.out.cell 4 rfl
    have x5 := NX3.out.cell 5 rfl
    have x6 := NX3.out.cell 6 rfl
    have x7 := NX3.out.cell 7 rfl
    have x8 := NX3.out.cell 8 rfl
    have x9 := NX3.out.cell 9 rfl
    have x10 := NX3.out.cell 10 rfl
    have x11 := NX3.out.cell 11 rfl
    have k0 := NC.out.cell 0 rfl
    have k1 := NC.out.cell 1 rfl
    have k2 := NC.out.cell 2 rfl
    have k3 := NC.out.cell 3 rfl
    have k4 := NC.out.cell 4 rfl
    have k5 := NC.out.cell 5 rfl
    have k6 := NC.out.cell 6 rfl
    have k7 := NC.out.cell 7 rfl
    have k8 := NC.out.cell 8 rfl
    have k9 := NC.out.cell 9 rfl
    replace k9 : y3.cell? ⟨w3.heap.size, 9, none⟩ = some (.slice p3 0 d3) := k9
    clear NX3 NC BX B3 G3
    go_region_held3 (fun w' => w'.cell? ⟨w.heap.size, 0, none⟩ = some (.int .i64 k) ∧ w'.cell? ⟨w.heap.size, 1, none⟩ = some (.string c0) ∧ w'.cell? ⟨w.heap.size, 2, none⟩ = some (.bool c1) ∧ w'.cell? ⟨w.heap.size, 3, none⟩ = some (.bool c2) ∧ w'.cell? ⟨w.heap.size, 4, none⟩ = some (.bool c3) ∧ w'.cell? ⟨w.heap.size, 5, none⟩ = some (.bool c4) ∧ w'.cell? ⟨w.heap.size, 6, none⟩ = some (.bool c5) ∧ w'.cell? ⟨w.heap.size, 7, none⟩ = some (.bool c6) ∧ w'.cell? ⟨w.heap.size, 8, none⟩ = some (.bool c7) ∧ w'.cell? ⟨w.heap.size, 9, none⟩ = some (.string c8) ∧ w'.cell? ⟨w.heap.size, 10, none⟩ = some (.slice fp c9.length fc) ∧ w'.cell? ⟨w.heap.size, 11, none⟩ = some (.slice p ax.length c) ∧ w'.cell? ⟨w3.heap.size, 0, none⟩ = some (.string s0) ∧ w'.cell? ⟨w3.heap.size, 1, none⟩ = some (.bool s1) ∧ w'.cell? ⟨w3.heap.size, 2, none⟩ = some (.bool s2) ∧ w'.cell? ⟨w3.heap.size, 3, none⟩ = some (.bool s3) ∧ w'.cell? ⟨w3.heap.size, 4, none⟩ = some (.bool s4) ∧ w'.cell? ⟨w3.heap.size, 5, none⟩ = some (.bool s5) ∧ w'.cell? ⟨w3.heap.size, 6, none⟩ = some (.bool s6) ∧ w'.cell? ⟨w3.heap.size, 7, none⟩ = some (.bool s7) ∧ w'.cell? ⟨w3.heap.size, 8, none⟩ = some (.string s8) ∧ w'.cell? ⟨w3.heap.size, 9, none⟩ = some (.slice p3 0 d3)) (first | go_keep | exact ⟨cell_below x0 U4.out, cell_below x1 U4.out, cell_below x2 U4.out, cell_below x3 U4.out, cell_below x4 U4.out, cell_below x5 U4.out, cell_below x6 U4.out, cell_below x7 U4.out, cell_below x8 U4.out, cell_below x9 U4.out, cell_below x10 U4.out, cell_below x11 U4.out, cell_below k0 U4.out, cell_below k1 U4.out, cell_below k2 U4.out, cell_below k3 U4.out, cell_below k4 U4.out, cell_below k5 U4.out, cell_below k6 U4.out, cell_below k7 U4.out, cell_below k8 U4.out, cell_below k9 U4.out⟩ | exact ⟨cell_below x0 U5.out, cell_below x1 U5.out, cell_below x2 U5.out, cell_below x3 U5.out, cell_below x4 U5.out, cell_below x5 U5.out, cell_below x6 U5.out, cell_below x7 U5.out, cell_below x8 U5.out, cell_below x9 U5.out, cell_below x10 U5.out, cell_below x11 U5.out, cell_below k0 U5.out, cell_below k1 U5.out, cell_below k2 U5.out, cell_below k3 U5.out, cell_below k4 U5.out, cell_below k5 U5.out, cell_below k6 U5.out, cell_below k7 U5.out, cell_below k8 U5.out, cell_below k9 U5.out⟩ | exact ⟨cell_below x0 U6.out, cell_below x1 U6.out, cell_below x2 U6.out, cell_below x3 U6.out, cell_below x4 U6.out, cell_below x5 U6.out, cell_below x6 U6.out, cell_below x7 U6.out, cell_below x8 U6.out, cell_below x9 U6.out, cell_below x10 U6.out, cell_below x11 U6.out, cell_below k0 U6.out, cell_below k1 U6.out, cell_below k2 U6.out, cell_below k3 U6.out, cell_below k4 U6.out, cell_below k5 U6.out, cell_below k6 U6.out, cell_below k7 U6.out, cell_below k8 U6.out, cell_below k9 U6.out⟩ | exact ⟨cell_below x0 U7.out, cell_below x1 U7.out, cell_below x2 U7.out, cell_below x3 U7.out, cell_below x4 U7.out, cell_below x5 U7.out, cell_below x6 U7.out, cell_below x7 U7.out, cell_below x8 U7.out, cell_below x9 U7.out, cell_below x10 U7.out, cell_below x11 U7.out, cell_below k0 U7.out, cell_below k1 U7.out, cell_below k2 U7.out, cell_below k3 U7.out, cell_below k4 U7.out, cell_below k5 U7.out, cell_below k6 U7.out, cell_below k7 U7.out, cell_below k8 U7.out, cell_below k9 U7.out⟩)
      (first | (go_at_call 23; refine (H2.out _ (belR Y3.out 1)).mono ?_; rintro e w4 ⟨f4, rfl, g4, b4⟩; have G4 := hide g4; obtain ⟨p4, d4, rfl, _⟩ := g4; have U4 : Hid (Below y3.heap.size y3 w4) := undrewC b4; have B4 : Hid (Below w.heap.size w w4) := chain Y3.out U4.out; have GC4 := hide (GY.out.below U4.out)) | (go_at_call 11; have hz6 := B6; clear hz6; refine (H5.out _ _ _ ⟨_, rfl, G6.out⟩ ⟨_, rfl, GC6.out⟩).mono ?_; rintro e w7 ⟨rfl, b7⟩; have U7 : Hid (Below y3.heap.size y3 w7) := chain U6.out b7; have B7 : Hid (Below w.heap.size w w7) := chain Y3.out U7.out; have GC7 := hide (GY.out.below U7.out)) | (go_at_call 11; refine (H5.out _ _ _ ⟨_, rfl, GC4.out⟩ ⟨_, rfl, G4.out⟩).mono ?_; rintro e w5 ⟨rfl, b5⟩; have U5 : Hid (Below y3.heap.size y3 w5) := chain U4.out b5; have B5 : Hid (Below w.heap.size w w5) := chain Y3.out U5.out; have GC5 := hide (GY.out.below U5.out)) | (go_at_call 22; refine (H3.out _ _ B5.out GC5.out).mono ?_; rintro e w6 ⟨f6, rfl, g6, b6⟩; have G6 := hide g6; obtain ⟨p6, d6, rfl, _⟩ := g6; have U6 : Hid (Below y3.heap.size y3 w6) := chain U5.out b6; have B6 : Hid (Below w.heap.size w w6) := chain Y3.out U6.out; have GC6 := hide (GY.out.below U6.out)))
    go_wp2_with fail
    go_ret
    exact ⟨rfl, B7.out⟩

end Go.Proofs.YtfjfkkbgkjmghaaGreatDoor
