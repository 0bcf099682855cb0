/- The document's Start, Reset and Value of layer 14. Stage 14's wakes and long, and its laws, walked. -/
import Derived.Test.YtfjfkkbgkjmghaaGreatDoorJct34
import Derived.Test.YtfjfkkbgkjmghaaGreatDoorJct41
import Derived.Test.YtfjfkkbgkjmghaaGreatDoorJct43
import Derived.Test.YtfjfkkbgkjmghaaGreatDoorJct44
import Derived.Test.YtfjfkkbgkjmghaaGreatDoorJct45

namespace Go.Proofs.YtfjfkkbgkjmghaaGreatDoor
open Go.RowKit
set_option maxHeartbeats 4000000 in
set_option maxRecDepth 100000 in
theorem refValueC_m1 (v : Value) (ax : List (ByteArray × ByteArray)) (w : World) (hv : AttrsV w v ax) (hz : AxOK ax) (k : Int) (C : Ct) (fv : Value) (hf : FilesV w fv C.files) (hm : modeV k = 1) :
    Calls Tryz.prog 15 #[.int .i64 k, ctV C fv, v] w fun e w' => e = .returned (.string C.val) ∧ Below w.heap.size w w' := by
  have A1 := hide (fun W (hb : Below w.heap.size w W) => refAttrS_any v ax valS W (hv.below hb) hz.len)
  rw [show valS = ⟨#[118, 97, 108, 117, 101]⟩ from rfl] at A1
  have HM := hide (fun W => refMode_any k W)
  have HQ := hide (fun W => refPush_any k W)
  obtain ⟨fp, fc, rfl, _⟩ := hf
  rw [hm] at HM
  clear hm HQ
  obtain ⟨p, c, rfl, _⟩ := hv
  unfold ctV ctCells
  have B1 : Hid (∀ o, Below w.heap.size w (w.alloc o)) := fun o => (Below.refl _ w).alloc (Nat.le_refl _) _
  clear hz
  go_enter Tryz.func15, Tryz.ntmps15
  go_wp2_with fail
  refine (A1.out _ (B1.out _)).mono ?_
  rintro e w1 ⟨rfl, rfl⟩
  go_wp2_with fail
  refine (HM.out _).mono ?_
  rintro e w1 ⟨rfl, rfl⟩
  go_wp2_with fail
  go_ret
  exact ⟨rfl, B1.out _⟩
set_option maxHeartbeats 4000000 in
set_option maxRecDepth 100000 in
theorem refValueC_m2 (v : Value) (ax : List (ByteArray × ByteArray)) (w : World) (hv : AttrsV w v ax) (hz : AxOK ax) (k : Int) (C : Ct) (fv : Value) (hf : FilesV w fv C.files) (hm : modeV k = 2) :
    Calls Tryz.prog 15 #[.int .i64 k, ctV C fv, v] w fun e w' => e = .returned (.string (fndS ax ⟨#[118, 97, 108, 117, 101]⟩)) ∧ Below w.heap.size w w' := by
  have A1 := hide (fun W (hb : Below w.heap.size w W) => refAttrS_any v ax valS W (hv.below hb) hz.len)
  rw [show valS = ⟨#[118, 97, 108, 117, 101]⟩ from rfl] at A1
  have HM := hide (fun W => refMode_any k W)
  have HQ := hide (fun W => refPush_any k W)
  obtain ⟨fp, fc, rfl, _⟩ := hf
  rw [hm] at HM
  clear hm HQ
  obtain ⟨p, c, rfl, _⟩ := hv
  unfold ctV ctCells
  have B1 : Hid (∀ o, Below w.heap.size w (w.alloc o)) := fun o => (Below.refl _ w).alloc (Nat.le_refl _) _
  clear hz
  go_enter Tryz.func15, Tryz.ntmps15
  go_wp2_with fail
  refine (A1.out _ (B1.out _)).mono ?_
  rintro e w1 ⟨rfl, rfl⟩
  go_wp2_with fail
  refine (HM.out _).mono ?_
  rintro e w1 ⟨rfl, rfl⟩
  go_wp2_with fail
  go_ret
  exact ⟨rfl, B1.out _⟩
set_option maxHeartbeats 4000000 in
set_option maxRecDepth 100000 in
theorem refValueC_m3y (v : Value) (ax : List (ByteArray × ByteArray)) (w : World) (hv : AttrsV w v ax) (hz : AxOK ax) (k : Int) (C : Ct) (fv : Value) (hf : FilesV w fv C.files) (hm : modeV k = 3) (hh : (findA ax ⟨#[118, 97, 108, 117, 101]⟩).isSome = true) :
    Calls Tryz.prog 15 #[.int .i64 k, ctV C fv, v] w fun e w' => e = .returned (.string (fndS ax ⟨#[118, 97, 108, 117, 101]⟩)) ∧ Below w.heap.size w w' := by
  have A1 := hide (fun W (hb : Below w.heap.size w W) => refAttrS_any v ax valS W (hv.below hb) hz.len)
  rw [show valS = ⟨#[118, 97, 108, 117, 101]⟩ from rfl] at A1
  have HM := hide (fun W => refMode_any k W)
  have HQ := hide (fun W => refPush_any k W)
  obtain ⟨fp, fc, rfl, _⟩ := hf
  rw [hm] at HM
  rw [hh] at A1
  clear hm HQ hh
  obtain ⟨p, c, rfl, _⟩ := hv
  unfold ctV ctCells
  have B1 : Hid (∀ o, Below w.heap.size w (w.alloc o)) := fun o => (Below.refl _ w).alloc (Nat.le_refl _) _
  clear hz
  go_enter Tryz.func15, Tryz.ntmps15
  go_wp2_with fail
  refine (A1.out _ (B1.out _)).mono ?_
  rintro e w1 ⟨rfl, rfl⟩
  go_wp2_with fail
  refine (HM.out _).mono ?_
  rintro e w1 ⟨rfl, rfl⟩
  go_wp2_with fail
  go_ret
  exact ⟨rfl, B1.out _⟩
set_option maxHeartbeats 4000000 in
set_option maxRecDepth 100000 in
theorem refValueC_m3n (v : Value) (ax : List (ByteArray × ByteArray)) (w : World) (hv : AttrsV w v ax) (hz : AxOK ax) (k : Int) (C : Ct) (fv : Value) (hf : FilesV w fv C.files) (hm : modeV k = 3) (hh : (findA ax ⟨#[118, 97, 108, 117, 101]⟩).isSome = false) :
    Calls Tryz.prog 15 #[.int .i64 k, ctV C fv, v] w fun e w' => e = .returned (.string ⟨#[111, 110]⟩) ∧ Below w.heap.size w w' := by
  have A1 := hide (fun W (hb : Below w.heap.size w W) => refAttrS_any v ax valS W (hv.below hb) hz.len)
  rw [show valS = ⟨#[118, 97, 108, 117, 101]⟩ from rfl] at A1
  have HM := hide (fun W => refMode_any k W)
  have HQ := hide (fun W => refPush_any k W)
  obtain ⟨fp, fc, rfl, _⟩ := hf
  rw [hm] at HM
  rw [hh] at A1
  clear hm HQ hh
  obtain ⟨p, c, rfl, _⟩ := hv
  unfold ctV ctCells
  have B1 : Hid (∀ o, Below w.heap.size w (w.alloc o)) := fun o => (Below.refl _ w).alloc (Nat.le_refl _) _
  clear hz
  go_enter Tryz.func15, Tryz.ntmps15
  go_wp2_with fail
  refine (A1.out _ (B1.out _)).mono ?_
  rintro e w1 ⟨rfl, rfl⟩
  go_wp2_with fail
  refine (HM.out _).mono ?_
  rintro e w1 ⟨rfl, rfl⟩
  go_wp2_with fail
  go_ret
  exact ⟨rfl, B1.out _⟩
set_option maxHeartbeats 4000000 in
set_option maxRecDepth 100000 in
theorem refValueC_m4n (v : Value) (ax : List (ByteArray × ByteArray)) (w : World) (hv : AttrsV w v ax) (hz : AxOK ax) (k : Int) (C : Ct) (fv : Value) (hf : FilesV w fv C.files) (hm : modeV k = 4) (hfs : C.files = []) :
    Calls Tryz.prog 15 #[.int .i64 k, ctV C fv, v] w fun e w' => e = .returned (.string ⟨#[]⟩) ∧ Below w.heap.size w w' := by
  have A1 := hide (fun W (hb : Below w.heap.size w W) => refAttrS_any v ax valS W (hv.below hb) hz.len)
  rw [show valS = ⟨#[118, 97, 108, 117, 101]⟩ from rfl] at A1
  have HM := hide (fun W => refMode_any k W)
  have HQ := hide (fun W => refPush_any k W)
  obtain ⟨fp, fc, rfl, _⟩ := hf
  rw [hm] at HM
  have l0 : C.files.length = 0 := by rw [hfs]; rfl
  rw [l0]
  clear hm HQ hfs l0
  obtain ⟨p, c, rfl, _⟩ := hv
  unfold ctV ctCells
  have B1 : Hid (∀ o, Below w.heap.size w (w.alloc o)) := fun o => (Below.refl _ w).alloc (Nat.le_refl _) _
  clear hz
  go_enter Tryz.func15, Tryz.ntmps15
  go_wp2_with fail
  refine (A1.out _ (B1.out _)).mono ?_
  rintro e w1 ⟨rfl, rfl⟩
  go_wp2_with fail
  refine (HM.out _).mono ?_
  rintro e w1 ⟨rfl, rfl⟩
  go_wp2_with fail
  go_ret
  exact ⟨rfl, B1.out _⟩
set_option maxHeartbeats 4000000 in
set_option maxRecDepth 100000 in
theorem refValueC_m4y (v : Value) (ax : List (ByteArray × ByteArray)) (w : World) (hv : AttrsV w v ax) (hz : AxOK ax) (k : Int) (C : Ct) (fv : Value) (hf : FilesV w fv C.files) (hm : modeV k = 4) (en : En) (r : List En) (hfs : C.files = en :: r) (hF : FsOK C.files) :
    Calls Tryz.prog 15 #[.int .i64 k, ctV C fv, v] w fun e w' => e = .returned (.string (⟨#[67, 58, 92, 102, 97, 107, 101, 112, 97, 116, 104, 92]⟩ ++ en.fname)) ∧ Below w.heap.size w w' := by
  have A1 := hide (fun W (hb : Below w.heap.size w W) => refAttrS_any v ax valS W (hv.below hb) hz.len)
  rw [show valS = ⟨#[118, 97, 108, 117, 101]⟩ from rfl] at A1
  have HM := hide (fun W => refMode_any k W)
  have HQ := hide (fun W => refPush_any k W)
  obtain ⟨fp, fc, rfl, hf2⟩ := hf
  obtain ⟨b, o, rfl, hf3⟩ : ∃ b o, fp = some ⟨b, o, none⟩ ∧ ∀ i (h : i < C.files.length), EnAt w b (o + i * 5) C.files[i] := by
    rcases hf2 with q | q
    · rw [hfs] at q; cases q
    · exact q
  have hl : 0 < C.files.length := by rw [hfs]; exact Nat.succ_pos _
  have E0 := hf3 0 hl
  rw [show C.files[0] = en by simp [hfs]] at E0
  have x3 : w.cell? ⟨b, o + 3, none⟩ = some (.string en.fname) := by have := E0.c3; simpa using this
  have hlt : b < w.heap.size := World.block_lt_of_cell? _ _ x3
  have fb := hF.name en (by rw [hfs]; exact List.mem_cons_self)
  have nb : ¬ 9223372036854775807 < 12 + en.fname.size := by omega
  have hne : b ≠ w.heap.size := by omega
  have i1 : (0 : Int) < (C.files.length : Int) := by omega
  have i2 : ((C.files.length : Int) == 0) = false := by rw [beq_eq_false_iff_ne]; omega
  have i3 : ¬ (C.files.length : Int) = 0 := by omega
  have i4 : ¬ C.files.length = 0 := by omega
  rw [hm] at HM
  clear hm HQ hf2 hf3 E0 hfs hF
  generalize en.fname = fnm at *
  generalize C.files.length = fl at *
  obtain ⟨p, c, rfl, _⟩ := hv
  unfold ctV ctCells
  have B1 : Hid (∀ o, Below w.heap.size w (w.alloc o)) := fun o => (Below.refl _ w).alloc (Nat.le_refl _) _
  clear hz
  go_enter Tryz.func15, Tryz.ntmps15
  go_wp2_with fail
  refine (A1.out _ (B1.out _)).mono ?_
  rintro e w1 ⟨rfl, rfl⟩
  go_wp2_with fail
  refine (HM.out _).mono ?_
  rintro e w1 ⟨rfl, rfl⟩
  go_wp2_with fail
  go_ret
  exact ⟨rfl, B1.out _⟩
set_option maxHeartbeats 4000000 in
set_option maxRecDepth 100000 in
theorem refValueC_m0y (v : Value) (ax : List (ByteArray × ByteArray)) (w : World) (hv : AttrsV w v ax) (hz : AxOK ax) (k : Int) (C : Ct) (fv : Value) (hf : FilesV w fv C.files) (hm : modeV k = 0) (hq : isPush k = true) :
    Calls Tryz.prog 15 #[.int .i64 k, ctV C fv, v] w fun e w' => e = .returned (.string (fndS ax ⟨#[118, 97, 108, 117, 101]⟩)) ∧ Below w.heap.size w w' := by
  have A1 := hide (fun W (hb : Below w.heap.size w W) => refAttrS_any v ax valS W (hv.below hb) hz.len)
  rw [show valS = ⟨#[118, 97, 108, 117, 101]⟩ from rfl] at A1
  have HM := hide (fun W => refMode_any k W)
  have HQ := hide (fun W => refPush_any k W)
  obtain ⟨fp, fc, rfl, _⟩ := hf
  rw [hm] at HM
  rw [hq] at HQ
  clear hm hq
  obtain ⟨p, c, rfl, _⟩ := hv
  unfold ctV ctCells
  have B1 : Hid (∀ o, Below w.heap.size w (w.alloc o)) := fun o => (Below.refl _ w).alloc (Nat.le_refl _) _
  clear hz
  go_enter Tryz.func15, Tryz.ntmps15
  go_wp2_with fail
  refine (A1.out _ (B1.out _)).mono ?_
  rintro e w1 ⟨rfl, rfl⟩
  go_wp2_with fail
  refine (HM.out _).mono ?_
  rintro e w1 ⟨rfl, rfl⟩
  go_wp2_with fail
  refine (HQ.out _).mono ?_
  rintro e w1 ⟨rfl, rfl⟩
  go_wp2_with fail
  go_ret
  exact ⟨rfl, B1.out _⟩
set_option maxHeartbeats 4000000 in
set_option maxRecDepth 100000 in
theorem refValueC_m0n (v : Value) (ax : List (ByteArray × ByteArray)) (w : World) (hv : AttrsV w v ax) (hz : AxOK ax) (k : Int) (C : Ct) (fv : Value) (hf : FilesV w fv C.files) (hm : modeV k = 0) (hq : isPush k = false) :
    Calls Tryz.prog 15 #[.int .i64 k, ctV C fv, v] w fun e w' => e = .returned (.string ⟨#[]⟩) ∧ Below w.heap.size w w' := by
  have A1 := hide (fun W (hb : Below w.heap.size w W) => refAttrS_any v ax valS W (hv.below hb) hz.len)
  rw [show valS = ⟨#[118, 97, 108, 117, 101]⟩ from rfl] at A1
  have HM := hide (fun W => refMode_any k W)
  have HQ := hide (fun W => refPush_any k W)
  obtain ⟨fp, fc, rfl, _⟩ := hf
  rw [hm] at HM
  rw [hq] at HQ
  clear hm hq
  obtain ⟨p, c, rfl, _⟩ := hv
  unfold ctV ctCells
  have B1 : Hid (∀ o, Below w.heap.size w (w.alloc o)) := fun o => (Below.refl _ w).alloc (Nat.le_refl _) _
  clear hz
  go_enter Tryz.func15, Tryz.ntmps15
  go_wp2_with fail
  refine (A1.out _ (B1.out _)).mono ?_
  rintro e w1 ⟨rfl, rfl⟩
  go_wp2_with fail
  refine (HM.out _).mono ?_
  rintro e w1 ⟨rfl, rfl⟩
  go_wp2_with fail
  refine (HQ.out _).mono ?_
  rintro e w1 ⟨rfl, rfl⟩
  go_wp2_with fail
  go_ret
  exact ⟨rfl, B1.out _⟩
theorem refValueC_any (k : Int) (C : Ct) (fv v : Value) (ax : List (ByteArray × ByteArray)) (w : World) (hf : FilesV w fv C.files) (hF : FsOK C.files) (hv : AttrsV w v ax) (hz : AxOK ax) :
    Calls Tryz.prog 15 #[.int .i64 k, ctV C fv, v] w fun e w' => e = .returned (.string (valueP k C ax)) ∧ Below w.heap.size w w' := by
  unfold valueP
  rcases mode_cases k with m | m | m | m | m
  · rw [if_neg (by rw [m]; decide), if_neg (by rw [m]; decide), if_neg (by rw [m]; decide), if_neg (by rw [m]; decide)]
    cases hq : isPush k with
    | true => exact refValueC_m0y v ax w hv hz k C fv hf m hq
    | false => exact refValueC_m0n v ax w hv hz k C fv hf m hq
  · rw [if_pos m]; exact refValueC_m1 v ax w hv hz k C fv hf m
  · rw [if_neg (by rw [m]; decide), if_pos m]; exact refValueC_m2 v ax w hv hz k C fv hf m
  · rw [if_neg (by rw [m]; decide), if_neg (by rw [m]; decide), if_pos m]
    cases hh : (findA ax valS).isSome with
    | true => exact refValueC_m3y v ax w hv hz k C fv hf m hh
    | false => exact refValueC_m3n v ax w hv hz k C fv hf m hh
  · rw [if_neg (by rw [m]; decide), if_neg (by rw [m]; decide), if_neg (by rw [m]; decide), if_pos m]
    cases hfs : C.files with
    | nil => exact refValueC_m4n v ax w hv hz k C fv hf m hfs
    | cons e r => exact refValueC_m4y v ax w hv hz k C fv hf m e r hfs hF
end Go.Proofs.YtfjfkkbgkjmghaaGreatDoor

namespace Go.Proofs.YtfjfkkbgkjmghaaGreatDoor
open Go.RowKit
set_option maxHeartbeats 4000000 in
set_option maxRecDepth 100000 in
theorem controlStarts_walk (k : Int) (C : Ct) (fv v : Value) (ax : List (ByteArray × ByteArray)) (w : World) (hf : FilesV w fv C.files) (hF : FsOK C.files) (hcu : C.custom.size ≤ 140737488355328) (hv : AttrsV w v ax) (hl : ax.length ≤ 4398046511104) (s : ByteArray) (hT : CtTabs w) :
    Calls Tryz.prog 3 #[itV k C fv v, .string s] w fun e w' => e = .returned (.bool true) ∧ Below w.heap.size w w' := by
  have HW := hide (fun W (hb : Below w.heap.size w W) => ctWakes_any W (hT.below hb))
  have HG := hide (fun W (hb : Below w.heap.size w W) => ctLong_any k C fv v ax s W (hf.below hb) (hv.below hb) hl)
  have HT := hide hT
  have HV := hide hv
  have HFV := hide hf
  clear hT
  cases q : longI C ax s with
  | true =>
    rw [q] at HG
    clear q HV HFV HT hF hcu
    obtain ⟨p, c, rfl, _⟩ := hv
    obtain ⟨fp, fc, rfl, _⟩ := hf
    obtain ⟨c0, c1, c2, c3, c4, c5, c6, c7, c8, c9⟩ := C
    unfold itV
    have B0 : Hid (Below w.heap.size w (w.alloc (.cells #[.int .i64 k, .string c0, .bool c1, .bool c2, .bool c3, .bool c4, .bool c5, .bool c6, .bool c7, .string c8, .slice fp c9.length fc, .slice p ax.length c] 27))) := (Below.refl _ w).alloc (Nat.le_refl _) _
    have NX := hide (Bk.new w [.int .i64 k, .string c0, .bool c1, .bool c2, .bool c3, .bool c4, .bool c5, .bool c6, .bool c7, .string c8, .slice fp c9.length fc, .slice p ax.length c] 27)
    unfold itV at HG
    go_enter Tryz.func3, Tryz.ntmps3
    go_upto_region 1 with fail
    generalize w.alloc (.cells #[.int .i64 k, .string c0, .bool c1, .bool c2, .bool c3, .bool c4, .bool c5, .bool c6, .bool c7, .string c8, .slice fp c9.length fc, .slice p ax.length c] 27) = w0 at *
    have x0 := NX.out.cell 0 rfl
    have x1 := NX.out.cell 1 rfl
    have x2 := NX.out.cell 2 rfl
    have x3 := NX.out.cell 3 rfl
    have x4 := NX.out.cell 4 rfl
    have x5 := NX.out.cell 5 rfl
    have x6 := NX.out.cell 6 rfl
    have x7 := NX.out.cell 7 rfl
    have x8 := NX.out.cell 8 rfl
    have x9 := NX.out.cell 9 rfl
    have x10 := NX.out.cell 10 rfl
    have x11 := NX.out.cell 11 rfl
    go_wp2_with fail
    refine (HW.out _ B0.out).mono ?_
    rintro e w1 ⟨rfl, b1⟩
    have B1 := hide (chain B0.out b1)
    replace NX := hide (NX.out.below b1)
    clear x0 x1 x2 x3 x4 x5 x6 x7 x8 x9 x10 x11
    have x0 := NX.out.cell 0 rfl
    have x1 := NX.out.cell 1 rfl
    have x2 := NX.out.cell 2 rfl
    have x3 := NX.out.cell 3 rfl
    have x4 := NX.out.cell 4 rfl
    have x5 := NX.out.cell 5 rfl
    have x6 := NX.out.cell 6 rfl
    have x7 := NX.out.cell 7 rfl
    have x8 := NX.out.cell 8 rfl
    have x9 := NX.out.cell 9 rfl
    have x10 := NX.out.cell 10 rfl
    have x11 := NX.out.cell 11 rfl
    go_wp2_with fail
    refine (HG.out _ B1.out).mono ?_
    rintro e w2 ⟨rfl, b2⟩
    go_wp2_with fail
    go_ret
    exact ⟨rfl, chain B1.out b2⟩
  | false =>
    rw [q] at HG
    have S := longI_no q
    have CO : CtOK C := ⟨hF, hcu, Nat.le_trans S.val (by decide)⟩
    clear q
    obtain ⟨t, ht⟩ := cln_some k ax (srcS k ax s)
    have H1 := hide (fun W (hb : Below w.heap.size w W) => ctStart_any k v ax W (HV.out.below hb) S.ax s t ht (Nat.le_trans S.s (by decide)) (HT.out.below hb))
    have H2 := hide (fun W (hb : Below w.heap.size w W) => refStart_any k v ax W (HV.out.below hb) S.ax s t ht (Nat.le_trans S.s (by decide)))
    have H3 := hide (fun W (hb : Below w.heap.size w W) => ctValue_any k C fv v ax W (HFV.out.below hb) (HV.out.below hb) S.ax CO (HT.out.below hb))
    have H4 := hide (fun W (hb : Below w.heap.size w W) => refValueC_any k C fv v ax W (HFV.out.below hb) hF (HV.out.below hb) S.ax)
    generalize valueP k C ax = vp at *
    have sf : (startP k ax s t).files = [] := start_files k ax s t
    generalize startP k ax s t = SP at *
    have H5 := hide (fun W va vb (ha : CtlV W va SP) (hb : CtlV W vb SP) => refCtSame_yes va vb SP W ha hb (by rw [sf]; decide))
    clear S ht hF hcu CO HT HV HFV
    obtain ⟨p, c, rfl, _⟩ := hv
    obtain ⟨fp, fc, rfl, _⟩ := hf
    obtain ⟨c0, c1, c2, c3, c4, c5, c6, c7, c8, c9⟩ := C
    unfold itV
    have B0 : Hid (Below w.heap.size w (w.alloc (.cells #[.int .i64 k, .string c0, .bool c1, .bool c2, .bool c3, .bool c4, .bool c5, .bool c6, .bool c7, .string c8, .slice fp c9.length fc, .slice p ax.length c] 27))) := (Below.refl _ w).alloc (Nat.le_refl _) _
    have NX := hide (Bk.new w [.int .i64 k, .string c0, .bool c1, .bool c2, .bool c3, .bool c4, .bool c5, .bool c6, .bool c7, .string c8, .slice fp c9.length fc, .slice p ax.length c] 27)
    unfold itV at HG
    go_enter Tryz.func3, Tryz.ntmps3
    go_upto_region 1 with fail
    generalize w.alloc (.cells #[.int .i64 k, .string c0, .bool c1, .bool c2, .bool c3, .bool c4, .bool c5, .bool c6, .bool c7, .string c8, .slice fp c9.length fc, .slice p ax.length c] 27) = w0 at *
    have x0 := NX.out.cell 0 rfl
    have x1 := NX.out.cell 1 rfl
    have x2 := NX.out.cell 2 rfl
    have x3 := NX.out.cell 3 rfl
    have x4 := NX.out.cell 4 rfl
    have x5 := NX.out.cell 5 rfl
    have x6 := NX.out.cell 6 rfl
    have x7 := NX.out.cell 7 rfl
    have x8 := NX.out.cell 8 rfl
    have x9 := NX.out.cell 9 rfl
    have x10 := NX.out.cell 10 rfl
    have x11 := NX.out.cell 11 rfl
    go_wp2_with fail
    refine (HW.out _ B0.out).mono ?_
    rintro e w1 ⟨rfl, b1⟩
    have B1 := hide (chain B0.out b1)
    replace NX := hide (NX.out.below b1)
    clear x0 x1 x2 x3 x4 x5 x6 x7 x8 x9 x10 x11 b1 B0
    have x0 := NX.out.cell 0 rfl
    have x1 := NX.out.cell 1 rfl
    have x2 := NX.out.cell 2 rfl
    have x3 := NX.out.cell 3 rfl
    have x4 := NX.out.cell 4 rfl
    have x5 := NX.out.cell 5 rfl
    have x6 := NX.out.cell 6 rfl
    have x7 := NX.out.cell 7 rfl
    have x8 := NX.out.cell 8 rfl
    have x9 := NX.out.cell 9 rfl
    have x10 := NX.out.cell 10 rfl
    have x11 := NX.out.cell 11 rfl
    go_wp2_with fail
    refine (HG.out _ B1.out).mono ?_
    rintro e w2 ⟨rfl, b2⟩
    have B2 := hide (chain B1.out b2)
    replace NX := hide (NX.out.below b2)
    clear x0 x1 x2 x3 x4 x5 x6 x7 x8 x9 x10 x11 b2 B1 HW HG
    have x0 := NX.out.cell 0 rfl
    have x1 := NX.out.cell 1 rfl
    have x2 := NX.out.cell 2 rfl
    have x3 := NX.out.cell 3 rfl
    have x4 := NX.out.cell 4 rfl
    have x5 := NX.out.cell 5 rfl
    have x6 := NX.out.cell 6 rfl
    have x7 := NX.out.cell 7 rfl
    have x8 := NX.out.cell 8 rfl
    have x9 := NX.out.cell 9 rfl
    have x10 := NX.out.cell 10 rfl
    have x11 := NX.out.cell 11 rfl
    obtain ⟨s0, s1, s2, s3, s4, s5, s6, s7, s8, s9⟩ := SP
    have sf9 : s9 = [] := sf
    subst sf9
    unfold ctV ctCells at H1 H2 H3 H4
    clear NX
    go_wp2_with fail
    go_region_held3 (fun w' => w'.cell? ⟨w.heap.size, 0, none⟩ = some (.int .i64 k) ∧ w'.cell? ⟨w.heap.size, 1, none⟩ = some (.string c0) ∧ w'.cell? ⟨w.heap.size, 2, none⟩ = some (.bool c1) ∧ w'.cell? ⟨w.heap.size, 3, none⟩ = some (.bool c2) ∧ w'.cell? ⟨w.heap.size, 4, none⟩ = some (.bool c3) ∧ w'.cell? ⟨w.heap.size, 5, none⟩ = some (.bool c4) ∧ w'.cell? ⟨w.heap.size, 6, none⟩ = some (.bool c5) ∧ w'.cell? ⟨w.heap.size, 7, none⟩ = some (.bool c6) ∧ w'.cell? ⟨w.heap.size, 8, none⟩ = some (.bool c7) ∧ w'.cell? ⟨w.heap.size, 9, none⟩ = some (.string c8) ∧ w'.cell? ⟨w.heap.size, 10, none⟩ = some (.slice fp c9.length fc) ∧ w'.cell? ⟨w.heap.size, 11, none⟩ = some (.slice p ax.length c)) (first | go_keep | exact ⟨cell_below x0 U3.out, cell_below x1 U3.out, cell_below x2 U3.out, cell_below x3 U3.out, cell_below x4 U3.out, cell_below x5 U3.out, cell_below x6 U3.out, cell_below x7 U3.out, cell_below x8 U3.out, cell_below x9 U3.out, cell_below x10 U3.out, cell_below x11 U3.out⟩ | exact ⟨cell_below x0 U4.out, cell_below x1 U4.out, cell_below x2 U4.out, cell_below x3 U4.out, cell_below x4 U4.out, cell_below x5 U4.out, cell_below x6 U4.out, cell_below x7 U4.out, cell_below x8 U4.out, cell_below x9 U4.out, cell_below x10 U4.out, cell_below x11 U4.out⟩ | exact ⟨cell_below x0 U5.out, cell_below x1 U5.out, cell_below x2 U5.out, cell_below x3 U5.out, cell_below x4 U5.out, cell_below x5 U5.out, cell_below x6 U5.out, cell_below x7 U5.out, cell_below x8 U5.out, cell_below x9 U5.out, cell_below x10 U5.out, cell_below x11 U5.out⟩ | exact ⟨cell_below x0 U6.out, cell_below x1 U6.out, cell_below x2 U6.out, cell_below x3 U6.out, cell_below x4 U6.out, cell_below x5 U6.out, cell_below x6 U6.out, cell_below x7 U6.out, cell_below x8 U6.out, cell_below x9 U6.out, cell_below x10 U6.out, cell_below x11 U6.out⟩ | exact ⟨cell_below x0 U7.out, cell_below x1 U7.out, cell_below x2 U7.out, cell_below x3 U7.out, cell_below x4 U7.out, cell_below x5 U7.out, cell_below x6 U7.out, cell_below x7 U7.out, cell_below x8 U7.out, cell_below x9 U7.out, cell_below x10 U7.out, cell_below x11 U7.out⟩)
      (first | (go_at_call 12; refine (H1.out _ (belR B2.out 1)).mono ?_; rintro e w3 ⟨f3, rfl, g3, b3⟩; have G3 := hide g3; obtain ⟨p3, d3, rfl, _⟩ := g3; have U3 : Hid (Below w2.heap.size w2 w3) := undrewC b3; have B3 : Hid (Below w.heap.size w w3) := chain B2.out U3.out) | (go_at_call 13; refine (H2.out _ B3.out).mono ?_; rintro e w4 ⟨rfl, b4⟩; have U4 : Hid (Below w2.heap.size w2 w4) := chain U3.out b4; have B4 : Hid (Below w.heap.size w w4) := chain B2.out U4.out) | (go_at_call 11; refine (H5.out _ _ _ ⟨_, rfl, G3.out.below b4⟩ ⟨_, rfl, files_nil _⟩).mono ?_; rintro e w5 ⟨rfl, b5⟩; have U5 : Hid (Below w2.heap.size w2 w5) := chain U4.out b5; have B5 : Hid (Below w.heap.size w w5) := chain B2.out U5.out) | (go_at_call 14; refine (H3.out _ B5.out).mono ?_; rintro e w6 ⟨rfl, b6⟩; have U6 : Hid (Below w2.heap.size w2 w6) := chain U5.out b6; have B6 : Hid (Below w.heap.size w w6) := chain B2.out U6.out) | (go_at_call 15; refine (H4.out _ B6.out).mono ?_; rintro e w7 ⟨rfl, b7⟩; have U7 : Hid (Below w2.heap.size w2 w7) := chain U6.out b7; have B7 : Hid (Below w.heap.size w w7) := chain B2.out U7.out))
    go_wp2_with fail
    go_ret
    exact ⟨rfl, B7.out⟩

end Go.Proofs.YtfjfkkbgkjmghaaGreatDoor
