/- The document's Attr, SameFiles, Same of layer 14. The document's Value of layer 14. The document's Of of layer 11. The document's Has, Is, Owner, Off of layer 15. -/
import Derived.Test.YtlppocdhfeejkaaGreatDoorJvv13
import Derived.Test.YtlppocdhfeejkaaGreatDoorJvv19
import Derived.Test.YtlppocdhfeejkaaGreatDoorJvv21

namespace Go.Proofs.YtlppocdhfeejkaaGreatDoor
open Go.RowKit
set_option maxRecDepth 100000
theorem belR {B : Nat} {a w : World} (h : Below B a w) (n : Nat) : Below B a (w.drewN n) := ⟨h.os, h.tape, h.output, h.size, h.block⟩
theorem ret_fndA {a b : ByteArray} {c d : Bool} (h : a = b) (g : c = d) : Ending.returned (.tuple #[.string a, .bool c]) = .returned (.tuple #[.string b, .bool d]) := by rw [h, g]
set_option maxHeartbeats 4000000 in
set_option maxRecDepth 100000 in
theorem refAttrS_any (v : Value) (ax : List (ByteArray × ByteArray)) (name : ByteArray) (w : World) (hv : AttrsV w v ax) (hl : ax.length ≤ 4398046511104) :
    Calls Tryz.prog 37 #[v, .string name] w fun e w' => e = .returned (.tuple #[.string (fndS ax name), .bool (findA ax name).isSome]) ∧ w' = w := by
  have HF := hide (refFind_any v ax name w hv hl)
  obtain ⟨p, c, rfl, hv⟩ := hv
  cases hf : findA ax name with
  | none =>
    have E := hide (fnd_miss hf)
    rw [hf, show findV none = -1 from rfl] at HF
    clear hf hv hl
    go_enter Tryz.func37, Tryz.ntmps37
    go_wp2_with fail
    refine HF.out.mono ?_
    rintro e u ⟨rfl, hu⟩
    obtain rfl : w = u := hu.symm
    go_wp2_with fail
    go_ret2
    exact ⟨ret_fndA E.out.1.symm rfl, rfl⟩
  | some i =>
    obtain ⟨hi, _, _⟩ := List.findIdx?_eq_some_iff_getElem.1 (show ax.findIdx? (isN name) = some i from hf)
    have E := hide (fnd_hit hi hf)
    rw [hf, show findV (some i) = (i : Int) from rfl] at HF
    obtain ⟨b, o, rfl, hv2⟩ : ∃ b o, p = some ⟨b, o, none⟩ ∧ ∀ i (h : i < ax.length), w.cell? ⟨b, o + i * 2, none⟩ = some (.string ax[i].1) ∧ w.cell? ⟨b, o + i * 2 + 1, none⟩ = some (.string ax[i].2) := by
      rcases hv with t | t
      · rw [t] at hi; simp at hi
      · exact t
    have c1 := (hv2 i hi).2
    have i0 : (0 : Int) ≤ (i : Int) := by omega
    have i1 : (i : Int) < (ax.length : Int) := by omega
    have i2 : ¬ (i : Int) < 0 := by omega
    generalize ax[i].2 = t at *
    clear hf hv hv2 hl
    go_enter Tryz.func37, Tryz.ntmps37
    go_wp2_with fail
    refine HF.out.mono ?_
    rintro e u ⟨rfl, hu⟩
    obtain rfl : w = u := hu.symm
    go_wp2_with fail
    go_ret2
    exact ⟨ret_fndA E.out.1.symm rfl, rfl⟩
end Go.Proofs.YtlppocdhfeejkaaGreatDoor

namespace Go.Proofs.YtlppocdhfeejkaaGreatDoor
open Go.RowKit
set_option maxRecDepth 100000
set_option maxHeartbeats 4000000 in
theorem refValueV_m1 (v : Value) (ax : List (ByteArray × ByteArray)) (w : World) (hv : AttrsV w v ax) (hz : ax.length ≤ 4398046511104) (k : Int) (C : Ct) (fv : Value) (hf : FilesV w fv C.files) (hm : modeV k = 1) :
    Calls Tryz.prog 21 #[.int .i64 k, ctV C fv, v] w fun e w' => e = .returned (.string C.val) ∧ Below w.heap.size w w' := by
  have A1 := hide (fun W (hb : Below w.heap.size w W) => refAttrS_any v ax valS W (hv.below hb) hz)
  rw [show valS = ⟨#[118, 97, 108, 117, 101]⟩ from rfl] at A1
  have HM := hide (fun W => refMode_any k W)
  have HQ := hide (fun W => refPush_any k W)
  obtain ⟨fp, fc, rfl, _⟩ := hf
  rw [hm] at HM
  clear hm HQ
  obtain ⟨p, c, rfl, _⟩ := hv
  unfold ctV ctCells
  have B1 : Hid (∀ o, Below w.heap.size w (w.alloc o)) := fun o => (Below.refl _ w).alloc (Nat.le_refl _) _
  clear hz
  go_enter Tryz.func21, Tryz.ntmps21
  go_wp2_with fail
  refine (A1.out _ (B1.out _)).mono ?_
  rintro e w1 ⟨rfl, rfl⟩
  go_wp2_with fail
  refine (HM.out _).mono ?_
  rintro e w1 ⟨rfl, rfl⟩
  go_wp2_with fail
  go_ret
  exact ⟨rfl, B1.out _⟩
set_option maxHeartbeats 4000000 in
theorem refValueV_m2 (v : Value) (ax : List (ByteArray × ByteArray)) (w : World) (hv : AttrsV w v ax) (hz : ax.length ≤ 4398046511104) (k : Int) (C : Ct) (fv : Value) (hf : FilesV w fv C.files) (hm : modeV k = 2) :
    Calls Tryz.prog 21 #[.int .i64 k, ctV C fv, v] w fun e w' => e = .returned (.string (fndS ax ⟨#[118, 97, 108, 117, 101]⟩)) ∧ Below w.heap.size w w' := by
  have A1 := hide (fun W (hb : Below w.heap.size w W) => refAttrS_any v ax valS W (hv.below hb) hz)
  rw [show valS = ⟨#[118, 97, 108, 117, 101]⟩ from rfl] at A1
  have HM := hide (fun W => refMode_any k W)
  have HQ := hide (fun W => refPush_any k W)
  obtain ⟨fp, fc, rfl, _⟩ := hf
  rw [hm] at HM
  clear hm HQ
  obtain ⟨p, c, rfl, _⟩ := hv
  unfold ctV ctCells
  have B1 : Hid (∀ o, Below w.heap.size w (w.alloc o)) := fun o => (Below.refl _ w).alloc (Nat.le_refl _) _
  clear hz
  go_enter Tryz.func21, Tryz.ntmps21
  go_wp2_with fail
  refine (A1.out _ (B1.out _)).mono ?_
  rintro e w1 ⟨rfl, rfl⟩
  go_wp2_with fail
  refine (HM.out _).mono ?_
  rintro e w1 ⟨rfl, rfl⟩
  go_wp2_with fail
  go_ret
  exact ⟨rfl, B1.out _⟩
set_option maxHeartbeats 4000000 in
theorem refValueV_m3y (v : Value) (ax : List (ByteArray × ByteArray)) (w : World) (hv : AttrsV w v ax) (hz : ax.length ≤ 4398046511104) (k : Int) (C : Ct) (fv : Value) (hf : FilesV w fv C.files) (hm : modeV k = 3) (hh : (findA ax ⟨#[118, 97, 108, 117, 101]⟩).isSome = true) :
    Calls Tryz.prog 21 #[.int .i64 k, ctV C fv, v] w fun e w' => e = .returned (.string (fndS ax ⟨#[118, 97, 108, 117, 101]⟩)) ∧ Below w.heap.size w w' := by
  have A1 := hide (fun W (hb : Below w.heap.size w W) => refAttrS_any v ax valS W (hv.below hb) hz)
  rw [show valS = ⟨#[118, 97, 108, 117, 101]⟩ from rfl] at A1
  have HM := hide (fun W => refMode_any k W)
  have HQ := hide (fun W => refPush_any k W)
  obtain ⟨fp, fc, rfl, _⟩ := hf
  rw [hm] at HM
  rw [hh] at A1
  clear hm HQ hh
  obtain ⟨p, c, rfl, _⟩ := hv
  unfold ctV ctCells
  have B1 : Hid (∀ o, Below w.heap.size w (w.alloc o)) := fun o => (Below.refl _ w).alloc (Nat.le_refl _) _
  clear hz
  go_enter Tryz.func21, Tryz.ntmps21
  go_wp2_with fail
  refine (A1.out _ (B1.out _)).mono ?_
  rintro e w1 ⟨rfl, rfl⟩
  go_wp2_with fail
  refine (HM.out _).mono ?_
  rintro e w1 ⟨rfl, rfl⟩
  go_wp2_with fail
  go_ret
  exact ⟨rfl, B1.out _⟩
set_option maxHeartbeats 4000000 in
theorem refValueV_m3n (v : Value) (ax : List (ByteArray × ByteArray)) (w : World) (hv : AttrsV w v ax) (hz : ax.length ≤ 4398046511104) (k : Int) (C : Ct) (fv : Value) (hf : FilesV w fv C.files) (hm : modeV k = 3) (hh : (findA ax ⟨#[118, 97, 108, 117, 101]⟩).isSome = false) :
    Calls Tryz.prog 21 #[.int .i64 k, ctV C fv, v] w fun e w' => e = .returned (.string ⟨#[111, 110]⟩) ∧ Below w.heap.size w w' := by
  have A1 := hide (fun W (hb : Below w.heap.size w W) => refAttrS_any v ax valS W (hv.below hb) hz)
  rw [show valS = ⟨#[118, 97, 108, 117, 101]⟩ from rfl] at A1
  have HM := hide (fun W => refMode_any k W)
  have HQ := hide (fun W => refPush_any k W)
  obtain ⟨fp, fc, rfl, _⟩ := hf
  rw [hm] at HM
  rw [hh] at A1
  clear hm HQ hh
  obtain ⟨p, c, rfl, _⟩ := hv
  unfold ctV ctCells
  have B1 : Hid (∀ o, Below w.heap.size w (w.alloc o)) := fun o => (Below.refl _ w).alloc (Nat.le_refl _) _
  clear hz
  go_enter Tryz.func21, Tryz.ntmps21
  go_wp2_with fail
  refine (A1.out _ (B1.out _)).mono ?_
  rintro e w1 ⟨rfl, rfl⟩
  go_wp2_with fail
  refine (HM.out _).mono ?_
  rintro e w1 ⟨rfl, rfl⟩
  go_wp2_with fail
  go_ret
  exact ⟨rfl, B1.out _⟩
set_option maxHeartbeats 4000000 in
theorem refValueV_m4n (v : Value) (ax : List (ByteArray × ByteArray)) (w : World) (hv : AttrsV w v ax) (hz : ax.length ≤ 4398046511104) (k : Int) (C : Ct) (fv : Value) (hf : FilesV w fv C.files) (hm : modeV k = 4) (hfs : C.files = []) :
    Calls Tryz.prog 21 #[.int .i64 k, ctV C fv, v] w fun e w' => e = .returned (.string ⟨#[]⟩) ∧ Below w.heap.size w w' := by
  have A1 := hide (fun W (hb : Below w.heap.size w W) => refAttrS_any v ax valS W (hv.below hb) hz)
  rw [show valS = ⟨#[118, 97, 108, 117, 101]⟩ from rfl] at A1
  have HM := hide (fun W => refMode_any k W)
  have HQ := hide (fun W => refPush_any k W)
  obtain ⟨fp, fc, rfl, _⟩ := hf
  rw [hm] at HM
  have l0 : C.files.length = 0 := by rw [hfs]; rfl
  rw [l0]
  clear hm HQ hfs l0
  obtain ⟨p, c, rfl, _⟩ := hv
  unfold ctV ctCells
  have B1 : Hid (∀ o, Below w.heap.size w (w.alloc o)) := fun o => (Below.refl _ w).alloc (Nat.le_refl _) _
  clear hz
  go_enter Tryz.func21, Tryz.ntmps21
  go_wp2_with fail
  refine (A1.out _ (B1.out _)).mono ?_
  rintro e w1 ⟨rfl, rfl⟩
  go_wp2_with fail
  refine (HM.out _).mono ?_
  rintro e w1 ⟨rfl, rfl⟩
  go_wp2_with fail
  go_ret
  exact ⟨rfl, B1.out _⟩
set_option maxHeartbeats 4000000 in
theorem refValueV_m4y (v : Value) (ax : List (ByteArray × ByteArray)) (w : World) (hv : AttrsV w v ax) (hz : ax.length ≤ 4398046511104) (k : Int) (C : Ct) (fv : Value) (hf : FilesV w fv C.files) (hm : modeV k = 4) (en : En) (r : List En) (hfs : C.files = en :: r) (hF : FsOK C.files) :
    Calls Tryz.prog 21 #[.int .i64 k, ctV C fv, v] w fun e w' => e = .returned (.string (⟨#[67, 58, 92, 102, 97, 107, 101, 112, 97, 116, 104, 92]⟩ ++ en.fname)) ∧ Below w.heap.size w w' := by
  have A1 := hide (fun W (hb : Below w.heap.size w W) => refAttrS_any v ax valS W (hv.below hb) hz)
  rw [show valS = ⟨#[118, 97, 108, 117, 101]⟩ from rfl] at A1
  have HM := hide (fun W => refMode_any k W)
  have HQ := hide (fun W => refPush_any k W)
  obtain ⟨fp, fc, rfl, hf2⟩ := hf
  obtain ⟨b, o, rfl, hf3⟩ : ∃ b o, fp = some ⟨b, o, none⟩ ∧ ∀ i (h : i < C.files.length), EnAt w b (o + i * 5) C.files[i] := by
    rcases hf2 with q | q
    · rw [hfs] at q; cases q
    · exact q
  have hl : 0 < C.files.length := by rw [hfs]; exact Nat.succ_pos _
  have E0 := hf3 0 hl
  rw [show C.files[0] = en by simp [hfs]] at E0
  have x3 : w.cell? ⟨b, o + 3, none⟩ = some (.string en.fname) := by have := E0.c3; simpa using this
  have hlt : b < w.heap.size := World.block_lt_of_cell? _ _ x3
  have fb := hF.name en (by rw [hfs]; exact List.mem_cons_self)
  have nb : ¬ 9223372036854775807 < 12 + en.fname.size := by omega
  have hne : b ≠ w.heap.size := by omega
  have i1 : (0 : Int) < (C.files.length : Int) := by omega
  have i2 : ((C.files.length : Int) == 0) = false := by rw [beq_eq_false_iff_ne]; omega
  have i3 : ¬ (C.files.length : Int) = 0 := by omega
  have i4 : ¬ C.files.length = 0 := by omega
  rw [hm] at HM
  clear hm HQ hf2 hf3 E0 hfs hF
  generalize en.fname = fnm at *
  generalize C.files.length = fl at *
  obtain ⟨p, c, rfl, _⟩ := hv
  unfold ctV ctCells
  have B1 : Hid (∀ o, Below w.heap.size w (w.alloc o)) := fun o => (Below.refl _ w).alloc (Nat.le_refl _) _
  clear hz
  go_enter Tryz.func21, Tryz.ntmps21
  go_wp2_with fail
  refine (A1.out _ (B1.out _)).mono ?_
  rintro e w1 ⟨rfl, rfl⟩
  go_wp2_with fail
  refine (HM.out _).mono ?_
  rintro e w1 ⟨rfl, rfl⟩
  go_wp2_with fail
  go_ret
  exact ⟨rfl, B1.out _⟩
set_option maxHeartbeats 4000000 in
theorem refValueV_m0y (v : Value) (ax : List (ByteArray × ByteArray)) (w : World) (hv : AttrsV w v ax) (hz : ax.length ≤ 4398046511104) (k : Int) (C : Ct) (fv : Value) (hf : FilesV w fv C.files) (hm : modeV k = 0) (hq : isPush k = true) :
    Calls Tryz.prog 21 #[.int .i64 k, ctV C fv, v] w fun e w' => e = .returned (.string (fndS ax ⟨#[118, 97, 108, 117, 101]⟩)) ∧ Below w.heap.size w w' := by
  have A1 := hide (fun W (hb : Below w.heap.size w W) => refAttrS_any v ax valS W (hv.below hb) hz)
  rw [show valS = ⟨#[118, 97, 108, 117, 101]⟩ from rfl] at A1
  have HM := hide (fun W => refMode_any k W)
  have HQ := hide (fun W => refPush_any k W)
  obtain ⟨fp, fc, rfl, _⟩ := hf
  rw [hm] at HM
  rw [hq] at HQ
  clear hm hq
  obtain ⟨p, c, rfl, _⟩ := hv
  unfold ctV ctCells
  have B1 : Hid (∀ o, Below w.heap.size w (w.alloc o)) := fun o => (Below.refl _ w).alloc (Nat.le_refl _) _
  clear hz
  go_enter Tryz.func21, Tryz.ntmps21
  go_wp2_with fail
  refine (A1.out _ (B1.out _)).mono ?_
  rintro e w1 ⟨rfl, rfl⟩
  go_wp2_with fail
  refine (HM.out _).mono ?_
  rintro e w1 ⟨rfl, rfl⟩
  go_wp2_with fail
  refine (HQ.out _).mono ?_
  rintro e w1 ⟨rfl, rfl⟩
  go_wp2_with fail
  go_ret
  exact ⟨rfl, B1.out _⟩
set_option maxHeartbeats 4000000 in
theorem refValueV_m0n (v : Value) (ax : List (ByteArray × ByteArray)) (w : World) (hv : AttrsV w v ax) (hz : ax.length ≤ 4398046511104) (k : Int) (C : Ct) (fv : Value) (hf : FilesV w fv C.files) (hm : modeV k = 0) (hq : isPush k = false) :
    Calls Tryz.prog 21 #[.int .i64 k, ctV C fv, v] w fun e w' => e = .returned (.string ⟨#[]⟩) ∧ Below w.heap.size w w' := by
  have A1 := hide (fun W (hb : Below w.heap.size w W) => refAttrS_any v ax valS W (hv.below hb) hz)
  rw [show valS = ⟨#[118, 97, 108, 117, 101]⟩ from rfl] at A1
  have HM := hide (fun W => refMode_any k W)
  have HQ := hide (fun W => refPush_any k W)
  obtain ⟨fp, fc, rfl, _⟩ := hf
  rw [hm] at HM
  rw [hq] at HQ
  clear hm hq
  obtain ⟨p, c, rfl, _⟩ := hv
  unfold ctV ctCells
  have B1 : Hid (∀ o, Below w.heap.size w (w.alloc o)) := fun o => (Below.refl _ w).alloc (Nat.le_refl _) _
  clear hz
  go_enter Tryz.func21, Tryz.ntmps21
  go_wp2_with fail
  refine (A1.out _ (B1.out _)).mono ?_
  rintro e w1 ⟨rfl, rfl⟩
  go_wp2_with fail
  refine (HM.out _).mono ?_
  rintro e w1 ⟨rfl, rfl⟩
  go_wp2_with fail
  refine (HQ.out _).mono ?_
  rintro e w1 ⟨rfl, rfl⟩
  go_wp2_with fail
  go_ret
  exact ⟨rfl, B1.out _⟩
theorem refValueV_any (k : Int) (C : Ct) (fv v : Value) (ax : List (ByteArray × ByteArray)) (w : World) (hf : FilesV w fv C.files) (hF : FsOK C.files) (hv : AttrsV w v ax) (hz : ax.length ≤ 4398046511104) :
    Calls Tryz.prog 21 #[.int .i64 k, ctV C fv, v] w fun e w' => e = .returned (.string (valueP k C ax)) ∧ Below w.heap.size w w' := by
  unfold valueP
  rcases mode_cases k with m | m | m | m | m
  · rw [if_neg (by rw [m]; decide), if_neg (by rw [m]; decide), if_neg (by rw [m]; decide), if_neg (by rw [m]; decide)]
    cases hq : isPush k with
    | true => exact refValueV_m0y v ax w hv hz k C fv hf m hq
    | false => exact refValueV_m0n v ax w hv hz k C fv hf m hq
  · rw [if_pos m]; exact refValueV_m1 v ax w hv hz k C fv hf m
  · rw [if_neg (by rw [m]; decide), if_pos m]; exact refValueV_m2 v ax w hv hz k C fv hf m
  · rw [if_neg (by rw [m]; decide), if_neg (by rw [m]; decide), if_pos m]
    cases hh : (findA ax valS).isSome with
    | true => exact refValueV_m3y v ax w hv hz k C fv hf m hh
    | false => exact refValueV_m3n v ax w hv hz k C fv hf m hh
  · rw [if_neg (by rw [m]; decide), if_neg (by rw [m]; decide), if_neg (by rw [m]; decide), if_pos m]
    cases hfs : C.files with
    | nil => exact refValueV_m4n v ax w hv hz k C fv hf m hfs
    | cons e r => exact refValueV_m4y v ax w hv hz k C fv hf m e r hfs hF
end Go.Proofs.YtlppocdhfeejkaaGreatDoor

namespace Go.Proofs.YtlppocdhfeejkaaGreatDoor
open Go.RowKit
set_option maxRecDepth 100000
set_option maxHeartbeats 4000000 in
set_option maxRecDepth 100000 in
theorem refOf_option (n : Nd) (va vk : Value) (w : World) (ha : AttrsV w va n.attrs) (hl : n.attrs.length ≤ 4398046511104) (hs : ∀ a ∈ n.attrs, a.2.size ≤ 140737488351232) (h : n.name = ⟨#[111, 112, 116, 105, 111, 110]⟩) :
    Calls Tryz.prog 19 #[.agg #[.string n.name, .string n.text, va, .int .i64 n.parent, vk]] w fun e w' => e = .returned (.int .i64 (32)) ∧ Below w.heap.size w w' := by
  have t0 : (n.name.toList == [105, 110, 112, 117, 116]) = false := by rw [h, ByteArray.toList_eq]; rfl
  have t1 : (n.name.toList == [98, 117, 116, 116, 111, 110]) = false := by rw [h, ByteArray.toList_eq]; rfl
  have t2 : (n.name.toList == [115, 101, 108, 101, 99, 116]) = false := by rw [h, ByteArray.toList_eq]; rfl
  have t3 : (n.name.toList == [116, 101, 120, 116, 97, 114, 101, 97]) = false := by rw [h, ByteArray.toList_eq]; rfl
  have t4 : (n.name.toList == [111, 117, 116, 112, 117, 116]) = false := by rw [h, ByteArray.toList_eq]; rfl
  have t5 : (n.name.toList == [102, 105, 101, 108, 100, 115, 101, 116]) = false := by rw [h, ByteArray.toList_eq]; rfl
  have t6 : (n.name.toList == [102, 111, 114, 109]) = false := by rw [h, ByteArray.toList_eq]; rfl
  have t7 : (n.name.toList == [108, 97, 98, 101, 108]) = false := by rw [h, ByteArray.toList_eq]; rfl
  have t8 : (n.name.toList == [111, 112, 116, 105, 111, 110]) = true := lit_yes h
  have t9 : (n.name.toList == [111, 112, 116, 103, 114, 111, 117, 112]) = false := by rw [h, ByteArray.toList_eq]; rfl
  have t10 : (n.name.toList == [108, 101, 103, 101, 110, 100]) = false := by rw [h, ByteArray.toList_eq]; rfl
  have t11 : (n.name.toList == [100, 97, 116, 97, 108, 105, 115, 116]) = false := by rw [h, ByteArray.toList_eq]; rfl
  clear h
  have B0 : Hid (Below w.heap.size w (w.alloc (.cells #[.string n.name, .string n.text, va, .int .i64 n.parent, vk] 43))) := (Below.refl _ w).alloc (Nat.le_refl _) _
  have HF := hide (refFind_any va n.attrs tyS (w.alloc (.cells #[.string n.name, .string n.text, va, .int .i64 n.parent, vk] 43)) (ha.below B0.out) hl)
  have ef : tyS = ⟨#[116, 121, 112, 101]⟩ := rfl
  rw [ef] at HF
  obtain ⟨p, c, rfl, hv⟩ := ha
  obtain ⟨s, hS⟩ : ∃ s, Hid (tyT (tyOf n.attrs) = s) := ⟨_, show _ = _ from rfl⟩
  cases hf : findA n.attrs tyS with
  | none =>
    have hE : s = ⟨#[]⟩ := by rw [← hS.out]; unfold tyOf; rw [hf]; rfl
    rw [show findA n.attrs ⟨#[116, 121, 112, 101]⟩ = none from hf, show findV none = -1 from rfl] at HF
    have es : s = ⟨#[]⟩ := hE
    have k0 : (w.alloc (.cells #[.string n.name, .string n.text, .slice p n.attrs.length c, .int .i64 n.parent, vk] 43)).cell? ⟨w.heap.size, 0, none⟩ = some (.string n.name) := by simp
    have k2 : (w.alloc (.cells #[.string n.name, .string n.text, .slice p n.attrs.length c, .int .i64 n.parent, vk] 43)).cell? ⟨w.heap.size, 2, none⟩ = some (.slice p n.attrs.length c) := by simp
    clear hv hs hf ef
    go_enter Tryz.func19, Tryz.ntmps19
    generalize n.name = nm at *
    go_wp2_with fail
    generalize w.alloc (.cells #[.string nm, .string n.text, .slice p n.attrs.length c, .int .i64 n.parent, vk] 43) = w0 at *
    refine HF.out.mono ?_
    rintro e u ⟨rfl, hu⟩
    obtain rfl : w0 = u := hu.symm
    go_upto_region 5 with fail
    rw [← es]
    clear es hE
    go_wp2_with fail
    go_ret
    exact ⟨rfl, B0.out⟩
  | some i =>
    obtain ⟨hi, _, _⟩ := List.findIdx?_eq_some_iff_getElem.1 (show n.attrs.findIdx? (isN tyS) = some i from hf)
    obtain ⟨t, ht⟩ : ∃ t, Hid (n.attrs[i].2 = t) := ⟨_, show _ = _ from rfl⟩
    have hE : Hid (lowS t = s) := by
      show _ = _
      rw [← hS.out]
      unfold tyOf
      rw [hf, ← ht.out]
      show lowS n.attrs[i].2 = lowS (n.attrs.getD i at0).2
      rw [show n.attrs.getD i at0 = n.attrs[i] by simp [List.getD, hi]]
    rw [show findA n.attrs ⟨#[116, 121, 112, 101]⟩ = some i from hf, show findV (some i) = (i : Int) from rfl] at HF
    have i0 : (0 : Int) ≤ (i : Int) := by omega
    have i1 : (i : Int) < (n.attrs.length : Int) := by omega
    have ts := hs _ (List.getElem_mem hi)
    rw [ht.out] at ts
    have HL := hide (fun W => refLower_reach t W ts)
    rw [hE.out] at HL
    obtain ⟨b, o, rfl, hv2⟩ : ∃ b o, p = some ⟨b, o, none⟩ ∧ ∀ i (h : i < n.attrs.length), w.cell? ⟨b, o + i * 2, none⟩ = some (.string n.attrs[i].1) ∧ w.cell? ⟨b, o + i * 2 + 1, none⟩ = some (.string n.attrs[i].2) := by
      rcases hv with t | t
      · rw [t] at hi; simp at hi
      · exact t
    have c1 := cell_below (hv2 i hi).2 B0.out
    rw [ht.out] at c1
    have k0 : (w.alloc (.cells #[.string n.name, .string n.text, .slice (some ⟨b, o, none⟩) n.attrs.length c, .int .i64 n.parent, vk] 43)).cell? ⟨w.heap.size, 0, none⟩ = some (.string n.name) := by simp
    have k2 : (w.alloc (.cells #[.string n.name, .string n.text, .slice (some ⟨b, o, none⟩) n.attrs.length c, .int .i64 n.parent, vk] 43)).cell? ⟨w.heap.size, 2, none⟩ = some (.slice (some ⟨b, o, none⟩) n.attrs.length c) := by simp
    clear hf hv hv2 hs ef
    go_enter Tryz.func19, Tryz.ntmps19
    generalize n.name = nm at *
    go_wp2_with fail
    generalize w.alloc (.cells #[.string nm, .string n.text, .slice (some ⟨b, o, none⟩) n.attrs.length c, .int .i64 n.parent, vk] 43) = w0 at *
    refine HF.out.mono ?_
    rintro e u ⟨rfl, hu⟩
    obtain rfl : w0 = u := hu.symm
    go_wp2_with fail
    refine (HL.out _).mono ?_
    rintro e w2 ⟨rfl, b2⟩
    have B2 := hide (chain B0.out b2)
    have m0 := cell_below k0 b2
    clear k0 k2 c1 b2
    go_wp2_with fail
    go_ret
    exact ⟨rfl, B2.out⟩
set_option maxHeartbeats 4000000 in
set_option maxRecDepth 100000 in
theorem refOf_optgroup (n : Nd) (va vk : Value) (w : World) (ha : AttrsV w va n.attrs) (hl : n.attrs.length ≤ 4398046511104) (hs : ∀ a ∈ n.attrs, a.2.size ≤ 140737488351232) (h : n.name = ⟨#[111, 112, 116, 103, 114, 111, 117, 112]⟩) :
    Calls Tryz.prog 19 #[.agg #[.string n.name, .string n.text, va, .int .i64 n.parent, vk]] w fun e w' => e = .returned (.int .i64 (33)) ∧ Below w.heap.size w w' := by
  have t0 : (n.name.toList == [105, 110, 112, 117, 116]) = false := by rw [h, ByteArray.toList_eq]; rfl
  have t1 : (n.name.toList == [98, 117, 116, 116, 111, 110]) = false := by rw [h, ByteArray.toList_eq]; rfl
  have t2 : (n.name.toList == [115, 101, 108, 101, 99, 116]) = false := by rw [h, ByteArray.toList_eq]; rfl
  have t3 : (n.name.toList == [116, 101, 120, 116, 97, 114, 101, 97]) = false := by rw [h, ByteArray.toList_eq]; rfl
  have t4 : (n.name.toList == [111, 117, 116, 112, 117, 116]) = false := by rw [h, ByteArray.toList_eq]; rfl
  have t5 : (n.name.toList == [102, 105, 101, 108, 100, 115, 101, 116]) = false := by rw [h, ByteArray.toList_eq]; rfl
  have t6 : (n.name.toList == [102, 111, 114, 109]) = false := by rw [h, ByteArray.toList_eq]; rfl
  have t7 : (n.name.toList == [108, 97, 98, 101, 108]) = false := by rw [h, ByteArray.toList_eq]; rfl
  have t8 : (n.name.toList == [111, 112, 116, 105, 111, 110]) = false := by rw [h, ByteArray.toList_eq]; rfl
  have t9 : (n.name.toList == [111, 112, 116, 103, 114, 111, 117, 112]) = true := lit_yes h
  have t10 : (n.name.toList == [108, 101, 103, 101, 110, 100]) = false := by rw [h, ByteArray.toList_eq]; rfl
  have t11 : (n.name.toList == [100, 97, 116, 97, 108, 105, 115, 116]) = false := by rw [h, ByteArray.toList_eq]; rfl
  clear h
  have B0 : Hid (Below w.heap.size w (w.alloc (.cells #[.string n.name, .string n.text, va, .int .i64 n.parent, vk] 43))) := (Below.refl _ w).alloc (Nat.le_refl _) _
  have HF := hide (refFind_any va n.attrs tyS (w.alloc (.cells #[.string n.name, .string n.text, va, .int .i64 n.parent, vk] 43)) (ha.below B0.out) hl)
  have ef : tyS = ⟨#[116, 121, 112, 101]⟩ := rfl
  rw [ef] at HF
  obtain ⟨p, c, rfl, hv⟩ := ha
  obtain ⟨s, hS⟩ : ∃ s, Hid (tyT (tyOf n.attrs) = s) := ⟨_, show _ = _ from rfl⟩
  cases hf : findA n.attrs tyS with
  | none =>
    have hE : s = ⟨#[]⟩ := by rw [← hS.out]; unfold tyOf; rw [hf]; rfl
    rw [show findA n.attrs ⟨#[116, 121, 112, 101]⟩ = none from hf, show findV none = -1 from rfl] at HF
    have es : s = ⟨#[]⟩ := hE
    have k0 : (w.alloc (.cells #[.string n.name, .string n.text, .slice p n.attrs.length c, .int .i64 n.parent, vk] 43)).cell? ⟨w.heap.size, 0, none⟩ = some (.string n.name) := by simp
    have k2 : (w.alloc (.cells #[.string n.name, .string n.text, .slice p n.attrs.length c, .int .i64 n.parent, vk] 43)).cell? ⟨w.heap.size, 2, none⟩ = some (.slice p n.attrs.length c) := by simp
    clear hv hs hf ef
    go_enter Tryz.func19, Tryz.ntmps19
    generalize n.name = nm at *
    go_wp2_with fail
    generalize w.alloc (.cells #[.string nm, .string n.text, .slice p n.attrs.length c, .int .i64 n.parent, vk] 43) = w0 at *
    refine HF.out.mono ?_
    rintro e u ⟨rfl, hu⟩
    obtain rfl : w0 = u := hu.symm
    go_upto_region 5 with fail
    rw [← es]
    clear es hE
    go_wp2_with fail
    go_ret
    exact ⟨rfl, B0.out⟩
  | some i =>
    obtain ⟨hi, _, _⟩ := List.findIdx?_eq_some_iff_getElem.1 (show n.attrs.findIdx? (isN tyS) = some i from hf)
    obtain ⟨t, ht⟩ : ∃ t, Hid (n.attrs[i].2 = t) := ⟨_, show _ = _ from rfl⟩
    have hE : Hid (lowS t = s) := by
      show _ = _
      rw [← hS.out]
      unfold tyOf
      rw [hf, ← ht.out]
      show lowS n.attrs[i].2 = lowS (n.attrs.getD i at0).2
      rw [show n.attrs.getD i at0 = n.attrs[i] by simp [List.getD, hi]]
    rw [show findA n.attrs ⟨#[116, 121, 112, 101]⟩ = some i from hf, show findV (some i) = (i : Int) from rfl] at HF
    have i0 : (0 : Int) ≤ (i : Int) := by omega
    have i1 : (i : Int) < (n.attrs.length : Int) := by omega
    have ts := hs _ (List.getElem_mem hi)
    rw [ht.out] at ts
    have HL := hide (fun W => refLower_reach t W ts)
    rw [hE.out] at HL
    obtain ⟨b, o, rfl, hv2⟩ : ∃ b o, p = some ⟨b, o, none⟩ ∧ ∀ i (h : i < n.attrs.length), w.cell? ⟨b, o + i * 2, none⟩ = some (.string n.attrs[i].1) ∧ w.cell? ⟨b, o + i * 2 + 1, none⟩ = some (.string n.attrs[i].2) := by
      rcases hv with t | t
      · rw [t] at hi; simp at hi
      · exact t
    have c1 := cell_below (hv2 i hi).2 B0.out
    rw [ht.out] at c1
    have k0 : (w.alloc (.cells #[.string n.name, .string n.text, .slice (some ⟨b, o, none⟩) n.attrs.length c, .int .i64 n.parent, vk] 43)).cell? ⟨w.heap.size, 0, none⟩ = some (.string n.name) := by simp
    have k2 : (w.alloc (.cells #[.string n.name, .string n.text, .slice (some ⟨b, o, none⟩) n.attrs.length c, .int .i64 n.parent, vk] 43)).cell? ⟨w.heap.size, 2, none⟩ = some (.slice (some ⟨b, o, none⟩) n.attrs.length c) := by simp
    clear hf hv hv2 hs ef
    go_enter Tryz.func19, Tryz.ntmps19
    generalize n.name = nm at *
    go_wp2_with fail
    generalize w.alloc (.cells #[.string nm, .string n.text, .slice (some ⟨b, o, none⟩) n.attrs.length c, .int .i64 n.parent, vk] 43) = w0 at *
    refine HF.out.mono ?_
    rintro e u ⟨rfl, hu⟩
    obtain rfl : w0 = u := hu.symm
    go_wp2_with fail
    refine (HL.out _).mono ?_
    rintro e w2 ⟨rfl, b2⟩
    have B2 := hide (chain B0.out b2)
    have m0 := cell_below k0 b2
    clear k0 k2 c1 b2
    go_wp2_with fail
    go_ret
    exact ⟨rfl, B2.out⟩
set_option maxHeartbeats 4000000 in
set_option maxRecDepth 100000 in
theorem refOf_legend (n : Nd) (va vk : Value) (w : World) (ha : AttrsV w va n.attrs) (hl : n.attrs.length ≤ 4398046511104) (hs : ∀ a ∈ n.attrs, a.2.size ≤ 140737488351232) (h : n.name = ⟨#[108, 101, 103, 101, 110, 100]⟩) :
    Calls Tryz.prog 19 #[.agg #[.string n.name, .string n.text, va, .int .i64 n.parent, vk]] w fun e w' => e = .returned (.int .i64 (34)) ∧ Below w.heap.size w w' := by
  have t0 : (n.name.toList == [105, 110, 112, 117, 116]) = false := by rw [h, ByteArray.toList_eq]; rfl
  have t1 : (n.name.toList == [98, 117, 116, 116, 111, 110]) = false := by rw [h, ByteArray.toList_eq]; rfl
  have t2 : (n.name.toList == [115, 101, 108, 101, 99, 116]) = false := by rw [h, ByteArray.toList_eq]; rfl
  have t3 : (n.name.toList == [116, 101, 120, 116, 97, 114, 101, 97]) = false := by rw [h, ByteArray.toList_eq]; rfl
  have t4 : (n.name.toList == [111, 117, 116, 112, 117, 116]) = false := by rw [h, ByteArray.toList_eq]; rfl
  have t5 : (n.name.toList == [102, 105, 101, 108, 100, 115, 101, 116]) = false := by rw [h, ByteArray.toList_eq]; rfl
  have t6 : (n.name.toList == [102, 111, 114, 109]) = false := by rw [h, ByteArray.toList_eq]; rfl
  have t7 : (n.name.toList == [108, 97, 98, 101, 108]) = false := by rw [h, ByteArray.toList_eq]; rfl
  have t8 : (n.name.toList == [111, 112, 116, 105, 111, 110]) = false := by rw [h, ByteArray.toList_eq]; rfl
  have t9 : (n.name.toList == [111, 112, 116, 103, 114, 111, 117, 112]) = false := by rw [h, ByteArray.toList_eq]; rfl
  have t10 : (n.name.toList == [108, 101, 103, 101, 110, 100]) = true := lit_yes h
  have t11 : (n.name.toList == [100, 97, 116, 97, 108, 105, 115, 116]) = false := by rw [h, ByteArray.toList_eq]; rfl
  clear h
  have B0 : Hid (Below w.heap.size w (w.alloc (.cells #[.string n.name, .string n.text, va, .int .i64 n.parent, vk] 43))) := (Below.refl _ w).alloc (Nat.le_refl _) _
  have HF := hide (refFind_any va n.attrs tyS (w.alloc (.cells #[.string n.name, .string n.text, va, .int .i64 n.parent, vk] 43)) (ha.below B0.out) hl)
  have ef : tyS = ⟨#[116, 121, 112, 101]⟩ := rfl
  rw [ef] at HF
  obtain ⟨p, c, rfl, hv⟩ := ha
  obtain ⟨s, hS⟩ : ∃ s, Hid (tyT (tyOf n.attrs) = s) := ⟨_, show _ = _ from rfl⟩
  cases hf : findA n.attrs tyS with
  | none =>
    have hE : s = ⟨#[]⟩ := by rw [← hS.out]; unfold tyOf; rw [hf]; rfl
    rw [show findA n.attrs ⟨#[116, 121, 112, 101]⟩ = none from hf, show findV none = -1 from rfl] at HF
    have es : s = ⟨#[]⟩ := hE
    have k0 : (w.alloc (.cells #[.string n.name, .string n.text, .slice p n.attrs.length c, .int .i64 n.parent, vk] 43)).cell? ⟨w.heap.size, 0, none⟩ = some (.string n.name) := by simp
    have k2 : (w.alloc (.cells #[.string n.name, .string n.text, .slice p n.attrs.length c, .int .i64 n.parent, vk] 43)).cell? ⟨w.heap.size, 2, none⟩ = some (.slice p n.attrs.length c) := by simp
    clear hv hs hf ef
    go_enter Tryz.func19, Tryz.ntmps19
    generalize n.name = nm at *
    go_wp2_with fail
    generalize w.alloc (.cells #[.string nm, .string n.text, .slice p n.attrs.length c, .int .i64 n.parent, vk] 43) = w0 at *
    refine HF.out.mono ?_
    rintro e u ⟨rfl, hu⟩
    obtain rfl : w0 = u := hu.symm
    go_upto_region 5 with fail
    rw [← es]
    clear es hE
    go_wp2_with fail
    go_ret
    exact ⟨rfl, B0.out⟩
  | some i =>
    obtain ⟨hi, _, _⟩ := List.findIdx?_eq_some_iff_getElem.1 (show n.attrs.findIdx? (isN tyS) = some i from hf)
    obtain ⟨t, ht⟩ : ∃ t, Hid (n.attrs[i].2 = t) := ⟨_, show _ = _ from rfl⟩
    have hE : Hid (lowS t = s) := by
      show _ = _
      rw [← hS.out]
      unfold tyOf
      rw [hf, ← ht.out]
      show lowS n.attrs[i].2 = lowS (n.attrs.getD i at0).2
      rw [show n.attrs.getD i at0 = n.attrs[i] by simp [List.getD, hi]]
    rw [show findA n.attrs ⟨#[116, 121, 112, 101]⟩ = some i from hf, show findV (some i) = (i : Int) from rfl] at HF
    have i0 : (0 : Int) ≤ (i : Int) := by omega
    have i1 : (i : Int) < (n.attrs.length : Int) := by omega
    have ts := hs _ (List.getElem_mem hi)
    rw [ht.out] at ts
    have HL := hide (fun W => refLower_reach t W ts)
    rw [hE.out] at HL
    obtain ⟨b, o, rfl, hv2⟩ : ∃ b o, p = some ⟨b, o, none⟩ ∧ ∀ i (h : i < n.attrs.length), w.cell? ⟨b, o + i * 2, none⟩ = some (.string n.attrs[i].1) ∧ w.cell? ⟨b, o + i * 2 + 1, none⟩ = some (.string n.attrs[i].2) := by
      rcases hv with t | t
      · rw [t] at hi; simp at hi
      · exact t
    have c1 := cell_below (hv2 i hi).2 B0.out
    rw [ht.out] at c1
    have k0 : (w.alloc (.cells #[.string n.name, .string n.text, .slice (some ⟨b, o, none⟩) n.attrs.length c, .int .i64 n.parent, vk] 43)).cell? ⟨w.heap.size, 0, none⟩ = some (.string n.name) := by simp
    have k2 : (w.alloc (.cells #[.string n.name, .string n.text, .slice (some ⟨b, o, none⟩) n.attrs.length c, .int .i64 n.parent, vk] 43)).cell? ⟨w.heap.size, 2, none⟩ = some (.slice (some ⟨b, o, none⟩) n.attrs.length c) := by simp
    clear hf hv hv2 hs ef
    go_enter Tryz.func19, Tryz.ntmps19
    generalize n.name = nm at *
    go_wp2_with fail
    generalize w.alloc (.cells #[.string nm, .string n.text, .slice (some ⟨b, o, none⟩) n.attrs.length c, .int .i64 n.parent, vk] 43) = w0 at *
    refine HF.out.mono ?_
    rintro e u ⟨rfl, hu⟩
    obtain rfl : w0 = u := hu.symm
    go_wp2_with fail
    refine (HL.out _).mono ?_
    rintro e w2 ⟨rfl, b2⟩
    have B2 := hide (chain B0.out b2)
    have m0 := cell_below k0 b2
    clear k0 k2 c1 b2
    go_wp2_with fail
    go_ret
    exact ⟨rfl, B2.out⟩
set_option maxHeartbeats 4000000 in
set_option maxRecDepth 100000 in
theorem refOf_datalist (n : Nd) (va vk : Value) (w : World) (ha : AttrsV w va n.attrs) (hl : n.attrs.length ≤ 4398046511104) (hs : ∀ a ∈ n.attrs, a.2.size ≤ 140737488351232) (h : n.name = ⟨#[100, 97, 116, 97, 108, 105, 115, 116]⟩) :
    Calls Tryz.prog 19 #[.agg #[.string n.name, .string n.text, va, .int .i64 n.parent, vk]] w fun e w' => e = .returned (.int .i64 (35)) ∧ Below w.heap.size w w' := by
  have t0 : (n.name.toList == [105, 110, 112, 117, 116]) = false := by rw [h, ByteArray.toList_eq]; rfl
  have t1 : (n.name.toList == [98, 117, 116, 116, 111, 110]) = false := by rw [h, ByteArray.toList_eq]; rfl
  have t2 : (n.name.toList == [115, 101, 108, 101, 99, 116]) = false := by rw [h, ByteArray.toList_eq]; rfl
  have t3 : (n.name.toList == [116, 101, 120, 116, 97, 114, 101, 97]) = false := by rw [h, ByteArray.toList_eq]; rfl
  have t4 : (n.name.toList == [111, 117, 116, 112, 117, 116]) = false := by rw [h, ByteArray.toList_eq]; rfl
  have t5 : (n.name.toList == [102, 105, 101, 108, 100, 115, 101, 116]) = false := by rw [h, ByteArray.toList_eq]; rfl
  have t6 : (n.name.toList == [102, 111, 114, 109]) = false := by rw [h, ByteArray.toList_eq]; rfl
  have t7 : (n.name.toList == [108, 97, 98, 101, 108]) = false := by rw [h, ByteArray.toList_eq]; rfl
  have t8 : (n.name.toList == [111, 112, 116, 105, 111, 110]) = false := by rw [h, ByteArray.toList_eq]; rfl
  have t9 : (n.name.toList == [111, 112, 116, 103, 114, 111, 117, 112]) = false := by rw [h, ByteArray.toList_eq]; rfl
  have t10 : (n.name.toList == [108, 101, 103, 101, 110, 100]) = false := by rw [h, ByteArray.toList_eq]; rfl
  have t11 : (n.name.toList == [100, 97, 116, 97, 108, 105, 115, 116]) = true := lit_yes h
  clear h
  have B0 : Hid (Below w.heap.size w (w.alloc (.cells #[.string n.name, .string n.text, va, .int .i64 n.parent, vk] 43))) := (Below.refl _ w).alloc (Nat.le_refl _) _
  have HF := hide (refFind_any va n.attrs tyS (w.alloc (.cells #[.string n.name, .string n.text, va, .int .i64 n.parent, vk] 43)) (ha.below B0.out) hl)
  have ef : tyS = ⟨#[116, 121, 112, 101]⟩ := rfl
  rw [ef] at HF
  obtain ⟨p, c, rfl, hv⟩ := ha
  obtain ⟨s, hS⟩ : ∃ s, Hid (tyT (tyOf n.attrs) = s) := ⟨_, show _ = _ from rfl⟩
  cases hf : findA n.attrs tyS with
  | none =>
    have hE : s = ⟨#[]⟩ := by rw [← hS.out]; unfold tyOf; rw [hf]; rfl
    rw [show findA n.attrs ⟨#[116, 121, 112, 101]⟩ = none from hf, show findV none = -1 from rfl] at HF
    have es : s = ⟨#[]⟩ := hE
    have k0 : (w.alloc (.cells #[.string n.name, .string n.text, .slice p n.attrs.length c, .int .i64 n.parent, vk] 43)).cell? ⟨w.heap.size, 0, none⟩ = some (.string n.name) := by simp
    have k2 : (w.alloc (.cells #[.string n.name, .string n.text, .slice p n.attrs.length c, .int .i64 n.parent, vk] 43)).cell? ⟨w.heap.size, 2, none⟩ = some (.slice p n.attrs.length c) := by simp
    clear hv hs hf ef
    go_enter Tryz.func19, Tryz.ntmps19
    generalize n.name = nm at *
    go_wp2_with fail
    generalize w.alloc (.cells #[.string nm, .string n.text, .slice p n.attrs.length c, .int .i64 n.parent, vk] 43) = w0 at *
    refine HF.out.mono ?_
    rintro e u ⟨rfl, hu⟩
    obtain rfl : w0 = u := hu.symm
    go_upto_region 5 with fail
    rw [← es]
    clear es hE
    go_wp2_with fail
    go_ret
    exact ⟨rfl, B0.out⟩
  | some i =>
    obtain ⟨hi, _, _⟩ := List.findIdx?_eq_some_iff_getElem.1 (show n.attrs.findIdx? (isN tyS) = some i from hf)
    obtain ⟨t, ht⟩ : ∃ t, Hid (n.attrs[i].2 = t) := ⟨_, show _ = _ from rfl⟩
    have hE : Hid (lowS t = s) := by
      show _ = _
      rw [← hS.out]
      unfold tyOf
      rw [hf, ← ht.out]
      show lowS n.attrs[i].2 = lowS (n.attrs.getD i at0).2
      rw [show n.attrs.getD i at0 = n.attrs[i] by simp [List.getD, hi]]
    rw [show findA n.attrs ⟨#[116, 121, 112, 101]⟩ = some i from hf, show findV (some i) = (i : Int) from rfl] at HF
    have i0 : (0 : Int) ≤ (i : Int) := by omega
    have i1 : (i : Int) < (n.attrs.length : Int) := by omega
    have ts := hs _ (List.getElem_mem hi)
    rw [ht.out] at ts
    have HL := hide (fun W => refLower_reach t W ts)
    rw [hE.out] at HL
    obtain ⟨b, o, rfl, hv2⟩ : ∃ b o, p = some ⟨b, o, none⟩ ∧ ∀ i (h : i < n.attrs.length), w.cell? ⟨b, o + i * 2, none⟩ = some (.string n.attrs[i].1) ∧ w.cell? ⟨b, o + i * 2 + 1, none⟩ = some (.string n.attrs[i].2) := by
      rcases hv with t | t
      · rw [t] at hi; simp at hi
      · exact t
    have c1 := cell_below (hv2 i hi).2 B0.out
    rw [ht.out] at c1
    have k0 : (w.alloc (.cells #[.string n.name, .string n.text, .slice (some ⟨b, o, none⟩) n.attrs.length c, .int .i64 n.parent, vk] 43)).cell? ⟨w.heap.size, 0, none⟩ = some (.string n.name) := by simp
    have k2 : (w.alloc (.cells #[.string n.name, .string n.text, .slice (some ⟨b, o, none⟩) n.attrs.length c, .int .i64 n.parent, vk] 43)).cell? ⟨w.heap.size, 2, none⟩ = some (.slice (some ⟨b, o, none⟩) n.attrs.length c) := by simp
    clear hf hv hv2 hs ef
    go_enter Tryz.func19, Tryz.ntmps19
    generalize n.name = nm at *
    go_wp2_with fail
    generalize w.alloc (.cells #[.string nm, .string n.text, .slice (some ⟨b, o, none⟩) n.attrs.length c, .int .i64 n.parent, vk] 43) = w0 at *
    refine HF.out.mono ?_
    rintro e u ⟨rfl, hu⟩
    obtain rfl : w0 = u := hu.symm
    go_wp2_with fail
    refine (HL.out _).mono ?_
    rintro e w2 ⟨rfl, b2⟩
    have B2 := hide (chain B0.out b2)
    have m0 := cell_below k0 b2
    clear k0 k2 c1 b2
    go_wp2_with fail
    go_ret
    exact ⟨rfl, B2.out⟩
set_option maxHeartbeats 4000000 in
set_option maxRecDepth 100000 in
theorem refOf_none (n : Nd) (va vk : Value) (w : World) (ha : AttrsV w va n.attrs) (hl : n.attrs.length ≤ 4398046511104) (hs : ∀ a ∈ n.attrs, a.2.size ≤ 140737488351232) (h0 : ¬ n.name = ⟨#[105, 110, 112, 117, 116]⟩) (h1 : ¬ n.name = ⟨#[98, 117, 116, 116, 111, 110]⟩) (h2 : ¬ n.name = ⟨#[115, 101, 108, 101, 99, 116]⟩) (h3 : ¬ n.name = ⟨#[116, 101, 120, 116, 97, 114, 101, 97]⟩) (h4 : ¬ n.name = ⟨#[111, 117, 116, 112, 117, 116]⟩) (h5 : ¬ n.name = ⟨#[102, 105, 101, 108, 100, 115, 101, 116]⟩) (h6 : ¬ n.name = ⟨#[102, 111, 114, 109]⟩) (h7 : ¬ n.name = ⟨#[108, 97, 98, 101, 108]⟩) (h8 : ¬ n.name = ⟨#[111, 112, 116, 105, 111, 110]⟩) (h9 : ¬ n.name = ⟨#[111, 112, 116, 103, 114, 111, 117, 112]⟩) (h10 : ¬ n.name = ⟨#[108, 101, 103, 101, 110, 100]⟩) (h11 : ¬ n.name = ⟨#[100, 97, 116, 97, 108, 105, 115, 116]⟩) :
    Calls Tryz.prog 19 #[.agg #[.string n.name, .string n.text, va, .int .i64 n.parent, vk]] w fun e w' => e = .returned (.int .i64 (0)) ∧ Below w.heap.size w w' := by
  have t0 := lit_no (l := [105, 110, 112, 117, 116]) h0
  have t1 := lit_no (l := [98, 117, 116, 116, 111, 110]) h1
  have t2 := lit_no (l := [115, 101, 108, 101, 99, 116]) h2
  have t3 := lit_no (l := [116, 101, 120, 116, 97, 114, 101, 97]) h3
  have t4 := lit_no (l := [111, 117, 116, 112, 117, 116]) h4
  have t5 := lit_no (l := [102, 105, 101, 108, 100, 115, 101, 116]) h5
  have t6 := lit_no (l := [102, 111, 114, 109]) h6
  have t7 := lit_no (l := [108, 97, 98, 101, 108]) h7
  have t8 := lit_no (l := [111, 112, 116, 105, 111, 110]) h8
  have t9 := lit_no (l := [111, 112, 116, 103, 114, 111, 117, 112]) h9
  have t10 := lit_no (l := [108, 101, 103, 101, 110, 100]) h10
  have t11 := lit_no (l := [100, 97, 116, 97, 108, 105, 115, 116]) h11
  clear h0 h1 h2 h3 h4 h5 h6 h7 h8 h9 h10 h11
  have B0 : Hid (Below w.heap.size w (w.alloc (.cells #[.string n.name, .string n.text, va, .int .i64 n.parent, vk] 43))) := (Below.refl _ w).alloc (Nat.le_refl _) _
  have HF := hide (refFind_any va n.attrs tyS (w.alloc (.cells #[.string n.name, .string n.text, va, .int .i64 n.parent, vk] 43)) (ha.below B0.out) hl)
  have ef : tyS = ⟨#[116, 121, 112, 101]⟩ := rfl
  rw [ef] at HF
  obtain ⟨p, c, rfl, hv⟩ := ha
  obtain ⟨s, hS⟩ : ∃ s, Hid (tyT (tyOf n.attrs) = s) := ⟨_, show _ = _ from rfl⟩
  cases hf : findA n.attrs tyS with
  | none =>
    have hE : s = ⟨#[]⟩ := by rw [← hS.out]; unfold tyOf; rw [hf]; rfl
    rw [show findA n.attrs ⟨#[116, 121, 112, 101]⟩ = none from hf, show findV none = -1 from rfl] at HF
    have es : s = ⟨#[]⟩ := hE
    have k0 : (w.alloc (.cells #[.string n.name, .string n.text, .slice p n.attrs.length c, .int .i64 n.parent, vk] 43)).cell? ⟨w.heap.size, 0, none⟩ = some (.string n.name) := by simp
    have k2 : (w.alloc (.cells #[.string n.name, .string n.text, .slice p n.attrs.length c, .int .i64 n.parent, vk] 43)).cell? ⟨w.heap.size, 2, none⟩ = some (.slice p n.attrs.length c) := by simp
    clear hv hs hf ef
    go_enter Tryz.func19, Tryz.ntmps19
    generalize n.name = nm at *
    go_wp2_with fail
    generalize w.alloc (.cells #[.string nm, .string n.text, .slice p n.attrs.length c, .int .i64 n.parent, vk] 43) = w0 at *
    refine HF.out.mono ?_
    rintro e u ⟨rfl, hu⟩
    obtain rfl : w0 = u := hu.symm
    go_upto_region 5 with fail
    rw [← es]
    clear es hE
    go_wp2_with fail
    go_ret
    exact ⟨rfl, B0.out⟩
  | some i =>
    obtain ⟨hi, _, _⟩ := List.findIdx?_eq_some_iff_getElem.1 (show n.attrs.findIdx? (isN tyS) = some i from hf)
    obtain ⟨t, ht⟩ : ∃ t, Hid (n.attrs[i].2 = t) := ⟨_, show _ = _ from rfl⟩
    have hE : Hid (lowS t = s) := by
      show _ = _
      rw [← hS.out]
      unfold tyOf
      rw [hf, ← ht.out]
      show lowS n.attrs[i].2 = lowS (n.attrs.getD i at0).2
      rw [show n.attrs.getD i at0 = n.attrs[i] by simp [List.getD, hi]]
    rw [show findA n.attrs ⟨#[116, 121, 112, 101]⟩ = some i from hf, show findV (some i) = (i : Int) from rfl] at HF
    have i0 : (0 : Int) ≤ (i : Int) := by omega
    have i1 : (i : Int) < (n.attrs.length : Int) := by omega
    have ts := hs _ (List.getElem_mem hi)
    rw [ht.out] at ts
    have HL := hide (fun W => refLower_reach t W ts)
    rw [hE.out] at HL
    obtain ⟨b, o, rfl, hv2⟩ : ∃ b o, p = some ⟨b, o, none⟩ ∧ ∀ i (h : i < n.attrs.length), w.cell? ⟨b, o + i * 2, none⟩ = some (.string n.attrs[i].1) ∧ w.cell? ⟨b, o + i * 2 + 1, none⟩ = some (.string n.attrs[i].2) := by
      rcases hv with t | t
      · rw [t] at hi; simp at hi
      · exact t
    have c1 := cell_below (hv2 i hi).2 B0.out
    rw [ht.out] at c1
    have k0 : (w.alloc (.cells #[.string n.name, .string n.text, .slice (some ⟨b, o, none⟩) n.attrs.length c, .int .i64 n.parent, vk] 43)).cell? ⟨w.heap.size, 0, none⟩ = some (.string n.name) := by simp
    have k2 : (w.alloc (.cells #[.string n.name, .string n.text, .slice (some ⟨b, o, none⟩) n.attrs.length c, .int .i64 n.parent, vk] 43)).cell? ⟨w.heap.size, 2, none⟩ = some (.slice (some ⟨b, o, none⟩) n.attrs.length c) := by simp
    clear hf hv hv2 hs ef
    go_enter Tryz.func19, Tryz.ntmps19
    generalize n.name = nm at *
    go_wp2_with fail
    generalize w.alloc (.cells #[.string nm, .string n.text, .slice (some ⟨b, o, none⟩) n.attrs.length c, .int .i64 n.parent, vk] 43) = w0 at *
    refine HF.out.mono ?_
    rintro e u ⟨rfl, hu⟩
    obtain rfl : w0 = u := hu.symm
    go_wp2_with fail
    refine (HL.out _).mono ?_
    rintro e w2 ⟨rfl, b2⟩
    have B2 := hide (chain B0.out b2)
    have m0 := cell_below k0 b2
    clear k0 k2 c1 b2
    go_wp2_with fail
    go_ret
    exact ⟨rfl, B2.out⟩
theorem refOf_any (n : Nd) (va vk : Value) (w : World) (ha : AttrsV w va n.attrs) (hl : n.attrs.length ≤ 4398046511104) (hs : ∀ a ∈ n.attrs, a.2.size ≤ 140737488351232) :
    Calls Tryz.prog 19 #[.agg #[.string n.name, .string n.text, va, .int .i64 n.parent, vk]] w fun e w' => e = .returned (.int .i64 (kOf n.name (tyOf n.attrs))) ∧ Below w.heap.size w w' := by
  by_cases h0 : n.name = ⟨#[105, 110, 112, 117, 116]⟩
  · rw [show kOf n.name (tyOf n.attrs) = byT (tyOf n.attrs) 1 22 2 from by rw [h0]; rfl]
    exact refOf_input n va vk w ha hl hs h0
  by_cases h1 : n.name = ⟨#[98, 117, 116, 116, 111, 110]⟩
  · rw [show kOf n.name (tyOf n.attrs) = byT (tyOf n.attrs) 25 27 25 from by rw [h1]; rfl]
    exact refOf_button n va vk w ha hl hs h1
  by_cases h2 : n.name = ⟨#[115, 101, 108, 101, 99, 116]⟩
  · rw [show kOf n.name (tyOf n.attrs) = 23 from by rw [h2]; rfl]
    exact refOf_select n va vk w ha hl hs h2
  by_cases h3 : n.name = ⟨#[116, 101, 120, 116, 97, 114, 101, 97]⟩
  · rw [show kOf n.name (tyOf n.attrs) = 24 from by rw [h3]; rfl]
    exact refOf_textarea n va vk w ha hl hs h3
  by_cases h4 : n.name = ⟨#[111, 117, 116, 112, 117, 116]⟩
  · rw [show kOf n.name (tyOf n.attrs) = 28 from by rw [h4]; rfl]
    exact refOf_output n va vk w ha hl hs h4
  by_cases h5 : n.name = ⟨#[102, 105, 101, 108, 100, 115, 101, 116]⟩
  · rw [show kOf n.name (tyOf n.attrs) = 29 from by rw [h5]; rfl]
    exact refOf_fieldset n va vk w ha hl hs h5
  by_cases h6 : n.name = ⟨#[102, 111, 114, 109]⟩
  · rw [show kOf n.name (tyOf n.attrs) = 30 from by rw [h6]; rfl]
    exact refOf_form n va vk w ha hl hs h6
  by_cases h7 : n.name = ⟨#[108, 97, 98, 101, 108]⟩
  · rw [show kOf n.name (tyOf n.attrs) = 31 from by rw [h7]; rfl]
    exact refOf_label n va vk w ha hl hs h7
  by_cases h8 : n.name = ⟨#[111, 112, 116, 105, 111, 110]⟩
  · rw [show kOf n.name (tyOf n.attrs) = 32 from by rw [h8]; rfl]
    exact refOf_option n va vk w ha hl hs h8
  by_cases h9 : n.name = ⟨#[111, 112, 116, 103, 114, 111, 117, 112]⟩
  · rw [show kOf n.name (tyOf n.attrs) = 33 from by rw [h9]; rfl]
    exact refOf_optgroup n va vk w ha hl hs h9
  by_cases h10 : n.name = ⟨#[108, 101, 103, 101, 110, 100]⟩
  · rw [show kOf n.name (tyOf n.attrs) = 34 from by rw [h10]; rfl]
    exact refOf_legend n va vk w ha hl hs h10
  by_cases h11 : n.name = ⟨#[100, 97, 116, 97, 108, 105, 115, 116]⟩
  · rw [show kOf n.name (tyOf n.attrs) = 35 from by rw [h11]; rfl]
    exact refOf_datalist n va vk w ha hl hs h11
  have hn : seekL n.name 8 0 = none := by
    show (if lastN 0 = n.name then some 0 else if lastN 1 = n.name then some 1 else if lastN 2 = n.name then some 2 else if lastN 3 = n.name then some 3 else if lastN 4 = n.name then some 4 else if lastN 5 = n.name then some 5 else if lastN 6 = n.name then some 6 else if lastN 7 = n.name then some 7 else none) = none
    rw [if_neg (fun q => h4 q.symm), if_neg (fun q => h5 q.symm), if_neg (fun q => h6 q.symm), if_neg (fun q => h7 q.symm), if_neg (fun q => h8 q.symm), if_neg (fun q => h9 q.symm), if_neg (fun q => h10 q.symm), if_neg (fun q => h11 q.symm)]
  rw [show kOf n.name (tyOf n.attrs) = 0 from by unfold kOf; rw [if_neg h0, if_neg h2, if_neg h3, if_neg h1, hn]]
  exact refOf_none n va vk w ha hl hs h0 h1 h2 h3 h4 h5 h6 h7 h8 h9 h10 h11
end Go.Proofs.YtlppocdhfeejkaaGreatDoor

namespace Go.Proofs.YtlppocdhfeejkaaGreatDoor
open Go.RowKit
set_option maxRecDepth 100000
theorem right_attrsO {l : List Nd} (h : Right l) {i : Nat} (hi : i < l.length) : (nd l i).attrs.length ≤ 40 ∧ ∀ a ∈ (nd l i).attrs, a.2.size ≤ 4000 := by
  have ha := h.alone i hi
  by_cases h0 : (nd l i).name.size = 0
  · rw [alone_text h0, Bool.and_eq_true, empty_iff, beq_iff_eq] at ha
    have e : (nd l i).attrs = [] := List.eq_nil_of_length_eq_zero ha.1
    rw [e]; exact ⟨by decide, fun a q => by cases q⟩
  · rw [alone_el h0, Bool.and_eq_true, Bool.and_eq_true, Bool.and_eq_true, decide_eq_true_eq, List.all_eq_true] at ha
    refine ⟨ha.2.2.1, fun a q => ?_⟩
    obtain ⟨k, hk, rfl⟩ := List.getElem_of_mem q
    have := ha.2.2.2 k (List.mem_range.2 hk)
    rw [attrOk_at hk, Bool.and_eq_true, Bool.and_eq_true, decide_eq_true_eq] at this
    exact this.2.1
set_option maxHeartbeats 4000000 in
theorem refIs_any (v : Value) (l : List Nd) (id k : Int) (w : World) (hv : NodesV w v l) (hz : DocSz l) :
    Calls Tryz.prog 64 #[v, .int .i64 id, .int .i64 k] w fun e w' => e = .returned (.bool (isK l id k)) ∧ Below w.heap.size w w' := by
  have HH := hide (refHas_any v l id w hv hz)
  cases h : hasN l id with
  | false =>
    have E : Hid (isK l id k = false) := by show _ = _; unfold isK; rw [h]; rfl
    rw [h] at HH
    obtain ⟨p, c, rfl, _⟩ := hv
    clear h hz
    go_enter Tryz.func64, Tryz.ntmps64
    go_wp2_with fail
    refine HH.out.mono ?_
    rintro e w1 ⟨rfl, b1⟩
    go_wp2_with fail
    go_ret
    exact ⟨ret_bool E.out.symm, b1⟩
  | true =>
    obtain ⟨m, hI⟩ := Is.of h
    obtain ⟨rfl, h0⟩ := (⟨hI.eq, hI.lt⟩ : id = (m : Int) ∧ m < l.length)
    have sz := right_attrsO hI.right h0
    have hlen := hI.right.len.2
    have E : Hid ((kOf l[m].name (tyOf l[m].attrs) == k) = isK l (m : Int) k) := by
      show _ = _
      unfold isK kN
      rw [h, Int.toNat_natCast, nd_at h0, Bool.true_and]
      rfl
    rw [nd_at h0] at sz
    rw [h] at HH
    obtain ⟨p, c, rfl, hv⟩ := hv
    rcases hv with hv | ⟨b, o, rfl, hv⟩
    · rw [hv] at h0; simp at h0
    obtain ⟨va, vk, N0⟩ := hv m h0
    have N1 := hide N0
    have HO := hide (fun W (hb : Below w.heap.size w W) => refOf_any l[m] va vk W (N1.out.at_.below hb) (by omega) (fun a q => by have := sz.2 a q; omega))
    have i0 : (0 : Int) ≤ (m : Int) := by omega
    have i1 : (m : Int) < (l.length : Int) := by omega
    clear h hz hI hv N0 sz
    generalize kOf l[m].name (tyOf l[m].attrs) = z at *
    go_enter Tryz.func64, Tryz.ntmps64
    go_wp2_with fail
    refine HH.out.mono ?_
    rintro e w1 ⟨rfl, b1⟩
    have a0 := cell_below N1.out.name b1
    have a1 := cell_below N1.out.text b1
    have a2 := cell_below N1.out.attrs b1
    have a3 := cell_below N1.out.parent b1
    have a4 := cell_below N1.out.kids b1
    go_wp2_with fail
    refine (HO.out _ b1).mono ?_
    rintro e w2 ⟨rfl, b2⟩
    go_wp2_with fail
    go_ret
    exact ⟨ret_bool E.out, chain b1 b2⟩
-- more
theorem nmI_at {l : List Nd} {p : Nat} (h : p < l.length) : nmI l (p : Int) = l[p].name := by unfold nmI; rw [Int.toNat_natCast, nd_at h]
theorem grp_neg {l : List Nd} {z : Int} (h : z < 0) : grpI l z = false := by unfold grpI; rw [decide_eq_false (by omega)]; rfl
theorem grp_at {l : List Nd} {p : Nat} (h : p < l.length) : grpI l (p : Int) = decide (l[p].name = oGrp) := by unfold grpI; rw [decide_eq_true (by omega), nmI_at h, Bool.true_and]
theorem own_none {l : List Nd} {m : Int} (h : upI l m < 0 ∨ ¬ nmI l (upI l m) = oSel) : ownP l m = -1 := if_pos h
theorem own_some {l : List Nd} {m : Int} (h0 : ¬ upI l m < 0) (h1 : nmI l (upI l m) = oSel) : ownP l m = upI l m := if_neg (fun t => t.elim h0 (fun q => q h1))
theorem up_plain {l : List Nd} {m : Int} (h : grpI l (parI l m) = false) : upI l m = parI l m := if_neg (by rw [h]; decide)
theorem up_grp {l : List Nd} {m : Int} (h : grpI l (parI l m) = true) : upI l m = parI l (parI l m) := if_pos h
theorem nat_of {z : Int} {n : Nat} (h : ¬ z < 0) (h1 : z < (n : Int)) : ∃ p : Nat, z = (p : Int) ∧ p < n := ⟨z.toNat, by omega, by omega⟩
theorem lit_nn {a : ByteArray} {l : List UInt8} (h : ¬ a = ⟨l.toArray⟩) : (a.toList != l) = true := by rw [bne, lit_no h]; rfl
theorem lit_ny {a : ByteArray} {l : List UInt8} (h : a = ⟨l.toArray⟩) : (a.toList != l) = false := by rw [bne, lit_yes h]; rfl
set_option maxHeartbeats 4000000 in
theorem refOwner_any (v : Value) (l : List Nd) (m : Nat) (w : World) (hv : NodesV w v l) (hR : Right l) (h0 : m < l.length) :
    Calls Tryz.prog 66 #[v, .int .i64 (m : Int)] w fun e w' => e = .returned (.int .i64 (ownP l (m : Int))) ∧ w' = w := by
  have hlen := hR.len.2
  have i0 : (0 : Int) ≤ (m : Int) := by omega
  have i1 : (m : Int) < (l.length : Int) := by omega
  obtain ⟨p, c, rfl, hv⟩ := hv
  rcases hv with hv | ⟨b, o, rfl, hv⟩
  · rw [hv] at h0; simp at h0
  obtain ⟨va, vk, N0⟩ := hv m h0
  have a3 := N0.parent
  have pe := parI_at (l := l) h0
  have pr := hR.par m h0
  rw [nd_at h0] at pr
  have HU := hide (up_plain (l := l) (m := (m : Int)))
  have HG := hide (up_grp (l := l) (m := (m : Int)))
  have HN := hide (own_none (l := l) (m := (m : Int)))
  have HS := hide (own_some (l := l) (m := (m : Int)))
  rw [pe] at HU HG
  clear N0 pe
  generalize l[m].parent = z0 at *
  obtain ⟨pr1, pr2⟩ := pr
  by_cases g0 : z0 < 0
  · have E : Hid (ownP l (m : Int) = -1) := HN.out (.inl (by rw [HU.out (grp_neg g0)]; exact g0))
    clear HU HG HN HS hv hR
    have d0 : decide (0 ≤ z0) = false := decide_eq_false (by omega)
    go_enter Tryz.func66, Tryz.ntmps66
    go_wp2_with fail
    go_ret
    exact ⟨ret_int E.out.symm, rfl⟩
  · obtain ⟨p1, rfl, hp1⟩ := nat_of g0 pr2
    obtain ⟨va1, vk1, N1⟩ := hv p1 hp1
    have c0 := N1.name
    have c3 := N1.parent
    have j0 : (0 : Int) ≤ (p1 : Int) := by omega
    have j1 : (p1 : Int) < (l.length : Int) := by omega
    have ge := grp_at (l := l) hp1
    have ne := nmI_at (l := l) hp1
    clear N1
    by_cases g1 : l[p1].name = oGrp
    · rw [decide_eq_true g1] at ge
      have up := HG.out ge
      have pe1 := parI_at (l := l) hp1
      rw [pe1] at up
      have pr' := hR.par p1 hp1
      rw [nd_at hp1] at pr'
      rw [up] at HN HS
      have t1 : (l[p1].name.toList == [111, 112, 116, 103, 114, 111, 117, 112]) = true := lit_yes g1
      clear pe1 up ne ge HU HG g1
      generalize l[p1].parent = z1 at *
      generalize l[p1].name = y1 at *
      obtain ⟨pr3, pr4⟩ := pr'
      by_cases g2 : z1 < 0
      · have E := hide (HN.out (.inl g2))
        clear HN HS hv hR
        go_enter Tryz.func66, Tryz.ntmps66
        go_wp2_with fail
        go_ret
        exact ⟨ret_int E.out.symm, rfl⟩
      · obtain ⟨p2, rfl, hp2⟩ := nat_of g2 pr4
        obtain ⟨va2, vk2, N2⟩ := hv p2 hp2
        have e0 := N2.name
        have k0 : (0 : Int) ≤ (p2 : Int) := by omega
        have k1 : (p2 : Int) < (l.length : Int) := by omega
        have n2 : ¬ (p2 : Int) < 0 := by omega
        rw [nmI_at hp2] at HN HS
        clear N2
        by_cases g3 : l[p2].name = oSel
        · have E := hide (HS.out n2 g3)
          have t2 : (l[p2].name.toList == [115, 101, 108, 101, 99, 116]) = true := lit_yes g3
          have t3 : (l[p2].name.toList != [115, 101, 108, 101, 99, 116]) = false := lit_ny g3
          clear HN HS hv hR g3
          generalize l[p2].name = y2 at *
          go_enter Tryz.func66, Tryz.ntmps66
          go_wp2_with fail
          go_ret
          exact ⟨ret_int E.out.symm, rfl⟩
        · have E := hide (HN.out (.inr g3))
          have t2 : (l[p2].name.toList == [115, 101, 108, 101, 99, 116]) = false := lit_no g3
          have t3 : (l[p2].name.toList != [115, 101, 108, 101, 99, 116]) = true := lit_nn g3
          clear HN HS hv hR g3
          generalize l[p2].name = y2 at *
          go_enter Tryz.func66, Tryz.ntmps66
          go_wp2_with fail
          go_ret
          exact ⟨ret_int E.out.symm, rfl⟩
    · rw [decide_eq_false g1] at ge
      have up := HU.out ge
      rw [up, ne] at HN
      rw [up, ne] at HS
      have t1 : (l[p1].name.toList == [111, 112, 116, 103, 114, 111, 117, 112]) = false := lit_no g1
      have n1 : ¬ (p1 : Int) < 0 := by omega
      clear up ne ge HU HG g1
      by_cases g3 : l[p1].name = oSel
      · have E := hide (HS.out n1 g3)
        have t2 : (l[p1].name.toList == [115, 101, 108, 101, 99, 116]) = true := lit_yes g3
        have t3 : (l[p1].name.toList != [115, 101, 108, 101, 99, 116]) = false := lit_ny g3
        clear HN HS hv hR g3
        generalize l[p1].name = y1 at *
        go_enter Tryz.func66, Tryz.ntmps66
        go_wp2_with fail
        go_ret
        exact ⟨ret_int E.out.symm, rfl⟩
      · have E := hide (HN.out (.inr g3))
        have t2 : (l[p1].name.toList == [115, 101, 108, 101, 99, 116]) = false := lit_no g3
        have t3 : (l[p1].name.toList != [115, 101, 108, 101, 99, 116]) = true := lit_nn g3
        clear HN HS hv hR g3
        generalize l[p1].name = y1 at *
        go_enter Tryz.func66, Tryz.ntmps66
        go_wp2_with fail
        go_ret
        exact ⟨ret_int E.out.symm, rfl⟩

end Go.Proofs.YtlppocdhfeejkaaGreatDoor
