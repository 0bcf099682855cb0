/- What a control has, and how it changes, as functions of kinds, attributes and texts. The program's changedValue and written of layer 14. -/
import Derived.Test.YtfjfkkbgkjmghaaGreatDoorJct28

namespace Go.Proofs.YtfjfkkbgkjmghaaGreatDoor
open Go.RowKit
def anyOfS (n : ByteArray) : Bool := decide (n = valS ∨ n = multS ∨ n = minS ∨ n = maxS ∨ n = stepS)
/-- The text that a changed attribute cleans. -/
def chgSrc (c : Ct) (ax : List (ByteArray × ByteArray)) (n : ByteArray) : ByteArray := if n = valS ∧ c.dirty = false then fndS ax n else c.val
def chgVal (k : Int) (c : Ct) (n t : ByteArray) : Ct := if modeV k = 1 ∧ k < 23 ∧ anyOfS n = true then { c with val := t } else c
def chgChk (k : Int) (c : Ct) (ax : List (ByteArray × ByteArray)) (n : ByteArray) : Ct := if modeV k = 3 ∧ n = chkS ∧ c.dchk = false then { c with chk := (findA ax n).isSome } else c
def chgSel (k : Int) (c : Ct) (ax : List (ByteArray × ByteArray)) (n : ByteArray) : Ct := if k = 32 ∧ n = selS ∧ c.dsel = false then { c with sel := (findA ax n).isSome } else c
def changedP (k : Int) (c : Ct) (ax : List (ByteArray × ByteArray)) (n t : ByteArray) : Ct := chgSel k (chgChk k (chgVal k c n t) ax n) ax n
end Go.Proofs.YtfjfkkbgkjmghaaGreatDoor

namespace Go.Proofs.YtfjfkkbgkjmghaaGreatDoor
open Go.RowKit
set_option maxRecDepth 100000
set_option maxHeartbeats 8000000 in
theorem ctChV_new (k : Int) (C : Ct) (fv : Value) (v : Value) (ax : List (ByteArray × ByteArray)) (w : World) (hf : FilesV w fv C.files) (hv : AttrsV w v ax) (hz : AxOK ax) (name t : ByteArray) (h24 : ¬ k = 24) (h28 : ¬ k = 28) (hm : modeV k = 1) (_hO : CtOK C) (hT : CtTabs w) (hn : name = valS) (hd : C.dirty = false) (ht : ClnIs k ax (fndS ax valS) t) :
    Calls Tryz.prog 41 #[.int .i64 k, ctV C fv, v, .string name] w fun e w' => e = .returned (.string t) ∧ Below w.heap.size w w' := by
  have HC := hide (fun W (hb : Below w.heap.size w W) => ctStartV_any k v ax W (hv.below hb) hz ⟨#[]⟩ t (by rw [show srcS k ax ⟨#[]⟩ = fndS ax valS from if_neg h24]; exact ht) (by decide) (hT.below hb))
  rw [show svP k ⟨#[]⟩ t = t by unfold svP; rw [if_neg h28, if_pos hm]] at HC
  have f0 : (name.toList == [118, 97, 108, 117, 101]) = true := by rw [lit_decC]; exact decide_eq_true (hn)
  have f1 : (name.toList == [109, 117, 108, 116, 105, 112, 108, 101]) = false := by rw [lit_decC]; exact decide_eq_false (fun q => absurd (hn.symm.trans q) (by decide))
  have f2 : (name.toList == [109, 105, 110]) = false := by rw [lit_decC]; exact decide_eq_false (fun q => absurd (hn.symm.trans q) (by decide))
  have f3 : (name.toList == [109, 97, 120]) = false := by rw [lit_decC]; exact decide_eq_false (fun q => absurd (hn.symm.trans q) (by decide))
  have f4 : (name.toList == [115, 116, 101, 112]) = false := by rw [lit_decC]; exact decide_eq_false (fun q => absurd (hn.symm.trans q) (by decide))
  clear ht hT hz hn hm h24 h28
  obtain ⟨p, c, rfl, _⟩ := hv
  obtain ⟨fp, fc, rfl, _⟩ := hf
  obtain ⟨c0, c1, c2, c3, c4, c5, c6, c7, c8, c9⟩ := C
  simp only at hd
  subst hd
  unfold ctV ctCells
  have B0 : Hid (Below w.heap.size w (w.alloc (.cells #[.string c0, .bool false, .bool c2, .bool c3, .bool c4, .bool c5, .bool c6, .bool c7, .string c8, .slice fp c9.length fc] 24))) := (Below.refl _ w).alloc (Nat.le_refl _) _
  have NP := hide (Bk.new w [.string c0, .bool false, .bool c2, .bool c3, .bool c4, .bool c5, .bool c6, .bool c7, .string c8, .slice fp c9.length fc] 24)
  go_enter Tryz.func41, Tryz.ntmps41
  go_upto_region 1 with fail
  generalize w.alloc (.cells #[.string c0, .bool false, .bool c2, .bool c3, .bool c4, .bool c5, .bool c6, .bool c7, .string c8, .slice fp c9.length fc] 24) = w0 at *
  have p0 := NP.out.cell 0 rfl
  have p1 := NP.out.cell 1 rfl
  have p2 := NP.out.cell 2 rfl
  have p3 := NP.out.cell 3 rfl
  have p4 := NP.out.cell 4 rfl
  have p5 := NP.out.cell 5 rfl
  have p6 := NP.out.cell 6 rfl
  have p7 := NP.out.cell 7 rfl
  have p8 := NP.out.cell 8 rfl
  have p9 := NP.out.cell 9 rfl
  go_wp2_with fail
  refine (HC.out _ B0.out).mono ?_
  rintro e w1 ⟨rfl, b1⟩
  go_wp2_with fail
  go_ret
  exact ⟨rfl, chain B0.out b1⟩
set_option maxHeartbeats 8000000 in
theorem ctChV_old (k : Int) (C : Ct) (fv : Value) (v : Value) (ax : List (ByteArray × ByteArray)) (w : World) (hf : FilesV w fv C.files) (hv : AttrsV w v ax) (hz : AxOK ax) (name t : ByteArray) (h24 : ¬ k = 24) (_h28 : ¬ k = 28) (_hm : modeV k = 1) (hO : CtOK C) (hT : CtTabs w) (hn : name = valS) (hd : C.dirty = true) (ht : ClnIs k ax C.val t) :
    Calls Tryz.prog 41 #[.int .i64 k, ctV C fv, v, .string name] w fun e w' => e = .returned (.string t) ∧ Below w.heap.size w w' := by
  have HC := hide (fun W (hb : Below w.heap.size w W) => ctClean_any v ax W (hv.below hb) hz ht h24 hO.val (hT.below hb))
  have f0 : (name.toList == [118, 97, 108, 117, 101]) = true := by rw [lit_decC]; exact decide_eq_true (hn)
  have f1 : (name.toList == [109, 117, 108, 116, 105, 112, 108, 101]) = false := by rw [lit_decC]; exact decide_eq_false (fun q => absurd (hn.symm.trans q) (by decide))
  have f2 : (name.toList == [109, 105, 110]) = false := by rw [lit_decC]; exact decide_eq_false (fun q => absurd (hn.symm.trans q) (by decide))
  have f3 : (name.toList == [109, 97, 120]) = false := by rw [lit_decC]; exact decide_eq_false (fun q => absurd (hn.symm.trans q) (by decide))
  have f4 : (name.toList == [115, 116, 101, 112]) = false := by rw [lit_decC]; exact decide_eq_false (fun q => absurd (hn.symm.trans q) (by decide))
  clear ht hT hz hn hO h24
  obtain ⟨p, c, rfl, _⟩ := hv
  obtain ⟨fp, fc, rfl, _⟩ := hf
  obtain ⟨c0, c1, c2, c3, c4, c5, c6, c7, c8, c9⟩ := C
  simp only at hd HC
  subst hd
  unfold ctV ctCells
  have B0 : Hid (Below w.heap.size w (w.alloc (.cells #[.string c0, .bool true, .bool c2, .bool c3, .bool c4, .bool c5, .bool c6, .bool c7, .string c8, .slice fp c9.length fc] 24))) := (Below.refl _ w).alloc (Nat.le_refl _) _
  have NP := hide (Bk.new w [.string c0, .bool true, .bool c2, .bool c3, .bool c4, .bool c5, .bool c6, .bool c7, .string c8, .slice fp c9.length fc] 24)
  go_enter Tryz.func41, Tryz.ntmps41
  go_upto_region 1 with fail
  generalize w.alloc (.cells #[.string c0, .bool true, .bool c2, .bool c3, .bool c4, .bool c5, .bool c6, .bool c7, .string c8, .slice fp c9.length fc] 24) = w0 at *
  have p0 := NP.out.cell 0 rfl
  have p1 := NP.out.cell 1 rfl
  have p2 := NP.out.cell 2 rfl
  have p3 := NP.out.cell 3 rfl
  have p4 := NP.out.cell 4 rfl
  have p5 := NP.out.cell 5 rfl
  have p6 := NP.out.cell 6 rfl
  have p7 := NP.out.cell 7 rfl
  have p8 := NP.out.cell 8 rfl
  have p9 := NP.out.cell 9 rfl
  go_wp2_with fail
  refine (HC.out _ B0.out).mono ?_
  rintro e w1 ⟨rfl, b1⟩
  go_wp2_with fail
  go_ret
  exact ⟨rfl, chain B0.out b1⟩
set_option maxHeartbeats 8000000 in
theorem ctChV_multiple (k : Int) (C : Ct) (fv : Value) (v : Value) (ax : List (ByteArray × ByteArray)) (w : World) (hf : FilesV w fv C.files) (hv : AttrsV w v ax) (hz : AxOK ax) (name t : ByteArray) (h24 : ¬ k = 24) (_h28 : ¬ k = 28) (_hm : modeV k = 1) (hO : CtOK C) (hT : CtTabs w) (hn : name = multS) (ht : ClnIs k ax C.val t) :
    Calls Tryz.prog 41 #[.int .i64 k, ctV C fv, v, .string name] w fun e w' => e = .returned (.string t) ∧ Below w.heap.size w w' := by
  have HC := hide (fun W (hb : Below w.heap.size w W) => ctClean_any v ax W (hv.below hb) hz ht h24 hO.val (hT.below hb))
  have f0 : (name.toList == [118, 97, 108, 117, 101]) = false := by rw [lit_decC]; exact decide_eq_false (fun q => absurd (hn.symm.trans q) (by decide))
  have f1 : (name.toList == [109, 117, 108, 116, 105, 112, 108, 101]) = true := by rw [lit_decC]; exact decide_eq_true (hn)
  have f2 : (name.toList == [109, 105, 110]) = false := by rw [lit_decC]; exact decide_eq_false (fun q => absurd (hn.symm.trans q) (by decide))
  have f3 : (name.toList == [109, 97, 120]) = false := by rw [lit_decC]; exact decide_eq_false (fun q => absurd (hn.symm.trans q) (by decide))
  have f4 : (name.toList == [115, 116, 101, 112]) = false := by rw [lit_decC]; exact decide_eq_false (fun q => absurd (hn.symm.trans q) (by decide))
  clear ht hT hz hn hO h24
  obtain ⟨p, c, rfl, _⟩ := hv
  obtain ⟨fp, fc, rfl, _⟩ := hf
  obtain ⟨c0, c1, c2, c3, c4, c5, c6, c7, c8, c9⟩ := C
  unfold ctV ctCells
  have B0 : Hid (Below w.heap.size w (w.alloc (.cells #[.string c0, .bool c1, .bool c2, .bool c3, .bool c4, .bool c5, .bool c6, .bool c7, .string c8, .slice fp c9.length fc] 24))) := (Below.refl _ w).alloc (Nat.le_refl _) _
  have NP := hide (Bk.new w [.string c0, .bool c1, .bool c2, .bool c3, .bool c4, .bool c5, .bool c6, .bool c7, .string c8, .slice fp c9.length fc] 24)
  go_enter Tryz.func41, Tryz.ntmps41
  go_upto_region 1 with fail
  generalize w.alloc (.cells #[.string c0, .bool c1, .bool c2, .bool c3, .bool c4, .bool c5, .bool c6, .bool c7, .string c8, .slice fp c9.length fc] 24) = w0 at *
  have p0 := NP.out.cell 0 rfl
  have p1 := NP.out.cell 1 rfl
  have p2 := NP.out.cell 2 rfl
  have p3 := NP.out.cell 3 rfl
  have p4 := NP.out.cell 4 rfl
  have p5 := NP.out.cell 5 rfl
  have p6 := NP.out.cell 6 rfl
  have p7 := NP.out.cell 7 rfl
  have p8 := NP.out.cell 8 rfl
  have p9 := NP.out.cell 9 rfl
  go_wp2_with fail
  refine (HC.out _ B0.out).mono ?_
  rintro e w1 ⟨rfl, b1⟩
  go_wp2_with fail
  go_ret
  exact ⟨rfl, chain B0.out b1⟩
set_option maxHeartbeats 8000000 in
theorem ctChV_min (k : Int) (C : Ct) (fv : Value) (v : Value) (ax : List (ByteArray × ByteArray)) (w : World) (hf : FilesV w fv C.files) (hv : AttrsV w v ax) (hz : AxOK ax) (name t : ByteArray) (h24 : ¬ k = 24) (_h28 : ¬ k = 28) (_hm : modeV k = 1) (hO : CtOK C) (hT : CtTabs w) (hn : name = minS) (ht : ClnIs k ax C.val t) :
    Calls Tryz.prog 41 #[.int .i64 k, ctV C fv, v, .string name] w fun e w' => e = .returned (.string t) ∧ Below w.heap.size w w' := by
  have HC := hide (fun W (hb : Below w.heap.size w W) => ctClean_any v ax W (hv.below hb) hz ht h24 hO.val (hT.below hb))
  have f0 : (name.toList == [118, 97, 108, 117, 101]) = false := by rw [lit_decC]; exact decide_eq_false (fun q => absurd (hn.symm.trans q) (by decide))
  have f1 : (name.toList == [109, 117, 108, 116, 105, 112, 108, 101]) = false := by rw [lit_decC]; exact decide_eq_false (fun q => absurd (hn.symm.trans q) (by decide))
  have f2 : (name.toList == [109, 105, 110]) = true := by rw [lit_decC]; exact decide_eq_true (hn)
  have f3 : (name.toList == [109, 97, 120]) = false := by rw [lit_decC]; exact decide_eq_false (fun q => absurd (hn.symm.trans q) (by decide))
  have f4 : (name.toList == [115, 116, 101, 112]) = false := by rw [lit_decC]; exact decide_eq_false (fun q => absurd (hn.symm.trans q) (by decide))
  clear ht hT hz hn hO h24
  obtain ⟨p, c, rfl, _⟩ := hv
  obtain ⟨fp, fc, rfl, _⟩ := hf
  obtain ⟨c0, c1, c2, c3, c4, c5, c6, c7, c8, c9⟩ := C
  unfold ctV ctCells
  have B0 : Hid (Below w.heap.size w (w.alloc (.cells #[.string c0, .bool c1, .bool c2, .bool c3, .bool c4, .bool c5, .bool c6, .bool c7, .string c8, .slice fp c9.length fc] 24))) := (Below.refl _ w).alloc (Nat.le_refl _) _
  have NP := hide (Bk.new w [.string c0, .bool c1, .bool c2, .bool c3, .bool c4, .bool c5, .bool c6, .bool c7, .string c8, .slice fp c9.length fc] 24)
  go_enter Tryz.func41, Tryz.ntmps41
  go_upto_region 1 with fail
  generalize w.alloc (.cells #[.string c0, .bool c1, .bool c2, .bool c3, .bool c4, .bool c5, .bool c6, .bool c7, .string c8, .slice fp c9.length fc] 24) = w0 at *
  have p0 := NP.out.cell 0 rfl
  have p1 := NP.out.cell 1 rfl
  have p2 := NP.out.cell 2 rfl
  have p3 := NP.out.cell 3 rfl
  have p4 := NP.out.cell 4 rfl
  have p5 := NP.out.cell 5 rfl
  have p6 := NP.out.cell 6 rfl
  have p7 := NP.out.cell 7 rfl
  have p8 := NP.out.cell 8 rfl
  have p9 := NP.out.cell 9 rfl
  go_wp2_with fail
  refine (HC.out _ B0.out).mono ?_
  rintro e w1 ⟨rfl, b1⟩
  go_wp2_with fail
  go_ret
  exact ⟨rfl, chain B0.out b1⟩
set_option maxHeartbeats 8000000 in
theorem ctChV_max (k : Int) (C : Ct) (fv : Value) (v : Value) (ax : List (ByteArray × ByteArray)) (w : World) (hf : FilesV w fv C.files) (hv : AttrsV w v ax) (hz : AxOK ax) (name t : ByteArray) (h24 : ¬ k = 24) (_h28 : ¬ k = 28) (_hm : modeV k = 1) (hO : CtOK C) (hT : CtTabs w) (hn : name = maxS) (ht : ClnIs k ax C.val t) :
    Calls Tryz.prog 41 #[.int .i64 k, ctV C fv, v, .string name] w fun e w' => e = .returned (.string t) ∧ Below w.heap.size w w' := by
  have HC := hide (fun W (hb : Below w.heap.size w W) => ctClean_any v ax W (hv.below hb) hz ht h24 hO.val (hT.below hb))
  have f0 : (name.toList == [118, 97, 108, 117, 101]) = false := by rw [lit_decC]; exact decide_eq_false (fun q => absurd (hn.symm.trans q) (by decide))
  have f1 : (name.toList == [109, 117, 108, 116, 105, 112, 108, 101]) = false := by rw [lit_decC]; exact decide_eq_false (fun q => absurd (hn.symm.trans q) (by decide))
  have f2 : (name.toList == [109, 105, 110]) = false := by rw [lit_decC]; exact decide_eq_false (fun q => absurd (hn.symm.trans q) (by decide))
  have f3 : (name.toList == [109, 97, 120]) = true := by rw [lit_decC]; exact decide_eq_true (hn)
  have f4 : (name.toList == [115, 116, 101, 112]) = false := by rw [lit_decC]; exact decide_eq_false (fun q => absurd (hn.symm.trans q) (by decide))
  clear ht hT hz hn hO h24
  obtain ⟨p, c, rfl, _⟩ := hv
  obtain ⟨fp, fc, rfl, _⟩ := hf
  obtain ⟨c0, c1, c2, c3, c4, c5, c6, c7, c8, c9⟩ := C
  unfold ctV ctCells
  have B0 : Hid (Below w.heap.size w (w.alloc (.cells #[.string c0, .bool c1, .bool c2, .bool c3, .bool c4, .bool c5, .bool c6, .bool c7, .string c8, .slice fp c9.length fc] 24))) := (Below.refl _ w).alloc (Nat.le_refl _) _
  have NP := hide (Bk.new w [.string c0, .bool c1, .bool c2, .bool c3, .bool c4, .bool c5, .bool c6, .bool c7, .string c8, .slice fp c9.length fc] 24)
  go_enter Tryz.func41, Tryz.ntmps41
  go_upto_region 1 with fail
  generalize w.alloc (.cells #[.string c0, .bool c1, .bool c2, .bool c3, .bool c4, .bool c5, .bool c6, .bool c7, .string c8, .slice fp c9.length fc] 24) = w0 at *
  have p0 := NP.out.cell 0 rfl
  have p1 := NP.out.cell 1 rfl
  have p2 := NP.out.cell 2 rfl
  have p3 := NP.out.cell 3 rfl
  have p4 := NP.out.cell 4 rfl
  have p5 := NP.out.cell 5 rfl
  have p6 := NP.out.cell 6 rfl
  have p7 := NP.out.cell 7 rfl
  have p8 := NP.out.cell 8 rfl
  have p9 := NP.out.cell 9 rfl
  go_wp2_with fail
  refine (HC.out _ B0.out).mono ?_
  rintro e w1 ⟨rfl, b1⟩
  go_wp2_with fail
  go_ret
  exact ⟨rfl, chain B0.out b1⟩
set_option maxHeartbeats 8000000 in
theorem ctChV_step (k : Int) (C : Ct) (fv : Value) (v : Value) (ax : List (ByteArray × ByteArray)) (w : World) (hf : FilesV w fv C.files) (hv : AttrsV w v ax) (hz : AxOK ax) (name t : ByteArray) (h24 : ¬ k = 24) (_h28 : ¬ k = 28) (_hm : modeV k = 1) (hO : CtOK C) (hT : CtTabs w) (hn : name = stepS) (ht : ClnIs k ax C.val t) :
    Calls Tryz.prog 41 #[.int .i64 k, ctV C fv, v, .string name] w fun e w' => e = .returned (.string t) ∧ Below w.heap.size w w' := by
  have HC := hide (fun W (hb : Below w.heap.size w W) => ctClean_any v ax W (hv.below hb) hz ht h24 hO.val (hT.below hb))
  have f0 : (name.toList == [118, 97, 108, 117, 101]) = false := by rw [lit_decC]; exact decide_eq_false (fun q => absurd (hn.symm.trans q) (by decide))
  have f1 : (name.toList == [109, 117, 108, 116, 105, 112, 108, 101]) = false := by rw [lit_decC]; exact decide_eq_false (fun q => absurd (hn.symm.trans q) (by decide))
  have f2 : (name.toList == [109, 105, 110]) = false := by rw [lit_decC]; exact decide_eq_false (fun q => absurd (hn.symm.trans q) (by decide))
  have f3 : (name.toList == [109, 97, 120]) = false := by rw [lit_decC]; exact decide_eq_false (fun q => absurd (hn.symm.trans q) (by decide))
  have f4 : (name.toList == [115, 116, 101, 112]) = true := by rw [lit_decC]; exact decide_eq_true (hn)
  clear ht hT hz hn hO h24
  obtain ⟨p, c, rfl, _⟩ := hv
  obtain ⟨fp, fc, rfl, _⟩ := hf
  obtain ⟨c0, c1, c2, c3, c4, c5, c6, c7, c8, c9⟩ := C
  unfold ctV ctCells
  have B0 : Hid (Below w.heap.size w (w.alloc (.cells #[.string c0, .bool c1, .bool c2, .bool c3, .bool c4, .bool c5, .bool c6, .bool c7, .string c8, .slice fp c9.length fc] 24))) := (Below.refl _ w).alloc (Nat.le_refl _) _
  have NP := hide (Bk.new w [.string c0, .bool c1, .bool c2, .bool c3, .bool c4, .bool c5, .bool c6, .bool c7, .string c8, .slice fp c9.length fc] 24)
  go_enter Tryz.func41, Tryz.ntmps41
  go_upto_region 1 with fail
  generalize w.alloc (.cells #[.string c0, .bool c1, .bool c2, .bool c3, .bool c4, .bool c5, .bool c6, .bool c7, .string c8, .slice fp c9.length fc] 24) = w0 at *
  have p0 := NP.out.cell 0 rfl
  have p1 := NP.out.cell 1 rfl
  have p2 := NP.out.cell 2 rfl
  have p3 := NP.out.cell 3 rfl
  have p4 := NP.out.cell 4 rfl
  have p5 := NP.out.cell 5 rfl
  have p6 := NP.out.cell 6 rfl
  have p7 := NP.out.cell 7 rfl
  have p8 := NP.out.cell 8 rfl
  have p9 := NP.out.cell 9 rfl
  go_wp2_with fail
  refine (HC.out _ B0.out).mono ?_
  rintro e w1 ⟨rfl, b1⟩
  go_wp2_with fail
  go_ret
  exact ⟨rfl, chain B0.out b1⟩
set_option maxHeartbeats 8000000 in
theorem ctChV_else (k : Int) (C : Ct) (fv : Value) (v : Value) (ax : List (ByteArray × ByteArray)) (w : World) (hf : FilesV w fv C.files) (hv : AttrsV w v ax) (_hz : AxOK ax) (name : ByteArray) (_h24 : ¬ k = 24) (_h28 : ¬ k = 28) (_hm : modeV k = 1) (_hO : CtOK C) (_hT : CtTabs w) (hn : ¬ name = valS ∧ ¬ name = multS ∧ ¬ name = minS ∧ ¬ name = maxS ∧ ¬ name = stepS) :
    Calls Tryz.prog 41 #[.int .i64 k, ctV C fv, v, .string name] w fun e w' => e = .returned (.string C.val) ∧ Below w.heap.size w w' := by
  have f0 : (name.toList == [118, 97, 108, 117, 101]) = false := by rw [lit_decC]; exact decide_eq_false (hn.1)
  have f1 : (name.toList == [109, 117, 108, 116, 105, 112, 108, 101]) = false := by rw [lit_decC]; exact decide_eq_false (hn.2.1)
  have f2 : (name.toList == [109, 105, 110]) = false := by rw [lit_decC]; exact decide_eq_false (hn.2.2.1)
  have f3 : (name.toList == [109, 97, 120]) = false := by rw [lit_decC]; exact decide_eq_false (hn.2.2.2.1)
  have f4 : (name.toList == [115, 116, 101, 112]) = false := by rw [lit_decC]; exact decide_eq_false (hn.2.2.2.2)
  clear hn
  obtain ⟨p, c, rfl, _⟩ := hv
  obtain ⟨fp, fc, rfl, _⟩ := hf
  obtain ⟨c0, c1, c2, c3, c4, c5, c6, c7, c8, c9⟩ := C
  unfold ctV ctCells
  have B0 : Hid (Below w.heap.size w (w.alloc (.cells #[.string c0, .bool c1, .bool c2, .bool c3, .bool c4, .bool c5, .bool c6, .bool c7, .string c8, .slice fp c9.length fc] 24))) := (Below.refl _ w).alloc (Nat.le_refl _) _
  have NP := hide (Bk.new w [.string c0, .bool c1, .bool c2, .bool c3, .bool c4, .bool c5, .bool c6, .bool c7, .string c8, .slice fp c9.length fc] 24)
  go_enter Tryz.func41, Tryz.ntmps41
  go_upto_region 1 with fail
  generalize w.alloc (.cells #[.string c0, .bool c1, .bool c2, .bool c3, .bool c4, .bool c5, .bool c6, .bool c7, .string c8, .slice fp c9.length fc] 24) = w0 at *
  have p0 := NP.out.cell 0 rfl
  have p1 := NP.out.cell 1 rfl
  have p2 := NP.out.cell 2 rfl
  have p3 := NP.out.cell 3 rfl
  have p4 := NP.out.cell 4 rfl
  have p5 := NP.out.cell 5 rfl
  have p6 := NP.out.cell 6 rfl
  have p7 := NP.out.cell 7 rfl
  have p8 := NP.out.cell 8 rfl
  have p9 := NP.out.cell 9 rfl
  go_wp2_with fail
  go_ret
  exact ⟨rfl, B0.out⟩
theorem ctChV_any (k : Int) (C : Ct) (fv : Value) (v : Value) (ax : List (ByteArray × ByteArray)) (w : World) (hf : FilesV w fv C.files) (hv : AttrsV w v ax) (hz : AxOK ax) (name t : ByteArray) (h24 : ¬ k = 24) (h28 : ¬ k = 28) (hm : modeV k = 1) (ht : ClnIs k ax (chgSrc C ax name) t) (hO : CtOK C) (hT : CtTabs w) :
    Calls Tryz.prog 41 #[.int .i64 k, ctV C fv, v, .string name] w fun e w' => e = .returned (.string (if anyOfS name = true then t else C.val)) ∧ Below w.heap.size w w' := by
  unfold chgSrc at ht
  by_cases h0 : name = valS
  · rw [if_pos (show anyOfS name = true from decide_eq_true (.inl h0))]
    cases hd : C.dirty with
    | false =>
      rw [if_pos ⟨h0, hd⟩, h0] at ht
      exact ctChV_new k C fv v ax w hf hv hz name t h24 h28 hm hO hT h0 hd ht
    | true =>
      rw [if_neg (fun q => by rw [hd] at q; cases q.2)] at ht
      exact ctChV_old k C fv v ax w hf hv hz name t h24 h28 hm hO hT h0 hd ht
  · rw [if_neg (fun q => h0 q.1)] at ht
    by_cases h1 : name = multS
    · rw [if_pos (show anyOfS name = true from decide_eq_true (.inr (.inl h1)))]
      exact ctChV_multiple k C fv v ax w hf hv hz name t h24 h28 hm hO hT h1 ht
    by_cases h2 : name = minS
    · rw [if_pos (show anyOfS name = true from decide_eq_true (.inr (.inr (.inl h2))))]
      exact ctChV_min k C fv v ax w hf hv hz name t h24 h28 hm hO hT h2 ht
    by_cases h3 : name = maxS
    · rw [if_pos (show anyOfS name = true from decide_eq_true (.inr (.inr (.inr (.inl h3)))))]
      exact ctChV_max k C fv v ax w hf hv hz name t h24 h28 hm hO hT h3 ht
    by_cases h4 : name = stepS
    · rw [if_pos (show anyOfS name = true from decide_eq_true (.inr (.inr (.inr (.inr h4)))))]
      exact ctChV_step k C fv v ax w hf hv hz name t h24 h28 hm hO hT h4 ht
    rw [if_neg (fun q => by rcases of_decide_eq_true q with q | q | q | q | q <;> contradiction)]
    exact ctChV_else k C fv v ax w hf hv hz name h24 h28 hm hO hT ⟨h0, h1, h2, h3, h4⟩

end Go.Proofs.YtfjfkkbgkjmghaaGreatDoor
