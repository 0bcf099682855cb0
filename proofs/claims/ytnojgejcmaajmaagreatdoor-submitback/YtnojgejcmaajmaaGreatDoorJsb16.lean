/- strings.Clone. A control's state as it lies in the world. What a form asks for, as functions of documents. -/
import Derived.Test.YtnojgejcmaajmaaGreatDoorJsb2

namespace Go.Proofs.YtnojgejcmaajmaaGreatDoor
open Go.Shelf Go.RowKit
set_option maxRecDepth 100000
def cloren : Go.Shelf.Ren := ⟨fun | 316 => 78 | n => n, fun | 0 => 0 | 3 => 3 | 4 => 4 | 5 => 5 | 9 => 9 | 37 => 92 | 72 => 94 | 127 => 134 | n => n, fun  | n => n⟩
theorem laysM316 : Go.Proofs.LaysM.n316 Tryz.prog cloren := {
  mixed := by kernel_rfl
  f316 := Tryz.func78.trans (congrArg some (by kernel_rfl))
  t0 := Tryz.underlying0
  a0 := Tryz.isAgg0
  z0 := Tryz.sizeOf0
  v0 := Tryz.zeroValue0
  t3 := Tryz.underlying3
  a3 := Tryz.isAgg3
  z3 := Tryz.sizeOf3
  v3 := Tryz.zeroValue3
  t4 := Tryz.underlying4
  a4 := Tryz.isAgg4
  z4 := Tryz.sizeOf4
  v4 := Tryz.zeroValue4
  t9 := Tryz.underlying9
  a9 := Tryz.isAgg9
  z9 := Tryz.sizeOf9
  v9 := Tryz.zeroValue9
  t37 := Tryz.underlying92
  a37 := Tryz.isAgg92
  z37 := Tryz.sizeOf92
  v37 := Tryz.zeroValue92
  t127 := Tryz.underlying134
  a127 := Tryz.isAgg134
  z127 := Tryz.sizeOf134
  v127 := Tryz.zeroValue134
  t5 := Tryz.underlying5
  a5 := Tryz.isAgg5
  z5 := Tryz.sizeOf5
  v5 := Tryz.zeroValue5
  i0 := by kernel_rfl
  i3 := by kernel_rfl
  i4 := by kernel_rfl
  i5 := by kernel_rfl
  i9 := by kernel_rfl
  i37 := by kernel_rfl
  i127 := by kernel_rfl }
set_option maxHeartbeats 400000 in
theorem clone_any (s : ByteArray) (w : World) (hs : s.size ≤ 281474976710656) :
    Calls Tryz.prog 26 #[.string s] w fun e w' => e = .returned (.string s) ∧ Below w.heap.size w w' := by
  have hc := fun w => (Any.stringslite_Clone laysM316 s w (by omega) : Calls Tryz.prog 78 #[.string s] w fun e w' => e = .returned (.string s) ∧ Below w.heap.size w w')
  have HC := hide hc
  clear hc
  go_enter Tryz.func26, Tryz.ntmps26
  go_wp2_with fail
  refine (HC.out _).mono ?_
  rintro e w1 ⟨rfl, b1⟩
  go_wp2_with fail
  go_ret
  exact ⟨rfl, b1⟩
end Go.Proofs.YtnojgejcmaajmaaGreatDoor

namespace Go.Proofs.YtnojgejcmaajmaaGreatDoor
open Go.RowKit
/-- Files that a statement takes. -/
structure FsOK (fs : List En) : Prop where
  len : fs.length ≤ 4398046511104
  few : fs.length * 72 ≤ 140737488355328
  name : ∀ e ∈ fs, e.fname.size ≤ 140737488355328
  rest : ∀ e ∈ fs, e.name.size ≤ 140737488355328 ∧ e.val.size ≤ 140737488355328 ∧ e.typ.size ≤ 140737488355328
end Go.Proofs.YtnojgejcmaajmaaGreatDoor

namespace Go.Proofs.YtnojgejcmaajmaaGreatDoor
open Go.RowKit
def sMeO : ByteArray := ⟨#[102, 111, 114, 109, 109, 101, 116, 104, 111, 100]⟩
def sMe : ByteArray := ⟨#[109, 101, 116, 104, 111, 100]⟩
def sEnO : ByteArray := ⟨#[102, 111, 114, 109, 101, 110, 99, 116, 121, 112, 101]⟩
def sEn : ByteArray := ⟨#[101, 110, 99, 116, 121, 112, 101]⟩
def sAcO : ByteArray := ⟨#[102, 111, 114, 109, 97, 99, 116, 105, 111, 110]⟩
def sAc : ByteArray := ⟨#[97, 99, 116, 105, 111, 110]⟩
def sTaO : ByteArray := ⟨#[102, 111, 114, 109, 116, 97, 114, 103, 101, 116]⟩
def sTa : ByteArray := ⟨#[116, 97, 114, 103, 101, 116]⟩
def sPost : ByteArray := ⟨#[112, 111, 115, 116]⟩
def sDia : ByteArray := ⟨#[100, 105, 97, 108, 111, 103]⟩
def sGet : ByteArray := ⟨#[103, 101, 116]⟩
def sMul : ByteArray := ⟨#[109, 117, 108, 116, 105, 112, 97, 114, 116, 47, 102, 111, 114, 109, 45, 100, 97, 116, 97]⟩
def sPla : ByteArray := ⟨#[116, 101, 120, 116, 47, 112, 108, 97, 105, 110]⟩
def firesP (l : List Nd) (sub : Int) : Bool := decide (0 ≤ sub) && (decide (sub < (l.length : Int)) && fireB (kI l sub))
def setP_SubP (l : List Nd) (form sub : Int) (own other : ByteArray) : ByteArray := if (firesP l sub && hasA (nd l sub.toNat) own) = true then fndS (nd l sub.toNat).attrs own else fndS (nd l form.toNat).attrs other
def metP (l : List Nd) (form sub : Int) : ByteArray := if hasN l form = true then (if lowS (setP_SubP l form sub sMeO sMe) = sPost ∨ lowS (setP_SubP l form sub sMeO sMe) = sDia then lowS (setP_SubP l form sub sMeO sMe) else sGet) else ⟨#[]⟩
def knP (l : List Nd) (form sub : Int) : Int := if hasN l form = true then (if lowS (setP_SubP l form sub sEnO sEn) = sMul then 2 else if lowS (setP_SubP l form sub sEnO sEn) = sPla then 3 else 1) else 0

end Go.Proofs.YtnojgejcmaajmaaGreatDoor
