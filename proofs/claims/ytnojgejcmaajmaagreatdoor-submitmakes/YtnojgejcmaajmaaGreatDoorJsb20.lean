/- The shelf's strings.IndexByte, laid at this program. -/
import Derived.Test.YtnojgejcmaajmaaGreatDoorProg
import Derived.Shelf.Small.Strs

namespace Go.Proofs.YtnojgejcmaajmaaGreatDoor
open Go.Shelf Go.RowKit
def iren : Go.Shelf.Ren := ⟨fun | 137 => 235 | 217 => 208 | 266 => 238 | n => n, fun | 3 => 3 | 5 => 5 | 9 => 9 | 72 => 94 | n => n, fun  | n => n⟩
theorem lays137 : Go.Proofs.Lays.n137 Tryz.prog iren := {
  mixed := by kernel_rfl
  f137 := Tryz.func235.trans (congrArg some (by kernel_rfl))
  f217 := Tryz.func208.trans (congrArg some (by kernel_rfl))
  f266 := Tryz.func238.trans (congrArg some (by kernel_rfl))
  t3 := Tryz.underlying3
  a3 := Tryz.isAgg3
  z3 := Tryz.sizeOf3
  v3 := Tryz.zeroValue3
  t5 := Tryz.underlying5
  a5 := Tryz.isAgg5
  z5 := Tryz.sizeOf5
  v5 := Tryz.zeroValue5
  t9 := Tryz.underlying9
  a9 := Tryz.isAgg9
  z9 := Tryz.sizeOf9
  v9 := Tryz.zeroValue9 }
theorem index_mem (c : UInt8) : ∀ l : List UInt8, 0 ≤ Lib.indexByte l c ↔ l.contains c = true
  | [] => by simp [Lib.indexByte]
  | b :: l => by
    have ih := index_mem c l
    have ge := Lib.indexByte_ge l c
    unfold Lib.indexByte
    by_cases h : b = c
    · subst h; simp
    · have h1 : (b == c) = false := by simpa using h
      have h2 : (c == b) = false := by simpa using fun e => h e.symm
      rw [h1, List.contains_cons, h2, Bool.false_or]
      by_cases g : Lib.indexByte l c = -1
      · rw [g] at ih ⊢; simp at ih ⊢; exact ih
      · have g1 : (Lib.indexByte l c == -1) = false := by simpa using g
        rw [g1, ← ih]; simp; omega

end Go.Proofs.YtnojgejcmaajmaaGreatDoor
