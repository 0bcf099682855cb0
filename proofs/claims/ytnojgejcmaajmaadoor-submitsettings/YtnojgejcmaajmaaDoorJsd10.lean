/- The text of the first attribute of a name. -/
import Derived.Test.YtnojgejcmaajmaaDoorJsd2

namespace Go.Proofs.YtnojgejcmaajmaaDoor
open Go.RowKit
/-- The text of the first attribute of a name. -/
def fndS (ax : List (ByteArray × ByteArray)) (name : ByteArray) : ByteArray := match findA ax name with
  | none => ⟨#[]⟩
  | some i => (ax.getD i at0).2
theorem fnd_hit {ax : List (ByteArray × ByteArray)} {n : ByteArray} {k : Nat} (hk : k < ax.length) (h : findA ax n = some k) : fndS ax n = ax[k].2 ∧ (findA ax n).isSome = true := by
  unfold fndS
  rw [h]
  exact ⟨by show (ax.getD k at0).2 = _; rw [show ax.getD k at0 = ax[k] by simp [List.getD, hk]], rfl⟩
theorem fnd_miss {ax : List (ByteArray × ByteArray)} {n : ByteArray} (h : findA ax n = none) : fndS ax n = ⟨#[]⟩ ∧ (findA ax n).isSome = false := by
  unfold fndS
  rw [h]
  exact ⟨rfl, rfl⟩

end Go.Proofs.YtnojgejcmaajmaaDoor
