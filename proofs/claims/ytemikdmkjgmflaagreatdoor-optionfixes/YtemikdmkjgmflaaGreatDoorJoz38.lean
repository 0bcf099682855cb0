/- The example of layer 15's statements, and how long the states are that its functions answer. -/
import Derived.Test.YtemikdmkjgmflaaGreatDoorJoz20

namespace Go.Proofs.YtemikdmkjgmflaaGreatDoor
open Go.RowKit
theorem nil_csok : CsOK [] := ⟨by decide, fun c q => (by cases q), fun c q => (by cases q)⟩
theorem alike_upd {f : Int → Ct → Ct} {all : List Int} {C : List Ct} (hf : ∀ i c, (f i c).files = c.files ∧ (f i c).val = c.val ∧ (f i c).custom = c.custom) : Alike C (updP f all C) := ⟨updC_len .., fun i h => by
  have hi : i < C.length := by rw [updC_len] at h; exact h
  refine ⟨C[i], List.getElem_mem hi, ?_⟩
  rw [upd_at hi]
  split
  · exact hf _ _
  · exact ⟨rfl, rfl, rfl⟩⟩
theorem alike_only (C : List Ct) (all : List Int) (p : Int) : Alike C (onlyP C all p) := alike_upd fun _ _ => ⟨rfl, rfl, rfl⟩

end Go.Proofs.YtemikdmkjgmflaaGreatDoor
