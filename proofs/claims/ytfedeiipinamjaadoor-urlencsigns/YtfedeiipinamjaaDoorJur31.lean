/- Entries told by a text and read again, as functions of lists. -/
import Derived.Test.YtfedeiipinamjaaDoorJur15

namespace Go.Proofs.YtfedeiipinamjaaDoor
open Go.RowKit
def frmB (c : UInt8) : Bool := plainB c || hasB [42, 45, 46, 95, 43, 37] c
theorem hexD_plain : ∀ n : Fin 16, plainB (hexD n.val) = true := by decide
theorem formB_signs : ∀ c : UInt8, (formB c).all frmB = true := by
  intro c
  unfold formB
  split
  · decide
  · unfold encB
    cases h : escB 7 c with
    | true =>
      have h1 := hexD_plain ⟨c.toNat / 16, by have := c.toNat_lt; omega⟩
      have h2 := hexD_plain ⟨c.toNat % 16, by omega⟩
      have h1 : plainB (hexD (c.toNat / 16)) = true := h1
      have h2 : plainB (hexD (c.toNat % 16)) = true := h2
      simp only [if_true, List.all_cons, List.all_nil, Bool.and_true]
      unfold frmB
      rw [h1, h2, Bool.true_or, Bool.true_or]; decide
    | false =>
      rw [escB_form_all] at h
      simp only [Bool.false_eq_true, if_false, List.all_cons, List.all_nil, Bool.and_true]
      unfold frmB
      cases hp : plainB c with
      | true => rfl
      | false =>
        rw [hp] at h
        have h : (!hasB formSg c) = false := by simpa using h
        have h : hasB formSg c = true := by simpa using h
        unfold hasB formSg at h
        rw [List.contains_iff_mem] at h
        unfold hasB
        rw [Bool.false_or, List.contains_iff_mem]
        simp only [List.mem_cons, List.not_mem_nil, or_false] at h ⊢
        rcases h with h | h | h | h <;> simp [h]
theorem form_signs (l : List UInt8) : ∀ c ∈ formL l, frmB c = true := by
  intro c hc
  unfold formL at hc
  obtain ⟨x, _, hx⟩ := List.mem_flatMap.1 hc
  exact List.all_eq_true.1 (formB_signs x) c hx

end Go.Proofs.YtfedeiipinamjaaDoor
