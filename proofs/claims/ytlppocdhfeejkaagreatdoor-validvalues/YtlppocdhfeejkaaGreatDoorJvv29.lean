/- The example of layer 15's statements, and how long the states are that its functions answer. -/
import Derived.Test.YtlppocdhfeejkaaGreatDoorJvv23

namespace Go.Proofs.YtlppocdhfeejkaaGreatDoor
open Go.RowKit
/-- States that differ in flags alone. -/
structure Alike (C D : List Ct) : Prop where
  len : D.length = C.length
  at_ : ∀ i (h : i < D.length), ∃ c ∈ C, D[i].files = c.files ∧ D[i].val = c.val ∧ D[i].custom = c.custom
theorem Alike.ok {C D : List Ct} (a : Alike C D) (h : CsOK C) : CsOK D := by
  refine ⟨by rw [a.len]; exact h.len, fun c hc => ?_, fun c hc => ?_⟩
  · obtain ⟨i, hi, rfl⟩ := List.getElem_of_mem hc
    obtain ⟨c, hm, e, _⟩ := a.at_ i hi
    rw [e]; exact h.fs c hm
  · obtain ⟨i, hi, rfl⟩ := List.getElem_of_mem hc
    obtain ⟨c, hm, _, e1, e2⟩ := a.at_ i hi
    rw [e1, e2]; exact h.tx c hm
theorem Alike.refl (C : List Ct) : Alike C C := ⟨rfl, fun _ h => ⟨_, List.getElem_mem h, rfl, rfl, rfl⟩⟩
theorem Alike.trans {C D E : List Ct} (a : Alike C D) (b : Alike D E) : Alike C E := ⟨b.len.trans a.len, fun i h => by
  obtain ⟨d, hd, e1, e2, e3⟩ := b.at_ i h
  obtain ⟨j, hj, rfl⟩ := List.getElem_of_mem hd
  obtain ⟨c, hc, f1, f2, f3⟩ := a.at_ j hj
  exact ⟨c, hc, e1.trans f1, e2.trans f2, e3.trans f3⟩⟩

end Go.Proofs.YtlppocdhfeejkaaGreatDoor
