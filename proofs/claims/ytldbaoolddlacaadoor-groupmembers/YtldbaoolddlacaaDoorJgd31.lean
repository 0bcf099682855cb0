/- The example of layer 15's statements, and how long the states are that its functions answer. -/
import Derived.Test.YtldbaoolddlacaaDoorJgd21

namespace Go.Proofs.YtldbaoolddlacaaDoor
open Go.RowKit
theorem ct0_fs : FsOK ct0.files := ⟨by decide, by decide, fun e q => (by cases q), fun e q => (by cases q)⟩
/-- States that differ in flags alone. -/
structure Alike (C D : List Ct) : Prop where
  len : D.length = C.length
  at_ : ∀ i (h : i < D.length), ∃ c ∈ C, D[i].files = c.files ∧ D[i].val = c.val ∧ D[i].custom = c.custom
theorem Alike.refl (C : List Ct) : Alike C C := ⟨rfl, fun _ h => ⟨_, List.getElem_mem h, rfl, rfl, rfl⟩⟩
theorem Alike.trans {C D E : List Ct} (a : Alike C D) (b : Alike D E) : Alike C E := ⟨b.len.trans a.len, fun i h => by
  obtain ⟨d, hd, e1, e2, e3⟩ := b.at_ i h
  obtain ⟨j, hj, rfl⟩ := List.getElem_of_mem hd
  obtain ⟨c, hc, f1, f2, f3⟩ := a.at_ j hj
  exact ⟨c, hc, e1.trans f1, e2.trans f2, e3.trans f3⟩⟩

end Go.Proofs.YtldbaoolddlacaaDoor
