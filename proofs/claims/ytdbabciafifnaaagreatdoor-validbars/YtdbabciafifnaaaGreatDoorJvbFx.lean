/- The closed facts of the row of ValidBars, each by itself: that they hold. No condition. -/
import Derived.Test.YtdbabciafifnaaaGreatDoorRows
import Derived.JoinedOf
import Derived.KernelRfl
namespace Go.Proofs.YtdbabciafifnaaaGreatDoor

theorem and_tX {a b : Bool} (h : a = true) (k : b = true) : (a && b) = true := by rw [h, k]; rfl
set_option maxHeartbeats 400000000 in
set_option maxRecDepth 100000 in
theorem row_factsX : joinedFacts Tryz.prog 3 Tryz.f3 Rows.validBarsSpec Rows.validBarsRow = true := by
  unfold joinedFacts
  repeat' (with_reducible refine and_tX ?_ ?_)
  all_goals as_aux_lemma => kernel_rfl

end Go.Proofs.YtdbabciafifnaaaGreatDoor
