/- The document's pushes of layer 14 alone. -/
import Derived.Test.YtlppocdhfeejkaaGreatDoorJvv17

namespace Go.Proofs.YtlppocdhfeejkaaGreatDoor
open Go.RowKit
set_option maxHeartbeats 4000000 in
set_option maxRecDepth 100000 in
theorem refPush_any (k : Int) (w : World) :
    Calls Tryz.prog 39 #[.int .i64 k] w fun e w' => e = .returned (.bool (isPush k)) ∧ w' = w := by
  rcases (show k = 25 ∨ k = 26 ∨ k = 27 ∨ (¬ k = 25 ∧ ¬ k = 26 ∧ ¬ k = 27) by omega) with rfl | rfl | rfl | ⟨h1, h2, h3⟩
  · go_enter Tryz.func39, Tryz.ntmps39
    go_wp2_with fail
    go_ret
    exact ⟨rfl, rfl⟩
  · go_enter Tryz.func39, Tryz.ntmps39
    go_wp2_with fail
    go_ret
    exact ⟨rfl, rfl⟩
  · go_enter Tryz.func39, Tryz.ntmps39
    go_wp2_with fail
    go_ret
    exact ⟨rfl, rfl⟩
  · have E : Hid (isPush k = false) := decide_eq_false (by omega)
    have b1 : (k == 25) = false := beq_eq_false_iff_ne.2 h1
    have b2 : (k == 26) = false := beq_eq_false_iff_ne.2 h2
    have b3 : (k == 27) = false := beq_eq_false_iff_ne.2 h3
    go_enter Tryz.func39, Tryz.ntmps39
    go_wp2_with fail
    go_ret
    exact ⟨ret_bool E.out.symm, rfl⟩

end Go.Proofs.YtlppocdhfeejkaaGreatDoor
