/- A control's value as a function of its kind, its state and its attributes. The document's pushes of layer 14 alone. -/
import Derived.Test.YtnojgejcmaajmaaGreatDoorJsb19

namespace Go.Proofs.YtnojgejcmaajmaaGreatDoor
open Go.RowKit
theorem mode_cases (k : Int) : modeV k = 0 ∨ modeV k = 1 ∨ modeV k = 2 ∨ modeV k = 3 ∨ modeV k = 4 := by
  unfold modeV
  (repeat' split) <;> simp
end Go.Proofs.YtnojgejcmaajmaaGreatDoor

namespace Go.Proofs.YtnojgejcmaajmaaGreatDoor
open Go.RowKit
set_option maxHeartbeats 4000000 in
set_option maxRecDepth 100000 in
theorem refPush_any (k : Int) (w : World) :
    Calls Tryz.prog 156 #[.int .i64 k] w fun e w' => e = .returned (.bool (isPush k)) ∧ w' = w := by
  rcases (show k = 25 ∨ k = 26 ∨ k = 27 ∨ (¬ k = 25 ∧ ¬ k = 26 ∧ ¬ k = 27) by omega) with rfl | rfl | rfl | ⟨h1, h2, h3⟩
  · go_enter Tryz.func156, Tryz.ntmps156
    go_wp2_with fail
    go_ret
    exact ⟨rfl, rfl⟩
  · go_enter Tryz.func156, Tryz.ntmps156
    go_wp2_with fail
    go_ret
    exact ⟨rfl, rfl⟩
  · go_enter Tryz.func156, Tryz.ntmps156
    go_wp2_with fail
    go_ret
    exact ⟨rfl, rfl⟩
  · have E : Hid (isPush k = false) := decide_eq_false (by omega)
    have b1 : (k == 25) = false := beq_eq_false_iff_ne.2 h1
    have b2 : (k == 26) = false := beq_eq_false_iff_ne.2 h2
    have b3 : (k == 27) = false := beq_eq_false_iff_ne.2 h3
    go_enter Tryz.func156, Tryz.ntmps156
    go_wp2_with fail
    go_ret
    exact ⟨ret_bool E.out.symm, rfl⟩

end Go.Proofs.YtnojgejcmaajmaaGreatDoor
