/- The example that wakes the statements: it holds. Condition: the library's variable MaxLen holds some number. -/
import Derived.Test.YthakeibmbcgjfaaDoorCutWalks
namespace Go.Proofs.YthakeibmbcgjfaaDoor
open Go.RowKit

theorem wake_num : parseV (⟨#[45, 46, 53]⟩ : ByteArray).data.toList = (-500000, 0) := by decide +kernel

set_option maxHeartbeats 1000000 in
theorem wakes_any (w : World) (hM : SomeMax w) :
    Calls Tryd.prog 7 #[] w fun e w' => e = .returned (.bool true) ∧ Below w.heap.size w w' := by
  have hP := parse_any ⟨#[45, 46, 53]⟩ w (by decide) hM
  rw [wake_num] at hP
  have HP := hide hP
  clear hP
  go_enter Tryd.func7, Tryd.ntmps7
  go_wp2_with fail
  refine HP.out.mono ?_
  rintro e w1 ⟨rfl, b1⟩
  go_wp2_with fail
  go_ret
  exact ⟨rfl, b1⟩

end Go.Proofs.YthakeibmbcgjfaaDoor
