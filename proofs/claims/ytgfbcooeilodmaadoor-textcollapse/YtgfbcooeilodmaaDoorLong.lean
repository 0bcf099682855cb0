/- The statements' own test whether a text is too long for them. No condition. -/
import Derived.Test.YtgfbcooeilodmaaDoorRows
import Derived.Test.YtgfbcooeilodmaaDoorKit
namespace Go.Proofs.YtgfbcooeilodmaaDoor
open Go.RowKit

set_option maxHeartbeats 400000 in
theorem long_any (s : ByteArray) (w : World) :
    Calls Tryd.prog 8 #[.string s] w fun e w' => e = .returned (.bool (decide (65536 < (s.size : Int)))) ∧ w' = w := by
  go_enter Tryd.func8, Tryd.ntmps8
  go_wp2
  go_ret
  exact ⟨rfl, rfl⟩

end Go.Proofs.YtgfbcooeilodmaaDoor
