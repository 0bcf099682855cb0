/- The statements' own test whether a text is too long for them. No condition. -/
import Derived.Test.YtcaoamccnibihaaDoorRows
import Derived.Test.YtcaoamccnibihaaDoorKit
namespace Go.Proofs.YtcaoamccnibihaaDoor
open Go.RowKit

set_option maxHeartbeats 400000 in
theorem long_any (s : ByteArray) (w : World) :
    Calls Tryd.prog 12 #[.string s] w fun e w' => e = .returned (.bool (decide (16384 < (s.size : Int)))) ∧ w' = w := by
  go_enter Tryd.func12, Tryd.ntmps12
  go_wp2
  go_ret
  exact ⟨rfl, rfl⟩

end Go.Proofs.YtcaoamccnibihaaDoor
