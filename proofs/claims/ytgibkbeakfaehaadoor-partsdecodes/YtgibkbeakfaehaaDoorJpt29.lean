/- Entries told as parts, and parts read, as functions of lists. -/
import Derived.Test.YtgibkbeakfaehaaDoorJpt22

namespace Go.Proofs.YtgibkbeakfaehaaDoor
open Go.RowKit
theorem unL_nil : unL [] = [] := rfl
theorem headU_short {c : UInt8} {r : List UInt8} (h : r.length < 2) : headU (c :: r) = none := by
  match r, h with
  | [], _ => rfl
  | [_], _ => rfl

end Go.Proofs.YtgibkbeakfaehaaDoor
