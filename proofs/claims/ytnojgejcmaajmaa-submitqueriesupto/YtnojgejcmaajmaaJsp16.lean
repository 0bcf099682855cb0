/- How many values an argument's reading holds, against its parts. -/
import Derived.Test.YtnojgejcmaajmaaRows

namespace Go.Proofs.Ytnojgejcmaajmaa
open Go
theorem bulk_bound {H : Type} {l : List (DataW H)} (h : Rows.uptoSmall H l = true) : Rows.uptoBulkAll l ≤ 1048576 := of_decide_eq_true h

end Go.Proofs.Ytnojgejcmaajmaa
