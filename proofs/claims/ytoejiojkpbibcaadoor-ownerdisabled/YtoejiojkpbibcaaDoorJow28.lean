/- The document's Has, Within, Attr, Top, Up of layer 10. -/
import Derived.Test.YtoejiojkpbibcaaDoorJow3

namespace Go.Proofs.YtoejiojkpbibcaaDoor
open Go.RowKit
set_option maxRecDepth 100000
theorem parI_at {l : List Nd} {m : Nat} (h : m < l.length) : parI l (m : Int) = l[m].parent := by unfold parI; rw [Int.toNat_natCast, nd_at h]

end Go.Proofs.YtoejiojkpbibcaaDoor
