/- Documents that are changed stay right. -/
import Derived.Test.YtoejiojkpbibcaaDoorJow2

namespace Go.Proofs.YtoejiojkpbibcaaDoor
open Go.RowKit
theorem cnt_pos {l : List Int} {x : Int} : x ∈ l ↔ 0 < cntI l x := List.count_pos_iff.symm

end Go.Proofs.YtoejiojkpbibcaaDoor
