/- Stage 19's wakes and its laws, walked. -/
import Derived.Test.YtfedeiipinamjaaDoorJur2
import Derived.Lib.SplitLaws
import Derived.Lib.Join
import Derived.Shelf.Strings.BuilderK
import Derived.Shelf.Strings.Cut
import Derived.Shelf.Abstract

namespace Go.Proofs.YtfedeiipinamjaaDoor
open Go.RowKit
set_option maxRecDepth 100000
theorem plain_n (l : List En) : (plainU l).length = l.length := by unfold plainU; rw [List.length_map]

end Go.Proofs.YtfedeiipinamjaaDoor
