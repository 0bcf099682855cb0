/- The document's Right, Copied, Only of layer 15. -/
import Derived.Test.YtemikdmkjgmflaaGreatDoorJoz15
import Derived.BigRegion
import Derived.Deep.RegionLaw
import Derived.OwnWalk

namespace Go.Proofs.YtemikdmkjgmflaaGreatDoor
open Go.RowKit
set_option maxRecDepth 100000
theorem ctdsel_set (c : Ct) (fv : Value) (b : Bool) : (ctCells c fv).set 7 (.bool b) = ctCells { c with dsel := b } fv := rfl

end Go.Proofs.YtemikdmkjgmflaaGreatDoor
