/- The document's Fix of layer 15. -/
import Derived.Test.YtlppocdhfeejkaaGreatDoorProg
import Derived.Test.YtlppocdhfeejkaaGreatDoorJvv13
import Derived.Deep.RegionHeld3
import Derived.Shelf.Strconv.Clone
import Derived.Deep.MidRow
import Derived.Deep.DeepCutAuto
import Derived.BigRegion
import Derived.Deep.RegionLaw
import Derived.Shelf.Strings.SlTrimAscii
import Derived.Lib.Builder
import Derived.Lib.UnsafeStr
import Derived.Shelf.Strings.Builder1
import Derived.Shelf.Small.Strs

namespace Go.Proofs.YtlppocdhfeejkaaGreatDoor
open Go.RowKit
set_option maxRecDepth 100000
theorem undrewO {w w1 : World} (b : Below (w.drewN 1).heap.size (w.drewN 1) w1) : Below w.heap.size w w1 := ⟨b.os, b.tape, b.output, b.size, b.block⟩

end Go.Proofs.YtlppocdhfeejkaaGreatDoor
