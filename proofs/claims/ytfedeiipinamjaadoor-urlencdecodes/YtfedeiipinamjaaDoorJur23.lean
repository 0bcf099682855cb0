/- The document's Encode answers by encL; it changes nothing that was there. -/
import Derived.Test.YtfedeiipinamjaaDoorJur13

namespace Go.Proofs.YtfedeiipinamjaaDoor
open Go.RowKit
theorem byteTypes : ByteTypes Tryd.prog 34 5 9 := ⟨Tryd.underlying34, Tryd.underlying5, Tryd.underlying9, by kernel_rfl⟩

end Go.Proofs.YtfedeiipinamjaaDoor
