/- The document's Decode of layer 19. -/
import Derived.Test.YtfedeiipinamjaaDoorJur2

namespace Go.Proofs.YtfedeiipinamjaaDoor
open Go.RowKit
set_option maxRecDepth 100000
theorem txt_at (p : List UInt8) (i : Nat) (h : i < (txt p).size) : (txt p)[i] = p[i]'(show i < p.length from h) := by
  show (txt p).data[i] = _
  simp [txt]

end Go.Proofs.YtfedeiipinamjaaDoor
