/- What layer 15's laws ask of the program's functions. -/
import Derived.Test.YtemikdmkjgmflaaDoorJod20
import Derived.Test.YtemikdmkjgmflaaDoorJod25
import Derived.OrdersIn
import Derived.OrdersHeld
import Derived.TacticsIn

namespace Go.Proofs.YtemikdmkjgmflaaDoor
open Go.RowKit
abbrev OpTabs (w : World) : Prop := KTabs w
theorem OpTabs.below {w w' : World} (h : OpTabs w) (hb : Below w.heap.size w w') : OpTabs w' := KTabs.below h hb
theorem opRight_any (nv cv : Value) (l : List Nd) (C : List Ct) (w : World) (hD : DocV w nv cv l C) (hz : DocSz l) (_hC : CsOK C) (_hT : OpTabs w) :
    Calls Tryd.prog 21 #[.agg #[nv, cv]] w fun e w' => e = .returned (.bool (rightD l C)) ∧ Below w.heap.size w w' := opRightG_any nv cv l C w hD hz

end Go.Proofs.YtemikdmkjgmflaaDoor
