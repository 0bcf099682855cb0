/- Attributes of an element found by a name. -/
import Derived.Test.YtfedeiipinamjaaDoorJur1
import Derived.Shelf.Abstract

namespace Go.Proofs.YtfedeiipinamjaaDoor
open Go.RowKit
set_option maxRecDepth 100000
/-- A function value that answers p of attributes, in every later world. -/
def PredA (g : Nat) (lb : Array Value) (p : ByteArray × ByteArray → Bool) (w : World) : Prop :=
  ∀ (W : World) (x : ByteArray × ByteArray), Below w.heap.size w W → Calls Tryd.prog g (#[.agg #[.string x.1, .string x.2]] ++ lb) W fun e w' => e = .returned (.bool (p x)) ∧ Below W.heap.size W w'
theorem PredA.later {g : Nat} {lb : Array Value} {p : ByteArray × ByteArray → Bool} {w w' : World} (h : PredA g lb p w) (hb : Below w.heap.size w w') : PredA g lb p w' := fun W x q => h W x (chain hb q)

end Go.Proofs.YtfedeiipinamjaaDoor
