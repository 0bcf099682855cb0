/- Kinds of elements. -/
import Derived.WalkKit
import Derived.ProofKit
import Derived.OpenShut
import Derived.ShutString
import Derived.Below
import Derived.WalkSpells
import Derived.WalkLawsBesides
import Derived.KernelRfl

namespace Go.Proofs.YtnojgejcmaajmaaDoor
open Go.RowKit
def btwB (k a b : Int) : Bool := decide (a ≤ k ∧ k ≤ b)
def fireB (k : Int) : Bool := decide (k = 19 ∨ k = 20 ∨ k = 25)

end Go.Proofs.YtnojgejcmaajmaaDoor
