/- Kinds of elements. -/
import Derived.WalkKit
import Derived.ProofKit
import Derived.OpenShut
import Derived.ShutString
import Derived.Below
import Derived.WalkSpells
import Derived.WalkLawsBesides
import Derived.KernelRfl

namespace Go.Proofs.YtemikdmkjgmflaaDoor
open Go.RowKit
def btwB (k a b : Int) : Bool := decide (a ≤ k ∧ k ≤ b)

end Go.Proofs.YtemikdmkjgmflaaDoor
