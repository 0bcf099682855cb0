/- Kinds of elements. -/
import Derived.WalkKit
import Derived.ProofKit
import Derived.OpenShut
import Derived.ShutString
import Derived.Below
import Derived.WalkSpells
import Derived.WalkLawsBesides
import Derived.KernelRfl

namespace Go.Proofs.YtldbaoolddlacaaDoor
open Go.RowKit
def btwB (k a b : Int) : Bool := decide (a ≤ k ∧ k ≤ b)
def subB (k : Int) : Bool := decide (1 ≤ k ∧ k ≤ 27)
def listB (k : Int) : Bool := decide ((1 ≤ k ∧ k ≤ 19) ∨ (21 ≤ k ∧ k ≤ 29))

end Go.Proofs.YtldbaoolddlacaaDoor
