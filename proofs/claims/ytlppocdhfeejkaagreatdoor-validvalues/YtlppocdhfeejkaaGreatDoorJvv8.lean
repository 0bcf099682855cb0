/- Kinds of elements. -/
import Derived.WalkKit
import Derived.ProofKit
import Derived.OpenShut
import Derived.ShutString
import Derived.Below
import Derived.WalkSpells
import Derived.WalkLawsBesides
import Derived.KernelRfl

namespace Go.Proofs.YtlppocdhfeejkaaGreatDoor
open Go.RowKit
/-- In which way a kind has its value. -/
def modeV (k : Int) : Int := if (2 ≤ k ∧ k ≤ 15) ∨ k = 24 ∨ k = 28 then 1 else if k = 1 ∨ (19 ≤ k ∧ k ≤ 22) then 2 else if k = 16 ∨ k = 17 then 3 else if k = 18 then 4 else 0
def btwB (k a b : Int) : Bool := decide (a ≤ k ∧ k ≤ b)
def tickB (k : Int) : Bool := decide (k = 16 ∨ k = 17)
def subB (k : Int) : Bool := decide (1 ≤ k ∧ k ≤ 27)

end Go.Proofs.YtlppocdhfeejkaaGreatDoor
