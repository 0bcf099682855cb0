/- Escapes of texts, as lists of bytes. -/
import Derived.Lib.Replace
import Derived.WalkKit
import Derived.ProofKit
import Derived.OpenShut
import Derived.ShutString
import Derived.Below
import Derived.WalkSpells
import Derived.WalkLawsBesides
import Derived.KernelRfl
import Derived.Laws.BytesArg
import Derived.Lib.ConvBytes
import Derived.Lib.AppendStr

namespace Go.Proofs.YtfjfkkbgkjmghaaGreatDoor
open Go.RowKit
/-- Does the byte stand in the list? -/
def hasB (l : List UInt8) (c : UInt8) : Bool := l.contains c
def formSg : List UInt8 := [42, 45, 46, 95]
def plainB (c : UInt8) : Bool := decide (48 ≤ c.toNat ∧ c.toNat ≤ 57 ∨ 65 ≤ c.toNat ∧ c.toNat ≤ 90 ∨ 97 ≤ c.toNat ∧ c.toNat ≤ 122)
def stays (c : UInt8) : Bool := plainB c || hasB formSg c

end Go.Proofs.YtfjfkkbgkjmghaaGreatDoor
