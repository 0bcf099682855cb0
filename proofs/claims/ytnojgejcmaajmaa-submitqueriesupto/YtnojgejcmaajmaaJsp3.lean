/- What a form asks for, as functions of documents. -/
import Derived.WalkKit
import Derived.ProofKit
import Derived.OpenShut
import Derived.ShutString
import Derived.Below
import Derived.WalkSpells
import Derived.WalkLawsBesides
import Derived.KernelRfl
import Derived.Laws.BytesArg
import Derived.Lib.ConvBytes
import Derived.Lib.AppendStr

namespace Go.Proofs.Ytnojgejcmaajmaa
open Go.RowKit
def fst8 (c : UInt8) (s : List UInt8) : Nat := (s.takeWhile fun x => x != c).length
def qryL (a q : List UInt8) : List UInt8 := (a.take (fst8 35 a)).take (fst8 63 (a.take (fst8 35 a))) ++ (63 :: q) ++ a.drop (fst8 35 a)

end Go.Proofs.Ytnojgejcmaajmaa
