/- Escapes of texts, as lists of bytes. -/
import Derived.Lib.Replace
import Derived.WalkKit
import Derived.ProofKit
import Derived.OpenShut
import Derived.ShutString
import Derived.Below
import Derived.WalkSpells
import Derived.WalkLawsBesides
import Derived.KernelRfl
import Derived.Laws.BytesArg
import Derived.Lib.ConvBytes
import Derived.Lib.AppendStr

namespace Go.Proofs.YtnojgejcmaajmaaDoor
open Go.RowKit
def repA (old new s : List UInt8) : List UInt8 := Lib.replaceK old new (Lib.count s old) s

end Go.Proofs.YtnojgejcmaajmaaDoor
