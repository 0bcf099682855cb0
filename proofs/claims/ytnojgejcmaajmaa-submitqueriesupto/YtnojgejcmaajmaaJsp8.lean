/- Parts made of entries and read again. -/
import Derived.WalkKit
import Derived.ProofKit
import Derived.OpenShut
import Derived.ShutString
import Derived.Below
import Derived.WalkSpells
import Derived.WalkLawsBesides
import Derived.KernelRfl
import Derived.Laws.BytesArg
import Derived.Lib.ConvBytes
import Derived.Lib.AppendStr
import Derived.Lib.Replace

namespace Go.Proofs.Ytnojgejcmaajmaa
open Go.RowKit
abbrev bL (s : ByteArray) : List UInt8 := s.data.toList

end Go.Proofs.Ytnojgejcmaajmaa
