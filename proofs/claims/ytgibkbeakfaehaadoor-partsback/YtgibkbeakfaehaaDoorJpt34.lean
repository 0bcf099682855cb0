/- Entries told as parts, and parts read, as functions of lists. -/
import Derived.WalkKit
import Derived.ProofKit
import Derived.OpenShut
import Derived.ShutString
import Derived.Below
import Derived.WalkSpells
import Derived.WalkLawsBesides
import Derived.KernelRfl
import Derived.Laws.BytesArg
import Derived.Lib.ConvBytes
import Derived.Lib.AppendStr
import Derived.Lib.Replace

namespace Go.Proofs.YtgibkbeakfaehaaDoor
open Go.RowKit
theorem pre_app (t s : List UInt8) : t.isPrefixOf (t ++ s) = true := by simp

end Go.Proofs.YtgibkbeakfaehaaDoor
