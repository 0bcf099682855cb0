/- A name that is none. -/
import Derived.WalkKit
import Derived.ProofKit
import Derived.OpenShut
import Derived.ShutString
import Derived.Below
import Derived.WalkSpells
import Derived.WalkLawsBesides
import Derived.KernelRfl

namespace Go.Proofs.Ytmobcijigiacoaa
open Go.RowKit
def noName (n : ByteArray) : Bool := n.size == 0

end Go.Proofs.Ytmobcijigiacoaa
