/- A block of the call's own. -/
import Derived.WalkKit
import Derived.ProofKit
import Derived.OpenShut
import Derived.ShutString
import Derived.Below
import Derived.WalkSpells
import Derived.WalkLawsBesides
import Derived.KernelRfl

namespace Go.Proofs.Ytmobcijigiacoaa
open Go.RowKit
structure Bk (w : World) (n : Nat) (cs : List Value) (t : TypeId) : Prop where
  lies : w.heap[n]? = some (.cells cs.toArray t (0, 0))
theorem Bk.lt {w : World} {n : Nat} {cs : List Value} {t : TypeId} (h : Bk w n cs t) : n < w.heap.size := (Array.getElem?_eq_some_iff.1 h.lies).1

end Go.Proofs.Ytmobcijigiacoaa
