/- A block of the call's own. -/
import Derived.WalkKit
import Derived.ProofKit
import Derived.OpenShut
import Derived.ShutString
import Derived.Below
import Derived.WalkSpells
import Derived.WalkLawsBesides
import Derived.KernelRfl

namespace Go.Proofs.Ytnojgejcmaajmaa
open Go.RowKit
structure Bk (w : World) (n : Nat) (cs : List Value) (t : TypeId) : Prop where
  lies : w.heap[n]? = some (.cells cs.toArray t (0, 0))
theorem Bk.new (w : World) (cs : List Value) (t : TypeId) : Bk (w.alloc (.cells cs.toArray t)) w.heap.size cs t := ⟨by
  show (w.heap.push (.cells cs.toArray t (0, 0)))[w.heap.size]? = _
  simp⟩
theorem Bk.lt {w : World} {n : Nat} {cs : List Value} {t : TypeId} (h : Bk w n cs t) : n < w.heap.size := (Array.getElem?_eq_some_iff.1 h.lies).1
theorem Bk.below {w w' : World} {n : Nat} {cs : List Value} {t : TypeId} (h : Bk w n cs t) (hb : Below w.heap.size w w') : Bk w' n cs t := ⟨(hb.block n h.lt).trans h.lies⟩

end Go.Proofs.Ytnojgejcmaajmaa
