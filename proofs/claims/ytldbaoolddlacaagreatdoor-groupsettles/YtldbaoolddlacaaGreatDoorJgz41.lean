/- What a call of layer 15's document has about it. -/
import Derived.Test.YtldbaoolddlacaaGreatDoorJgz34

namespace Go.Proofs.YtldbaoolddlacaaGreatDoor
open Go.RowKit
set_option maxRecDepth 100000
/-- States of its own. -/
theorem OEnv.rowed {w W W' : World} {nv cv ov ov' : Value} {C C' : List Ct} {F F' : List Value} (h : OEnv w W nv cv ov C F (.slice none 0 0) []) (b : Below W.heap.size W W') (hr : CtsO W.heap.size W' ov' C' F') : OEnv w W' nv cv ov' C' F' (.slice none 0 0) [] := by
  have k := h.step b
  exact ⟨k.bel, k.doc, ⟨hr.len, owns_mono hr.row h.big⟩, k.kid, fun _ q => by cases q⟩
/-- The states are others now, in their own place. -/
theorem OEnv.other {w W W' : World} {nv cv ov av : Value} {C C' : List Ct} {F : List Value} {all : List Int} (h : OEnv w W nv cv ov C F av all) (c : Chg ov.ownBlock.toList W W') (hr : CtsO (w.heap.size + 1) W' ov C' F) : OEnv w W' nv cv ov C' F av all := by
  have ge : ∀ k ∈ ov.ownBlock.toList, w.heap.size + 1 ≤ k := fun k q => (World.ownsRow.lt h.row.row k (opt_mem.1 q)).1
  refine ⟨h.bel.trans (c.below (by have := h.big; omega) (fun k q => by have := ge k q; omega)), ⟨?_⟩, hr, owns_kept h.kid c (fun k hk q => h.sep k hk (opt_mem.1 q)), h.sep⟩
  have := h.doc.lies
  rw [← this]
  exact c.block _ h.doc.lt (fun q => by have := ge _ q; omega)

end Go.Proofs.YtldbaoolddlacaaGreatDoor
