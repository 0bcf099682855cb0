/- What a call of layer 15's document has about it. -/
import Derived.Test.YtldbaoolddlacaaDoorJgd3
import Derived.Test.YtldbaoolddlacaaDoorJgd33

namespace Go.Proofs.YtldbaoolddlacaaDoor
open Go.RowKit
set_option maxRecDepth 100000
theorem OEnv.step {w W W' : World} {nv cv ov av : Value} {C : List Ct} {F : List Value} {all : List Int} (h : OEnv w W nv cv ov C F av all) (b : Below W.heap.size W W') : OEnv w W' nv cv ov C F av all :=
  ⟨chain h.bel b, h.doc.below b, h.row.kept b, owns_kept h.kid (Chg.of_below b) (fun _ _ q => by cases q), h.sep⟩
theorem OEnv.big {w W : World} {nv cv ov av : Value} {C : List Ct} {F : List Value} {all : List Int} (h : OEnv w W nv cv ov C F av all) : w.heap.size + 1 ≤ W.heap.size := h.doc.lt
/-- States of its own. -/
theorem OEnv.rowed {w W W' : World} {nv cv ov ov' : Value} {C C' : List Ct} {F F' : List Value} (h : OEnv w W nv cv ov C F (.slice none 0 0) []) (b : Below W.heap.size W W') (hr : CtsO W.heap.size W' ov' C' F') : OEnv w W' nv cv ov' C' F' (.slice none 0 0) [] := by
  have k := h.step b
  exact ⟨k.bel, k.doc, ⟨hr.len, owns_mono hr.row h.big⟩, k.kid, fun _ q => by cases q⟩
/-- The states are others now, in their own place. -/
theorem OEnv.other {w W W' : World} {nv cv ov av : Value} {C C' : List Ct} {F : List Value} {all : List Int} (h : OEnv w W nv cv ov C F av all) (c : Chg ov.ownBlock.toList W W') (hr : CtsO (w.heap.size + 1) W' ov C' F) : OEnv w W' nv cv ov C' F av all := by
  have ge : ∀ k ∈ ov.ownBlock.toList, w.heap.size + 1 ≤ k := fun k q => (World.ownsRow.lt h.row.row k (opt_mem.1 q)).1
  refine ⟨h.bel.trans (c.below (by have := h.big; omega) (fun k q => by have := ge k q; omega)), ⟨?_⟩, hr, owns_kept h.kid c (fun k hk q => h.sep k hk (opt_mem.1 q)), h.sep⟩
  have := h.doc.lies
  rw [← this]
  exact c.block _ h.doc.lt (fun q => by have := ge _ q; omega)
theorem st_nat {C : List Ct} {q : Nat} (h : q < C.length) : st C (q : Int) = C[q] := by unfold st; rw [Int.toNat_natCast, List.getD_eq_getElem?_getD, List.getElem?_eq_getElem h]; rfl

end Go.Proofs.YtldbaoolddlacaaDoor
