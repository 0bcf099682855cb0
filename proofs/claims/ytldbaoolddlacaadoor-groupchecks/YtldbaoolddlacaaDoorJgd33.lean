/- What a call of layer 15's document has about it. -/
import Derived.Test.YtldbaoolddlacaaDoorJgd21
import Derived.OwnWalk
import Derived.Deep.RegionLaw

namespace Go.Proofs.YtldbaoolddlacaaDoor
open Go.RowKit
set_option maxRecDepth 100000
structure OEnv (w W : World) (nv cv ov : Value) (C : List Ct) (F : List Value) (av : Value) (all : List Int) : Prop where
  bel : Below w.heap.size w W
  doc : Bk W w.heap.size [nv, cv] 31
  row : CtsO (w.heap.size + 1) W ov C F
  kid : KidsO (w.heap.size + 1) W av all
  sep : ∀ k, av.ownBlock = some k → ov.ownBlock ≠ some k
/-- At the begin: the document alone. -/
theorem OEnv.new (w : World) (nv cv : Value) : OEnv w (w.alloc (.cells #[nv, cv] 31)) nv cv (.slice none 0 0) [] [] (.slice none 0 0) [] :=
  ⟨(Below.refl _ w).alloc (Nat.le_refl _) _, Bk.new w [nv, cv] _, ⟨rfl, World.ownsRow_nil _ _ _ _⟩, World.ownsRow_nil _ _ _ _, fun _ q => by cases q⟩

end Go.Proofs.YtldbaoolddlacaaDoor
