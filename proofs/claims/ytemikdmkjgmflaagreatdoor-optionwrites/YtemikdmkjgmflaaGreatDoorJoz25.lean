/- The program's slices.AppendSeq, slices.Collect over its iterator, List of layer 15. What a call of layer 15's document has about it. -/
import Derived.Test.YtemikdmkjgmflaaGreatDoorJoz15
import Derived.Test.YtemikdmkjgmflaaGreatDoorJoz18
import Derived.Test.YtemikdmkjgmflaaGreatDoorJoz27
import Derived.BigRegion
import Derived.Deep.RegionLaw
import Derived.Deep.RegionHeld3
import Derived.Deep.RegionWith
import Derived.Laws.MakeOwn
import Derived.Shelf.Strings.SlTrimAscii
import Derived.Shelf.Small.Strs

namespace Go.Proofs.YtemikdmkjgmflaaGreatDoor
open Go.RowKit Go.Shelf
set_option maxRecDepth 100000
attribute [local go_sem] Oper.semAt_some
/-- What the iterator asks of a right document. -/
theorem iter_of {w : World} {p : Option Addr} {c : Nat} {l : List Nd} {sel : Int} (hv : NodesV w (.slice p l.length c) l) (hz : DocSz l) (hT : KTabs w) (hR : Right l) (hs : inR l sel) : Iter l sel p c w :=
  optIter_any l sel p c w hv (right_linked hR) hs hT (fun n hn => by
    obtain ⟨i, hi, rfl⟩ := List.getElem_of_mem hn
    have k := kids_few hR hi
    rw [nd_at hi] at k
    have nz := hz.nds _ (List.getElem_mem hi)
    exact ⟨nz.attrs, by omega, nz.tx⟩)
end Go.Proofs.YtemikdmkjgmflaaGreatDoor

namespace Go.Proofs.YtemikdmkjgmflaaGreatDoor
open Go.RowKit
set_option maxRecDepth 100000
structure OEnv (w W : World) (nv cv ov : Value) (C : List Ct) (F : List Value) (av : Value) (all : List Int) : Prop where
  bel : Below w.heap.size w W
  doc : Bk W w.heap.size [nv, cv] 33
  row : CtsO (w.heap.size + 1) W ov C F
  kid : KidsO (w.heap.size + 1) W av all
  sep : ∀ k, av.ownBlock = some k → ov.ownBlock ≠ some k
theorem OEnv.step {w W W' : World} {nv cv ov av : Value} {C : List Ct} {F : List Value} {all : List Int} (h : OEnv w W nv cv ov C F av all) (b : Below W.heap.size W W') : OEnv w W' nv cv ov C F av all :=
  ⟨chain h.bel b, h.doc.below b, h.row.kept b, owns_kept h.kid (Chg.of_below b) (fun _ _ q => by cases q), h.sep⟩
theorem OEnv.drew {w W : World} {nv cv ov av : Value} {C : List Ct} {F : List Value} {all : List Int} (h : OEnv w W nv cv ov C F av all) (n : Nat) : OEnv w (W.drewN n) nv cv ov C F av all :=
  h.step ⟨rfl, rfl, rfl, Nat.le_refl _, fun _ _ => rfl⟩
/-- At the begin: the document alone. -/
theorem OEnv.new (w : World) (nv cv : Value) : OEnv w (w.alloc (.cells #[nv, cv] 33)) nv cv (.slice none 0 0) [] [] (.slice none 0 0) [] :=
  ⟨(Below.refl _ w).alloc (Nat.le_refl _) _, Bk.new w [nv, cv] _, ⟨rfl, World.ownsRow_nil _ _ _ _⟩, World.ownsRow_nil _ _ _ _, fun _ q => by cases q⟩
theorem OEnv.big {w W : World} {nv cv ov av : Value} {C : List Ct} {F : List Value} {all : List Int} (h : OEnv w W nv cv ov C F av all) : w.heap.size + 1 ≤ W.heap.size := h.doc.lt
/-- The states are others now, in their own place. -/
theorem OEnv.other {w W W' : World} {nv cv ov av : Value} {C C' : List Ct} {F : List Value} {all : List Int} (h : OEnv w W nv cv ov C F av all) (c : Chg ov.ownBlock.toList W W') (hr : CtsO (w.heap.size + 1) W' ov C' F) : OEnv w W' nv cv ov C' F av all := by
  have ge : ∀ k ∈ ov.ownBlock.toList, w.heap.size + 1 ≤ k := fun k q => (World.ownsRow.lt h.row.row k (opt_mem.1 q)).1
  refine ⟨h.bel.trans (c.below (by have := h.big; omega) (fun k q => by have := ge k q; omega)), ⟨?_⟩, hr, owns_kept h.kid c (fun k hk q => h.sep k hk (opt_mem.1 q)), h.sep⟩
  have := h.doc.lies
  rw [← this]
  exact c.block _ h.doc.lt (fun q => by have := ge _ q; omega)
theorem last_ge (C : List Ct) (all : List Int) (h : ∀ i ∈ all, 0 ≤ i) : 0 ≤ lastP C all ∨ lastP C all = -1 := by
  by_cases q : 0 ≤ lastP C all
  · exact .inl q
  · exact .inr (lastP_none (last_none h q))
theorem st_nat {C : List Ct} {q : Nat} (h : q < C.length) : st C (q : Int) = C[q] := by unfold st; rw [Int.toNat_natCast, List.getD_eq_getElem?_getD, List.getElem?_eq_getElem h]; rfl

end Go.Proofs.YtemikdmkjgmflaaGreatDoor
