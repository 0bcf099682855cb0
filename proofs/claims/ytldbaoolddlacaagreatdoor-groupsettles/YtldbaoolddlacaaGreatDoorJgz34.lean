/- What a call of layer 15's document has about it. -/
import Derived.Test.YtldbaoolddlacaaGreatDoorJgz3
import Derived.Test.YtldbaoolddlacaaGreatDoorJgz22
import Derived.Deep.RegionLaw

namespace Go.Proofs.YtldbaoolddlacaaGreatDoor
open Go.RowKit
set_option maxRecDepth 100000
structure OEnv (w W : World) (nv cv ov : Value) (C : List Ct) (F : List Value) (av : Value) (all : List Int) : Prop where
  bel : Below w.heap.size w W
  doc : Bk W w.heap.size [nv, cv] 25
  row : CtsO (w.heap.size + 1) W ov C F
  kid : KidsO (w.heap.size + 1) W av all
  sep : ∀ k, av.ownBlock = some k → ov.ownBlock ≠ some k
theorem OEnv.step {w W W' : World} {nv cv ov av : Value} {C : List Ct} {F : List Value} {all : List Int} (h : OEnv w W nv cv ov C F av all) (b : Below W.heap.size W W') : OEnv w W' nv cv ov C F av all :=
  ⟨chain h.bel b, h.doc.below b, h.row.kept b, owns_kept h.kid (Chg.of_below b) (fun _ _ q => by cases q), h.sep⟩
theorem OEnv.drew {w W : World} {nv cv ov av : Value} {C : List Ct} {F : List Value} {all : List Int} (h : OEnv w W nv cv ov C F av all) (n : Nat) : OEnv w (W.drewN n) nv cv ov C F av all :=
  h.step ⟨rfl, rfl, rfl, Nat.le_refl _, fun _ _ => rfl⟩
/-- At the begin: the document alone. -/
theorem OEnv.new (w : World) (nv cv : Value) : OEnv w (w.alloc (.cells #[nv, cv] 25)) nv cv (.slice none 0 0) [] [] (.slice none 0 0) [] :=
  ⟨(Below.refl _ w).alloc (Nat.le_refl _) _, Bk.new w [nv, cv] _, ⟨rfl, World.ownsRow_nil _ _ _ _⟩, World.ownsRow_nil _ _ _ _, fun _ q => by cases q⟩
theorem OEnv.big {w W : World} {nv cv ov av : Value} {C : List Ct} {F : List Value} {all : List Int} (h : OEnv w W nv cv ov C F av all) : w.heap.size + 1 ≤ W.heap.size := h.doc.lt
/-- A list of its own. -/
theorem OEnv.listed {w W W' : World} {nv cv ov av' : Value} {C : List Ct} {F : List Value} {all' : List Int} (h : OEnv w W nv cv ov C F (.slice none 0 0) []) (b : Below W.heap.size W W') (hk : KidsO W.heap.size W' av' all') : OEnv w W' nv cv ov C F av' all' := by
  have k := h.step b
  refine ⟨k.bel, k.doc, k.row, owns_mono hk h.big, fun j q t => ?_⟩
  have h1 := (World.ownsRow.lt hk j q).1
  have h2 := (World.ownsRow.lt h.row.row j t).2
  omega
theorem own_num {w W : World} {nv cv ov : Value} {pa : Option Addr} {ca : Nat} {C : List Ct} {F : List Value} {all : List Int} (h : OEnv w W nv cv ov C F (.slice pa all.length ca) all) {k : Nat} (hk : k < all.length) :
    ∃ ga, pa = some ⟨ga, 0, none⟩ ∧ W.cell? ⟨ga, k, none⟩ = some (.int .i64 all[k]) ∧ (Value.slice pa all.length ca).ownBlock = some ga := by
  obtain ⟨g, cap, e, eb, _⟩ := owns_at h.kid (by omega)
  cases e
  exact ⟨g, rfl, owns_cell h.kid eb (cellsI_at hk), eb⟩
theorem st_nat {C : List Ct} {q : Nat} (h : q < C.length) : st C (q : Int) = C[q] := by unfold st; rw [Int.toNat_natCast, List.getD_eq_getElem?_getD, List.getElem?_eq_getElem h]; rfl

end Go.Proofs.YtldbaoolddlacaaGreatDoor
