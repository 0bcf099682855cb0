/- The example of layer 15's statements, as their own function lays it in the world. -/
import Derived.Test.YtldbaoolddlacaaDoorJgd5
import Derived.Test.YtldbaoolddlacaaDoorJgd21
import Derived.Laws.MakeOwn
import Derived.OwnWalk
import Derived.Deep.RegionLaw
import Derived.Deep.DrawnRows

namespace Go.Proofs.YtldbaoolddlacaaDoor
open Go.RowKit
set_option maxRecDepth 100000
theorem bk_next {w : World} {o : Obj} {n : Nat} (h : w.heap.size = n) : (w.alloc o).heap.size = n + 1 := by rw [← h]; simp
theorem Bk.at' {w : World} {cs : List Value} {t : TypeId} {n : Nat} (h : w.heap.size = n) : Bk (w.alloc (.cells cs.toArray t)) n cs t := by rw [← h]; exact Bk.new w cs t
theorem addr_neO {b b' o o' : Nat} (h : b ≠ b') : (⟨b, o, none⟩ : Addr) ≠ ⟨b', o', none⟩ := fun e => h (by cases e; rfl)
theorem undrewO {w w1 : World} (b : Below (w.drewN 1).heap.size (w.drewN 1) w1) : Below w.heap.size w w1 := ⟨b.os, b.tape, b.output, b.size, b.block⟩
theorem belRO {B : Nat} {a w : World} (h : Below B a w) (n : Nat) : Below B a (w.drewN n) := ⟨h.os, h.tape, h.output, h.size, h.block⟩
theorem own_form {B : Nat} {w : World} {v : Value} {L : List NdV} {l : List Nd} (h : OwnD B w v L) (e : ndsOf L = l) : ∃ p c, v = .slice p l.length c := by
  obtain ⟨p, c, q, _⟩ := h.nodes
  rw [e] at q
  exact ⟨p, c, q⟩
theorem CtsO.chg {base : Nat} {S : List Nat} {w w' : World} {v : Value} {C : List Ct} {F : List Value} (h : CtsO base w v C F) (hc : Chg S w w') (hs : ∀ k ∈ S, k < base) : CtsO base w' v C F :=
  ⟨h.len, owns_kept h.row hc (fun k hk q => by have := (h.row.lt k hk).1; have := hs k q; omega)⟩
theorem OwnD.chg {base : Nat} {S : List Nat} {w w' : World} {v : Value} {L : List NdV} (h : OwnD base w v L) (hc : Chg S w w') (hs : ∀ k ∈ S, k < base) : OwnD base w' v L :=
  h.kept hc (fun k q r => by have := (h.lt r).1; have := hs k q; omega)

end Go.Proofs.YtldbaoolddlacaaDoor
