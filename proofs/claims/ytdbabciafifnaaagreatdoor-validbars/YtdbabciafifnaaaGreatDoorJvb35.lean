/- The program's fix of layer 15. -/
import Derived.Test.YtdbabciafifnaaaGreatDoorJvb24
import Derived.Test.YtdbabciafifnaaaGreatDoorJvb27
import Derived.RangeFuncNested
import Derived.RangeFuncBound
import Derived.RangeFuncCalls
import Derived.RangeFuncLeaves
import Derived.RangeFuncBox
import Derived.Shelf.RegionOpen
import Derived.OwnWalkIn
import Derived.TacticsInMore
import Derived.LoopNIn
import Derived.LoopIn
import Derived.Deep.RegionHeld3
import Derived.Deep.RegionWith
import Derived.Laws.MakeOwn

namespace Go.Proofs.YtdbabciafifnaaaGreatDoor
open Go.RowKit Go.Shelf
set_option maxRecDepth 100000
attribute [local go_sem] Oper.semAt_some
theorem opts_opt {l : List Nd} {sel x : Int} (hk : isK l sel 23 = true) (hx : x ∈ optsP l sel) : ∃ m : Nat, x = (m : Int) ∧ m < l.length ∧ isK l x 32 = true := by
  have hr : rightB l = true := by
    unfold isK hasN at hk
    rw [Bool.and_eq_true, Bool.and_eq_true] at hk
    exact hk.1.2
  rw [← list_opts hk] at hx
  have e := list_in.2 x hx
  refine ⟨x.toNat, by omega, by omega, ?_⟩
  unfold listP at hx
  rw [if_pos hk] at hx
  have q := (List.mem_filter.1 hx).2
  unfold optB at q
  rw [Bool.and_eq_true, decide_eq_true_eq] at q
  unfold isK hasN kN
  rw [decide_eq_true e, hr, Bool.true_and, Bool.true_and]
  exact decide_eq_true (kOf_opt.2 q.1)
/-- What a call that works on states of the caller's own has about it. -/
structure Wrk (l : List Nd) (sel : Int) (p : Option Addr) (c base : Nat) (cv : Value) (C : List Ct) (F : List Value) (w0 w : World) : Prop where
  nds : NodesV w0 (.slice p l.length c) l
  sz : DocSz l
  tab : KTabs w0
  kind : isK l sel 23 = true
  right : Right l
  below : Below w0.heap.size w0 w
  low : w0.heap.size ≤ base
  own : CtsO base w cv C F
  len : C.length = l.length
theorem isK_inO {l : List Nd} {sel k : Int} (h : isK l sel k = true) : inR l sel := by
  unfold isK hasN at h
  rw [Bool.and_eq_true, Bool.and_eq_true, decide_eq_true_eq] at h
  exact h.1.1
theorem Wrk.later {l : List Nd} {sel : Int} {p : Option Addr} {c base : Nat} {cv : Value} {C : List Ct} {F : List Value} {w0 w w' : World} (h : Wrk l sel p c base cv C F w0 w) (hb : Below w.heap.size w w') : Wrk l sel p c base cv C F w0 w' :=
  ⟨h.nds, h.sz, h.tab, h.kind, h.right, chain h.below hb, h.low, h.own.kept hb, h.len⟩

end Go.Proofs.YtdbabciafifnaaaGreatDoor
