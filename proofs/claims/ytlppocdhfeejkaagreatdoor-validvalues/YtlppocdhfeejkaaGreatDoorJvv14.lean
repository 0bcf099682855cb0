/- Which form a control belongs to, a form's elements, a label's control, what is disabled, as functions of documents. -/
import Derived.Test.YtlppocdhfeejkaaGreatDoorJvv3
import Derived.Deep.AppendLies
import Derived.Maps.AppendAt
import Derived.Laws.OwnMore
import Derived.OwnWalk

namespace Go.Proofs.YtlppocdhfeejkaaGreatDoor
open Go.RowKit
def oSet : ByteArray := ⟨#[102, 105, 101, 108, 100, 115, 101, 116]⟩
def oLeg : ByteArray := ⟨#[108, 101, 103, 101, 110, 100]⟩
/-- A node's kind by its number. -/
def kI (l : List Nd) (i : Int) : Int := kN (nd l i.toNat)
/-- A fieldset's first legend. -/
def legP (l : List Nd) (set : Int) : Option Int := (nd l set.toNat).kids.find? fun k => decide (nmI l k = oLeg)
def spareP (l : List Nd) (i set : Int) : Bool := match legP l set with
  | none => false
  | some k => decide (k = i) || withinB l i k
def barsB (l : List Nd) (i : Int) (f : Nat) : Bool := decide ((nd l f).name = oSet) && (hasA (nd l f) oDis && (withinB l i (f : Int) && !spareP l i (f : Int)))
def disabledP (l : List Nd) (i : Int) : Bool := hasN l i && ((subB (kI l i) || decide (kI l i = 29)) && (hasA (nd l i.toNat) oDis || (List.range l.length).any (barsB l i)))

end Go.Proofs.YtlppocdhfeejkaaGreatDoor
