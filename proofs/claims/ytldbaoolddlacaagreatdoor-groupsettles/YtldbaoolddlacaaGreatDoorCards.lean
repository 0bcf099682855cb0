/-
  DERIVED. GIVEN WITH THE SEED: THE CARDS: each row of YtldbaoolddlacaaGreatDoorRows.lean that lists a variable, with what it lists TIED to the program's text (the seventh form; the later family's looks); each row that meets fmt, with fmt's text TOLD by the authors' own Lean function (tested against real Go, not proved from fmt's source: count such statements apart). THE CARD IS WHAT COUNTS. Prove the row's statement (the work); the ties are given (YtldbaoolddlacaaGreatDoorTie.lean); close each card by the builder's one call (the guide's Derived/Test/ToyasCard.lean, 'card_holds'). Laid BY PROGRAM, IN A SANDBOX (cutbox-door.mjs). By AI agents, Wed Nov 11 2026. No macro, syntax, notation, axiom, sorry.
-/
import Derived.Test.YtldbaoolddlacaaGreatDoorRows
import GoSem.ClaimSeven
namespace Go.Proofs.YtldbaoolddlacaaGreatDoor
namespace Rows

/-- THE TIED CARD OF 'counterfoillaw17.GroupSettles'. -/
def groupSettlesCard : Claim7 := { stood := { row := groupSettlesRow, standIns := [], harness := (true, "9c11b5a514d89532e4a6b546340a154cc573800bd6776aa20867cbc9bcf2928f"), looks := false }, kinds := [], alts := [], laidByText := true, laidKinds := [.data, .data], laidTests := true, laidLooks := .later }
def GroupSettlesCardSaid : Prop := Claim7.holds Tryz.pinned (.plain (OpenSpec.ofChange groupSettlesSpec)) groupSettlesCard

/-- THE TIED CARD OF 'counterfoillaw17.GroupKeeps'. -/
def groupKeepsCard : Claim7 := { stood := { row := groupKeepsRow, standIns := [], harness := (true, "9c11b5a514d89532e4a6b546340a154cc573800bd6776aa20867cbc9bcf2928f"), looks := false }, kinds := [], alts := [], laidByText := true, laidKinds := [.data, .data], laidTests := true, laidLooks := .later }
def GroupKeepsCardSaid : Prop := Claim7.holds Tryz.pinned (.plain (OpenSpec.ofChange groupKeepsSpec)) groupKeepsCard

/-- THE SECOND FORM's CARD OF 'counterfoillaw17.GroupSettles'. -/
def groupSettlesUptoCard : Claim7 := { stood := { row := groupSettlesUptoRow, standIns := [], harness := (true, "9c11b5a514d89532e4a6b546340a154cc573800bd6776aa20867cbc9bcf2928f"), looks := false }, kinds := [], alts := [], laidByText := true, laidKinds := [.data, .data], laidTests := true, laidLooks := .later }
def GroupSettlesUptoCardSaid : Prop := Claim7.holds Tryz.pinned (.plain (OpenSpec.upto groupSettlesSpec)) groupSettlesUptoCard

/-- THE SECOND FORM's CARD OF 'counterfoillaw17.GroupKeeps'. -/
def groupKeepsUptoCard : Claim7 := { stood := { row := groupKeepsUptoRow, standIns := [], harness := (true, "9c11b5a514d89532e4a6b546340a154cc573800bd6776aa20867cbc9bcf2928f"), looks := false }, kinds := [], alts := [], laidByText := true, laidKinds := [.data, .data], laidTests := true, laidLooks := .later }
def GroupKeepsUptoCardSaid : Prop := Claim7.holds Tryz.pinned (.plain (OpenSpec.upto groupKeepsSpec)) groupKeepsUptoCard
end Rows
end Go.Proofs.YtldbaoolddlacaaGreatDoor
