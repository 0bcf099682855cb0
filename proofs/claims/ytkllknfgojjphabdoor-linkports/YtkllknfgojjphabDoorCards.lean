/-
  DERIVED. GIVEN WITH THE SEED: THE CARDS: each row of YtkllknfgojjphabDoorRows.lean that lists a variable, with what it lists TIED to the program's text (the seventh form; the later family's looks); each row that meets fmt, with fmt's text TOLD by the authors' own Lean function (tested against real Go, not proved from fmt's source: count such statements apart). THE CARD IS WHAT COUNTS. Prove the row's statement (the work); the ties are given (YtkllknfgojjphabDoorTie.lean); close each card by the builder's one call (the guide's Derived/Test/ToyasCard.lean, 'card_holds'). Laid BY PROGRAM, IN A SANDBOX (cutbox-door.mjs). By AI agents, Wed Nov 11 2026. No macro, syntax, notation, axiom, sorry.
-/
import Derived.Test.YtkllknfgojjphabDoorRows
import GoSem.ClaimSeven
namespace Go.Proofs.YtkllknfgojjphabDoor
namespace Rows

/-- THE TIED CARD OF 'counterfoillaw08.LinkPorts'. -/
def linkPortsCard : Claim7 := { stood := { row := linkPortsRow, standIns := [], harness := (true, "7ebbb38e63ddf55cd3fdf886ace177b07cfdcf215ac0938a1d1533b8878be8ee"), looks := false }, kinds := [], alts := [], laidByText := true, laidKinds := [.data, .pinned], laidTests := true, laidLooks := .later }
def LinkPortsCardSaid : Prop := Claim7.holds Tryd.pinned (.plain (OpenSpec.ofChange linkPortsSpec)) linkPortsCard

/-- THE SECOND FORM's CARD OF 'counterfoillaw08.LinkPorts'. -/
def linkPortsUptoCard : Claim7 := { stood := { row := linkPortsUptoRow, standIns := [], harness := (true, "7ebbb38e63ddf55cd3fdf886ace177b07cfdcf215ac0938a1d1533b8878be8ee"), looks := false }, kinds := [], alts := [], laidByText := true, laidKinds := [.data, .pinned], laidTests := true, laidLooks := .later }
def LinkPortsUptoCardSaid : Prop := Claim7.holds Tryd.pinned (.plain (OpenSpec.upto linkPortsSpec)) linkPortsUptoCard
end Rows
end Go.Proofs.YtkllknfgojjphabDoor
