/-
  DERIVED. GIVEN WITH THE SEED: THE CARDS: each row of YtdbabciafifnaaaGreatDoorRows.lean that lists a variable, with what it lists TIED to the program's text (the seventh form; the later family's looks); each row that meets fmt, with fmt's text TOLD by the authors' own Lean function (tested against real Go, not proved from fmt's source: count such statements apart). THE CARD IS WHAT COUNTS. Prove the row's statement (the work); the ties are given (YtdbabciafifnaaaGreatDoorTie.lean); close each card by the builder's one call (the guide's Derived/Test/ToyasCard.lean, 'card_holds'). Laid BY PROGRAM, IN A SANDBOX (cutbox-door.mjs). By AI agents, Wed Nov 11 2026. No macro, syntax, notation, axiom, sorry.
-/
import Derived.Test.YtdbabciafifnaaaGreatDoorRows
import GoSem.ClaimSeven
namespace Go.Proofs.YtdbabciafifnaaaGreatDoor
namespace Rows

/-- THE TIED CARD OF 'counterfoillaw18.ValidBars'. -/
def validBarsCard : Claim7 := { stood := { row := validBarsRow, standIns := [], harness := (true, "6d984550bd6a32fc11fd772ef7979cd706688dd6cad57199c0ff1f91a925228b"), looks := true }, kinds := [], alts := [], laidByText := true, laidKinds := [.data, .data, .data, .data, .sentinel, .sentinel, .data, .data, .data, .data, .pinned], laidTests := true, laidLooks := .later }
def ValidBarsCardSaid : Prop := Claim7.holds Tryz.pinned (.plain (OpenSpec.ofChange validBarsSpec)) validBarsCard

/-- THE SECOND FORM's CARD OF 'counterfoillaw18.ValidBars'. -/
def validBarsUptoCard : Claim7 := { stood := { row := validBarsUptoRow, standIns := [], harness := (true, "6d984550bd6a32fc11fd772ef7979cd706688dd6cad57199c0ff1f91a925228b"), looks := true }, kinds := [], alts := [], laidByText := true, laidKinds := [.data, .data, .data, .data, .sentinel, .sentinel, .data, .data, .data, .data, .pinned], laidTests := true, laidLooks := .later }
def ValidBarsUptoCardSaid : Prop := Claim7.holds Tryz.pinned (.plain (OpenSpec.upto validBarsSpec)) validBarsUptoCard
end Rows
end Go.Proofs.YtdbabciafifnaaaGreatDoor
