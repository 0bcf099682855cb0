/-
  DERIVED. GIVEN WITH THE SEED: THE CARDS: each row of YtlppocdhfeejkaaGreatDoorRows.lean that lists a variable, with what it lists TIED to the program's text (the seventh form; the later family's looks); each row that meets fmt, with fmt's text TOLD by the authors' own Lean function (tested against real Go, not proved from fmt's source: count such statements apart). THE CARD IS WHAT COUNTS. Prove the row's statement (the work); the ties are given (YtlppocdhfeejkaaGreatDoorTie.lean); close each card by the builder's one call (the guide's Derived/Test/ToyasCard.lean, 'card_holds'). Laid BY PROGRAM, IN A SANDBOX (cutbox-door.mjs). By AI agents, Wed Nov 11 2026. No macro, syntax, notation, axiom, sorry.
-/
import Derived.Test.YtlppocdhfeejkaaGreatDoorRows
import GoSem.ClaimSeven
namespace Go.Proofs.YtlppocdhfeejkaaGreatDoor
namespace Rows

/-- THE TIED CARD OF 'counterfoillaw18.ValidValues'. -/
def validValuesCard : Claim7 := { stood := { row := validValuesRow, standIns := [], harness := (true, "de4ea832ae193b5497e8a42a358c249b2274440176dd08f44d4f569ab0e21abd"), looks := true }, kinds := [], alts := [], laidByText := true, laidKinds := [.data, .data, .data, .data, .sentinel, .sentinel, .data, .data, .data, .data, .pinned], laidTests := true, laidLooks := .later }
def ValidValuesCardSaid : Prop := Claim7.holds Tryz.pinned (.plain (OpenSpec.ofChange validValuesSpec)) validValuesCard

/-- THE SECOND FORM's CARD OF 'counterfoillaw18.ValidValues'. -/
def validValuesUptoCard : Claim7 := { stood := { row := validValuesUptoRow, standIns := [], harness := (true, "de4ea832ae193b5497e8a42a358c249b2274440176dd08f44d4f569ab0e21abd"), looks := true }, kinds := [], alts := [], laidByText := true, laidKinds := [.data, .data, .data, .data, .sentinel, .sentinel, .data, .data, .data, .data, .pinned], laidTests := true, laidLooks := .later }
def ValidValuesUptoCardSaid : Prop := Claim7.holds Tryz.pinned (.plain (OpenSpec.upto validValuesSpec)) validValuesUptoCard
end Rows
end Go.Proofs.YtlppocdhfeejkaaGreatDoor
