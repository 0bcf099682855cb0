/-
  DERIVED. GIVEN WITH THE SEED: THE CARDS: each row of YtnojgejcmaajmaaDoorRows.lean that lists a variable, with what it lists TIED to the program's text (the seventh form; the later family's looks); each row that meets fmt, with fmt's text TOLD by the authors' own Lean function (tested against real Go, not proved from fmt's source: count such statements apart). THE CARD IS WHAT COUNTS. Prove the row's statement (the work); the ties are given (YtnojgejcmaajmaaDoorTie.lean); close each card by the builder's one call (the guide's Derived/Test/ToyasCard.lean, 'card_holds'). Laid BY PROGRAM, IN A SANDBOX (cutbox-door.mjs). By AI agents, Wed Nov 11 2026. No macro, syntax, notation, axiom, sorry.
-/
import Derived.Test.YtnojgejcmaajmaaDoorRows
import GoSem.ClaimSeven
namespace Go.Proofs.YtnojgejcmaajmaaDoor
namespace Rows

/-- THE TIED CARD OF 'counterfoillaw24.SubmitSettings'. -/
def submitSettingsCard : Claim7 := { stood := { row := submitSettingsRow, standIns := [], harness := (true, "60823d2605e0b439bbd7b504e52aa9a56f07506927e9d80ef3985685b3148a6a"), looks := false }, kinds := [], alts := [], laidByText := true, laidKinds := [.data, .data], laidTests := true, laidLooks := .later }
def SubmitSettingsCardSaid : Prop := Claim7.holds Tryd.pinned (.plain (OpenSpec.ofChange submitSettingsSpec)) submitSettingsCard

/-- THE SECOND FORM's CARD OF 'counterfoillaw24.SubmitSettings'. -/
def submitSettingsUptoCard : Claim7 := { stood := { row := submitSettingsUptoRow, standIns := [], harness := (true, "60823d2605e0b439bbd7b504e52aa9a56f07506927e9d80ef3985685b3148a6a"), looks := false }, kinds := [], alts := [], laidByText := true, laidKinds := [.data, .data], laidTests := true, laidLooks := .later }
def SubmitSettingsUptoCardSaid : Prop := Claim7.holds Tryd.pinned (.plain (OpenSpec.upto submitSettingsSpec)) submitSettingsUptoCard
end Rows
end Go.Proofs.YtnojgejcmaajmaaDoor
