/-
  DERIVED. GIVEN WITH THE SEED: THE CARDS: each row of YtemikdmkjgmflaaDoorRows.lean that lists a variable, with what it lists TIED to the program's text (the seventh form; the later family's looks); each row that meets fmt, with fmt's text TOLD by the authors' own Lean function (tested against real Go, not proved from fmt's source: count such statements apart). THE CARD IS WHAT COUNTS. Prove the row's statement (the work); the ties are given (YtemikdmkjgmflaaDoorTie.lean); close each card by the builder's one call (the guide's Derived/Test/ToyasCard.lean, 'card_holds'). Laid BY PROGRAM, IN A SANDBOX (cutbox-door.mjs). By AI agents, Wed Nov 11 2026. No macro, syntax, notation, axiom, sorry.
-/
import Derived.Test.YtemikdmkjgmflaaDoorRows
import GoSem.ClaimSeven
namespace Go.Proofs.YtemikdmkjgmflaaDoor
namespace Rows

/-- THE TIED CARD OF 'counterfoillaw15.OptionChooses'. -/
def optionChoosesCard : Claim7 := { stood := { row := optionChoosesRow, standIns := [], harness := (true, "214a8e258a9535b2b10027d7ed42ac736ece4b2401fee5521cb7b64abba1d060"), looks := false }, kinds := [], alts := [], laidByText := true, laidKinds := [.data, .data], laidTests := true, laidLooks := .later }
def OptionChoosesCardSaid : Prop := Claim7.holds Tryd.pinned (.plain (OpenSpec.ofChange optionChoosesSpec)) optionChoosesCard

/-- THE TIED CARD OF 'counterfoillaw15.OptionResets'. -/
def optionResetsCard : Claim7 := { stood := { row := optionResetsRow, standIns := [], harness := (true, "214a8e258a9535b2b10027d7ed42ac736ece4b2401fee5521cb7b64abba1d060"), looks := false }, kinds := [], alts := [], laidByText := true, laidKinds := [.data, .data], laidTests := true, laidLooks := .later }
def OptionResetsCardSaid : Prop := Claim7.holds Tryd.pinned (.plain (OpenSpec.ofChange optionResetsSpec)) optionResetsCard

/-- THE TIED CARD OF 'counterfoillaw15.OptionOne'. -/
def optionOneCard : Claim7 := { stood := { row := optionOneRow, standIns := [], harness := (true, "214a8e258a9535b2b10027d7ed42ac736ece4b2401fee5521cb7b64abba1d060"), looks := false }, kinds := [], alts := [], laidByText := true, laidKinds := [.data, .data], laidTests := true, laidLooks := .later }
def OptionOneCardSaid : Prop := Claim7.holds Tryd.pinned (.plain (OpenSpec.ofChange optionOneSpec)) optionOneCard

/-- THE SECOND FORM's CARD OF 'counterfoillaw15.OptionChooses'. -/
def optionChoosesUptoCard : Claim7 := { stood := { row := optionChoosesUptoRow, standIns := [], harness := (true, "214a8e258a9535b2b10027d7ed42ac736ece4b2401fee5521cb7b64abba1d060"), looks := false }, kinds := [], alts := [], laidByText := true, laidKinds := [.data, .data], laidTests := true, laidLooks := .later }
def OptionChoosesUptoCardSaid : Prop := Claim7.holds Tryd.pinned (.plain (OpenSpec.upto optionChoosesSpec)) optionChoosesUptoCard

/-- THE SECOND FORM's CARD OF 'counterfoillaw15.OptionResets'. -/
def optionResetsUptoCard : Claim7 := { stood := { row := optionResetsUptoRow, standIns := [], harness := (true, "214a8e258a9535b2b10027d7ed42ac736ece4b2401fee5521cb7b64abba1d060"), looks := false }, kinds := [], alts := [], laidByText := true, laidKinds := [.data, .data], laidTests := true, laidLooks := .later }
def OptionResetsUptoCardSaid : Prop := Claim7.holds Tryd.pinned (.plain (OpenSpec.upto optionResetsSpec)) optionResetsUptoCard

/-- THE SECOND FORM's CARD OF 'counterfoillaw15.OptionOne'. -/
def optionOneUptoCard : Claim7 := { stood := { row := optionOneUptoRow, standIns := [], harness := (true, "214a8e258a9535b2b10027d7ed42ac736ece4b2401fee5521cb7b64abba1d060"), looks := false }, kinds := [], alts := [], laidByText := true, laidKinds := [.data, .data], laidTests := true, laidLooks := .later }
def OptionOneUptoCardSaid : Prop := Claim7.holds Tryd.pinned (.plain (OpenSpec.upto optionOneSpec)) optionOneUptoCard
end Rows
end Go.Proofs.YtemikdmkjgmflaaDoor
