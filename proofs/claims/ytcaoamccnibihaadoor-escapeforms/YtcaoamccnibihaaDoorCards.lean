/-
  DERIVED. GIVEN WITH THE SEED: THE CARDS: each row of YtcaoamccnibihaaDoorRows.lean that lists a variable, with what it lists TIED to the program's text (the seventh form; the later family's looks); each row that meets fmt, with fmt's text TOLD by the authors' own Lean function (tested against real Go, not proved from fmt's source: count such statements apart). THE CARD IS WHAT COUNTS. Prove the row's statement (the work); the ties are given (YtcaoamccnibihaaDoorTie.lean); close each card by the builder's one call (the guide's Derived/Test/ToyasCard.lean, 'card_holds'). Laid BY PROGRAM, IN A SANDBOX (cutbox-door.mjs). By AI agents, Wed Nov 11 2026. No macro, syntax, notation, axiom, sorry.
-/
import Derived.Test.YtcaoamccnibihaaDoorRows
import GoSem.ClaimSeven
namespace Go.Proofs.YtcaoamccnibihaaDoor
namespace Rows

/-- THE TIED CARD OF 'counterfoillaw02.EscapeSets'. -/
def escapeSetsCard : Claim7 := { stood := { row := escapeSetsRow, standIns := [], harness := (true, "62e166001a4dbf42ea612a4b86c1c23d632900e804c16e55848f818be9d2646a"), looks := false }, kinds := [], alts := [], laidByText := true, laidKinds := [.data], laidTests := true, laidLooks := .later }
def EscapeSetsCardSaid : Prop := Claim7.holds Tryd.pinned (.plain (OpenSpec.ofChange escapeSetsSpec)) escapeSetsCard

/-- THE TIED CARD OF 'counterfoillaw02.EscapeEncodes'. -/
def escapeEncodesCard : Claim7 := { stood := { row := escapeEncodesRow, standIns := [], harness := (true, "62e166001a4dbf42ea612a4b86c1c23d632900e804c16e55848f818be9d2646a"), looks := false }, kinds := [], alts := [], laidByText := true, laidKinds := [.data, .data], laidTests := true, laidLooks := .later }
def EscapeEncodesCardSaid : Prop := Claim7.holds Tryd.pinned (.plain (OpenSpec.ofChange escapeEncodesSpec)) escapeEncodesCard

/-- THE TIED CARD OF 'counterfoillaw02.EscapeDecodes'. -/
def escapeDecodesCard : Claim7 := { stood := { row := escapeDecodesRow, standIns := [], harness := (true, "62e166001a4dbf42ea612a4b86c1c23d632900e804c16e55848f818be9d2646a"), looks := false }, kinds := [], alts := [], laidByText := true, laidKinds := [.data], laidTests := true, laidLooks := .later }
def EscapeDecodesCardSaid : Prop := Claim7.holds Tryd.pinned (.plain (OpenSpec.ofChange escapeDecodesSpec)) escapeDecodesCard

/-- THE TIED CARD OF 'counterfoillaw02.EscapeBack'. -/
def escapeBackCard : Claim7 := { stood := { row := escapeBackRow, standIns := [], harness := (true, "62e166001a4dbf42ea612a4b86c1c23d632900e804c16e55848f818be9d2646a"), looks := false }, kinds := [], alts := [], laidByText := true, laidKinds := [.data, .data], laidTests := true, laidLooks := .later }
def EscapeBackCardSaid : Prop := Claim7.holds Tryd.pinned (.plain (OpenSpec.ofChange escapeBackSpec)) escapeBackCard

/-- THE TIED CARD OF 'counterfoillaw02.EscapeForms'. -/
def escapeFormsCard : Claim7 := { stood := { row := escapeFormsRow, standIns := [], harness := (true, "62e166001a4dbf42ea612a4b86c1c23d632900e804c16e55848f818be9d2646a"), looks := false }, kinds := [], alts := [], laidByText := true, laidKinds := [.data, .data, .data, .pinned], laidTests := true, laidLooks := .later }
def EscapeFormsCardSaid : Prop := Claim7.holds Tryd.pinned (.plain (OpenSpec.ofChange escapeFormsSpec)) escapeFormsCard

/-- THE TIED CARD OF 'counterfoillaw02.EscapeJoins'. -/
def escapeJoinsCard : Claim7 := { stood := { row := escapeJoinsRow, standIns := [], harness := (true, "62e166001a4dbf42ea612a4b86c1c23d632900e804c16e55848f818be9d2646a"), looks := false }, kinds := [], alts := [], laidByText := true, laidKinds := [.data, .data, .data, .pinned], laidTests := true, laidLooks := .later }
def EscapeJoinsCardSaid : Prop := Claim7.holds Tryd.pinned (.plain (OpenSpec.ofChange escapeJoinsSpec)) escapeJoinsCard

/-- THE SECOND FORM's CARD OF 'counterfoillaw02.EscapeSets'. -/
def escapeSetsUptoCard : Claim7 := { stood := { row := escapeSetsUptoRow, standIns := [], harness := (true, "62e166001a4dbf42ea612a4b86c1c23d632900e804c16e55848f818be9d2646a"), looks := false }, kinds := [], alts := [], laidByText := true, laidKinds := [.data], laidTests := true, laidLooks := .later }
def EscapeSetsUptoCardSaid : Prop := Claim7.holds Tryd.pinned (.plain (OpenSpec.upto escapeSetsSpec)) escapeSetsUptoCard

/-- THE SECOND FORM's CARD OF 'counterfoillaw02.EscapeEncodes'. -/
def escapeEncodesUptoCard : Claim7 := { stood := { row := escapeEncodesUptoRow, standIns := [], harness := (true, "62e166001a4dbf42ea612a4b86c1c23d632900e804c16e55848f818be9d2646a"), looks := false }, kinds := [], alts := [], laidByText := true, laidKinds := [.data, .data], laidTests := true, laidLooks := .later }
def EscapeEncodesUptoCardSaid : Prop := Claim7.holds Tryd.pinned (.plain (OpenSpec.upto escapeEncodesSpec)) escapeEncodesUptoCard

/-- THE SECOND FORM's CARD OF 'counterfoillaw02.EscapeDecodes'. -/
def escapeDecodesUptoCard : Claim7 := { stood := { row := escapeDecodesUptoRow, standIns := [], harness := (true, "62e166001a4dbf42ea612a4b86c1c23d632900e804c16e55848f818be9d2646a"), looks := false }, kinds := [], alts := [], laidByText := true, laidKinds := [.data], laidTests := true, laidLooks := .later }
def EscapeDecodesUptoCardSaid : Prop := Claim7.holds Tryd.pinned (.plain (OpenSpec.upto escapeDecodesSpec)) escapeDecodesUptoCard

/-- THE SECOND FORM's CARD OF 'counterfoillaw02.EscapeBack'. -/
def escapeBackUptoCard : Claim7 := { stood := { row := escapeBackUptoRow, standIns := [], harness := (true, "62e166001a4dbf42ea612a4b86c1c23d632900e804c16e55848f818be9d2646a"), looks := false }, kinds := [], alts := [], laidByText := true, laidKinds := [.data, .data], laidTests := true, laidLooks := .later }
def EscapeBackUptoCardSaid : Prop := Claim7.holds Tryd.pinned (.plain (OpenSpec.upto escapeBackSpec)) escapeBackUptoCard

/-- THE SECOND FORM's CARD OF 'counterfoillaw02.EscapeForms'. -/
def escapeFormsUptoCard : Claim7 := { stood := { row := escapeFormsUptoRow, standIns := [], harness := (true, "62e166001a4dbf42ea612a4b86c1c23d632900e804c16e55848f818be9d2646a"), looks := false }, kinds := [], alts := [], laidByText := true, laidKinds := [.data, .data, .data, .pinned], laidTests := true, laidLooks := .later }
def EscapeFormsUptoCardSaid : Prop := Claim7.holds Tryd.pinned (.plain (OpenSpec.upto escapeFormsSpec)) escapeFormsUptoCard

/-- THE SECOND FORM's CARD OF 'counterfoillaw02.EscapeJoins'. -/
def escapeJoinsUptoCard : Claim7 := { stood := { row := escapeJoinsUptoRow, standIns := [], harness := (true, "62e166001a4dbf42ea612a4b86c1c23d632900e804c16e55848f818be9d2646a"), looks := false }, kinds := [], alts := [], laidByText := true, laidKinds := [.data, .data, .data, .pinned], laidTests := true, laidLooks := .later }
def EscapeJoinsUptoCardSaid : Prop := Claim7.holds Tryd.pinned (.plain (OpenSpec.upto escapeJoinsSpec)) escapeJoinsUptoCard
end Rows
end Go.Proofs.YtcaoamccnibihaaDoor
