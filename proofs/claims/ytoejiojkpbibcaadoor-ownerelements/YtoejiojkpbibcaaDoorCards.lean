/-
  DERIVED. GIVEN WITH THE SEED: THE CARDS: each row of YtoejiojkpbibcaaDoorRows.lean that lists a variable, with what it lists TIED to the program's text (the seventh form; the later family's looks); each row that meets fmt, with fmt's text TOLD by the authors' own Lean function (tested against real Go, not proved from fmt's source: count such statements apart). THE CARD IS WHAT COUNTS. Prove the row's statement (the work); the ties are given (YtoejiojkpbibcaaDoorTie.lean); close each card by the builder's one call (the guide's Derived/Test/ToyasCard.lean, 'card_holds'). Laid BY PROGRAM, IN A SANDBOX (cutbox-door.mjs). By AI agents, Wed Nov 11 2026. No macro, syntax, notation, axiom, sorry.
-/
import Derived.Test.YtoejiojkpbibcaaDoorRows
import GoSem.ClaimSeven
namespace Go.Proofs.YtoejiojkpbibcaaDoor
namespace Rows

/-- THE TIED CARD OF 'counterfoillaw16.OwnerForm'. -/
def ownerFormCard : Claim7 := { stood := { row := ownerFormRow, standIns := [], harness := (true, "6195c3fa7d9b0d420bdba822a6dbc2de7c0ef343f6d7175b1a870ff4410db405"), looks := false }, kinds := [], alts := [], laidByText := true, laidKinds := [.data, .data], laidTests := true, laidLooks := .later }
def OwnerFormCardSaid : Prop := Claim7.holds Tryd.pinned (.plain (OpenSpec.ofChange ownerFormSpec)) ownerFormCard

/-- THE TIED CARD OF 'counterfoillaw16.OwnerElements'. -/
def ownerElementsCard : Claim7 := { stood := { row := ownerElementsRow, standIns := [], harness := (true, "6195c3fa7d9b0d420bdba822a6dbc2de7c0ef343f6d7175b1a870ff4410db405"), looks := false }, kinds := [], alts := [], laidByText := true, laidKinds := [.data, .data], laidTests := true, laidLooks := .later }
def OwnerElementsCardSaid : Prop := Claim7.holds Tryd.pinned (.plain (OpenSpec.ofChange ownerElementsSpec)) ownerElementsCard

/-- THE TIED CARD OF 'counterfoillaw16.OwnerLabels'. -/
def ownerLabelsCard : Claim7 := { stood := { row := ownerLabelsRow, standIns := [], harness := (true, "6195c3fa7d9b0d420bdba822a6dbc2de7c0ef343f6d7175b1a870ff4410db405"), looks := false }, kinds := [], alts := [], laidByText := true, laidKinds := [.data, .data], laidTests := true, laidLooks := .later }
def OwnerLabelsCardSaid : Prop := Claim7.holds Tryd.pinned (.plain (OpenSpec.ofChange ownerLabelsSpec)) ownerLabelsCard

/-- THE TIED CARD OF 'counterfoillaw16.OwnerDisabled'. -/
def ownerDisabledCard : Claim7 := { stood := { row := ownerDisabledRow, standIns := [], harness := (true, "6195c3fa7d9b0d420bdba822a6dbc2de7c0ef343f6d7175b1a870ff4410db405"), looks := false }, kinds := [], alts := [], laidByText := true, laidKinds := [.data, .data], laidTests := true, laidLooks := .later }
def OwnerDisabledCardSaid : Prop := Claim7.holds Tryd.pinned (.plain (OpenSpec.ofChange ownerDisabledSpec)) ownerDisabledCard

/-- THE TIED CARD OF 'counterfoillaw16.OwnerOnce'. -/
def ownerOnceCard : Claim7 := { stood := { row := ownerOnceRow, standIns := [], harness := (true, "6195c3fa7d9b0d420bdba822a6dbc2de7c0ef343f6d7175b1a870ff4410db405"), looks := false }, kinds := [], alts := [], laidByText := true, laidKinds := [.data, .data], laidTests := true, laidLooks := .later }
def OwnerOnceCardSaid : Prop := Claim7.holds Tryd.pinned (.plain (OpenSpec.ofChange ownerOnceSpec)) ownerOnceCard

/-- THE SECOND FORM's CARD OF 'counterfoillaw16.OwnerForm'. -/
def ownerFormUptoCard : Claim7 := { stood := { row := ownerFormUptoRow, standIns := [], harness := (true, "6195c3fa7d9b0d420bdba822a6dbc2de7c0ef343f6d7175b1a870ff4410db405"), looks := false }, kinds := [], alts := [], laidByText := true, laidKinds := [.data, .data], laidTests := true, laidLooks := .later }
def OwnerFormUptoCardSaid : Prop := Claim7.holds Tryd.pinned (.plain (OpenSpec.upto ownerFormSpec)) ownerFormUptoCard

/-- THE SECOND FORM's CARD OF 'counterfoillaw16.OwnerElements'. -/
def ownerElementsUptoCard : Claim7 := { stood := { row := ownerElementsUptoRow, standIns := [], harness := (true, "6195c3fa7d9b0d420bdba822a6dbc2de7c0ef343f6d7175b1a870ff4410db405"), looks := false }, kinds := [], alts := [], laidByText := true, laidKinds := [.data, .data], laidTests := true, laidLooks := .later }
def OwnerElementsUptoCardSaid : Prop := Claim7.holds Tryd.pinned (.plain (OpenSpec.upto ownerElementsSpec)) ownerElementsUptoCard

/-- THE SECOND FORM's CARD OF 'counterfoillaw16.OwnerLabels'. -/
def ownerLabelsUptoCard : Claim7 := { stood := { row := ownerLabelsUptoRow, standIns := [], harness := (true, "6195c3fa7d9b0d420bdba822a6dbc2de7c0ef343f6d7175b1a870ff4410db405"), looks := false }, kinds := [], alts := [], laidByText := true, laidKinds := [.data, .data], laidTests := true, laidLooks := .later }
def OwnerLabelsUptoCardSaid : Prop := Claim7.holds Tryd.pinned (.plain (OpenSpec.upto ownerLabelsSpec)) ownerLabelsUptoCard

/-- THE SECOND FORM's CARD OF 'counterfoillaw16.OwnerDisabled'. -/
def ownerDisabledUptoCard : Claim7 := { stood := { row := ownerDisabledUptoRow, standIns := [], harness := (true, "6195c3fa7d9b0d420bdba822a6dbc2de7c0ef343f6d7175b1a870ff4410db405"), looks := false }, kinds := [], alts := [], laidByText := true, laidKinds := [.data, .data], laidTests := true, laidLooks := .later }
def OwnerDisabledUptoCardSaid : Prop := Claim7.holds Tryd.pinned (.plain (OpenSpec.upto ownerDisabledSpec)) ownerDisabledUptoCard

/-- THE SECOND FORM's CARD OF 'counterfoillaw16.OwnerOnce'. -/
def ownerOnceUptoCard : Claim7 := { stood := { row := ownerOnceUptoRow, standIns := [], harness := (true, "6195c3fa7d9b0d420bdba822a6dbc2de7c0ef343f6d7175b1a870ff4410db405"), looks := false }, kinds := [], alts := [], laidByText := true, laidKinds := [.data, .data], laidTests := true, laidLooks := .later }
def OwnerOnceUptoCardSaid : Prop := Claim7.holds Tryd.pinned (.plain (OpenSpec.upto ownerOnceSpec)) ownerOnceUptoCard
end Rows
end Go.Proofs.YtoejiojkpbibcaaDoor
