/-
  DERIVED. GIVEN WITH THE SEED: THE CARDS: each row of YtemikdmkjgmflaaGreatDoorRows.lean that lists a variable, with what it lists TIED to the program's text (the seventh form; the later family's looks); each row that meets fmt, with fmt's text TOLD by the authors' own Lean function (tested against real Go, not proved from fmt's source: count such statements apart). THE CARD IS WHAT COUNTS. Prove the row's statement (the work); the ties are given (YtemikdmkjgmflaaGreatDoorTie.lean); close each card by the builder's one call (the guide's Derived/Test/ToyasCard.lean, 'card_holds'). Laid BY PROGRAM, IN A SANDBOX (cutbox-door.mjs). By AI agents, Wed Nov 11 2026. No macro, syntax, notation, axiom, sorry.
-/
import Derived.Test.YtemikdmkjgmflaaGreatDoorRows
import GoSem.ClaimSeven
namespace Go.Proofs.YtemikdmkjgmflaaGreatDoor
namespace Rows

/-- THE TIED CARD OF 'counterfoillaw15.OptionLists'. -/
def optionListsCard : Claim7 := { stood := { row := optionListsRow, standIns := [], harness := (true, "69c309f2c72e2f269f8e6ad2cffc4e0b59c5079b9b0458b3c1aa5ce54911ee51"), looks := false }, kinds := [], alts := [], laidByText := true, laidKinds := [.data, .data, .data, .pinned], laidTests := true, laidLooks := .later }
def OptionListsCardSaid : Prop := Claim7.holds Tryz.pinned (.plain (OpenSpec.ofChange optionListsSpec)) optionListsCard

/-- THE TIED CARD OF 'counterfoillaw15.OptionFixes'. -/
def optionFixesCard : Claim7 := { stood := { row := optionFixesRow, standIns := [], harness := (true, "69c309f2c72e2f269f8e6ad2cffc4e0b59c5079b9b0458b3c1aa5ce54911ee51"), looks := false }, kinds := [], alts := [], laidByText := true, laidKinds := [.data, .data, .data, .pinned], laidTests := true, laidLooks := .later }
def OptionFixesCardSaid : Prop := Claim7.holds Tryz.pinned (.plain (OpenSpec.ofChange optionFixesSpec)) optionFixesCard

/-- THE TIED CARD OF 'counterfoillaw15.OptionWrites'. -/
def optionWritesCard : Claim7 := { stood := { row := optionWritesRow, standIns := [], harness := (true, "69c309f2c72e2f269f8e6ad2cffc4e0b59c5079b9b0458b3c1aa5ce54911ee51"), looks := false }, kinds := [], alts := [], laidByText := true, laidKinds := [.data, .data, .data, .pinned], laidTests := true, laidLooks := .later }
def OptionWritesCardSaid : Prop := Claim7.holds Tryz.pinned (.plain (OpenSpec.ofChange optionWritesSpec)) optionWritesCard

/-- THE SECOND FORM's CARD OF 'counterfoillaw15.OptionLists'. -/
def optionListsUptoCard : Claim7 := { stood := { row := optionListsUptoRow, standIns := [], harness := (true, "69c309f2c72e2f269f8e6ad2cffc4e0b59c5079b9b0458b3c1aa5ce54911ee51"), looks := false }, kinds := [], alts := [], laidByText := true, laidKinds := [.data, .data, .data, .pinned], laidTests := true, laidLooks := .later }
def OptionListsUptoCardSaid : Prop := Claim7.holds Tryz.pinned (.plain (OpenSpec.upto optionListsSpec)) optionListsUptoCard

/-- THE SECOND FORM's CARD OF 'counterfoillaw15.OptionFixes'. -/
def optionFixesUptoCard : Claim7 := { stood := { row := optionFixesUptoRow, standIns := [], harness := (true, "69c309f2c72e2f269f8e6ad2cffc4e0b59c5079b9b0458b3c1aa5ce54911ee51"), looks := false }, kinds := [], alts := [], laidByText := true, laidKinds := [.data, .data, .data, .pinned], laidTests := true, laidLooks := .later }
def OptionFixesUptoCardSaid : Prop := Claim7.holds Tryz.pinned (.plain (OpenSpec.upto optionFixesSpec)) optionFixesUptoCard

/-- THE SECOND FORM's CARD OF 'counterfoillaw15.OptionWrites'. -/
def optionWritesUptoCard : Claim7 := { stood := { row := optionWritesUptoRow, standIns := [], harness := (true, "69c309f2c72e2f269f8e6ad2cffc4e0b59c5079b9b0458b3c1aa5ce54911ee51"), looks := false }, kinds := [], alts := [], laidByText := true, laidKinds := [.data, .data, .data, .pinned], laidTests := true, laidLooks := .later }
def OptionWritesUptoCardSaid : Prop := Claim7.holds Tryz.pinned (.plain (OpenSpec.upto optionWritesSpec)) optionWritesUptoCard
end Rows
end Go.Proofs.YtemikdmkjgmflaaGreatDoor
