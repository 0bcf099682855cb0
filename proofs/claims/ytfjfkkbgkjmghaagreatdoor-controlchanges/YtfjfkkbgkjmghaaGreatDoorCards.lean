/-
  DERIVED. GIVEN WITH THE SEED: THE CARDS: each row of YtfjfkkbgkjmghaaGreatDoorRows.lean that lists a variable, with what it lists TIED to the program's text (the seventh form; the later family's looks); each row that meets fmt, with fmt's text TOLD by the authors' own Lean function (tested against real Go, not proved from fmt's source: count such statements apart). THE CARD IS WHAT COUNTS. Prove the row's statement (the work); the ties are given (YtfjfkkbgkjmghaaGreatDoorTie.lean); close each card by the builder's one call (the guide's Derived/Test/ToyasCard.lean, 'card_holds'). Laid BY PROGRAM, IN A SANDBOX (cutbox-door.mjs). By AI agents, Wed Nov 11 2026. No macro, syntax, notation, axiom, sorry.
-/
import Derived.Test.YtfjfkkbgkjmghaaGreatDoorRows
import GoSem.ClaimSeven
namespace Go.Proofs.YtfjfkkbgkjmghaaGreatDoor
namespace Rows

/-- THE TIED CARD OF 'counterfoillaw14.ControlStarts'. -/
def controlStartsCard : Claim7 := { stood := { row := controlStartsRow, standIns := [], harness := (true, "6abfc1118509d7c9f3e16d76fb274a131a68a7f5d6cc462d8bf4893788ea3ea2"), looks := true }, kinds := [], alts := [], laidByText := true, laidKinds := [.data, .data, .data, .data, .sentinel, .sentinel, .data, .data, .pinned], laidTests := true, laidLooks := .later }
def ControlStartsCardSaid : Prop := Claim7.holds Tryz.pinned (.plain (OpenSpec.ofChange controlStartsSpec)) controlStartsCard

/-- THE TIED CARD OF 'counterfoillaw14.ControlWrites'. -/
def controlWritesCard : Claim7 := { stood := { row := controlWritesRow, standIns := [], harness := (true, "6abfc1118509d7c9f3e16d76fb274a131a68a7f5d6cc462d8bf4893788ea3ea2"), looks := true }, kinds := [], alts := [], laidByText := true, laidKinds := [.data, .data, .data, .data, .sentinel, .sentinel, .data, .data, .pinned], laidTests := true, laidLooks := .later }
def ControlWritesCardSaid : Prop := Claim7.holds Tryz.pinned (.plain (OpenSpec.ofChange controlWritesSpec)) controlWritesCard

/-- THE TIED CARD OF 'counterfoillaw14.ControlTypes'. -/
def controlTypesCard : Claim7 := { stood := { row := controlTypesRow, standIns := [], harness := (true, "6abfc1118509d7c9f3e16d76fb274a131a68a7f5d6cc462d8bf4893788ea3ea2"), looks := true }, kinds := [], alts := [], laidByText := true, laidKinds := [.data, .data, .data, .data, .sentinel, .sentinel, .data, .data, .pinned], laidTests := true, laidLooks := .later }
def ControlTypesCardSaid : Prop := Claim7.holds Tryz.pinned (.plain (OpenSpec.ofChange controlTypesSpec)) controlTypesCard

/-- THE TIED CARD OF 'counterfoillaw14.ControlChanges'. -/
def controlChangesCard : Claim7 := { stood := { row := controlChangesRow, standIns := [], harness := (true, "6abfc1118509d7c9f3e16d76fb274a131a68a7f5d6cc462d8bf4893788ea3ea2"), looks := true }, kinds := [], alts := [], laidByText := true, laidKinds := [.data, .data, .data, .data, .sentinel, .sentinel, .data, .data, .pinned], laidTests := true, laidLooks := .later }
def ControlChangesCardSaid : Prop := Claim7.holds Tryz.pinned (.plain (OpenSpec.ofChange controlChangesSpec)) controlChangesCard

/-- THE TIED CARD OF 'counterfoillaw14.ControlResets'. -/
def controlResetsCard : Claim7 := { stood := { row := controlResetsRow, standIns := [], harness := (true, "6abfc1118509d7c9f3e16d76fb274a131a68a7f5d6cc462d8bf4893788ea3ea2"), looks := true }, kinds := [], alts := [], laidByText := true, laidKinds := [.data, .data, .data, .data, .sentinel, .sentinel, .data, .data, .pinned], laidTests := true, laidLooks := .later }
def ControlResetsCardSaid : Prop := Claim7.holds Tryz.pinned (.plain (OpenSpec.ofChange controlResetsSpec)) controlResetsCard

/-- THE TIED CARD OF 'counterfoillaw14.ControlClean'. -/
def controlCleanCard : Claim7 := { stood := { row := controlCleanRow, standIns := [], harness := (true, "6abfc1118509d7c9f3e16d76fb274a131a68a7f5d6cc462d8bf4893788ea3ea2"), looks := true }, kinds := [], alts := [], laidByText := true, laidKinds := [.data, .data, .data, .data, .sentinel, .sentinel, .data, .data, .pinned], laidTests := true, laidLooks := .later }
def ControlCleanCardSaid : Prop := Claim7.holds Tryz.pinned (.plain (OpenSpec.ofChange controlCleanSpec)) controlCleanCard

/-- THE SECOND FORM's CARD OF 'counterfoillaw14.ControlStarts'. -/
def controlStartsUptoCard : Claim7 := { stood := { row := controlStartsUptoRow, standIns := [], harness := (true, "6abfc1118509d7c9f3e16d76fb274a131a68a7f5d6cc462d8bf4893788ea3ea2"), looks := true }, kinds := [], alts := [], laidByText := true, laidKinds := [.data, .data, .data, .data, .sentinel, .sentinel, .data, .data, .pinned], laidTests := true, laidLooks := .later }
def ControlStartsUptoCardSaid : Prop := Claim7.holds Tryz.pinned (.plain (OpenSpec.upto controlStartsSpec)) controlStartsUptoCard

/-- THE SECOND FORM's CARD OF 'counterfoillaw14.ControlWrites'. -/
def controlWritesUptoCard : Claim7 := { stood := { row := controlWritesUptoRow, standIns := [], harness := (true, "6abfc1118509d7c9f3e16d76fb274a131a68a7f5d6cc462d8bf4893788ea3ea2"), looks := true }, kinds := [], alts := [], laidByText := true, laidKinds := [.data, .data, .data, .data, .sentinel, .sentinel, .data, .data, .pinned], laidTests := true, laidLooks := .later }
def ControlWritesUptoCardSaid : Prop := Claim7.holds Tryz.pinned (.plain (OpenSpec.upto controlWritesSpec)) controlWritesUptoCard

/-- THE SECOND FORM's CARD OF 'counterfoillaw14.ControlTypes'. -/
def controlTypesUptoCard : Claim7 := { stood := { row := controlTypesUptoRow, standIns := [], harness := (true, "6abfc1118509d7c9f3e16d76fb274a131a68a7f5d6cc462d8bf4893788ea3ea2"), looks := true }, kinds := [], alts := [], laidByText := true, laidKinds := [.data, .data, .data, .data, .sentinel, .sentinel, .data, .data, .pinned], laidTests := true, laidLooks := .later }
def ControlTypesUptoCardSaid : Prop := Claim7.holds Tryz.pinned (.plain (OpenSpec.upto controlTypesSpec)) controlTypesUptoCard

/-- THE SECOND FORM's CARD OF 'counterfoillaw14.ControlChanges'. -/
def controlChangesUptoCard : Claim7 := { stood := { row := controlChangesUptoRow, standIns := [], harness := (true, "6abfc1118509d7c9f3e16d76fb274a131a68a7f5d6cc462d8bf4893788ea3ea2"), looks := true }, kinds := [], alts := [], laidByText := true, laidKinds := [.data, .data, .data, .data, .sentinel, .sentinel, .data, .data, .pinned], laidTests := true, laidLooks := .later }
def ControlChangesUptoCardSaid : Prop := Claim7.holds Tryz.pinned (.plain (OpenSpec.upto controlChangesSpec)) controlChangesUptoCard

/-- THE SECOND FORM's CARD OF 'counterfoillaw14.ControlResets'. -/
def controlResetsUptoCard : Claim7 := { stood := { row := controlResetsUptoRow, standIns := [], harness := (true, "6abfc1118509d7c9f3e16d76fb274a131a68a7f5d6cc462d8bf4893788ea3ea2"), looks := true }, kinds := [], alts := [], laidByText := true, laidKinds := [.data, .data, .data, .data, .sentinel, .sentinel, .data, .data, .pinned], laidTests := true, laidLooks := .later }
def ControlResetsUptoCardSaid : Prop := Claim7.holds Tryz.pinned (.plain (OpenSpec.upto controlResetsSpec)) controlResetsUptoCard

/-- THE SECOND FORM's CARD OF 'counterfoillaw14.ControlClean'. -/
def controlCleanUptoCard : Claim7 := { stood := { row := controlCleanUptoRow, standIns := [], harness := (true, "6abfc1118509d7c9f3e16d76fb274a131a68a7f5d6cc462d8bf4893788ea3ea2"), looks := true }, kinds := [], alts := [], laidByText := true, laidKinds := [.data, .data, .data, .data, .sentinel, .sentinel, .data, .data, .pinned], laidTests := true, laidLooks := .later }
def ControlCleanUptoCardSaid : Prop := Claim7.holds Tryz.pinned (.plain (OpenSpec.upto controlCleanSpec)) controlCleanUptoCard
end Rows
end Go.Proofs.YtfjfkkbgkjmghaaGreatDoor
