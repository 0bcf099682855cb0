/-
  DERIVED. GIVEN WITH THE SEED: THE CARDS: each row of YtdjhbodbmhakgaaGreatDoorRows.lean that lists a variable, with what it lists TIED to the program's text (the seventh form; the later family's looks); each row that meets fmt, with fmt's text TOLD by the authors' own Lean function (tested against real Go, not proved from fmt's source: count such statements apart). THE CARD IS WHAT COUNTS. Prove the row's statement (the work); the ties are given (YtdjhbodbmhakgaaGreatDoorTie.lean); close each card by the builder's one call (the guide's Derived/Test/ToyasCard.lean, 'card_holds'). Laid BY PROGRAM, IN A SANDBOX (cutbox-door.mjs). By AI agents, Wed Nov 11 2026. No macro, syntax, notation, axiom, sorry.
-/
import Derived.Test.YtdjhbodbmhakgaaGreatDoorRows
import GoSem.ClaimSeven
namespace Go.Proofs.YtdjhbodbmhakgaaGreatDoor
namespace Rows

/-- THE TIED CARD OF 'counterfoillaw12.StepValues'. -/
def stepValuesCard : Claim7 := { stood := { row := stepValuesRow, standIns := [], harness := (true, "b5947076fbf35dbed7ef499071fda579bdb1f7283eb220808e6189c93824ad46"), looks := true }, kinds := [], alts := [], laidByText := true, laidKinds := [.data, .data, .data, .data, .sentinel, .sentinel, .data, .data, .pinned], laidTests := true, laidLooks := .later }
def StepValuesCardSaid : Prop := Claim7.holds Tryz.pinned (.plain (OpenSpec.ofChange stepValuesSpec)) stepValuesCard

/-- THE TIED CARD OF 'counterfoillaw12.StepBounds'. -/
def stepBoundsCard : Claim7 := { stood := { row := stepBoundsRow, standIns := [], harness := (true, "b5947076fbf35dbed7ef499071fda579bdb1f7283eb220808e6189c93824ad46"), looks := true }, kinds := [], alts := [], laidByText := true, laidKinds := [.data, .data, .data, .data, .sentinel, .sentinel, .data, .data, .pinned], laidTests := true, laidLooks := .later }
def StepBoundsCardSaid : Prop := Claim7.holds Tryz.pinned (.plain (OpenSpec.ofChange stepBoundsSpec)) stepBoundsCard

/-- THE TIED CARD OF 'counterfoillaw12.StepSteps'. -/
def stepStepsCard : Claim7 := { stood := { row := stepStepsRow, standIns := [], harness := (true, "b5947076fbf35dbed7ef499071fda579bdb1f7283eb220808e6189c93824ad46"), looks := true }, kinds := [], alts := [], laidByText := true, laidKinds := [.data, .data, .data, .data, .sentinel, .sentinel, .data, .data, .pinned], laidTests := true, laidLooks := .later }
def StepStepsCardSaid : Prop := Claim7.holds Tryz.pinned (.plain (OpenSpec.ofChange stepStepsSpec)) stepStepsCard

/-- THE TIED CARD OF 'counterfoillaw12.StepFlags'. -/
def stepFlagsCard : Claim7 := { stood := { row := stepFlagsRow, standIns := [], harness := (true, "b5947076fbf35dbed7ef499071fda579bdb1f7283eb220808e6189c93824ad46"), looks := true }, kinds := [], alts := [], laidByText := true, laidKinds := [.data, .data, .data, .data, .sentinel, .sentinel, .data, .data, .pinned], laidTests := true, laidLooks := .later }
def StepFlagsCardSaid : Prop := Claim7.holds Tryz.pinned (.plain (OpenSpec.ofChange stepFlagsSpec)) stepFlagsCard

/-- THE TIED CARD OF 'counterfoillaw12.StepInside'. -/
def stepInsideCard : Claim7 := { stood := { row := stepInsideRow, standIns := [], harness := (true, "b5947076fbf35dbed7ef499071fda579bdb1f7283eb220808e6189c93824ad46"), looks := true }, kinds := [], alts := [], laidByText := true, laidKinds := [.data, .data, .data, .data, .sentinel, .sentinel, .data, .data, .pinned], laidTests := true, laidLooks := .later }
def StepInsideCardSaid : Prop := Claim7.holds Tryz.pinned (.plain (OpenSpec.ofChange stepInsideSpec)) stepInsideCard

/-- THE SECOND FORM's CARD OF 'counterfoillaw12.StepValues'. -/
def stepValuesUptoCard : Claim7 := { stood := { row := stepValuesUptoRow, standIns := [], harness := (true, "b5947076fbf35dbed7ef499071fda579bdb1f7283eb220808e6189c93824ad46"), looks := true }, kinds := [], alts := [], laidByText := true, laidKinds := [.data, .data, .data, .data, .sentinel, .sentinel, .data, .data, .pinned], laidTests := true, laidLooks := .later }
def StepValuesUptoCardSaid : Prop := Claim7.holds Tryz.pinned (.plain (OpenSpec.upto stepValuesSpec)) stepValuesUptoCard

/-- THE SECOND FORM's CARD OF 'counterfoillaw12.StepBounds'. -/
def stepBoundsUptoCard : Claim7 := { stood := { row := stepBoundsUptoRow, standIns := [], harness := (true, "b5947076fbf35dbed7ef499071fda579bdb1f7283eb220808e6189c93824ad46"), looks := true }, kinds := [], alts := [], laidByText := true, laidKinds := [.data, .data, .data, .data, .sentinel, .sentinel, .data, .data, .pinned], laidTests := true, laidLooks := .later }
def StepBoundsUptoCardSaid : Prop := Claim7.holds Tryz.pinned (.plain (OpenSpec.upto stepBoundsSpec)) stepBoundsUptoCard

/-- THE SECOND FORM's CARD OF 'counterfoillaw12.StepSteps'. -/
def stepStepsUptoCard : Claim7 := { stood := { row := stepStepsUptoRow, standIns := [], harness := (true, "b5947076fbf35dbed7ef499071fda579bdb1f7283eb220808e6189c93824ad46"), looks := true }, kinds := [], alts := [], laidByText := true, laidKinds := [.data, .data, .data, .data, .sentinel, .sentinel, .data, .data, .pinned], laidTests := true, laidLooks := .later }
def StepStepsUptoCardSaid : Prop := Claim7.holds Tryz.pinned (.plain (OpenSpec.upto stepStepsSpec)) stepStepsUptoCard

/-- THE SECOND FORM's CARD OF 'counterfoillaw12.StepFlags'. -/
def stepFlagsUptoCard : Claim7 := { stood := { row := stepFlagsUptoRow, standIns := [], harness := (true, "b5947076fbf35dbed7ef499071fda579bdb1f7283eb220808e6189c93824ad46"), looks := true }, kinds := [], alts := [], laidByText := true, laidKinds := [.data, .data, .data, .data, .sentinel, .sentinel, .data, .data, .pinned], laidTests := true, laidLooks := .later }
def StepFlagsUptoCardSaid : Prop := Claim7.holds Tryz.pinned (.plain (OpenSpec.upto stepFlagsSpec)) stepFlagsUptoCard

/-- THE SECOND FORM's CARD OF 'counterfoillaw12.StepInside'. -/
def stepInsideUptoCard : Claim7 := { stood := { row := stepInsideUptoRow, standIns := [], harness := (true, "b5947076fbf35dbed7ef499071fda579bdb1f7283eb220808e6189c93824ad46"), looks := true }, kinds := [], alts := [], laidByText := true, laidKinds := [.data, .data, .data, .data, .sentinel, .sentinel, .data, .data, .pinned], laidTests := true, laidLooks := .later }
def StepInsideUptoCardSaid : Prop := Claim7.holds Tryz.pinned (.plain (OpenSpec.upto stepInsideSpec)) stepInsideUptoCard
end Rows
end Go.Proofs.YtdjhbodbmhakgaaGreatDoor
