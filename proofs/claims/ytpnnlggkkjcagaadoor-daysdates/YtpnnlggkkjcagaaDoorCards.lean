/-
  DERIVED. GIVEN WITH THE SEED: THE CARDS: each row of YtpnnlggkkjcagaaDoorRows.lean that lists a variable, with what it lists TIED to the program's text (the seventh form; the later family's looks); each row that meets fmt, with fmt's text TOLD by the authors' own Lean function (tested against real Go, not proved from fmt's source: count such statements apart). THE CARD IS WHAT COUNTS. Prove the row's statement (the work); the ties are given (YtpnnlggkkjcagaaDoorTie.lean); close each card by the builder's one call (the guide's Derived/Test/ToyasCard.lean, 'card_holds'). Laid BY PROGRAM, IN A SANDBOX (cutbox-door.mjs). By AI agents, Wed Nov 11 2026. No macro, syntax, notation, axiom, sorry.
-/
import Derived.Test.YtpnnlggkkjcagaaDoorRows
import GoSem.ClaimSeven
namespace Go.Proofs.YtpnnlggkkjcagaaDoor
namespace Rows

/-- THE TIED CARD OF 'counterfoillaw04.DaysLengths'. -/
def daysLengthsCard : Claim7 := { stood := { row := daysLengthsRow, standIns := [], harness := (true, "88f9e6919057fbe062222414fc007dab718e0d4f30bc138ac5515ab3031e6234"), looks := false }, kinds := [], alts := [], laidByText := true, laidKinds := [.data], laidTests := true, laidLooks := .later }
def DaysLengthsCardSaid : Prop := Claim7.holds Tryd.pinned (.plain (OpenSpec.ofChange daysLengthsSpec)) daysLengthsCard

/-- THE TIED CARD OF 'counterfoillaw04.DaysNumbers'. -/
def daysNumbersCard : Claim7 := { stood := { row := daysNumbersRow, standIns := [], harness := (true, "88f9e6919057fbe062222414fc007dab718e0d4f30bc138ac5515ab3031e6234"), looks := false }, kinds := [], alts := [], laidByText := true, laidKinds := [.data], laidTests := true, laidLooks := .later }
def DaysNumbersCardSaid : Prop := Claim7.holds Tryd.pinned (.plain (OpenSpec.ofChange daysNumbersSpec)) daysNumbersCard

/-- THE TIED CARD OF 'counterfoillaw04.DaysDates'. -/
def daysDatesCard : Claim7 := { stood := { row := daysDatesRow, standIns := [], harness := (true, "88f9e6919057fbe062222414fc007dab718e0d4f30bc138ac5515ab3031e6234"), looks := false }, kinds := [], alts := [], laidByText := true, laidKinds := [.data], laidTests := true, laidLooks := .later }
def DaysDatesCardSaid : Prop := Claim7.holds Tryd.pinned (.plain (OpenSpec.ofChange daysDatesSpec)) daysDatesCard

/-- THE TIED CARD OF 'counterfoillaw04.DaysMondays'. -/
def daysMondaysCard : Claim7 := { stood := { row := daysMondaysRow, standIns := [], harness := (true, "88f9e6919057fbe062222414fc007dab718e0d4f30bc138ac5515ab3031e6234"), looks := false }, kinds := [], alts := [], laidByText := true, laidKinds := [.data], laidTests := true, laidLooks := .later }
def DaysMondaysCardSaid : Prop := Claim7.holds Tryd.pinned (.plain (OpenSpec.ofChange daysMondaysSpec)) daysMondaysCard

/-- THE TIED CARD OF 'counterfoillaw04.DaysWeeks'. -/
def daysWeeksCard : Claim7 := { stood := { row := daysWeeksRow, standIns := [], harness := (true, "88f9e6919057fbe062222414fc007dab718e0d4f30bc138ac5515ab3031e6234"), looks := false }, kinds := [], alts := [], laidByText := true, laidKinds := [.data], laidTests := true, laidLooks := .later }
def DaysWeeksCardSaid : Prop := Claim7.holds Tryd.pinned (.plain (OpenSpec.ofChange daysWeeksSpec)) daysWeeksCard

/-- THE SECOND FORM's CARD OF 'counterfoillaw04.DaysLengths'. -/
def daysLengthsUptoCard : Claim7 := { stood := { row := daysLengthsUptoRow, standIns := [], harness := (true, "88f9e6919057fbe062222414fc007dab718e0d4f30bc138ac5515ab3031e6234"), looks := false }, kinds := [], alts := [], laidByText := true, laidKinds := [.data], laidTests := true, laidLooks := .later }
def DaysLengthsUptoCardSaid : Prop := Claim7.holds Tryd.pinned (.plain (OpenSpec.upto daysLengthsSpec)) daysLengthsUptoCard

/-- THE SECOND FORM's CARD OF 'counterfoillaw04.DaysNumbers'. -/
def daysNumbersUptoCard : Claim7 := { stood := { row := daysNumbersUptoRow, standIns := [], harness := (true, "88f9e6919057fbe062222414fc007dab718e0d4f30bc138ac5515ab3031e6234"), looks := false }, kinds := [], alts := [], laidByText := true, laidKinds := [.data], laidTests := true, laidLooks := .later }
def DaysNumbersUptoCardSaid : Prop := Claim7.holds Tryd.pinned (.plain (OpenSpec.upto daysNumbersSpec)) daysNumbersUptoCard

/-- THE SECOND FORM's CARD OF 'counterfoillaw04.DaysDates'. -/
def daysDatesUptoCard : Claim7 := { stood := { row := daysDatesUptoRow, standIns := [], harness := (true, "88f9e6919057fbe062222414fc007dab718e0d4f30bc138ac5515ab3031e6234"), looks := false }, kinds := [], alts := [], laidByText := true, laidKinds := [.data], laidTests := true, laidLooks := .later }
def DaysDatesUptoCardSaid : Prop := Claim7.holds Tryd.pinned (.plain (OpenSpec.upto daysDatesSpec)) daysDatesUptoCard

/-- THE SECOND FORM's CARD OF 'counterfoillaw04.DaysMondays'. -/
def daysMondaysUptoCard : Claim7 := { stood := { row := daysMondaysUptoRow, standIns := [], harness := (true, "88f9e6919057fbe062222414fc007dab718e0d4f30bc138ac5515ab3031e6234"), looks := false }, kinds := [], alts := [], laidByText := true, laidKinds := [.data], laidTests := true, laidLooks := .later }
def DaysMondaysUptoCardSaid : Prop := Claim7.holds Tryd.pinned (.plain (OpenSpec.upto daysMondaysSpec)) daysMondaysUptoCard

/-- THE SECOND FORM's CARD OF 'counterfoillaw04.DaysWeeks'. -/
def daysWeeksUptoCard : Claim7 := { stood := { row := daysWeeksUptoRow, standIns := [], harness := (true, "88f9e6919057fbe062222414fc007dab718e0d4f30bc138ac5515ab3031e6234"), looks := false }, kinds := [], alts := [], laidByText := true, laidKinds := [.data], laidTests := true, laidLooks := .later }
def DaysWeeksUptoCardSaid : Prop := Claim7.holds Tryd.pinned (.plain (OpenSpec.upto daysWeeksSpec)) daysWeeksUptoCard
end Rows
end Go.Proofs.YtpnnlggkkjcagaaDoor
