/-
  DERIVED. GIVEN WITH THE SEED: THE CARDS: each row of YtnojgejcmaajmaaGreatDoorRows.lean that lists a variable, with what it lists TIED to the program's text (the seventh form; the later family's looks); each row that meets fmt, with fmt's text TOLD by the authors' own Lean function (tested against real Go, not proved from fmt's source: count such statements apart). THE CARD IS WHAT COUNTS. Prove the row's statement (the work); the ties are given (YtnojgejcmaajmaaGreatDoorTie.lean); close each card by the builder's one call (the guide's Derived/Test/ToyasCard.lean, 'card_holds'). Laid BY PROGRAM, IN A SANDBOX (cutbox-door.mjs). By AI agents, Wed Nov 11 2026. No macro, syntax, notation, axiom, sorry.
-/
import Derived.Test.YtnojgejcmaajmaaGreatDoorRows
import GoSem.ClaimSeven
namespace Go.Proofs.YtnojgejcmaajmaaGreatDoor
namespace Rows

/-- THE TIED CARD OF 'counterfoillaw24.SubmitMakes'. -/
def submitMakesCard : Claim7 := { stood := { row := submitMakesRow, standIns := [], harness := (true, "12e30626063dd1f3bf9f03ae024b9bd08be5006b5abfacf13bb8c5c8e06150c2"), looks := false }, kinds := [], alts := [], laidByText := true, laidKinds := [.data, .data, .data, .data, .data, .data, .pinned], laidTests := true, laidLooks := .later }
def SubmitMakesCardSaid : Prop := Claim7.holds Tryz.pinned (.plain (OpenSpec.ofChange submitMakesSpec)) submitMakesCard

/-- THE TIED CARD OF 'counterfoillaw24.SubmitBack'. -/
def submitBackCard : Claim7 := { stood := { row := submitBackRow, standIns := [], harness := (true, "12e30626063dd1f3bf9f03ae024b9bd08be5006b5abfacf13bb8c5c8e06150c2"), looks := false }, kinds := [], alts := [], laidByText := true, laidKinds := [.data, .data, .data, .data, .data, .data, .pinned], laidTests := true, laidLooks := .later }
def SubmitBackCardSaid : Prop := Claim7.holds Tryz.pinned (.plain (OpenSpec.ofChange submitBackSpec)) submitBackCard

/-- THE TIED CARD OF 'counterfoillaw24.SubmitEnters'. -/
def submitEntersCard : Claim7 := { stood := { row := submitEntersRow, standIns := [], harness := (true, "12e30626063dd1f3bf9f03ae024b9bd08be5006b5abfacf13bb8c5c8e06150c2"), looks := false }, kinds := [], alts := [], laidByText := true, laidKinds := [.data, .data], laidTests := true, laidLooks := .later }
def SubmitEntersCardSaid : Prop := Claim7.holds Tryz.pinned (.plain (OpenSpec.ofChange submitEntersSpec)) submitEntersCard

/-- THE SECOND FORM's CARD OF 'counterfoillaw24.SubmitMakes'. -/
def submitMakesUptoCard : Claim7 := { stood := { row := submitMakesUptoRow, standIns := [], harness := (true, "12e30626063dd1f3bf9f03ae024b9bd08be5006b5abfacf13bb8c5c8e06150c2"), looks := false }, kinds := [], alts := [], laidByText := true, laidKinds := [.data, .data, .data, .data, .data, .data, .pinned], laidTests := true, laidLooks := .later }
def SubmitMakesUptoCardSaid : Prop := Claim7.holds Tryz.pinned (.plain (OpenSpec.upto submitMakesSpec)) submitMakesUptoCard

/-- THE SECOND FORM's CARD OF 'counterfoillaw24.SubmitBack'. -/
def submitBackUptoCard : Claim7 := { stood := { row := submitBackUptoRow, standIns := [], harness := (true, "12e30626063dd1f3bf9f03ae024b9bd08be5006b5abfacf13bb8c5c8e06150c2"), looks := false }, kinds := [], alts := [], laidByText := true, laidKinds := [.data, .data, .data, .data, .data, .data, .pinned], laidTests := true, laidLooks := .later }
def SubmitBackUptoCardSaid : Prop := Claim7.holds Tryz.pinned (.plain (OpenSpec.upto submitBackSpec)) submitBackUptoCard

/-- THE SECOND FORM's CARD OF 'counterfoillaw24.SubmitEnters'. -/
def submitEntersUptoCard : Claim7 := { stood := { row := submitEntersUptoRow, standIns := [], harness := (true, "12e30626063dd1f3bf9f03ae024b9bd08be5006b5abfacf13bb8c5c8e06150c2"), looks := false }, kinds := [], alts := [], laidByText := true, laidKinds := [.data, .data], laidTests := true, laidLooks := .later }
def SubmitEntersUptoCardSaid : Prop := Claim7.holds Tryz.pinned (.plain (OpenSpec.upto submitEntersSpec)) submitEntersUptoCard
end Rows
end Go.Proofs.YtnojgejcmaajmaaGreatDoor
