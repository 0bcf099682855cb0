/-
  DERIVED. GIVEN WITH THE SEED: THE CARDS: each row of YthakeibmbcgjfaaDoorRows.lean that lists a variable, with what it lists TIED to the program's text (the seventh form; the later family's looks); each row that meets fmt, with fmt's text TOLD by the authors' own Lean function (tested against real Go, not proved from fmt's source: count such statements apart). THE CARD IS WHAT COUNTS. Prove the row's statement (the work); the ties are given (YthakeibmbcgjfaaDoorTie.lean); close each card by the builder's one call (the guide's Derived/Test/ToyasCard.lean, 'card_holds'). Laid BY PROGRAM, IN A SANDBOX (cutbox-door.mjs). By AI agents, Wed Nov 11 2026. No macro, syntax, notation, axiom, sorry.
-/
import Derived.Test.YthakeibmbcgjfaaDoorRows
import GoSem.ClaimSeven
namespace Go.Proofs.YthakeibmbcgjfaaDoor
namespace Rows

/-- THE TIED CARD OF 'counterfoillaw03.NumberParses'. -/
def numberParsesCard : Claim7 := { stood := { row := numberParsesRow, standIns := [], harness := (true, "a4c1ce4ff01733e6da8d5379a72d0739190938bc3828dc49c9c7f47fc435220e"), looks := false }, kinds := [], alts := [], laidByText := true, laidKinds := [.data, .pinned], laidTests := true, laidLooks := .later }
def NumberParsesCardSaid : Prop := Claim7.holds Tryd.pinned (.plain (OpenSpec.ofChange numberParsesSpec)) numberParsesCard

/-- THE TIED CARD OF 'counterfoillaw03.NumberShows'. -/
def numberShowsCard : Claim7 := { stood := { row := numberShowsRow, standIns := [], harness := (true, "a4c1ce4ff01733e6da8d5379a72d0739190938bc3828dc49c9c7f47fc435220e"), looks := false }, kinds := [], alts := [], laidByText := true, laidKinds := [.data, .data, .data, .data, .pinned], laidTests := true, laidLooks := .later }
def NumberShowsCardSaid : Prop := Claim7.holds Tryd.pinned (.plain (OpenSpec.ofChange numberShowsSpec)) numberShowsCard

/-- THE TIED CARD OF 'counterfoillaw03.NumberBack'. -/
def numberBackCard : Claim7 := { stood := { row := numberBackRow, standIns := [], harness := (true, "a4c1ce4ff01733e6da8d5379a72d0739190938bc3828dc49c9c7f47fc435220e"), looks := false }, kinds := [], alts := [], laidByText := true, laidKinds := [.data, .data, .data, .data, .pinned], laidTests := true, laidLooks := .later }
def NumberBackCardSaid : Prop := Claim7.holds Tryd.pinned (.plain (OpenSpec.ofChange numberBackSpec)) numberBackCard

/-- THE TIED CARD OF 'counterfoillaw03.NumberNormal'. -/
def numberNormalCard : Claim7 := { stood := { row := numberNormalRow, standIns := [], harness := (true, "a4c1ce4ff01733e6da8d5379a72d0739190938bc3828dc49c9c7f47fc435220e"), looks := false }, kinds := [], alts := [], laidByText := true, laidKinds := [.data, .data, .data, .data, .pinned], laidTests := true, laidLooks := .later }
def NumberNormalCardSaid : Prop := Claim7.holds Tryd.pinned (.plain (OpenSpec.ofChange numberNormalSpec)) numberNormalCard

/-- THE SECOND FORM's CARD OF 'counterfoillaw03.NumberParses'. -/
def numberParsesUptoCard : Claim7 := { stood := { row := numberParsesUptoRow, standIns := [], harness := (true, "a4c1ce4ff01733e6da8d5379a72d0739190938bc3828dc49c9c7f47fc435220e"), looks := false }, kinds := [], alts := [], laidByText := true, laidKinds := [.data, .pinned], laidTests := true, laidLooks := .later }
def NumberParsesUptoCardSaid : Prop := Claim7.holds Tryd.pinned (.plain (OpenSpec.upto numberParsesSpec)) numberParsesUptoCard

/-- THE SECOND FORM's CARD OF 'counterfoillaw03.NumberShows'. -/
def numberShowsUptoCard : Claim7 := { stood := { row := numberShowsUptoRow, standIns := [], harness := (true, "a4c1ce4ff01733e6da8d5379a72d0739190938bc3828dc49c9c7f47fc435220e"), looks := false }, kinds := [], alts := [], laidByText := true, laidKinds := [.data, .data, .data, .data, .pinned], laidTests := true, laidLooks := .later }
def NumberShowsUptoCardSaid : Prop := Claim7.holds Tryd.pinned (.plain (OpenSpec.upto numberShowsSpec)) numberShowsUptoCard

/-- THE SECOND FORM's CARD OF 'counterfoillaw03.NumberBack'. -/
def numberBackUptoCard : Claim7 := { stood := { row := numberBackUptoRow, standIns := [], harness := (true, "a4c1ce4ff01733e6da8d5379a72d0739190938bc3828dc49c9c7f47fc435220e"), looks := false }, kinds := [], alts := [], laidByText := true, laidKinds := [.data, .data, .data, .data, .pinned], laidTests := true, laidLooks := .later }
def NumberBackUptoCardSaid : Prop := Claim7.holds Tryd.pinned (.plain (OpenSpec.upto numberBackSpec)) numberBackUptoCard

/-- THE SECOND FORM's CARD OF 'counterfoillaw03.NumberNormal'. -/
def numberNormalUptoCard : Claim7 := { stood := { row := numberNormalUptoRow, standIns := [], harness := (true, "a4c1ce4ff01733e6da8d5379a72d0739190938bc3828dc49c9c7f47fc435220e"), looks := false }, kinds := [], alts := [], laidByText := true, laidKinds := [.data, .data, .data, .data, .pinned], laidTests := true, laidLooks := .later }
def NumberNormalUptoCardSaid : Prop := Claim7.holds Tryd.pinned (.plain (OpenSpec.upto numberNormalSpec)) numberNormalUptoCard
end Rows
end Go.Proofs.YthakeibmbcgjfaaDoor
