/-
  DERIVED. GIVEN WITH THE SEED: THE CARDS: each row of YtnnnmfiniminfaaDoorRows.lean that lists a variable, with what it lists TIED to the program's text (the seventh form; the later family's looks); each row that meets fmt, with fmt's text TOLD by the authors' own Lean function (tested against real Go, not proved from fmt's source: count such statements apart). THE CARD IS WHAT COUNTS. Prove the row's statement (the work); the ties are given (YtnnnmfiniminfaaDoorTie.lean); close each card by the builder's one call (the guide's Derived/Test/ToyasCard.lean, 'card_holds'). Laid BY PROGRAM, IN A SANDBOX (cutbox-door.mjs). By AI agents, Wed Nov 11 2026. No macro, syntax, notation, axiom, sorry.
-/
import Derived.Test.YtnnnmfiniminfaaDoorRows
import GoSem.ClaimSeven
namespace Go.Proofs.YtnnnmfiniminfaaDoor
namespace Rows

/-- THE TIED CARD OF 'counterfoillaw11.KindsOf'. -/
def kindsOfCard : Claim7 := { stood := { row := kindsOfRow, standIns := [], harness := (true, "90b917bece46922126714c714b885f68ee5040f96761f6c75c00a3658abb24ec"), looks := false }, kinds := [], alts := [], laidByText := true, laidKinds := [.data, .data], laidTests := true, laidLooks := .later }
def KindsOfCardSaid : Prop := Claim7.holds Tryd.pinned (.plain (OpenSpec.ofChange kindsOfSpec)) kindsOfCard

/-- THE TIED CARD OF 'counterfoillaw11.KindsTypes'. -/
def kindsTypesCard : Claim7 := { stood := { row := kindsTypesRow, standIns := [], harness := (true, "90b917bece46922126714c714b885f68ee5040f96761f6c75c00a3658abb24ec"), looks := false }, kinds := [], alts := [], laidByText := true, laidKinds := [.data, .data], laidTests := true, laidLooks := .later }
def KindsTypesCardSaid : Prop := Claim7.holds Tryd.pinned (.plain (OpenSpec.ofChange kindsTypesSpec)) kindsTypesCard

/-- THE TIED CARD OF 'counterfoillaw11.KindsModes'. -/
def kindsModesCard : Claim7 := { stood := { row := kindsModesRow, standIns := [], harness := (true, "90b917bece46922126714c714b885f68ee5040f96761f6c75c00a3658abb24ec"), looks := false }, kinds := [], alts := [], laidByText := true, laidKinds := [.data, .data], laidTests := true, laidLooks := .later }
def KindsModesCardSaid : Prop := Claim7.holds Tryd.pinned (.plain (OpenSpec.ofChange kindsModesSpec)) kindsModesCard

/-- THE TIED CARD OF 'counterfoillaw11.KindsAsks'. -/
def kindsAsksCard : Claim7 := { stood := { row := kindsAsksRow, standIns := [], harness := (true, "90b917bece46922126714c714b885f68ee5040f96761f6c75c00a3658abb24ec"), looks := false }, kinds := [], alts := [], laidByText := true, laidKinds := [.data, .data], laidTests := true, laidLooks := .later }
def KindsAsksCardSaid : Prop := Claim7.holds Tryd.pinned (.plain (OpenSpec.ofChange kindsAsksSpec)) kindsAsksCard

/-- THE TIED CARD OF 'counterfoillaw11.KindsApplies'. -/
def kindsAppliesCard : Claim7 := { stood := { row := kindsAppliesRow, standIns := [], harness := (true, "90b917bece46922126714c714b885f68ee5040f96761f6c75c00a3658abb24ec"), looks := false }, kinds := [], alts := [], laidByText := true, laidKinds := [.data, .data], laidTests := true, laidLooks := .later }
def KindsAppliesCardSaid : Prop := Claim7.holds Tryd.pinned (.plain (OpenSpec.ofChange kindsAppliesSpec)) kindsAppliesCard

/-- THE SECOND FORM's CARD OF 'counterfoillaw11.KindsOf'. -/
def kindsOfUptoCard : Claim7 := { stood := { row := kindsOfUptoRow, standIns := [], harness := (true, "90b917bece46922126714c714b885f68ee5040f96761f6c75c00a3658abb24ec"), looks := false }, kinds := [], alts := [], laidByText := true, laidKinds := [.data, .data], laidTests := true, laidLooks := .later }
def KindsOfUptoCardSaid : Prop := Claim7.holds Tryd.pinned (.plain (OpenSpec.upto kindsOfSpec)) kindsOfUptoCard

/-- THE SECOND FORM's CARD OF 'counterfoillaw11.KindsTypes'. -/
def kindsTypesUptoCard : Claim7 := { stood := { row := kindsTypesUptoRow, standIns := [], harness := (true, "90b917bece46922126714c714b885f68ee5040f96761f6c75c00a3658abb24ec"), looks := false }, kinds := [], alts := [], laidByText := true, laidKinds := [.data, .data], laidTests := true, laidLooks := .later }
def KindsTypesUptoCardSaid : Prop := Claim7.holds Tryd.pinned (.plain (OpenSpec.upto kindsTypesSpec)) kindsTypesUptoCard

/-- THE SECOND FORM's CARD OF 'counterfoillaw11.KindsModes'. -/
def kindsModesUptoCard : Claim7 := { stood := { row := kindsModesUptoRow, standIns := [], harness := (true, "90b917bece46922126714c714b885f68ee5040f96761f6c75c00a3658abb24ec"), looks := false }, kinds := [], alts := [], laidByText := true, laidKinds := [.data, .data], laidTests := true, laidLooks := .later }
def KindsModesUptoCardSaid : Prop := Claim7.holds Tryd.pinned (.plain (OpenSpec.upto kindsModesSpec)) kindsModesUptoCard

/-- THE SECOND FORM's CARD OF 'counterfoillaw11.KindsAsks'. -/
def kindsAsksUptoCard : Claim7 := { stood := { row := kindsAsksUptoRow, standIns := [], harness := (true, "90b917bece46922126714c714b885f68ee5040f96761f6c75c00a3658abb24ec"), looks := false }, kinds := [], alts := [], laidByText := true, laidKinds := [.data, .data], laidTests := true, laidLooks := .later }
def KindsAsksUptoCardSaid : Prop := Claim7.holds Tryd.pinned (.plain (OpenSpec.upto kindsAsksSpec)) kindsAsksUptoCard

/-- THE SECOND FORM's CARD OF 'counterfoillaw11.KindsApplies'. -/
def kindsAppliesUptoCard : Claim7 := { stood := { row := kindsAppliesUptoRow, standIns := [], harness := (true, "90b917bece46922126714c714b885f68ee5040f96761f6c75c00a3658abb24ec"), looks := false }, kinds := [], alts := [], laidByText := true, laidKinds := [.data, .data], laidTests := true, laidLooks := .later }
def KindsAppliesUptoCardSaid : Prop := Claim7.holds Tryd.pinned (.plain (OpenSpec.upto kindsAppliesSpec)) kindsAppliesUptoCard
end Rows
end Go.Proofs.YtnnnmfiniminfaaDoor
