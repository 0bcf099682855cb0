/-
  DERIVED. GIVEN WITH THE SEED: THE CARDS: each row of YtkllknfgojjphaaDoorRows.lean that lists a variable, with what it lists TIED to the program's text (the seventh form; the later family's looks); each row that meets fmt, with fmt's text TOLD by the authors' own Lean function (tested against real Go, not proved from fmt's source: count such statements apart). THE CARD IS WHAT COUNTS. Prove the row's statement (the work); the ties are given (YtkllknfgojjphaaDoorTie.lean); close each card by the builder's one call (the guide's Derived/Test/ToyasCard.lean, 'card_holds'). Laid BY PROGRAM, IN A SANDBOX (cutbox-door.mjs). By AI agents, Wed Nov 11 2026. No macro, syntax, notation, axiom, sorry.
-/
import Derived.Test.YtkllknfgojjphaaDoorRows
import GoSem.ClaimSeven
namespace Go.Proofs.YtkllknfgojjphaaDoor
namespace Rows

/-- THE TIED CARD OF 'counterfoillaw08.LinkSchemes'. -/
def linkSchemesCard : Claim7 := { stood := { row := linkSchemesRow, standIns := [], harness := (true, "e285736ccd20054949ed990a6a8631f4421dd2f36b9d74bc3fe32111d49dceb5"), looks := false }, kinds := [], alts := [], laidByText := true, laidKinds := [.data, .pinned], laidTests := true, laidLooks := .later }
def LinkSchemesCardSaid : Prop := Claim7.holds Tryd.pinned (.plain (OpenSpec.ofChange linkSchemesSpec)) linkSchemesCard

/-- THE TIED CARD OF 'counterfoillaw08.LinkHosts'. -/
def linkHostsCard : Claim7 := { stood := { row := linkHostsRow, standIns := [], harness := (true, "e285736ccd20054949ed990a6a8631f4421dd2f36b9d74bc3fe32111d49dceb5"), looks := false }, kinds := [], alts := [], laidByText := true, laidKinds := [.data, .pinned], laidTests := true, laidLooks := .later }
def LinkHostsCardSaid : Prop := Claim7.holds Tryd.pinned (.plain (OpenSpec.ofChange linkHostsSpec)) linkHostsCard

/-- THE TIED CARD OF 'counterfoillaw08.LinkFine'. -/
def linkFineCard : Claim7 := { stood := { row := linkFineRow, standIns := [], harness := (true, "e285736ccd20054949ed990a6a8631f4421dd2f36b9d74bc3fe32111d49dceb5"), looks := false }, kinds := [], alts := [], laidByText := true, laidKinds := [.data, .pinned], laidTests := true, laidLooks := .later }
def LinkFineCardSaid : Prop := Claim7.holds Tryd.pinned (.plain (OpenSpec.ofChange linkFineSpec)) linkFineCard

/-- THE TIED CARD OF 'counterfoillaw08.LinkAbsolute'. -/
def linkAbsoluteCard : Claim7 := { stood := { row := linkAbsoluteRow, standIns := [], harness := (true, "e285736ccd20054949ed990a6a8631f4421dd2f36b9d74bc3fe32111d49dceb5"), looks := false }, kinds := [], alts := [], laidByText := true, laidKinds := [.data, .pinned], laidTests := true, laidLooks := .later }
def LinkAbsoluteCardSaid : Prop := Claim7.holds Tryd.pinned (.plain (OpenSpec.ofChange linkAbsoluteSpec)) linkAbsoluteCard

/-- THE TIED CARD OF 'counterfoillaw08.LinkCases'. -/
def linkCasesCard : Claim7 := { stood := { row := linkCasesRow, standIns := [], harness := (true, "e285736ccd20054949ed990a6a8631f4421dd2f36b9d74bc3fe32111d49dceb5"), looks := false }, kinds := [], alts := [], laidByText := true, laidKinds := [.data, .pinned], laidTests := true, laidLooks := .later }
def LinkCasesCardSaid : Prop := Claim7.holds Tryd.pinned (.plain (OpenSpec.ofChange linkCasesSpec)) linkCasesCard

/-- THE TIED CARD OF 'counterfoillaw08.LinkBehind'. -/
def linkBehindCard : Claim7 := { stood := { row := linkBehindRow, standIns := [], harness := (true, "e285736ccd20054949ed990a6a8631f4421dd2f36b9d74bc3fe32111d49dceb5"), looks := false }, kinds := [], alts := [], laidByText := true, laidKinds := [.data, .pinned], laidTests := true, laidLooks := .later }
def LinkBehindCardSaid : Prop := Claim7.holds Tryd.pinned (.plain (OpenSpec.ofChange linkBehindSpec)) linkBehindCard

/-- THE SECOND FORM's CARD OF 'counterfoillaw08.LinkSchemes'. -/
def linkSchemesUptoCard : Claim7 := { stood := { row := linkSchemesUptoRow, standIns := [], harness := (true, "e285736ccd20054949ed990a6a8631f4421dd2f36b9d74bc3fe32111d49dceb5"), looks := false }, kinds := [], alts := [], laidByText := true, laidKinds := [.data, .pinned], laidTests := true, laidLooks := .later }
def LinkSchemesUptoCardSaid : Prop := Claim7.holds Tryd.pinned (.plain (OpenSpec.upto linkSchemesSpec)) linkSchemesUptoCard

/-- THE SECOND FORM's CARD OF 'counterfoillaw08.LinkHosts'. -/
def linkHostsUptoCard : Claim7 := { stood := { row := linkHostsUptoRow, standIns := [], harness := (true, "e285736ccd20054949ed990a6a8631f4421dd2f36b9d74bc3fe32111d49dceb5"), looks := false }, kinds := [], alts := [], laidByText := true, laidKinds := [.data, .pinned], laidTests := true, laidLooks := .later }
def LinkHostsUptoCardSaid : Prop := Claim7.holds Tryd.pinned (.plain (OpenSpec.upto linkHostsSpec)) linkHostsUptoCard

/-- THE SECOND FORM's CARD OF 'counterfoillaw08.LinkFine'. -/
def linkFineUptoCard : Claim7 := { stood := { row := linkFineUptoRow, standIns := [], harness := (true, "e285736ccd20054949ed990a6a8631f4421dd2f36b9d74bc3fe32111d49dceb5"), looks := false }, kinds := [], alts := [], laidByText := true, laidKinds := [.data, .pinned], laidTests := true, laidLooks := .later }
def LinkFineUptoCardSaid : Prop := Claim7.holds Tryd.pinned (.plain (OpenSpec.upto linkFineSpec)) linkFineUptoCard

/-- THE SECOND FORM's CARD OF 'counterfoillaw08.LinkAbsolute'. -/
def linkAbsoluteUptoCard : Claim7 := { stood := { row := linkAbsoluteUptoRow, standIns := [], harness := (true, "e285736ccd20054949ed990a6a8631f4421dd2f36b9d74bc3fe32111d49dceb5"), looks := false }, kinds := [], alts := [], laidByText := true, laidKinds := [.data, .pinned], laidTests := true, laidLooks := .later }
def LinkAbsoluteUptoCardSaid : Prop := Claim7.holds Tryd.pinned (.plain (OpenSpec.upto linkAbsoluteSpec)) linkAbsoluteUptoCard

/-- THE SECOND FORM's CARD OF 'counterfoillaw08.LinkCases'. -/
def linkCasesUptoCard : Claim7 := { stood := { row := linkCasesUptoRow, standIns := [], harness := (true, "e285736ccd20054949ed990a6a8631f4421dd2f36b9d74bc3fe32111d49dceb5"), looks := false }, kinds := [], alts := [], laidByText := true, laidKinds := [.data, .pinned], laidTests := true, laidLooks := .later }
def LinkCasesUptoCardSaid : Prop := Claim7.holds Tryd.pinned (.plain (OpenSpec.upto linkCasesSpec)) linkCasesUptoCard

/-- THE SECOND FORM's CARD OF 'counterfoillaw08.LinkBehind'. -/
def linkBehindUptoCard : Claim7 := { stood := { row := linkBehindUptoRow, standIns := [], harness := (true, "e285736ccd20054949ed990a6a8631f4421dd2f36b9d74bc3fe32111d49dceb5"), looks := false }, kinds := [], alts := [], laidByText := true, laidKinds := [.data, .pinned], laidTests := true, laidLooks := .later }
def LinkBehindUptoCardSaid : Prop := Claim7.holds Tryd.pinned (.plain (OpenSpec.upto linkBehindSpec)) linkBehindUptoCard
end Rows
end Go.Proofs.YtkllknfgojjphaaDoor
