/-
  DERIVED. GIVEN WITH THE SEED: THE CARDS: each row of YtfedeiipinamjaaDoorRows.lean that lists a variable, with what it lists TIED to the program's text (the seventh form; the later family's looks); each row that meets fmt, with fmt's text TOLD by the authors' own Lean function (tested against real Go, not proved from fmt's source: count such statements apart). THE CARD IS WHAT COUNTS. Prove the row's statement (the work); the ties are given (YtfedeiipinamjaaDoorTie.lean); close each card by the builder's one call (the guide's Derived/Test/ToyasCard.lean, 'card_holds'). Laid BY PROGRAM, IN A SANDBOX (cutbox-door.mjs). By AI agents, Wed Nov 11 2026. No macro, syntax, notation, axiom, sorry.
-/
import Derived.Test.YtfedeiipinamjaaDoorRows
import GoSem.ClaimSeven
namespace Go.Proofs.YtfedeiipinamjaaDoor
namespace Rows

/-- THE TIED CARD OF 'counterfoillaw19.UrlencEncodes'. -/
def urlencEncodesCard : Claim7 := { stood := { row := urlencEncodesRow, standIns := [], harness := (true, "f4b83987c8b48e1eb4fdd9f66b07228ca7ead5818881ab6f15484b7b4b875098"), looks := false }, kinds := [], alts := [], laidByText := true, laidKinds := [.data, .data, .data, .pinned], laidTests := true, laidLooks := .later }
def UrlencEncodesCardSaid : Prop := Claim7.holds Tryd.pinned (.plain (OpenSpec.ofChange urlencEncodesSpec)) urlencEncodesCard

/-- THE TIED CARD OF 'counterfoillaw19.UrlencDecodes'. -/
def urlencDecodesCard : Claim7 := { stood := { row := urlencDecodesRow, standIns := [], harness := (true, "f4b83987c8b48e1eb4fdd9f66b07228ca7ead5818881ab6f15484b7b4b875098"), looks := false }, kinds := [], alts := [], laidByText := true, laidKinds := [.data, .data, .data, .pinned], laidTests := true, laidLooks := .later }
def UrlencDecodesCardSaid : Prop := Claim7.holds Tryd.pinned (.plain (OpenSpec.ofChange urlencDecodesSpec)) urlencDecodesCard

/-- THE TIED CARD OF 'counterfoillaw19.UrlencBack'. -/
def urlencBackCard : Claim7 := { stood := { row := urlencBackRow, standIns := [], harness := (true, "f4b83987c8b48e1eb4fdd9f66b07228ca7ead5818881ab6f15484b7b4b875098"), looks := false }, kinds := [], alts := [], laidByText := true, laidKinds := [.data, .data, .data, .pinned], laidTests := true, laidLooks := .later }
def UrlencBackCardSaid : Prop := Claim7.holds Tryd.pinned (.plain (OpenSpec.ofChange urlencBackSpec)) urlencBackCard

/-- THE TIED CARD OF 'counterfoillaw19.UrlencJoins'. -/
def urlencJoinsCard : Claim7 := { stood := { row := urlencJoinsRow, standIns := [], harness := (true, "f4b83987c8b48e1eb4fdd9f66b07228ca7ead5818881ab6f15484b7b4b875098"), looks := false }, kinds := [], alts := [], laidByText := true, laidKinds := [.data, .data, .data, .pinned], laidTests := true, laidLooks := .later }
def UrlencJoinsCardSaid : Prop := Claim7.holds Tryd.pinned (.plain (OpenSpec.ofChange urlencJoinsSpec)) urlencJoinsCard

/-- THE TIED CARD OF 'counterfoillaw19.UrlencSigns'. -/
def urlencSignsCard : Claim7 := { stood := { row := urlencSignsRow, standIns := [], harness := (true, "f4b83987c8b48e1eb4fdd9f66b07228ca7ead5818881ab6f15484b7b4b875098"), looks := false }, kinds := [], alts := [], laidByText := true, laidKinds := [.data, .data, .data, .pinned], laidTests := true, laidLooks := .later }
def UrlencSignsCardSaid : Prop := Claim7.holds Tryd.pinned (.plain (OpenSpec.ofChange urlencSignsSpec)) urlencSignsCard

/-- THE SECOND FORM's CARD OF 'counterfoillaw19.UrlencEncodes'. -/
def urlencEncodesUptoCard : Claim7 := { stood := { row := urlencEncodesUptoRow, standIns := [], harness := (true, "f4b83987c8b48e1eb4fdd9f66b07228ca7ead5818881ab6f15484b7b4b875098"), looks := false }, kinds := [], alts := [], laidByText := true, laidKinds := [.data, .data, .data, .pinned], laidTests := true, laidLooks := .later }
def UrlencEncodesUptoCardSaid : Prop := Claim7.holds Tryd.pinned (.plain (OpenSpec.upto urlencEncodesSpec)) urlencEncodesUptoCard

/-- THE SECOND FORM's CARD OF 'counterfoillaw19.UrlencDecodes'. -/
def urlencDecodesUptoCard : Claim7 := { stood := { row := urlencDecodesUptoRow, standIns := [], harness := (true, "f4b83987c8b48e1eb4fdd9f66b07228ca7ead5818881ab6f15484b7b4b875098"), looks := false }, kinds := [], alts := [], laidByText := true, laidKinds := [.data, .data, .data, .pinned], laidTests := true, laidLooks := .later }
def UrlencDecodesUptoCardSaid : Prop := Claim7.holds Tryd.pinned (.plain (OpenSpec.upto urlencDecodesSpec)) urlencDecodesUptoCard

/-- THE SECOND FORM's CARD OF 'counterfoillaw19.UrlencBack'. -/
def urlencBackUptoCard : Claim7 := { stood := { row := urlencBackUptoRow, standIns := [], harness := (true, "f4b83987c8b48e1eb4fdd9f66b07228ca7ead5818881ab6f15484b7b4b875098"), looks := false }, kinds := [], alts := [], laidByText := true, laidKinds := [.data, .data, .data, .pinned], laidTests := true, laidLooks := .later }
def UrlencBackUptoCardSaid : Prop := Claim7.holds Tryd.pinned (.plain (OpenSpec.upto urlencBackSpec)) urlencBackUptoCard

/-- THE SECOND FORM's CARD OF 'counterfoillaw19.UrlencJoins'. -/
def urlencJoinsUptoCard : Claim7 := { stood := { row := urlencJoinsUptoRow, standIns := [], harness := (true, "f4b83987c8b48e1eb4fdd9f66b07228ca7ead5818881ab6f15484b7b4b875098"), looks := false }, kinds := [], alts := [], laidByText := true, laidKinds := [.data, .data, .data, .pinned], laidTests := true, laidLooks := .later }
def UrlencJoinsUptoCardSaid : Prop := Claim7.holds Tryd.pinned (.plain (OpenSpec.upto urlencJoinsSpec)) urlencJoinsUptoCard

/-- THE SECOND FORM's CARD OF 'counterfoillaw19.UrlencSigns'. -/
def urlencSignsUptoCard : Claim7 := { stood := { row := urlencSignsUptoRow, standIns := [], harness := (true, "f4b83987c8b48e1eb4fdd9f66b07228ca7ead5818881ab6f15484b7b4b875098"), looks := false }, kinds := [], alts := [], laidByText := true, laidKinds := [.data, .data, .data, .pinned], laidTests := true, laidLooks := .later }
def UrlencSignsUptoCardSaid : Prop := Claim7.holds Tryd.pinned (.plain (OpenSpec.upto urlencSignsSpec)) urlencSignsUptoCard
end Rows
end Go.Proofs.YtfedeiipinamjaaDoor
