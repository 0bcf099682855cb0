/-
  DERIVED. GIVEN WITH THE SEED: THE CARDS: each row of YtgfbcooeilodmaaDoorRows.lean that lists a variable, with what it lists TIED to the program's text (the seventh form; the later family's looks); each row that meets fmt, with fmt's text TOLD by the authors' own Lean function (tested against real Go, not proved from fmt's source: count such statements apart). THE CARD IS WHAT COUNTS. Prove the row's statement (the work); the ties are given (YtgfbcooeilodmaaDoorTie.lean); close each card by the builder's one call (the guide's Derived/Test/ToyasCard.lean, 'card_holds'). Laid BY PROGRAM, IN A SANDBOX (cutbox-door.mjs). By AI agents, Wed Nov 11 2026. No macro, syntax, notation, axiom, sorry.
-/
import Derived.Test.YtgfbcooeilodmaaDoorRows
import GoSem.ClaimSeven
namespace Go.Proofs.YtgfbcooeilodmaaDoor
namespace Rows

/-- THE TIED CARD OF 'counterfoillaw01.TextValid'. -/
def textValidCard : Claim7 := { stood := { row := textValidRow, standIns := [], harness := (true, "05dd7b6834db600077eb060517c355d11edac86e9094a2160b4f6b023aed6caf"), looks := false }, kinds := [], alts := [], laidByText := true, laidKinds := [.data, .pinned], laidTests := true, laidLooks := .later }
def TextValidCardSaid : Prop := Claim7.holds Tryd.pinned (.plain (OpenSpec.ofChange textValidSpec)) textValidCard

/-- THE TIED CARD OF 'counterfoillaw01.TextStrip'. -/
def textStripCard : Claim7 := { stood := { row := textStripRow, standIns := [], harness := (true, "05dd7b6834db600077eb060517c355d11edac86e9094a2160b4f6b023aed6caf"), looks := false }, kinds := [], alts := [], laidByText := true, laidKinds := [.data, .pinned], laidTests := true, laidLooks := .later }
def TextStripCardSaid : Prop := Claim7.holds Tryd.pinned (.plain (OpenSpec.ofChange textStripSpec)) textStripCard

/-- THE TIED CARD OF 'counterfoillaw01.TextCollapse'. -/
def textCollapseCard : Claim7 := { stood := { row := textCollapseRow, standIns := [], harness := (true, "05dd7b6834db600077eb060517c355d11edac86e9094a2160b4f6b023aed6caf"), looks := false }, kinds := [], alts := [], laidByText := true, laidKinds := [.data, .pinned], laidTests := true, laidLooks := .later }
def TextCollapseCardSaid : Prop := Claim7.holds Tryd.pinned (.plain (OpenSpec.ofChange textCollapseSpec)) textCollapseCard

/-- THE SECOND FORM's CARD OF 'counterfoillaw01.TextValid'. -/
def textValidUptoCard : Claim7 := { stood := { row := textValidUptoRow, standIns := [], harness := (true, "05dd7b6834db600077eb060517c355d11edac86e9094a2160b4f6b023aed6caf"), looks := false }, kinds := [], alts := [], laidByText := true, laidKinds := [.data, .pinned], laidTests := true, laidLooks := .later }
def TextValidUptoCardSaid : Prop := Claim7.holds Tryd.pinned (.plain (OpenSpec.upto textValidSpec)) textValidUptoCard

/-- THE SECOND FORM's CARD OF 'counterfoillaw01.TextStrip'. -/
def textStripUptoCard : Claim7 := { stood := { row := textStripUptoRow, standIns := [], harness := (true, "05dd7b6834db600077eb060517c355d11edac86e9094a2160b4f6b023aed6caf"), looks := false }, kinds := [], alts := [], laidByText := true, laidKinds := [.data, .pinned], laidTests := true, laidLooks := .later }
def TextStripUptoCardSaid : Prop := Claim7.holds Tryd.pinned (.plain (OpenSpec.upto textStripSpec)) textStripUptoCard

/-- THE SECOND FORM's CARD OF 'counterfoillaw01.TextCollapse'. -/
def textCollapseUptoCard : Claim7 := { stood := { row := textCollapseUptoRow, standIns := [], harness := (true, "05dd7b6834db600077eb060517c355d11edac86e9094a2160b4f6b023aed6caf"), looks := false }, kinds := [], alts := [], laidByText := true, laidKinds := [.data, .pinned], laidTests := true, laidLooks := .later }
def TextCollapseUptoCardSaid : Prop := Claim7.holds Tryd.pinned (.plain (OpenSpec.upto textCollapseSpec)) textCollapseUptoCard
end Rows
end Go.Proofs.YtgfbcooeilodmaaDoor
