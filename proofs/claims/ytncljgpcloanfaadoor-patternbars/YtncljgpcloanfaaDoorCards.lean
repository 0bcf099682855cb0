/-
  DERIVED. GIVEN WITH THE SEED: THE CARDS: each row of YtncljgpcloanfaaDoorRows.lean that lists a variable, with what it lists TIED to the program's text (the seventh form; the later family's looks); each row that meets fmt, with fmt's text TOLD by the authors' own Lean function (tested against real Go, not proved from fmt's source: count such statements apart). THE CARD IS WHAT COUNTS. Prove the row's statement (the work); the ties are given (YtncljgpcloanfaaDoorTie.lean); close each card by the builder's one call (the guide's Derived/Test/ToyasCard.lean, 'card_holds'). Laid BY PROGRAM, IN A SANDBOX (cutbox-door.mjs). By AI agents, Wed Nov 11 2026. No macro, syntax, notation, axiom, sorry.
-/
import Derived.Test.YtncljgpcloanfaaDoorRows
import GoSem.ClaimSeven
namespace Go.Proofs.YtncljgpcloanfaaDoor
namespace Rows

/-- THE TIED CARD OF 'counterfoillaw09.PatternRight'. -/
def patternRightCard : Claim7 := { stood := { row := patternRightRow, standIns := [], harness := (true, "c8da8bfc64a8f7046eb2f91de0655f23181b3cbc3d89af022386f22448a29b83"), looks := true }, kinds := [], alts := [], laidByText := true, laidKinds := [.data, .pinned], laidTests := true, laidLooks := .later }
def PatternRightCardSaid : Prop := Claim7.holds Tryd.pinned (.plain (OpenSpec.ofChange patternRightSpec)) patternRightCard

/-- THE TIED CARD OF 'counterfoillaw09.PatternFits'. -/
def patternFitsCard : Claim7 := { stood := { row := patternFitsRow, standIns := [], harness := (true, "c8da8bfc64a8f7046eb2f91de0655f23181b3cbc3d89af022386f22448a29b83"), looks := true }, kinds := [], alts := [], laidByText := true, laidKinds := [.data, .pinned], laidTests := true, laidLooks := .later }
def PatternFitsCardSaid : Prop := Claim7.holds Tryd.pinned (.plain (OpenSpec.ofChange patternFitsSpec)) patternFitsCard

/-- THE TIED CARD OF 'counterfoillaw09.PatternBars'. -/
def patternBarsCard : Claim7 := { stood := { row := patternBarsRow, standIns := [], harness := (true, "c8da8bfc64a8f7046eb2f91de0655f23181b3cbc3d89af022386f22448a29b83"), looks := true }, kinds := [], alts := [], laidByText := true, laidKinds := [.data, .pinned], laidTests := true, laidLooks := .later }
def PatternBarsCardSaid : Prop := Claim7.holds Tryd.pinned (.plain (OpenSpec.ofChange patternBarsSpec)) patternBarsCard

/-- THE TIED CARD OF 'counterfoillaw09.PatternGroups'. -/
def patternGroupsCard : Claim7 := { stood := { row := patternGroupsRow, standIns := [], harness := (true, "c8da8bfc64a8f7046eb2f91de0655f23181b3cbc3d89af022386f22448a29b83"), looks := true }, kinds := [], alts := [], laidByText := true, laidKinds := [.data, .pinned], laidTests := true, laidLooks := .later }
def PatternGroupsCardSaid : Prop := Claim7.holds Tryd.pinned (.plain (OpenSpec.ofChange patternGroupsSpec)) patternGroupsCard

/-- THE TIED CARD OF 'counterfoillaw09.PatternRows'. -/
def patternRowsCard : Claim7 := { stood := { row := patternRowsRow, standIns := [], harness := (true, "c8da8bfc64a8f7046eb2f91de0655f23181b3cbc3d89af022386f22448a29b83"), looks := true }, kinds := [], alts := [], laidByText := true, laidKinds := [.data, .pinned], laidTests := true, laidLooks := .later }
def PatternRowsCardSaid : Prop := Claim7.holds Tryd.pinned (.plain (OpenSpec.ofChange patternRowsSpec)) patternRowsCard

/-- THE TIED CARD OF 'counterfoillaw09.PatternPlain'. -/
def patternPlainCard : Claim7 := { stood := { row := patternPlainRow, standIns := [], harness := (true, "c8da8bfc64a8f7046eb2f91de0655f23181b3cbc3d89af022386f22448a29b83"), looks := true }, kinds := [], alts := [], laidByText := true, laidKinds := [.data, .pinned], laidTests := true, laidLooks := .later }
def PatternPlainCardSaid : Prop := Claim7.holds Tryd.pinned (.plain (OpenSpec.ofChange patternPlainSpec)) patternPlainCard

/-- THE SECOND FORM's CARD OF 'counterfoillaw09.PatternRight'. -/
def patternRightUptoCard : Claim7 := { stood := { row := patternRightUptoRow, standIns := [], harness := (true, "c8da8bfc64a8f7046eb2f91de0655f23181b3cbc3d89af022386f22448a29b83"), looks := true }, kinds := [], alts := [], laidByText := true, laidKinds := [.data, .pinned], laidTests := true, laidLooks := .later }
def PatternRightUptoCardSaid : Prop := Claim7.holds Tryd.pinned (.plain (OpenSpec.upto patternRightSpec)) patternRightUptoCard

/-- THE SECOND FORM's CARD OF 'counterfoillaw09.PatternFits'. -/
def patternFitsUptoCard : Claim7 := { stood := { row := patternFitsUptoRow, standIns := [], harness := (true, "c8da8bfc64a8f7046eb2f91de0655f23181b3cbc3d89af022386f22448a29b83"), looks := true }, kinds := [], alts := [], laidByText := true, laidKinds := [.data, .pinned], laidTests := true, laidLooks := .later }
def PatternFitsUptoCardSaid : Prop := Claim7.holds Tryd.pinned (.plain (OpenSpec.upto patternFitsSpec)) patternFitsUptoCard

/-- THE SECOND FORM's CARD OF 'counterfoillaw09.PatternBars'. -/
def patternBarsUptoCard : Claim7 := { stood := { row := patternBarsUptoRow, standIns := [], harness := (true, "c8da8bfc64a8f7046eb2f91de0655f23181b3cbc3d89af022386f22448a29b83"), looks := true }, kinds := [], alts := [], laidByText := true, laidKinds := [.data, .pinned], laidTests := true, laidLooks := .later }
def PatternBarsUptoCardSaid : Prop := Claim7.holds Tryd.pinned (.plain (OpenSpec.upto patternBarsSpec)) patternBarsUptoCard

/-- THE SECOND FORM's CARD OF 'counterfoillaw09.PatternGroups'. -/
def patternGroupsUptoCard : Claim7 := { stood := { row := patternGroupsUptoRow, standIns := [], harness := (true, "c8da8bfc64a8f7046eb2f91de0655f23181b3cbc3d89af022386f22448a29b83"), looks := true }, kinds := [], alts := [], laidByText := true, laidKinds := [.data, .pinned], laidTests := true, laidLooks := .later }
def PatternGroupsUptoCardSaid : Prop := Claim7.holds Tryd.pinned (.plain (OpenSpec.upto patternGroupsSpec)) patternGroupsUptoCard

/-- THE SECOND FORM's CARD OF 'counterfoillaw09.PatternRows'. -/
def patternRowsUptoCard : Claim7 := { stood := { row := patternRowsUptoRow, standIns := [], harness := (true, "c8da8bfc64a8f7046eb2f91de0655f23181b3cbc3d89af022386f22448a29b83"), looks := true }, kinds := [], alts := [], laidByText := true, laidKinds := [.data, .pinned], laidTests := true, laidLooks := .later }
def PatternRowsUptoCardSaid : Prop := Claim7.holds Tryd.pinned (.plain (OpenSpec.upto patternRowsSpec)) patternRowsUptoCard

/-- THE SECOND FORM's CARD OF 'counterfoillaw09.PatternPlain'. -/
def patternPlainUptoCard : Claim7 := { stood := { row := patternPlainUptoRow, standIns := [], harness := (true, "c8da8bfc64a8f7046eb2f91de0655f23181b3cbc3d89af022386f22448a29b83"), looks := true }, kinds := [], alts := [], laidByText := true, laidKinds := [.data, .pinned], laidTests := true, laidLooks := .later }
def PatternPlainUptoCardSaid : Prop := Claim7.holds Tryd.pinned (.plain (OpenSpec.upto patternPlainSpec)) patternPlainUptoCard
end Rows
end Go.Proofs.YtncljgpcloanfaaDoor
