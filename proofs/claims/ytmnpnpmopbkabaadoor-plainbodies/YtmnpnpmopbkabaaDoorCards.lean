/-
  DERIVED. GIVEN WITH THE SEED: THE CARDS: each row of YtmnpnpmopbkabaaDoorRows.lean that lists a variable, with what it lists TIED to the program's text (the seventh form; the later family's looks); each row that meets fmt, with fmt's text TOLD by the authors' own Lean function (tested against real Go, not proved from fmt's source: count such statements apart). THE CARD IS WHAT COUNTS. Prove the row's statement (the work); the ties are given (YtmnpnpmopbkabaaDoorTie.lean); close each card by the builder's one call (the guide's Derived/Test/ToyasCard.lean, 'card_holds'). Laid BY PROGRAM, IN A SANDBOX (cutbox-door.mjs). By AI agents, Wed Nov 11 2026. No macro, syntax, notation, axiom, sorry.
-/
import Derived.Test.YtmnpnpmopbkabaaDoorRows
import GoSem.ClaimSeven
namespace Go.Proofs.YtmnpnpmopbkabaaDoor
namespace Rows

/-- THE TIED CARD OF 'counterfoillaw21.PlainBodies'. -/
def plainBodiesCard : Claim7 := { stood := { row := plainBodiesRow, standIns := [], harness := (true, "30fbb1568eefc43bcb299ce4ff7abb5f4390b626a6bae66957c01e82ed330adb"), looks := false }, kinds := [], alts := [], laidByText := true, laidKinds := [.data, .data, .data, .data, .pinned], laidTests := true, laidLooks := .later }
def PlainBodiesCardSaid : Prop := Claim7.holds Tryd.pinned (.plain (OpenSpec.ofChange plainBodiesSpec)) plainBodiesCard

/-- THE SECOND FORM's CARD OF 'counterfoillaw21.PlainBodies'. -/
def plainBodiesUptoCard : Claim7 := { stood := { row := plainBodiesUptoRow, standIns := [], harness := (true, "30fbb1568eefc43bcb299ce4ff7abb5f4390b626a6bae66957c01e82ed330adb"), looks := false }, kinds := [], alts := [], laidByText := true, laidKinds := [.data, .data, .data, .data, .pinned], laidTests := true, laidLooks := .later }
def PlainBodiesUptoCardSaid : Prop := Claim7.holds Tryd.pinned (.plain (OpenSpec.upto plainBodiesSpec)) plainBodiesUptoCard
end Rows
end Go.Proofs.YtmnpnpmopbkabaaDoor
