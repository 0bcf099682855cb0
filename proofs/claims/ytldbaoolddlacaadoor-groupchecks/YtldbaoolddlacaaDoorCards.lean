/-
  DERIVED. GIVEN WITH THE SEED: THE CARDS: each row of YtldbaoolddlacaaDoorRows.lean that lists a variable, with what it lists TIED to the program's text (the seventh form; the later family's looks); each row that meets fmt, with fmt's text TOLD by the authors' own Lean function (tested against real Go, not proved from fmt's source: count such statements apart). THE CARD IS WHAT COUNTS. Prove the row's statement (the work); the ties are given (YtldbaoolddlacaaDoorTie.lean); close each card by the builder's one call (the guide's Derived/Test/ToyasCard.lean, 'card_holds'). Laid BY PROGRAM, IN A SANDBOX (cutbox-door.mjs). By AI agents, Wed Nov 11 2026. No macro, syntax, notation, axiom, sorry.
-/
import Derived.Test.YtldbaoolddlacaaDoorRows
import GoSem.ClaimSeven
namespace Go.Proofs.YtldbaoolddlacaaDoor
namespace Rows

/-- THE TIED CARD OF 'counterfoillaw17.GroupMembers'. -/
def groupMembersCard : Claim7 := { stood := { row := groupMembersRow, standIns := [], harness := (true, "de5dfc89ecf3fc5d61ecc75d1ac54ecc3c69e7223a98d18d7dd1eb3c17abdf89"), looks := false }, kinds := [], alts := [], laidByText := true, laidKinds := [.data, .data], laidTests := true, laidLooks := .later }
def GroupMembersCardSaid : Prop := Claim7.holds Tryd.pinned (.plain (OpenSpec.ofChange groupMembersSpec)) groupMembersCard

/-- THE TIED CARD OF 'counterfoillaw17.GroupChecks'. -/
def groupChecksCard : Claim7 := { stood := { row := groupChecksRow, standIns := [], harness := (true, "de5dfc89ecf3fc5d61ecc75d1ac54ecc3c69e7223a98d18d7dd1eb3c17abdf89"), looks := false }, kinds := [], alts := [], laidByText := true, laidKinds := [.data, .data], laidTests := true, laidLooks := .later }
def GroupChecksCardSaid : Prop := Claim7.holds Tryd.pinned (.plain (OpenSpec.ofChange groupChecksSpec)) groupChecksCard

/-- THE SECOND FORM's CARD OF 'counterfoillaw17.GroupMembers'. -/
def groupMembersUptoCard : Claim7 := { stood := { row := groupMembersUptoRow, standIns := [], harness := (true, "de5dfc89ecf3fc5d61ecc75d1ac54ecc3c69e7223a98d18d7dd1eb3c17abdf89"), looks := false }, kinds := [], alts := [], laidByText := true, laidKinds := [.data, .data], laidTests := true, laidLooks := .later }
def GroupMembersUptoCardSaid : Prop := Claim7.holds Tryd.pinned (.plain (OpenSpec.upto groupMembersSpec)) groupMembersUptoCard

/-- THE SECOND FORM's CARD OF 'counterfoillaw17.GroupChecks'. -/
def groupChecksUptoCard : Claim7 := { stood := { row := groupChecksUptoRow, standIns := [], harness := (true, "de5dfc89ecf3fc5d61ecc75d1ac54ecc3c69e7223a98d18d7dd1eb3c17abdf89"), looks := false }, kinds := [], alts := [], laidByText := true, laidKinds := [.data, .data], laidTests := true, laidLooks := .later }
def GroupChecksUptoCardSaid : Prop := Claim7.holds Tryd.pinned (.plain (OpenSpec.upto groupChecksSpec)) groupChecksUptoCard
end Rows
end Go.Proofs.YtldbaoolddlacaaDoor
