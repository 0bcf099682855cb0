/-
  DERIVED. GIVEN WITH THE SEED: THE CARDS: each row of YtbnlliiimfjbpaaDoorRows.lean that lists a variable, with what it lists TIED to the program's text (the seventh form; the later family's looks); each row that meets fmt, with fmt's text TOLD by the authors' own Lean function (tested against real Go, not proved from fmt's source: count such statements apart). THE CARD IS WHAT COUNTS. Prove the row's statement (the work); the ties are given (YtbnlliiimfjbpaaDoorTie.lean); close each card by the builder's one call (the guide's Derived/Test/ToyasCard.lean, 'card_holds'). Laid BY PROGRAM, IN A SANDBOX (cutbox-door.mjs). By AI agents, Wed Nov 11 2026. No macro, syntax, notation, axiom, sorry.
-/
import Derived.Test.YtbnlliiimfjbpaaDoorRows
import GoSem.ClaimSeven
namespace Go.Proofs.YtbnlliiimfjbpaaDoor
namespace Rows

/-- THE TIED CARD OF 'counterfoillaw07.MailAddress'. -/
def mailAddressCard : Claim7 := { stood := { row := mailAddressRow, standIns := [], harness := (true, "679d6f4397cc4192f471039d327041594e1078d49e8729be7b9a14680cf2cd63"), looks := false }, kinds := [], alts := [], laidByText := true, laidKinds := [.data, .pinned], laidTests := true, laidLooks := .later }
def MailAddressCardSaid : Prop := Claim7.holds Tryd.pinned (.plain (OpenSpec.ofChange mailAddressSpec)) mailAddressCard

/-- THE TIED CARD OF 'counterfoillaw07.MailLists'. -/
def mailListsCard : Claim7 := { stood := { row := mailListsRow, standIns := [], harness := (true, "679d6f4397cc4192f471039d327041594e1078d49e8729be7b9a14680cf2cd63"), looks := false }, kinds := [], alts := [], laidByText := true, laidKinds := [.data, .pinned], laidTests := true, laidLooks := .later }
def MailListsCardSaid : Prop := Claim7.holds Tryd.pinned (.plain (OpenSpec.ofChange mailListsSpec)) mailListsCard

/-- THE TIED CARD OF 'counterfoillaw07.MailCleans'. -/
def mailCleansCard : Claim7 := { stood := { row := mailCleansRow, standIns := [], harness := (true, "679d6f4397cc4192f471039d327041594e1078d49e8729be7b9a14680cf2cd63"), looks := false }, kinds := [], alts := [], laidByText := true, laidKinds := [.data, .pinned], laidTests := true, laidLooks := .later }
def MailCleansCardSaid : Prop := Claim7.holds Tryd.pinned (.plain (OpenSpec.ofChange mailCleansSpec)) mailCleansCard

/-- THE TIED CARD OF 'counterfoillaw07.MailParts'. -/
def mailPartsCard : Claim7 := { stood := { row := mailPartsRow, standIns := [], harness := (true, "679d6f4397cc4192f471039d327041594e1078d49e8729be7b9a14680cf2cd63"), looks := false }, kinds := [], alts := [], laidByText := true, laidKinds := [.data, .pinned], laidTests := true, laidLooks := .later }
def MailPartsCardSaid : Prop := Claim7.holds Tryd.pinned (.plain (OpenSpec.ofChange mailPartsSpec)) mailPartsCard

/-- THE SECOND FORM's CARD OF 'counterfoillaw07.MailAddress'. -/
def mailAddressUptoCard : Claim7 := { stood := { row := mailAddressUptoRow, standIns := [], harness := (true, "679d6f4397cc4192f471039d327041594e1078d49e8729be7b9a14680cf2cd63"), looks := false }, kinds := [], alts := [], laidByText := true, laidKinds := [.data, .pinned], laidTests := true, laidLooks := .later }
def MailAddressUptoCardSaid : Prop := Claim7.holds Tryd.pinned (.plain (OpenSpec.upto mailAddressSpec)) mailAddressUptoCard

/-- THE SECOND FORM's CARD OF 'counterfoillaw07.MailLists'. -/
def mailListsUptoCard : Claim7 := { stood := { row := mailListsUptoRow, standIns := [], harness := (true, "679d6f4397cc4192f471039d327041594e1078d49e8729be7b9a14680cf2cd63"), looks := false }, kinds := [], alts := [], laidByText := true, laidKinds := [.data, .pinned], laidTests := true, laidLooks := .later }
def MailListsUptoCardSaid : Prop := Claim7.holds Tryd.pinned (.plain (OpenSpec.upto mailListsSpec)) mailListsUptoCard

/-- THE SECOND FORM's CARD OF 'counterfoillaw07.MailCleans'. -/
def mailCleansUptoCard : Claim7 := { stood := { row := mailCleansUptoRow, standIns := [], harness := (true, "679d6f4397cc4192f471039d327041594e1078d49e8729be7b9a14680cf2cd63"), looks := false }, kinds := [], alts := [], laidByText := true, laidKinds := [.data, .pinned], laidTests := true, laidLooks := .later }
def MailCleansUptoCardSaid : Prop := Claim7.holds Tryd.pinned (.plain (OpenSpec.upto mailCleansSpec)) mailCleansUptoCard

/-- THE SECOND FORM's CARD OF 'counterfoillaw07.MailParts'. -/
def mailPartsUptoCard : Claim7 := { stood := { row := mailPartsUptoRow, standIns := [], harness := (true, "679d6f4397cc4192f471039d327041594e1078d49e8729be7b9a14680cf2cd63"), looks := false }, kinds := [], alts := [], laidByText := true, laidKinds := [.data, .pinned], laidTests := true, laidLooks := .later }
def MailPartsUptoCardSaid : Prop := Claim7.holds Tryd.pinned (.plain (OpenSpec.upto mailPartsSpec)) mailPartsUptoCard
end Rows
end Go.Proofs.YtbnlliiimfjbpaaDoor
