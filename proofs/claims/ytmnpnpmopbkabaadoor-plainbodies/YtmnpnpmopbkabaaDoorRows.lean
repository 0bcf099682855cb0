/-
  NARROWER THAN 'FOR EVERY INPUT', by the rows' own cells (each row's printed sentence says how): PlainBodies: laid.
  DERIVED. THE GIVEN ROWS OF THIS SEAT. 1 by the template 'for every input the law returns true; each argument reads behind the call as it read before'; 0 by the template 'total and deterministic' (their statements: YtmnpnpmopbkabaaDoorTotals.lean).
  GIVEN WITH THE SEED: the statements are not yours to turn. If you find one false, say at which input.
  Laid BY PROGRAM, IN A SANDBOX (cutbox-rows.mjs): the forced cells as the released guide's own fill.sh prints them over the translation 18563d8f767e43ba… (all of the seat's roots in one cut). By AI agents, Wed Nov 11 2026. No macro, syntax, notation, axiom, sorry.
-/
import Derived.Test.YtmnpnpmopbkabaaDoorChecked
import GoSem.PinnedTables
import GoSem.Claim
import GoSem.ClaimJoined
import GoSem.ClaimMapViews
import Derived.JoinedTies
import Derived.KernelRfl
namespace Go.Proofs.YtmnpnpmopbkabaaDoor
/- THE CELL 'sum', in the pinned program and in every row, IS THE sha256 OF THE DUMP (.gsa) THAT YtmnpnpmopbkabaaDoorProg.lean LOADS. Nothing in Lean hashes anything: it is a label: what it is worth is what the hold of that sum in a sandbox is worth. -/
noncomputable def Tryd.pinned : Pinned := { name := "ytmnpnpmopbkabaadoor", sum := "18563d8f767e43baa9b454a14c3aecdadc9c68a4cb8949b7140ca9f55aae7420", checked := Tryd.checked }
namespace Rows
def none {H : Type} : Left H := { results := [], args := [] }

/- WHAT THE LISTED PACKAGE-LEVEL VARIABLES READ AS WHEN THE CALL BEGINS. Each datum BY PROGRAM (the guide's laid-datum.mjs) off the statement by which the dump's own 'gosem.cut.vars' lays the variable. In a bare row this is a premise. The card (YtmnpnpmopbkabaaDoorCards.lean) ties it to the program's text. -/
def laid_unicode_utf8_acceptRanges {H : Type} : DataW H := .agg [.agg [.lit (.int .u8 128), .lit (.int .u8 191)], .agg [.lit (.int .u8 160), .lit (.int .u8 191)], .agg [.lit (.int .u8 128), .lit (.int .u8 159)], .agg [.lit (.int .u8 144), .lit (.int .u8 191)], .agg [.lit (.int .u8 128), .lit (.int .u8 143)], .agg [.lit (.int .u8 0), .lit (.int .u8 0)], .agg [.lit (.int .u8 0), .lit (.int .u8 0)], .agg [.lit (.int .u8 0), .lit (.int .u8 0)], .agg [.lit (.int .u8 0), .lit (.int .u8 0)], .agg [.lit (.int .u8 0), .lit (.int .u8 0)], .agg [.lit (.int .u8 0), .lit (.int .u8 0)], .agg [.lit (.int .u8 0), .lit (.int .u8 0)], .agg [.lit (.int .u8 0), .lit (.int .u8 0)], .agg [.lit (.int .u8 0), .lit (.int .u8 0)], .agg [.lit (.int .u8 0), .lit (.int .u8 0)], .agg [.lit (.int .u8 0), .lit (.int .u8 0)]]
def laid_counterfoil_escape_signs {H : Type} : DataW H := .agg [.lit (.string []), .lit (.string [32, 34, 60, 62, 96]), .lit (.string [32, 34, 35, 60, 62]), .lit (.string [32, 34, 35, 60, 62, 39]), .lit (.string [32, 34, 35, 60, 62, 63, 94, 123, 125, 96]), .lit (.string [32, 34, 35, 60, 62, 63, 94, 123, 125, 96, 47, 58, 59, 61, 64, 91, 92, 93, 124]), .lit (.string [32, 34, 35, 60, 62, 63, 94, 123, 125, 96, 47, 58, 59, 61, 64, 91, 92, 93, 124, 36, 37, 38, 43, 44])]
def laid_counterfoil_escape_digits {H : Type} : DataW H := .agg [.lit (.int .u8 48), .lit (.int .u8 49), .lit (.int .u8 50), .lit (.int .u8 51), .lit (.int .u8 52), .lit (.int .u8 53), .lit (.int .u8 54), .lit (.int .u8 55), .lit (.int .u8 56), .lit (.int .u8 57), .lit (.int .u8 65), .lit (.int .u8 66), .lit (.int .u8 67), .lit (.int .u8 68), .lit (.int .u8 69), .lit (.int .u8 70)]
def laid_counterfoil_parts_signs {H : Type} : DataW H := .agg [.agg [.lit (.string [10]), .lit (.string [37, 48, 65])], .agg [.lit (.string [13]), .lit (.string [37, 48, 68])], .agg [.lit (.string [34]), .lit (.string [37, 50, 50])]]
/-- One of Go's own tables, pinned by name: the form's constant. -/
def laid_unicode_utf8_first : DataW Unit := Go.Pinned.utf8First

/-- 'counterfoillaw21.PlainBodies': WHATEVER THE INPUT: true; the input reads as it did. -/
def plainBodiesSpec : ChangeSpec := { name := "plainBodies", fn := fun _ => fun
  | [d1, d2, d3] => { results := [.lit (.bool true)], args := [d1, d2, d3] }
  | _ => none }
def plainBodiesRow : OpenClaim := { program := "ytmnpnpmopbkabaadoor", sum := "18563d8f767e43baa9b454a14c3aecdadc9c68a4cb8949b7140ca9f55aae7420", func := "counterfoil/counterfoillaw21.PlainBodies", spec := "plainBodies", inPlace := ["internal/abi.NoEscape", "internal/bytealg.MakeNoZero", "internal/bytealg.IndexByteString", "internal/bytealg.CountString", "internal/bytealg.IndexString"], unfollowed := true, recurses := true, named := ["counterfoil/escape.signs", "counterfoil/escape.digits", "internal/bytealg.MaxLen", "unicode/utf8.first", "unicode/utf8.acceptRanges", "counterfoil/parts.signs"], apart := false, laid := [("unicode/utf8.acceptRanges", laid_unicode_utf8_acceptRanges), ("counterfoil/escape.signs", laid_counterfoil_escape_signs), ("counterfoil/escape.digits", laid_counterfoil_escape_digits), ("counterfoil/parts.signs", laid_counterfoil_parts_signs), ("unicode/utf8.first", laid_unicode_utf8_first)] }
def PlainBodiesSaid : Prop := plainBodiesRow.holds Tryd.pinned (OpenSpec.ofChange plainBodiesSpec)

/-- ITS FALSE NEIGHBOUR: 'it returns false'. Refute it at one input. -/
def plainBodiesWrong : ChangeSpec := { name := "plainBodies", fn := fun _ => fun
  | [d1, d2, d3] => { results := [.lit (.bool false)], args := [d1, d2, d3] }
  | _ => none }
def PlainBodiesWrongFalsely : Prop := plainBodiesRow.holds Tryd.pinned (OpenSpec.ofChange plainBodiesWrong)

/- THE SECOND FORM. 'bulk': how many values and letters a reading holds, each counted each time it is reached (what is shared counts as often as it is met; a slice's spare places count too). A statement '..UptoSaid' is the law's where the arguments, and the package variables that the reading takes, are together of bulk at most 1048576: NARROWER than '..Said'. Prove '..Said' where nothing that the law and all that it calls make is longer than what came in: it says more and counts as full. Else prove '..UptoSaid'. A law counts once. -/
mutual
def uptoBulk {H : Type} : DataW H → Nat
  | .lit (.string bytes) => bytes.length + 1
  | .lit _ => 1
  | .nil => 1
  | .ptr d => uptoBulk d + 1
  | .slice elems spare => uptoBulkAll elems + uptoBulkAll spare + 1
  | .agg parts => uptoBulkAll parts + 1
  | .iface _ d => uptoBulk d + 1
  | .map entries => uptoBulkEntries entries + 1
  | .held _ => 1
def uptoBulkAll {H : Type} : List (DataW H) → Nat
  | [] => 0
  | d :: r => uptoBulk d + uptoBulkAll r
def uptoBulkEntries {H : Type} : List (Lit × DataW H) → Nat
  | [] => 0
  | x :: r => uptoBulkEntry x + uptoBulkEntries r
def uptoBulkEntry {H : Type} : Lit × DataW H → Nat
  | (.string bytes, d) => bytes.length + uptoBulk d + 1
  | (_, d) => uptoBulk d + 1
 end
def uptoSmall : (H : Type) → List (DataW H) → Bool := fun _ ds => decide (uptoBulkAll ds ≤ 1048576)
def OpenSpec.upto (s : _root_.Go.ChangeSpec) : _root_.Go.OpenSpec := { _root_.Go.OpenSpec.ofChange s with cond := some uptoSmall }

/-- 'counterfoillaw21.PlainBodies', WHERE WHAT IT READS IS OF BULK AT MOST 1048576: true; the input reads as it did. -/
def plainBodiesUptoRow : OpenClaim := { program := "ytmnpnpmopbkabaadoor", sum := "18563d8f767e43baa9b454a14c3aecdadc9c68a4cb8949b7140ca9f55aae7420", func := "counterfoil/counterfoillaw21.PlainBodies", spec := "plainBodies", inPlace := ["internal/abi.NoEscape", "internal/bytealg.MakeNoZero", "internal/bytealg.IndexByteString", "internal/bytealg.CountString", "internal/bytealg.IndexString"], unfollowed := true, recurses := true, named := ["counterfoil/escape.signs", "counterfoil/escape.digits", "internal/bytealg.MaxLen", "unicode/utf8.first", "unicode/utf8.acceptRanges", "counterfoil/parts.signs"], apart := false, laid := [("unicode/utf8.acceptRanges", laid_unicode_utf8_acceptRanges), ("counterfoil/escape.signs", laid_counterfoil_escape_signs), ("counterfoil/escape.digits", laid_counterfoil_escape_digits), ("counterfoil/parts.signs", laid_counterfoil_parts_signs), ("unicode/utf8.first", laid_unicode_utf8_first)], narrowed := true }
def PlainBodiesUptoSaid : Prop := plainBodiesUptoRow.holds Tryd.pinned (OpenSpec.upto plainBodiesSpec)

end Rows
end Go.Proofs.YtmnpnpmopbkabaaDoor
