/-
  No cell of these rows narrows 'for every input' (looked for: loops, veiled, ifaces, maps, wideKeys, modest, calm, conditions, laid).
  DERIVED. THE GIVEN ROWS OF THIS SEAT. 3 by the template 'for every input the law returns true; each argument reads behind the call as it read before'; 0 by the template 'total and deterministic' (their statements: YtmnpnpmopbkabaaTotals.lean).
  GIVEN WITH THE SEED: the statements are not yours to turn. If you find one false, say at which input.
  Laid BY PROGRAM, IN A SANDBOX (cutbox-rows.mjs): the forced cells as the released guide's own fill.sh prints them over the translation ac385ec07b9e8d53… (all of the seat's roots in one cut). By AI agents, Wed Nov 11 2026. No macro, syntax, notation, axiom, sorry.
-/
import Derived.Test.YtmnpnpmopbkabaaChecked
import GoSem.Claim
import GoSem.ClaimJoined
import GoSem.ClaimMapViews
import Derived.JoinedTies
import Derived.KernelRfl
namespace Go.Proofs.Ytmnpnpmopbkabaa
/- THE CELL 'sum', in the pinned program and in every row, IS THE sha256 OF THE DUMP (.gsa) THAT YtmnpnpmopbkabaaProg.lean LOADS. Nothing in Lean hashes anything: it is a label: what it is worth is what the hold of that sum in a sandbox is worth. -/
noncomputable def Try.pinned : Pinned := { name := "ytmnpnpmopbkabaa", sum := "ac385ec07b9e8d5382fdec40173e409b1916a062409dd27ab9a2091dbb1be734", checked := Try.checked }
namespace Rows
def none {H : Type} : Left H := { results := [], args := [] }

/-- 'counterfoillaw21.PlainEncodes': WHATEVER THE INPUT: true; the input reads as it did. -/
def plainEncodesSpec : ChangeSpec := { name := "plainEncodes", fn := fun _ => fun
  | [d] => { results := [.lit (.bool true)], args := [d] }
  | _ => none }
def plainEncodesRow : OpenClaim := { program := "ytmnpnpmopbkabaa", sum := "ac385ec07b9e8d5382fdec40173e409b1916a062409dd27ab9a2091dbb1be734", func := "counterfoil/counterfoillaw21.PlainEncodes", spec := "plainEncodes", inPlace := ["internal/abi.NoEscape", "internal/bytealg.MakeNoZero"], apart := false }
def PlainEncodesSaid : Prop := plainEncodesRow.holds Try.pinned (OpenSpec.ofChange plainEncodesSpec)

/-- ITS FALSE NEIGHBOUR: 'it returns false'. Refute it at one input. -/
def plainEncodesWrong : ChangeSpec := { name := "plainEncodes", fn := fun _ => fun
  | [d] => { results := [.lit (.bool false)], args := [d] }
  | _ => none }
def PlainEncodesWrongFalsely : Prop := plainEncodesRow.holds Try.pinned (OpenSpec.ofChange plainEncodesWrong)

/-- 'counterfoillaw21.PlainSplits': WHATEVER THE INPUT: true; the input reads as it did. -/
def plainSplitsSpec : ChangeSpec := { name := "plainSplits", fn := fun _ => fun
  | [d] => { results := [.lit (.bool true)], args := [d] }
  | _ => none }
def plainSplitsRow : OpenClaim := { program := "ytmnpnpmopbkabaa", sum := "ac385ec07b9e8d5382fdec40173e409b1916a062409dd27ab9a2091dbb1be734", func := "counterfoil/counterfoillaw21.PlainSplits", spec := "plainSplits", inPlace := ["internal/abi.NoEscape", "internal/bytealg.MakeNoZero", "internal/bytealg.IndexByteString", "internal/bytealg.IndexString"], named := ["internal/bytealg.MaxLen"], apart := false }
def PlainSplitsSaid : Prop := plainSplitsRow.holds Try.pinned (OpenSpec.ofChange plainSplitsSpec)

/-- ITS FALSE NEIGHBOUR: 'it returns false'. Refute it at one input. -/
def plainSplitsWrong : ChangeSpec := { name := "plainSplits", fn := fun _ => fun
  | [d] => { results := [.lit (.bool false)], args := [d] }
  | _ => none }
def PlainSplitsWrongFalsely : Prop := plainSplitsRow.holds Try.pinned (OpenSpec.ofChange plainSplitsWrong)

/-- 'counterfoillaw21.PlainBack': WHATEVER THE INPUT: true; the input reads as it did. -/
def plainBackSpec : ChangeSpec := { name := "plainBack", fn := fun _ => fun
  | [d] => { results := [.lit (.bool true)], args := [d] }
  | _ => none }
def plainBackRow : OpenClaim := { program := "ytmnpnpmopbkabaa", sum := "ac385ec07b9e8d5382fdec40173e409b1916a062409dd27ab9a2091dbb1be734", func := "counterfoil/counterfoillaw21.PlainBack", spec := "plainBack", inPlace := ["internal/abi.NoEscape", "internal/bytealg.MakeNoZero", "internal/bytealg.IndexByteString", "internal/bytealg.IndexString"], named := ["internal/bytealg.MaxLen"], apart := false }
def PlainBackSaid : Prop := plainBackRow.holds Try.pinned (OpenSpec.ofChange plainBackSpec)

/-- ITS FALSE NEIGHBOUR: 'it returns false'. Refute it at one input. -/
def plainBackWrong : ChangeSpec := { name := "plainBack", fn := fun _ => fun
  | [d] => { results := [.lit (.bool false)], args := [d] }
  | _ => none }
def PlainBackWrongFalsely : Prop := plainBackRow.holds Try.pinned (OpenSpec.ofChange plainBackWrong)

/- THE SECOND FORM. 'bulk': how many values and letters a reading holds, each counted each time it is reached (what is shared counts as often as it is met; a slice's spare places count too). A statement '..UptoSaid' is the law's where the arguments, and the package variables that the reading takes, are together of bulk at most 1048576: NARROWER than '..Said'. Prove '..Said' where nothing that the law and all that it calls make is longer than what came in: it says more and counts as full. Else prove '..UptoSaid'. A law counts once. -/
mutual
def uptoBulk {H : Type} : DataW H → Nat
  | .lit (.string bytes) => bytes.length + 1
  | .lit _ => 1
  | .nil => 1
  | .ptr d => uptoBulk d + 1
  | .slice elems spare => uptoBulkAll elems + uptoBulkAll spare + 1
  | .agg parts => uptoBulkAll parts + 1
  | .iface _ d => uptoBulk d + 1
  | .map entries => uptoBulkEntries entries + 1
  | .held _ => 1
def uptoBulkAll {H : Type} : List (DataW H) → Nat
  | [] => 0
  | d :: r => uptoBulk d + uptoBulkAll r
def uptoBulkEntries {H : Type} : List (Lit × DataW H) → Nat
  | [] => 0
  | x :: r => uptoBulkEntry x + uptoBulkEntries r
def uptoBulkEntry {H : Type} : Lit × DataW H → Nat
  | (.string bytes, d) => bytes.length + uptoBulk d + 1
  | (_, d) => uptoBulk d + 1
 end
def uptoSmall : (H : Type) → List (DataW H) → Bool := fun _ ds => decide (uptoBulkAll ds ≤ 1048576)
def OpenSpec.upto (s : _root_.Go.ChangeSpec) : _root_.Go.OpenSpec := { _root_.Go.OpenSpec.ofChange s with cond := some uptoSmall }

/-- 'counterfoillaw21.PlainEncodes', WHERE WHAT IT READS IS OF BULK AT MOST 1048576: true; the input reads as it did. -/
def plainEncodesUptoRow : OpenClaim := { program := "ytmnpnpmopbkabaa", sum := "ac385ec07b9e8d5382fdec40173e409b1916a062409dd27ab9a2091dbb1be734", func := "counterfoil/counterfoillaw21.PlainEncodes", spec := "plainEncodes", inPlace := ["internal/abi.NoEscape", "internal/bytealg.MakeNoZero"], apart := false, narrowed := true }
def PlainEncodesUptoSaid : Prop := plainEncodesUptoRow.holds Try.pinned (OpenSpec.upto plainEncodesSpec)

/-- 'counterfoillaw21.PlainSplits', WHERE WHAT IT READS IS OF BULK AT MOST 1048576: true; the input reads as it did. -/
def plainSplitsUptoRow : OpenClaim := { program := "ytmnpnpmopbkabaa", sum := "ac385ec07b9e8d5382fdec40173e409b1916a062409dd27ab9a2091dbb1be734", func := "counterfoil/counterfoillaw21.PlainSplits", spec := "plainSplits", inPlace := ["internal/abi.NoEscape", "internal/bytealg.MakeNoZero", "internal/bytealg.IndexByteString", "internal/bytealg.IndexString"], named := ["internal/bytealg.MaxLen"], apart := false, narrowed := true }
def PlainSplitsUptoSaid : Prop := plainSplitsUptoRow.holds Try.pinned (OpenSpec.upto plainSplitsSpec)

/-- 'counterfoillaw21.PlainBack', WHERE WHAT IT READS IS OF BULK AT MOST 1048576: true; the input reads as it did. -/
def plainBackUptoRow : OpenClaim := { program := "ytmnpnpmopbkabaa", sum := "ac385ec07b9e8d5382fdec40173e409b1916a062409dd27ab9a2091dbb1be734", func := "counterfoil/counterfoillaw21.PlainBack", spec := "plainBack", inPlace := ["internal/abi.NoEscape", "internal/bytealg.MakeNoZero", "internal/bytealg.IndexByteString", "internal/bytealg.IndexString"], named := ["internal/bytealg.MaxLen"], apart := false, narrowed := true }
def PlainBackUptoSaid : Prop := plainBackUptoRow.holds Try.pinned (OpenSpec.upto plainBackSpec)

end Rows
end Go.Proofs.Ytmnpnpmopbkabaa
