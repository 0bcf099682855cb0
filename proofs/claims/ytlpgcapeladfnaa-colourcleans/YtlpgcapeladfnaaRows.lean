/-
  No cell of these rows narrows 'for every input' (looked for: loops, veiled, ifaces, maps, wideKeys, modest, calm, conditions, laid).
  DERIVED. THE GIVEN ROWS OF THIS SEAT. 3 by the template 'for every input the law returns true; each argument reads behind the call as it read before'; 0 by the template 'total and deterministic' (their statements: YtlpgcapeladfnaaTotals.lean).
  GIVEN WITH THE SEED: the statements are not yours to turn. If you find one false, say at which input.
  Laid BY PROGRAM, IN A SANDBOX (cutbox-rows.mjs): the forced cells as the released guide's own fill.sh prints them over the translation 818a72d64d5cf7d1… (all of the seat's roots in one cut). By AI agents, Wed Nov 11 2026. No macro, syntax, notation, axiom, sorry.
-/
import Derived.Test.YtlpgcapeladfnaaChecked
import GoSem.Claim
import GoSem.ClaimJoined
import GoSem.ClaimMapViews
import Derived.JoinedTies
import Derived.KernelRfl
namespace Go.Proofs.Ytlpgcapeladfnaa
/- THE CELL 'sum', in the pinned program and in every row, IS THE sha256 OF THE DUMP (.gsa) THAT YtlpgcapeladfnaaProg.lean LOADS. Nothing in Lean hashes anything: it is a label: what it is worth is what the hold of that sum in a sandbox is worth. -/
noncomputable def Try.pinned : Pinned := { name := "ytlpgcapeladfnaa", sum := "818a72d64d5cf7d187f11098a556601b52189387f0e182aae9dd7fed19f893df", checked := Try.checked }
namespace Rows
def none {H : Type} : Left H := { results := [], args := [] }

/-- 'counterfoillaw06.ColourCleans': WHATEVER THE INPUT: true; the input reads as it did. -/
def colourCleansSpec : ChangeSpec := { name := "colourCleans", fn := fun _ => fun
  | [d] => { results := [.lit (.bool true)], args := [d] }
  | _ => none }
def colourCleansRow : OpenClaim := { program := "ytlpgcapeladfnaa", sum := "818a72d64d5cf7d187f11098a556601b52189387f0e182aae9dd7fed19f893df", func := "counterfoil/counterfoillaw06.ColourCleans", spec := "colourCleans", inPlace := ["internal/bytealg.IndexByteString"], apart := false }
def ColourCleansSaid : Prop := colourCleansRow.holds Try.pinned (OpenSpec.ofChange colourCleansSpec)

/-- ITS FALSE NEIGHBOUR: 'it returns false'. Refute it at one input. -/
def colourCleansWrong : ChangeSpec := { name := "colourCleans", fn := fun _ => fun
  | [d] => { results := [.lit (.bool false)], args := [d] }
  | _ => none }
def ColourCleansWrongFalsely : Prop := colourCleansRow.holds Try.pinned (OpenSpec.ofChange colourCleansWrong)

/-- 'counterfoillaw06.ColourParts': WHATEVER THE INPUT: true; the input reads as it did. -/
def colourPartsSpec : ChangeSpec := { name := "colourParts", fn := fun _ => fun
  | [d] => { results := [.lit (.bool true)], args := [d] }
  | _ => none }
def colourPartsRow : OpenClaim := { program := "ytlpgcapeladfnaa", sum := "818a72d64d5cf7d187f11098a556601b52189387f0e182aae9dd7fed19f893df", func := "counterfoil/counterfoillaw06.ColourParts", spec := "colourParts", inPlace := ["internal/bytealg.IndexByteString"], apart := false }
def ColourPartsSaid : Prop := colourPartsRow.holds Try.pinned (OpenSpec.ofChange colourPartsSpec)

/-- ITS FALSE NEIGHBOUR: 'it returns false'. Refute it at one input. -/
def colourPartsWrong : ChangeSpec := { name := "colourParts", fn := fun _ => fun
  | [d] => { results := [.lit (.bool false)], args := [d] }
  | _ => none }
def ColourPartsWrongFalsely : Prop := colourPartsRow.holds Try.pinned (OpenSpec.ofChange colourPartsWrong)

/-- 'counterfoillaw06.ColourShows': WHATEVER THE INPUT: true; the input reads as it did. -/
def colourShowsSpec : ChangeSpec := { name := "colourShows", fn := fun _ => fun
  | [d1, d2, d3] => { results := [.lit (.bool true)], args := [d1, d2, d3] }
  | _ => none }
def colourShowsRow : OpenClaim := { program := "ytlpgcapeladfnaa", sum := "818a72d64d5cf7d187f11098a556601b52189387f0e182aae9dd7fed19f893df", func := "counterfoil/counterfoillaw06.ColourShows", spec := "colourShows", inPlace := ["internal/bytealg.IndexByteString"], apart := false }
def ColourShowsSaid : Prop := colourShowsRow.holds Try.pinned (OpenSpec.ofChange colourShowsSpec)

/-- ITS FALSE NEIGHBOUR: 'it returns false'. Refute it at one input. -/
def colourShowsWrong : ChangeSpec := { name := "colourShows", fn := fun _ => fun
  | [d1, d2, d3] => { results := [.lit (.bool false)], args := [d1, d2, d3] }
  | _ => none }
def ColourShowsWrongFalsely : Prop := colourShowsRow.holds Try.pinned (OpenSpec.ofChange colourShowsWrong)

/- THE SECOND FORM. 'bulk': how many values and letters a reading holds, each counted each time it is reached (what is shared counts as often as it is met; a slice's spare places count too). A statement '..UptoSaid' is the law's where the arguments, and the package variables that the reading takes, are together of bulk at most 1048576: NARROWER than '..Said'. Prove '..Said' where nothing that the law and all that it calls make is longer than what came in: it says more and counts as full. Else prove '..UptoSaid'. A law counts once. -/
mutual
def uptoBulk {H : Type} : DataW H → Nat
  | .lit (.string bytes) => bytes.length + 1
  | .lit _ => 1
  | .nil => 1
  | .ptr d => uptoBulk d + 1
  | .slice elems spare => uptoBulkAll elems + uptoBulkAll spare + 1
  | .agg parts => uptoBulkAll parts + 1
  | .iface _ d => uptoBulk d + 1
  | .map entries => uptoBulkEntries entries + 1
  | .held _ => 1
def uptoBulkAll {H : Type} : List (DataW H) → Nat
  | [] => 0
  | d :: r => uptoBulk d + uptoBulkAll r
def uptoBulkEntries {H : Type} : List (Lit × DataW H) → Nat
  | [] => 0
  | x :: r => uptoBulkEntry x + uptoBulkEntries r
def uptoBulkEntry {H : Type} : Lit × DataW H → Nat
  | (.string bytes, d) => bytes.length + uptoBulk d + 1
  | (_, d) => uptoBulk d + 1
 end
def uptoSmall : (H : Type) → List (DataW H) → Bool := fun _ ds => decide (uptoBulkAll ds ≤ 1048576)
def OpenSpec.upto (s : _root_.Go.ChangeSpec) : _root_.Go.OpenSpec := { _root_.Go.OpenSpec.ofChange s with cond := some uptoSmall }

/-- 'counterfoillaw06.ColourCleans', WHERE WHAT IT READS IS OF BULK AT MOST 1048576: true; the input reads as it did. -/
def colourCleansUptoRow : OpenClaim := { program := "ytlpgcapeladfnaa", sum := "818a72d64d5cf7d187f11098a556601b52189387f0e182aae9dd7fed19f893df", func := "counterfoil/counterfoillaw06.ColourCleans", spec := "colourCleans", inPlace := ["internal/bytealg.IndexByteString"], apart := false, narrowed := true }
def ColourCleansUptoSaid : Prop := colourCleansUptoRow.holds Try.pinned (OpenSpec.upto colourCleansSpec)

/-- 'counterfoillaw06.ColourParts', WHERE WHAT IT READS IS OF BULK AT MOST 1048576: true; the input reads as it did. -/
def colourPartsUptoRow : OpenClaim := { program := "ytlpgcapeladfnaa", sum := "818a72d64d5cf7d187f11098a556601b52189387f0e182aae9dd7fed19f893df", func := "counterfoil/counterfoillaw06.ColourParts", spec := "colourParts", inPlace := ["internal/bytealg.IndexByteString"], apart := false, narrowed := true }
def ColourPartsUptoSaid : Prop := colourPartsUptoRow.holds Try.pinned (OpenSpec.upto colourPartsSpec)

/-- 'counterfoillaw06.ColourShows', WHERE WHAT IT READS IS OF BULK AT MOST 1048576: true; the input reads as it did. -/
def colourShowsUptoRow : OpenClaim := { program := "ytlpgcapeladfnaa", sum := "818a72d64d5cf7d187f11098a556601b52189387f0e182aae9dd7fed19f893df", func := "counterfoil/counterfoillaw06.ColourShows", spec := "colourShows", inPlace := ["internal/bytealg.IndexByteString"], apart := false, narrowed := true }
def ColourShowsUptoSaid : Prop := colourShowsUptoRow.holds Try.pinned (OpenSpec.upto colourShowsSpec)

end Rows
end Go.Proofs.Ytlpgcapeladfnaa
