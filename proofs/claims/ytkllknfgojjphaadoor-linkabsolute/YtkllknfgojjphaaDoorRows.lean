/-
  NARROWER THAN 'FOR EVERY INPUT', by the rows' own cells (each row's printed sentence says how): LinkSchemes: laid · LinkHosts: laid · LinkFine: laid · LinkAbsolute: laid · LinkCases: laid · LinkBehind: laid.
  DERIVED. THE GIVEN ROWS OF THIS SEAT. 6 by the template 'for every input the law returns true; each argument reads behind the call as it read before'; 0 by the template 'total and deterministic' (their statements: YtkllknfgojjphaaDoorTotals.lean).
  GIVEN WITH THE SEED: the statements are not yours to turn. If you find one false, say at which input.
  Laid BY PROGRAM, IN A SANDBOX (cutbox-rows.mjs): the forced cells as the released guide's own fill.sh prints them over the translation e4336c7de753c2c5… (all of the seat's roots in one cut). By AI agents, Wed Nov 11 2026. No macro, syntax, notation, axiom, sorry.
-/
import Derived.Test.YtkllknfgojjphaaDoorChecked
import GoSem.PinnedTables
import GoSem.Claim
import GoSem.ClaimJoined
import GoSem.ClaimMapViews
import Derived.JoinedTies
import Derived.KernelRfl
namespace Go.Proofs.YtkllknfgojjphaaDoor
/- THE CELL 'sum', in the pinned program and in every row, IS THE sha256 OF THE DUMP (.gsa) THAT YtkllknfgojjphaaDoorProg.lean LOADS. Nothing in Lean hashes anything: it is a label: what it is worth is what the hold of that sum in a sandbox is worth. -/
noncomputable def Tryd.pinned : Pinned := { name := "ytkllknfgojjphaadoor", sum := "e4336c7de753c2c55134e221299d3d3a8448c354973c343140bb87737428eb1d", checked := Tryd.checked }
namespace Rows
def none {H : Type} : Left H := { results := [], args := [] }

/- WHAT THE LISTED PACKAGE-LEVEL VARIABLES READ AS WHEN THE CALL BEGINS. Each datum BY PROGRAM (the guide's laid-datum.mjs) off the statement by which the dump's own 'gosem.cut.vars' lays the variable. In a bare row this is a premise. The card (YtkllknfgojjphaaDoorCards.lean) ties it to the program's text. -/
def laid_unicode_utf8_acceptRanges {H : Type} : DataW H := .agg [.agg [.lit (.int .u8 128), .lit (.int .u8 191)], .agg [.lit (.int .u8 160), .lit (.int .u8 191)], .agg [.lit (.int .u8 128), .lit (.int .u8 159)], .agg [.lit (.int .u8 144), .lit (.int .u8 191)], .agg [.lit (.int .u8 128), .lit (.int .u8 143)], .agg [.lit (.int .u8 0), .lit (.int .u8 0)], .agg [.lit (.int .u8 0), .lit (.int .u8 0)], .agg [.lit (.int .u8 0), .lit (.int .u8 0)], .agg [.lit (.int .u8 0), .lit (.int .u8 0)], .agg [.lit (.int .u8 0), .lit (.int .u8 0)], .agg [.lit (.int .u8 0), .lit (.int .u8 0)], .agg [.lit (.int .u8 0), .lit (.int .u8 0)], .agg [.lit (.int .u8 0), .lit (.int .u8 0)], .agg [.lit (.int .u8 0), .lit (.int .u8 0)], .agg [.lit (.int .u8 0), .lit (.int .u8 0)], .agg [.lit (.int .u8 0), .lit (.int .u8 0)]]
/-- One of Go's own tables, pinned by name: the form's constant. -/
def laid_unicode_utf8_first : DataW Unit := Go.Pinned.utf8First

/-- 'counterfoillaw08.LinkSchemes': WHATEVER THE INPUT: true; the input reads as it did. -/
def linkSchemesSpec : ChangeSpec := { name := "linkSchemes", fn := fun _ => fun
  | [d] => { results := [.lit (.bool true)], args := [d] }
  | _ => none }
def linkSchemesRow : OpenClaim := { program := "ytkllknfgojjphaadoor", sum := "e4336c7de753c2c55134e221299d3d3a8448c354973c343140bb87737428eb1d", func := "counterfoil/counterfoillaw08.LinkSchemes", spec := "linkSchemes", inPlace := ["internal/bytealg.IndexByteString", "internal/bytealg.IndexString", "internal/bytealg.CountString"], named := ["internal/bytealg.MaxLen", "unicode/utf8.first", "unicode/utf8.acceptRanges"], apart := false, laid := [("unicode/utf8.acceptRanges", laid_unicode_utf8_acceptRanges), ("unicode/utf8.first", laid_unicode_utf8_first)] }
def LinkSchemesSaid : Prop := linkSchemesRow.holds Tryd.pinned (OpenSpec.ofChange linkSchemesSpec)

/-- ITS FALSE NEIGHBOUR: 'it returns false'. Refute it at one input. -/
def linkSchemesWrong : ChangeSpec := { name := "linkSchemes", fn := fun _ => fun
  | [d] => { results := [.lit (.bool false)], args := [d] }
  | _ => none }
def LinkSchemesWrongFalsely : Prop := linkSchemesRow.holds Tryd.pinned (OpenSpec.ofChange linkSchemesWrong)

/-- 'counterfoillaw08.LinkHosts': WHATEVER THE INPUT: true; the input reads as it did. -/
def linkHostsSpec : ChangeSpec := { name := "linkHosts", fn := fun _ => fun
  | [d] => { results := [.lit (.bool true)], args := [d] }
  | _ => none }
def linkHostsRow : OpenClaim := { program := "ytkllknfgojjphaadoor", sum := "e4336c7de753c2c55134e221299d3d3a8448c354973c343140bb87737428eb1d", func := "counterfoil/counterfoillaw08.LinkHosts", spec := "linkHosts", inPlace := ["internal/bytealg.CountString", "internal/bytealg.IndexByteString", "internal/bytealg.IndexString"], named := ["unicode/utf8.first", "unicode/utf8.acceptRanges", "internal/bytealg.MaxLen"], apart := false, laid := [("unicode/utf8.acceptRanges", laid_unicode_utf8_acceptRanges), ("unicode/utf8.first", laid_unicode_utf8_first)] }
def LinkHostsSaid : Prop := linkHostsRow.holds Tryd.pinned (OpenSpec.ofChange linkHostsSpec)

/-- ITS FALSE NEIGHBOUR: 'it returns false'. Refute it at one input. -/
def linkHostsWrong : ChangeSpec := { name := "linkHosts", fn := fun _ => fun
  | [d] => { results := [.lit (.bool false)], args := [d] }
  | _ => none }
def LinkHostsWrongFalsely : Prop := linkHostsRow.holds Tryd.pinned (OpenSpec.ofChange linkHostsWrong)

/-- 'counterfoillaw08.LinkFine': WHATEVER THE INPUT: true; the input reads as it did. -/
def linkFineSpec : ChangeSpec := { name := "linkFine", fn := fun _ => fun
  | [d1, d2] => { results := [.lit (.bool true)], args := [d1, d2] }
  | _ => none }
def linkFineRow : OpenClaim := { program := "ytkllknfgojjphaadoor", sum := "e4336c7de753c2c55134e221299d3d3a8448c354973c343140bb87737428eb1d", func := "counterfoil/counterfoillaw08.LinkFine", spec := "linkFine", inPlace := ["internal/bytealg.IndexByteString"], named := ["unicode/utf8.first", "unicode/utf8.acceptRanges"], apart := false, laid := [("unicode/utf8.acceptRanges", laid_unicode_utf8_acceptRanges), ("unicode/utf8.first", laid_unicode_utf8_first)] }
def LinkFineSaid : Prop := linkFineRow.holds Tryd.pinned (OpenSpec.ofChange linkFineSpec)

/-- ITS FALSE NEIGHBOUR: 'it returns false'. Refute it at one input. -/
def linkFineWrong : ChangeSpec := { name := "linkFine", fn := fun _ => fun
  | [d1, d2] => { results := [.lit (.bool false)], args := [d1, d2] }
  | _ => none }
def LinkFineWrongFalsely : Prop := linkFineRow.holds Tryd.pinned (OpenSpec.ofChange linkFineWrong)

/-- 'counterfoillaw08.LinkAbsolute': WHATEVER THE INPUT: true; the input reads as it did. -/
def linkAbsoluteSpec : ChangeSpec := { name := "linkAbsolute", fn := fun _ => fun
  | [d] => { results := [.lit (.bool true)], args := [d] }
  | _ => none }
def linkAbsoluteRow : OpenClaim := { program := "ytkllknfgojjphaadoor", sum := "e4336c7de753c2c55134e221299d3d3a8448c354973c343140bb87737428eb1d", func := "counterfoil/counterfoillaw08.LinkAbsolute", spec := "linkAbsolute", inPlace := ["internal/bytealg.IndexByteString", "internal/bytealg.IndexString", "internal/bytealg.CountString"], named := ["internal/bytealg.MaxLen", "unicode/utf8.first", "unicode/utf8.acceptRanges"], apart := false, laid := [("unicode/utf8.acceptRanges", laid_unicode_utf8_acceptRanges), ("unicode/utf8.first", laid_unicode_utf8_first)] }
def LinkAbsoluteSaid : Prop := linkAbsoluteRow.holds Tryd.pinned (OpenSpec.ofChange linkAbsoluteSpec)

/-- ITS FALSE NEIGHBOUR: 'it returns false'. Refute it at one input. -/
def linkAbsoluteWrong : ChangeSpec := { name := "linkAbsolute", fn := fun _ => fun
  | [d] => { results := [.lit (.bool false)], args := [d] }
  | _ => none }
def LinkAbsoluteWrongFalsely : Prop := linkAbsoluteRow.holds Tryd.pinned (OpenSpec.ofChange linkAbsoluteWrong)

/-- 'counterfoillaw08.LinkCases': WHATEVER THE INPUT: true; the input reads as it did. -/
def linkCasesSpec : ChangeSpec := { name := "linkCases", fn := fun _ => fun
  | [d] => { results := [.lit (.bool true)], args := [d] }
  | _ => none }
def linkCasesRow : OpenClaim := { program := "ytkllknfgojjphaadoor", sum := "e4336c7de753c2c55134e221299d3d3a8448c354973c343140bb87737428eb1d", func := "counterfoil/counterfoillaw08.LinkCases", spec := "linkCases", inPlace := ["internal/bytealg.IndexByteString", "internal/bytealg.IndexString", "internal/bytealg.CountString"], named := ["internal/bytealg.MaxLen", "unicode/utf8.first", "unicode/utf8.acceptRanges"], apart := false, laid := [("unicode/utf8.acceptRanges", laid_unicode_utf8_acceptRanges), ("unicode/utf8.first", laid_unicode_utf8_first)] }
def LinkCasesSaid : Prop := linkCasesRow.holds Tryd.pinned (OpenSpec.ofChange linkCasesSpec)

/-- ITS FALSE NEIGHBOUR: 'it returns false'. Refute it at one input. -/
def linkCasesWrong : ChangeSpec := { name := "linkCases", fn := fun _ => fun
  | [d] => { results := [.lit (.bool false)], args := [d] }
  | _ => none }
def LinkCasesWrongFalsely : Prop := linkCasesRow.holds Tryd.pinned (OpenSpec.ofChange linkCasesWrong)

/-- 'counterfoillaw08.LinkBehind': WHATEVER THE INPUT: true; the input reads as it did. -/
def linkBehindSpec : ChangeSpec := { name := "linkBehind", fn := fun _ => fun
  | [d1, d2] => { results := [.lit (.bool true)], args := [d1, d2] }
  | _ => none }
def linkBehindRow : OpenClaim := { program := "ytkllknfgojjphaadoor", sum := "e4336c7de753c2c55134e221299d3d3a8448c354973c343140bb87737428eb1d", func := "counterfoil/counterfoillaw08.LinkBehind", spec := "linkBehind", inPlace := ["internal/bytealg.IndexByteString", "internal/bytealg.IndexString", "internal/bytealg.CountString"], named := ["internal/bytealg.MaxLen", "unicode/utf8.first", "unicode/utf8.acceptRanges"], apart := false, laid := [("unicode/utf8.acceptRanges", laid_unicode_utf8_acceptRanges), ("unicode/utf8.first", laid_unicode_utf8_first)] }
def LinkBehindSaid : Prop := linkBehindRow.holds Tryd.pinned (OpenSpec.ofChange linkBehindSpec)

/-- ITS FALSE NEIGHBOUR: 'it returns false'. Refute it at one input. -/
def linkBehindWrong : ChangeSpec := { name := "linkBehind", fn := fun _ => fun
  | [d1, d2] => { results := [.lit (.bool false)], args := [d1, d2] }
  | _ => none }
def LinkBehindWrongFalsely : Prop := linkBehindRow.holds Tryd.pinned (OpenSpec.ofChange linkBehindWrong)

/- THE SECOND FORM. 'bulk': how many values and letters a reading holds, each counted each time it is reached (what is shared counts as often as it is met; a slice's spare places count too). A statement '..UptoSaid' is the law's where the arguments, and the package variables that the reading takes, are together of bulk at most 1048576: NARROWER than '..Said'. Prove '..Said' where nothing that the law and all that it calls make is longer than what came in: it says more and counts as full. Else prove '..UptoSaid'. A law counts once. -/
mutual
def uptoBulk {H : Type} : DataW H → Nat
  | .lit (.string bytes) => bytes.length + 1
  | .lit _ => 1
  | .nil => 1
  | .ptr d => uptoBulk d + 1
  | .slice elems spare => uptoBulkAll elems + uptoBulkAll spare + 1
  | .agg parts => uptoBulkAll parts + 1
  | .iface _ d => uptoBulk d + 1
  | .map entries => uptoBulkEntries entries + 1
  | .held _ => 1
def uptoBulkAll {H : Type} : List (DataW H) → Nat
  | [] => 0
  | d :: r => uptoBulk d + uptoBulkAll r
def uptoBulkEntries {H : Type} : List (Lit × DataW H) → Nat
  | [] => 0
  | x :: r => uptoBulkEntry x + uptoBulkEntries r
def uptoBulkEntry {H : Type} : Lit × DataW H → Nat
  | (.string bytes, d) => bytes.length + uptoBulk d + 1
  | (_, d) => uptoBulk d + 1
 end
def uptoSmall : (H : Type) → List (DataW H) → Bool := fun _ ds => decide (uptoBulkAll ds ≤ 1048576)
def OpenSpec.upto (s : _root_.Go.ChangeSpec) : _root_.Go.OpenSpec := { _root_.Go.OpenSpec.ofChange s with cond := some uptoSmall }

/-- 'counterfoillaw08.LinkSchemes', WHERE WHAT IT READS IS OF BULK AT MOST 1048576: true; the input reads as it did. -/
def linkSchemesUptoRow : OpenClaim := { program := "ytkllknfgojjphaadoor", sum := "e4336c7de753c2c55134e221299d3d3a8448c354973c343140bb87737428eb1d", func := "counterfoil/counterfoillaw08.LinkSchemes", spec := "linkSchemes", inPlace := ["internal/bytealg.IndexByteString", "internal/bytealg.IndexString", "internal/bytealg.CountString"], named := ["internal/bytealg.MaxLen", "unicode/utf8.first", "unicode/utf8.acceptRanges"], apart := false, laid := [("unicode/utf8.acceptRanges", laid_unicode_utf8_acceptRanges), ("unicode/utf8.first", laid_unicode_utf8_first)], narrowed := true }
def LinkSchemesUptoSaid : Prop := linkSchemesUptoRow.holds Tryd.pinned (OpenSpec.upto linkSchemesSpec)

/-- 'counterfoillaw08.LinkHosts', WHERE WHAT IT READS IS OF BULK AT MOST 1048576: true; the input reads as it did. -/
def linkHostsUptoRow : OpenClaim := { program := "ytkllknfgojjphaadoor", sum := "e4336c7de753c2c55134e221299d3d3a8448c354973c343140bb87737428eb1d", func := "counterfoil/counterfoillaw08.LinkHosts", spec := "linkHosts", inPlace := ["internal/bytealg.CountString", "internal/bytealg.IndexByteString", "internal/bytealg.IndexString"], named := ["unicode/utf8.first", "unicode/utf8.acceptRanges", "internal/bytealg.MaxLen"], apart := false, laid := [("unicode/utf8.acceptRanges", laid_unicode_utf8_acceptRanges), ("unicode/utf8.first", laid_unicode_utf8_first)], narrowed := true }
def LinkHostsUptoSaid : Prop := linkHostsUptoRow.holds Tryd.pinned (OpenSpec.upto linkHostsSpec)

/-- 'counterfoillaw08.LinkFine', WHERE WHAT IT READS IS OF BULK AT MOST 1048576: true; the input reads as it did. -/
def linkFineUptoRow : OpenClaim := { program := "ytkllknfgojjphaadoor", sum := "e4336c7de753c2c55134e221299d3d3a8448c354973c343140bb87737428eb1d", func := "counterfoil/counterfoillaw08.LinkFine", spec := "linkFine", inPlace := ["internal/bytealg.IndexByteString"], named := ["unicode/utf8.first", "unicode/utf8.acceptRanges"], apart := false, laid := [("unicode/utf8.acceptRanges", laid_unicode_utf8_acceptRanges), ("unicode/utf8.first", laid_unicode_utf8_first)], narrowed := true }
def LinkFineUptoSaid : Prop := linkFineUptoRow.holds Tryd.pinned (OpenSpec.upto linkFineSpec)

/-- 'counterfoillaw08.LinkAbsolute', WHERE WHAT IT READS IS OF BULK AT MOST 1048576: true; the input reads as it did. -/
def linkAbsoluteUptoRow : OpenClaim := { program := "ytkllknfgojjphaadoor", sum := "e4336c7de753c2c55134e221299d3d3a8448c354973c343140bb87737428eb1d", func := "counterfoil/counterfoillaw08.LinkAbsolute", spec := "linkAbsolute", inPlace := ["internal/bytealg.IndexByteString", "internal/bytealg.IndexString", "internal/bytealg.CountString"], named := ["internal/bytealg.MaxLen", "unicode/utf8.first", "unicode/utf8.acceptRanges"], apart := false, laid := [("unicode/utf8.acceptRanges", laid_unicode_utf8_acceptRanges), ("unicode/utf8.first", laid_unicode_utf8_first)], narrowed := true }
def LinkAbsoluteUptoSaid : Prop := linkAbsoluteUptoRow.holds Tryd.pinned (OpenSpec.upto linkAbsoluteSpec)

/-- 'counterfoillaw08.LinkCases', WHERE WHAT IT READS IS OF BULK AT MOST 1048576: true; the input reads as it did. -/
def linkCasesUptoRow : OpenClaim := { program := "ytkllknfgojjphaadoor", sum := "e4336c7de753c2c55134e221299d3d3a8448c354973c343140bb87737428eb1d", func := "counterfoil/counterfoillaw08.LinkCases", spec := "linkCases", inPlace := ["internal/bytealg.IndexByteString", "internal/bytealg.IndexString", "internal/bytealg.CountString"], named := ["internal/bytealg.MaxLen", "unicode/utf8.first", "unicode/utf8.acceptRanges"], apart := false, laid := [("unicode/utf8.acceptRanges", laid_unicode_utf8_acceptRanges), ("unicode/utf8.first", laid_unicode_utf8_first)], narrowed := true }
def LinkCasesUptoSaid : Prop := linkCasesUptoRow.holds Tryd.pinned (OpenSpec.upto linkCasesSpec)

/-- 'counterfoillaw08.LinkBehind', WHERE WHAT IT READS IS OF BULK AT MOST 1048576: true; the input reads as it did. -/
def linkBehindUptoRow : OpenClaim := { program := "ytkllknfgojjphaadoor", sum := "e4336c7de753c2c55134e221299d3d3a8448c354973c343140bb87737428eb1d", func := "counterfoil/counterfoillaw08.LinkBehind", spec := "linkBehind", inPlace := ["internal/bytealg.IndexByteString", "internal/bytealg.IndexString", "internal/bytealg.CountString"], named := ["internal/bytealg.MaxLen", "unicode/utf8.first", "unicode/utf8.acceptRanges"], apart := false, laid := [("unicode/utf8.acceptRanges", laid_unicode_utf8_acceptRanges), ("unicode/utf8.first", laid_unicode_utf8_first)], narrowed := true }
def LinkBehindUptoSaid : Prop := linkBehindUptoRow.holds Tryd.pinned (OpenSpec.upto linkBehindSpec)

end Rows
end Go.Proofs.YtkllknfgojjphaaDoor
