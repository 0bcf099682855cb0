/-
  NARROWER THAN 'FOR EVERY INPUT', by the rows' own cells (each row's printed sentence says how): SubmitMakes: laid · SubmitBack: laid · SubmitEnters: laid.
  DERIVED. THE GIVEN ROWS OF THIS SEAT. 3 by the template 'for every input the law returns true; each argument reads behind the call as it read before'; 0 by the template 'total and deterministic' (their statements: YtnojgejcmaajmaaGreatDoorTotals.lean).
  GIVEN WITH THE SEED: the statements are not yours to turn. If you find one false, say at which input.
  Laid BY PROGRAM, IN A SANDBOX (cutbox-rows.mjs): the forced cells as the released guide's own fill.sh prints them over the translation 8ce9302445eb113b… (all of the seat's roots in one cut). By AI agents, Wed Nov 11 2026. No macro, syntax, notation, axiom, sorry.
-/
import Derived.Test.YtnojgejcmaajmaaGreatDoorChecked
import GoSem.PinnedTables
import GoSem.Claim
import GoSem.ClaimJoined
import GoSem.ClaimMapViews
import Derived.JoinedTies
import Derived.KernelRfl
namespace Go.Proofs.YtnojgejcmaajmaaGreatDoor
/- THE CELL 'sum', in the pinned program and in every row, IS THE sha256 OF THE DUMP (.gsa) THAT YtnojgejcmaajmaaGreatDoorProg.lean LOADS. Nothing in Lean hashes anything: it is a label: what it is worth is what the hold of that sum in a sandbox is worth. -/
noncomputable def Tryz.pinned : Pinned := { name := "ytnojgejcmaajmaagreatdoor", sum := "8ce9302445eb113b67bf8f2a6caf13164f9c5311c369cda2a6ce3ae8afd06c02", checked := Tryz.checked }
namespace Rows
def none {H : Type} : Left H := { results := [], args := [] }

/- WHAT THE LISTED PACKAGE-LEVEL VARIABLES READ AS WHEN THE CALL BEGINS. Each datum BY PROGRAM (the guide's laid-datum.mjs) off the statement by which the dump's own 'gosem.cut.vars' lays the variable. In a bare row this is a premise. The card (YtnojgejcmaajmaaGreatDoorCards.lean) ties it to the program's text. -/
def laid_unicode_utf8_acceptRanges {H : Type} : DataW H := .agg [.agg [.lit (.int .u8 128), .lit (.int .u8 191)], .agg [.lit (.int .u8 160), .lit (.int .u8 191)], .agg [.lit (.int .u8 128), .lit (.int .u8 159)], .agg [.lit (.int .u8 144), .lit (.int .u8 191)], .agg [.lit (.int .u8 128), .lit (.int .u8 143)], .agg [.lit (.int .u8 0), .lit (.int .u8 0)], .agg [.lit (.int .u8 0), .lit (.int .u8 0)], .agg [.lit (.int .u8 0), .lit (.int .u8 0)], .agg [.lit (.int .u8 0), .lit (.int .u8 0)], .agg [.lit (.int .u8 0), .lit (.int .u8 0)], .agg [.lit (.int .u8 0), .lit (.int .u8 0)], .agg [.lit (.int .u8 0), .lit (.int .u8 0)], .agg [.lit (.int .u8 0), .lit (.int .u8 0)], .agg [.lit (.int .u8 0), .lit (.int .u8 0)], .agg [.lit (.int .u8 0), .lit (.int .u8 0)], .agg [.lit (.int .u8 0), .lit (.int .u8 0)]]
def laid_counterfoil_escape_signs {H : Type} : DataW H := .agg [.lit (.string []), .lit (.string [32, 34, 60, 62, 96]), .lit (.string [32, 34, 35, 60, 62]), .lit (.string [32, 34, 35, 60, 62, 39]), .lit (.string [32, 34, 35, 60, 62, 63, 94, 123, 125, 96]), .lit (.string [32, 34, 35, 60, 62, 63, 94, 123, 125, 96, 47, 58, 59, 61, 64, 91, 92, 93, 124]), .lit (.string [32, 34, 35, 60, 62, 63, 94, 123, 125, 96, 47, 58, 59, 61, 64, 91, 92, 93, 124, 36, 37, 38, 43, 44])]
def laid_counterfoil_escape_digits {H : Type} : DataW H := .agg [.lit (.int .u8 48), .lit (.int .u8 49), .lit (.int .u8 50), .lit (.int .u8 51), .lit (.int .u8 52), .lit (.int .u8 53), .lit (.int .u8 54), .lit (.int .u8 55), .lit (.int .u8 56), .lit (.int .u8 57), .lit (.int .u8 65), .lit (.int .u8 66), .lit (.int .u8 67), .lit (.int .u8 68), .lit (.int .u8 69), .lit (.int .u8 70)]
def laid_counterfoil_kinds_types {H : Type} : DataW H := .agg [.lit (.string []), .lit (.string [104, 105, 100, 100, 101, 110]), .lit (.string [116, 101, 120, 116]), .lit (.string [115, 101, 97, 114, 99, 104]), .lit (.string [116, 101, 108]), .lit (.string [117, 114, 108]), .lit (.string [101, 109, 97, 105, 108]), .lit (.string [112, 97, 115, 115, 119, 111, 114, 100]), .lit (.string [100, 97, 116, 101]), .lit (.string [109, 111, 110, 116, 104]), .lit (.string [119, 101, 101, 107]), .lit (.string [116, 105, 109, 101]), .lit (.string [100, 97, 116, 101, 116, 105, 109, 101, 45, 108, 111, 99, 97, 108]), .lit (.string [110, 117, 109, 98, 101, 114]), .lit (.string [114, 97, 110, 103, 101]), .lit (.string [99, 111, 108, 111, 114]), .lit (.string [99, 104, 101, 99, 107, 98, 111, 120]), .lit (.string [114, 97, 100, 105, 111]), .lit (.string [102, 105, 108, 101]), .lit (.string [115, 117, 98, 109, 105, 116]), .lit (.string [105, 109, 97, 103, 101]), .lit (.string [114, 101, 115, 101, 116]), .lit (.string [98, 117, 116, 116, 111, 110]), .lit (.string [115, 101, 108, 101, 99, 116, 45, 111, 110, 101]), .lit (.string [116, 101, 120, 116, 97, 114, 101, 97]), .lit (.string [115, 117, 98, 109, 105, 116]), .lit (.string [114, 101, 115, 101, 116]), .lit (.string [98, 117, 116, 116, 111, 110]), .lit (.string [111, 117, 116, 112, 117, 116]), .lit (.string [102, 105, 101, 108, 100, 115, 101, 116])]
def laid_counterfoil_kinds_lastNames {H : Type} : DataW H := .agg [.lit (.string [111, 117, 116, 112, 117, 116]), .lit (.string [102, 105, 101, 108, 100, 115, 101, 116]), .lit (.string [102, 111, 114, 109]), .lit (.string [108, 97, 98, 101, 108]), .lit (.string [111, 112, 116, 105, 111, 110]), .lit (.string [111, 112, 116, 103, 114, 111, 117, 112]), .lit (.string [108, 101, 103, 101, 110, 100]), .lit (.string [100, 97, 116, 97, 108, 105, 115, 116])]
def laid_counterfoil_parts_signs {H : Type} : DataW H := .agg [.agg [.lit (.string [10]), .lit (.string [37, 48, 65])], .agg [.lit (.string [13]), .lit (.string [37, 48, 68])], .agg [.lit (.string [34]), .lit (.string [37, 50, 50])]]
/-- One of Go's own tables, pinned by name: the form's constant. -/
def laid_unicode_utf8_first : DataW Unit := Go.Pinned.utf8First

/-- 'counterfoillaw24.SubmitMakes': WHATEVER THE INPUT: true; the input reads as it did. -/
def submitMakesSpec : ChangeSpec := { name := "submitMakes", fn := fun _ => fun
  | [d1, d2, d3] => { results := [.lit (.bool true)], args := [d1, d2, d3] }
  | _ => none }
def submitMakesRow : OpenClaim := { program := "ytnojgejcmaajmaagreatdoor", sum := "8ce9302445eb113b67bf8f2a6caf13164f9c5311c369cda2a6ce3ae8afd06c02", func := "counterfoil/counterfoillaw24.SubmitMakes", spec := "submitMakes", inPlace := ["internal/bytealg.IndexByteString", "internal/bytealg.IndexString", "internal/abi.NoEscape", "internal/bytealg.MakeNoZero", "internal/bytealg.CountString"], unfollowed := true, recurses := true, named := ["internal/bytealg.MaxLen", "counterfoil/kinds.lastNames", "counterfoil/kinds.types", "counterfoil/parts.signs", "unicode/utf8.first", "unicode/utf8.acceptRanges", "counterfoil/escape.signs", "counterfoil/escape.digits"], apart := false, laid := [("unicode/utf8.acceptRanges", laid_unicode_utf8_acceptRanges), ("counterfoil/escape.signs", laid_counterfoil_escape_signs), ("counterfoil/escape.digits", laid_counterfoil_escape_digits), ("counterfoil/kinds.types", laid_counterfoil_kinds_types), ("counterfoil/kinds.lastNames", laid_counterfoil_kinds_lastNames), ("counterfoil/parts.signs", laid_counterfoil_parts_signs), ("unicode/utf8.first", laid_unicode_utf8_first)] }
def SubmitMakesSaid : Prop := submitMakesRow.holds Tryz.pinned (OpenSpec.ofChange submitMakesSpec)

/-- ITS FALSE NEIGHBOUR: 'it returns false'. Refute it at one input. -/
def submitMakesWrong : ChangeSpec := { name := "submitMakes", fn := fun _ => fun
  | [d1, d2, d3] => { results := [.lit (.bool false)], args := [d1, d2, d3] }
  | _ => none }
def SubmitMakesWrongFalsely : Prop := submitMakesRow.holds Tryz.pinned (OpenSpec.ofChange submitMakesWrong)

/-- 'counterfoillaw24.SubmitBack': WHATEVER THE INPUT: true; the input reads as it did. -/
def submitBackSpec : ChangeSpec := { name := "submitBack", fn := fun _ => fun
  | [d1, d2, d3] => { results := [.lit (.bool true)], args := [d1, d2, d3] }
  | _ => none }
def submitBackRow : OpenClaim := { program := "ytnojgejcmaajmaagreatdoor", sum := "8ce9302445eb113b67bf8f2a6caf13164f9c5311c369cda2a6ce3ae8afd06c02", func := "counterfoil/counterfoillaw24.SubmitBack", spec := "submitBack", inPlace := ["internal/bytealg.IndexByteString", "internal/bytealg.IndexString", "internal/abi.NoEscape", "internal/bytealg.MakeNoZero", "internal/bytealg.CountString"], unfollowed := true, recurses := true, named := ["internal/bytealg.MaxLen", "counterfoil/kinds.lastNames", "counterfoil/kinds.types", "counterfoil/parts.signs", "unicode/utf8.first", "unicode/utf8.acceptRanges", "counterfoil/escape.signs", "counterfoil/escape.digits"], apart := false, laid := [("unicode/utf8.acceptRanges", laid_unicode_utf8_acceptRanges), ("counterfoil/escape.signs", laid_counterfoil_escape_signs), ("counterfoil/escape.digits", laid_counterfoil_escape_digits), ("counterfoil/kinds.types", laid_counterfoil_kinds_types), ("counterfoil/kinds.lastNames", laid_counterfoil_kinds_lastNames), ("counterfoil/parts.signs", laid_counterfoil_parts_signs), ("unicode/utf8.first", laid_unicode_utf8_first)] }
def SubmitBackSaid : Prop := submitBackRow.holds Tryz.pinned (OpenSpec.ofChange submitBackSpec)

/-- ITS FALSE NEIGHBOUR: 'it returns false'. Refute it at one input. -/
def submitBackWrong : ChangeSpec := { name := "submitBack", fn := fun _ => fun
  | [d1, d2, d3] => { results := [.lit (.bool false)], args := [d1, d2, d3] }
  | _ => none }
def SubmitBackWrongFalsely : Prop := submitBackRow.holds Tryz.pinned (OpenSpec.ofChange submitBackWrong)

/-- 'counterfoillaw24.SubmitEnters': WHATEVER THE INPUT: true; the input reads as it did. -/
def submitEntersSpec : ChangeSpec := { name := "submitEnters", fn := fun _ => fun
  | [d1, d2] => { results := [.lit (.bool true)], args := [d1, d2] }
  | _ => none }
def submitEntersRow : OpenClaim := { program := "ytnojgejcmaajmaagreatdoor", sum := "8ce9302445eb113b67bf8f2a6caf13164f9c5311c369cda2a6ce3ae8afd06c02", func := "counterfoil/counterfoillaw24.SubmitEnters", spec := "submitEnters", inPlace := ["internal/bytealg.IndexByteString", "internal/bytealg.IndexString", "internal/abi.NoEscape"], unfollowed := true, recurses := true, named := ["internal/bytealg.MaxLen", "counterfoil/kinds.lastNames", "counterfoil/kinds.types"], apart := false, laid := [("counterfoil/kinds.types", laid_counterfoil_kinds_types), ("counterfoil/kinds.lastNames", laid_counterfoil_kinds_lastNames)] }
def SubmitEntersSaid : Prop := submitEntersRow.holds Tryz.pinned (OpenSpec.ofChange submitEntersSpec)

/-- ITS FALSE NEIGHBOUR: 'it returns false'. Refute it at one input. -/
def submitEntersWrong : ChangeSpec := { name := "submitEnters", fn := fun _ => fun
  | [d1, d2] => { results := [.lit (.bool false)], args := [d1, d2] }
  | _ => none }
def SubmitEntersWrongFalsely : Prop := submitEntersRow.holds Tryz.pinned (OpenSpec.ofChange submitEntersWrong)

/- THE SECOND FORM. 'bulk': how many values and letters a reading holds, each counted each time it is reached (what is shared counts as often as it is met; a slice's spare places count too). A statement '..UptoSaid' is the law's where the arguments, and the package variables that the reading takes, are together of bulk at most 1048576: NARROWER than '..Said'. Prove '..Said' where nothing that the law and all that it calls make is longer than what came in: it says more and counts as full. Else prove '..UptoSaid'. A law counts once. -/
mutual
def uptoBulk {H : Type} : DataW H → Nat
  | .lit (.string bytes) => bytes.length + 1
  | .lit _ => 1
  | .nil => 1
  | .ptr d => uptoBulk d + 1
  | .slice elems spare => uptoBulkAll elems + uptoBulkAll spare + 1
  | .agg parts => uptoBulkAll parts + 1
  | .iface _ d => uptoBulk d + 1
  | .map entries => uptoBulkEntries entries + 1
  | .held _ => 1
def uptoBulkAll {H : Type} : List (DataW H) → Nat
  | [] => 0
  | d :: r => uptoBulk d + uptoBulkAll r
def uptoBulkEntries {H : Type} : List (Lit × DataW H) → Nat
  | [] => 0
  | x :: r => uptoBulkEntry x + uptoBulkEntries r
def uptoBulkEntry {H : Type} : Lit × DataW H → Nat
  | (.string bytes, d) => bytes.length + uptoBulk d + 1
  | (_, d) => uptoBulk d + 1
 end
def uptoSmall : (H : Type) → List (DataW H) → Bool := fun _ ds => decide (uptoBulkAll ds ≤ 1048576)
def OpenSpec.upto (s : _root_.Go.ChangeSpec) : _root_.Go.OpenSpec := { _root_.Go.OpenSpec.ofChange s with cond := some uptoSmall }

/-- 'counterfoillaw24.SubmitMakes', WHERE WHAT IT READS IS OF BULK AT MOST 1048576: true; the input reads as it did. -/
def submitMakesUptoRow : OpenClaim := { program := "ytnojgejcmaajmaagreatdoor", sum := "8ce9302445eb113b67bf8f2a6caf13164f9c5311c369cda2a6ce3ae8afd06c02", func := "counterfoil/counterfoillaw24.SubmitMakes", spec := "submitMakes", inPlace := ["internal/bytealg.IndexByteString", "internal/bytealg.IndexString", "internal/abi.NoEscape", "internal/bytealg.MakeNoZero", "internal/bytealg.CountString"], unfollowed := true, recurses := true, named := ["internal/bytealg.MaxLen", "counterfoil/kinds.lastNames", "counterfoil/kinds.types", "counterfoil/parts.signs", "unicode/utf8.first", "unicode/utf8.acceptRanges", "counterfoil/escape.signs", "counterfoil/escape.digits"], apart := false, laid := [("unicode/utf8.acceptRanges", laid_unicode_utf8_acceptRanges), ("counterfoil/escape.signs", laid_counterfoil_escape_signs), ("counterfoil/escape.digits", laid_counterfoil_escape_digits), ("counterfoil/kinds.types", laid_counterfoil_kinds_types), ("counterfoil/kinds.lastNames", laid_counterfoil_kinds_lastNames), ("counterfoil/parts.signs", laid_counterfoil_parts_signs), ("unicode/utf8.first", laid_unicode_utf8_first)], narrowed := true }
def SubmitMakesUptoSaid : Prop := submitMakesUptoRow.holds Tryz.pinned (OpenSpec.upto submitMakesSpec)

/-- 'counterfoillaw24.SubmitBack', WHERE WHAT IT READS IS OF BULK AT MOST 1048576: true; the input reads as it did. -/
def submitBackUptoRow : OpenClaim := { program := "ytnojgejcmaajmaagreatdoor", sum := "8ce9302445eb113b67bf8f2a6caf13164f9c5311c369cda2a6ce3ae8afd06c02", func := "counterfoil/counterfoillaw24.SubmitBack", spec := "submitBack", inPlace := ["internal/bytealg.IndexByteString", "internal/bytealg.IndexString", "internal/abi.NoEscape", "internal/bytealg.MakeNoZero", "internal/bytealg.CountString"], unfollowed := true, recurses := true, named := ["internal/bytealg.MaxLen", "counterfoil/kinds.lastNames", "counterfoil/kinds.types", "counterfoil/parts.signs", "unicode/utf8.first", "unicode/utf8.acceptRanges", "counterfoil/escape.signs", "counterfoil/escape.digits"], apart := false, laid := [("unicode/utf8.acceptRanges", laid_unicode_utf8_acceptRanges), ("counterfoil/escape.signs", laid_counterfoil_escape_signs), ("counterfoil/escape.digits", laid_counterfoil_escape_digits), ("counterfoil/kinds.types", laid_counterfoil_kinds_types), ("counterfoil/kinds.lastNames", laid_counterfoil_kinds_lastNames), ("counterfoil/parts.signs", laid_counterfoil_parts_signs), ("unicode/utf8.first", laid_unicode_utf8_first)], narrowed := true }
def SubmitBackUptoSaid : Prop := submitBackUptoRow.holds Tryz.pinned (OpenSpec.upto submitBackSpec)

/-- 'counterfoillaw24.SubmitEnters', WHERE WHAT IT READS IS OF BULK AT MOST 1048576: true; the input reads as it did. -/
def submitEntersUptoRow : OpenClaim := { program := "ytnojgejcmaajmaagreatdoor", sum := "8ce9302445eb113b67bf8f2a6caf13164f9c5311c369cda2a6ce3ae8afd06c02", func := "counterfoil/counterfoillaw24.SubmitEnters", spec := "submitEnters", inPlace := ["internal/bytealg.IndexByteString", "internal/bytealg.IndexString", "internal/abi.NoEscape"], unfollowed := true, recurses := true, named := ["internal/bytealg.MaxLen", "counterfoil/kinds.lastNames", "counterfoil/kinds.types"], apart := false, laid := [("counterfoil/kinds.types", laid_counterfoil_kinds_types), ("counterfoil/kinds.lastNames", laid_counterfoil_kinds_lastNames)], narrowed := true }
def SubmitEntersUptoSaid : Prop := submitEntersUptoRow.holds Tryz.pinned (OpenSpec.upto submitEntersSpec)

end Rows
end Go.Proofs.YtnojgejcmaajmaaGreatDoor
