/-
  NARROWER THAN 'FOR EVERY INPUT', by the rows' own cells (each row's printed sentence says how): EscapeSets: laid · EscapeEncodes: laid · EscapeDecodes: laid · EscapeBack: laid · EscapeForms: laid · EscapeJoins: laid.
  DERIVED. THE GIVEN ROWS OF THIS SEAT. 6 by the template 'for every input the law returns true; each argument reads behind the call as it read before'; 0 by the template 'total and deterministic' (their statements: YtcaoamccnibihaaDoorTotals.lean).
  GIVEN WITH THE SEED: the statements are not yours to turn. If you find one false, say at which input.
  Laid BY PROGRAM, IN A SANDBOX (cutbox-rows.mjs): the forced cells as the released guide's own fill.sh prints them over the translation bf7a5104f37022f5… (all of the seat's roots in one cut). By AI agents, Wed Nov 11 2026. No macro, syntax, notation, axiom, sorry.
-/
import Derived.Test.YtcaoamccnibihaaDoorChecked
import GoSem.PinnedTables
import GoSem.Claim
import GoSem.ClaimJoined
import GoSem.ClaimMapViews
import Derived.JoinedTies
import Derived.KernelRfl
namespace Go.Proofs.YtcaoamccnibihaaDoor
/- THE CELL 'sum', in the pinned program and in every row, IS THE sha256 OF THE DUMP (.gsa) THAT YtcaoamccnibihaaDoorProg.lean LOADS. Nothing in Lean hashes anything: it is a label: what it is worth is what the hold of that sum in a sandbox is worth. -/
noncomputable def Tryd.pinned : Pinned := { name := "ytcaoamccnibihaadoor", sum := "bf7a5104f37022f56deb9b5a5026a2845e5c9d8fc83a13ed48b164326b975134", checked := Tryd.checked }
namespace Rows
def none {H : Type} : Left H := { results := [], args := [] }

/- WHAT THE LISTED PACKAGE-LEVEL VARIABLES READ AS WHEN THE CALL BEGINS. Each datum BY PROGRAM (the guide's laid-datum.mjs) off the statement by which the dump's own 'gosem.cut.vars' lays the variable. In a bare row this is a premise. The card (YtcaoamccnibihaaDoorCards.lean) ties it to the program's text. -/
def laid_counterfoil_escape_signs {H : Type} : DataW H := .agg [.lit (.string []), .lit (.string [32, 34, 60, 62, 96]), .lit (.string [32, 34, 35, 60, 62]), .lit (.string [32, 34, 35, 60, 62, 39]), .lit (.string [32, 34, 35, 60, 62, 63, 94, 123, 125, 96]), .lit (.string [32, 34, 35, 60, 62, 63, 94, 123, 125, 96, 47, 58, 59, 61, 64, 91, 92, 93, 124]), .lit (.string [32, 34, 35, 60, 62, 63, 94, 123, 125, 96, 47, 58, 59, 61, 64, 91, 92, 93, 124, 36, 37, 38, 43, 44])]
def laid_counterfoil_escape_digits {H : Type} : DataW H := .agg [.lit (.int .u8 48), .lit (.int .u8 49), .lit (.int .u8 50), .lit (.int .u8 51), .lit (.int .u8 52), .lit (.int .u8 53), .lit (.int .u8 54), .lit (.int .u8 55), .lit (.int .u8 56), .lit (.int .u8 57), .lit (.int .u8 65), .lit (.int .u8 66), .lit (.int .u8 67), .lit (.int .u8 68), .lit (.int .u8 69), .lit (.int .u8 70)]
def laid_unicode_utf8_acceptRanges {H : Type} : DataW H := .agg [.agg [.lit (.int .u8 128), .lit (.int .u8 191)], .agg [.lit (.int .u8 160), .lit (.int .u8 191)], .agg [.lit (.int .u8 128), .lit (.int .u8 159)], .agg [.lit (.int .u8 144), .lit (.int .u8 191)], .agg [.lit (.int .u8 128), .lit (.int .u8 143)], .agg [.lit (.int .u8 0), .lit (.int .u8 0)], .agg [.lit (.int .u8 0), .lit (.int .u8 0)], .agg [.lit (.int .u8 0), .lit (.int .u8 0)], .agg [.lit (.int .u8 0), .lit (.int .u8 0)], .agg [.lit (.int .u8 0), .lit (.int .u8 0)], .agg [.lit (.int .u8 0), .lit (.int .u8 0)], .agg [.lit (.int .u8 0), .lit (.int .u8 0)], .agg [.lit (.int .u8 0), .lit (.int .u8 0)], .agg [.lit (.int .u8 0), .lit (.int .u8 0)], .agg [.lit (.int .u8 0), .lit (.int .u8 0)], .agg [.lit (.int .u8 0), .lit (.int .u8 0)]]
/-- One of Go's own tables, pinned by name: the form's constant. -/
def laid_unicode_utf8_first : DataW Unit := Go.Pinned.utf8First

/-- 'counterfoillaw02.EscapeSets': WHATEVER THE INPUT: true; the input reads as it did. -/
def escapeSetsSpec : ChangeSpec := { name := "escapeSets", fn := fun _ => fun
  | [d1, d2] => { results := [.lit (.bool true)], args := [d1, d2] }
  | _ => none }
def escapeSetsRow : OpenClaim := { program := "ytcaoamccnibihaadoor", sum := "bf7a5104f37022f56deb9b5a5026a2845e5c9d8fc83a13ed48b164326b975134", func := "counterfoil/counterfoillaw02.EscapeSets", spec := "escapeSets", inPlace := ["internal/bytealg.IndexByteString"], named := ["counterfoil/escape.signs"], apart := false, laid := [("counterfoil/escape.signs", laid_counterfoil_escape_signs)] }
def EscapeSetsSaid : Prop := escapeSetsRow.holds Tryd.pinned (OpenSpec.ofChange escapeSetsSpec)

/-- ITS FALSE NEIGHBOUR: 'it returns false'. Refute it at one input. -/
def escapeSetsWrong : ChangeSpec := { name := "escapeSets", fn := fun _ => fun
  | [d1, d2] => { results := [.lit (.bool false)], args := [d1, d2] }
  | _ => none }
def EscapeSetsWrongFalsely : Prop := escapeSetsRow.holds Tryd.pinned (OpenSpec.ofChange escapeSetsWrong)

/-- 'counterfoillaw02.EscapeEncodes': WHATEVER THE INPUT: true; the input reads as it did. -/
def escapeEncodesSpec : ChangeSpec := { name := "escapeEncodes", fn := fun _ => fun
  | [d1, d2] => { results := [.lit (.bool true)], args := [d1, d2] }
  | _ => none }
def escapeEncodesRow : OpenClaim := { program := "ytcaoamccnibihaadoor", sum := "bf7a5104f37022f56deb9b5a5026a2845e5c9d8fc83a13ed48b164326b975134", func := "counterfoil/counterfoillaw02.EscapeEncodes", spec := "escapeEncodes", inPlace := ["internal/abi.NoEscape", "internal/bytealg.MakeNoZero", "internal/bytealg.IndexByteString"], named := ["counterfoil/escape.signs", "counterfoil/escape.digits"], apart := false, laid := [("counterfoil/escape.signs", laid_counterfoil_escape_signs), ("counterfoil/escape.digits", laid_counterfoil_escape_digits)] }
def EscapeEncodesSaid : Prop := escapeEncodesRow.holds Tryd.pinned (OpenSpec.ofChange escapeEncodesSpec)

/-- ITS FALSE NEIGHBOUR: 'it returns false'. Refute it at one input. -/
def escapeEncodesWrong : ChangeSpec := { name := "escapeEncodes", fn := fun _ => fun
  | [d1, d2] => { results := [.lit (.bool false)], args := [d1, d2] }
  | _ => none }
def EscapeEncodesWrongFalsely : Prop := escapeEncodesRow.holds Tryd.pinned (OpenSpec.ofChange escapeEncodesWrong)

/-- 'counterfoillaw02.EscapeDecodes': WHATEVER THE INPUT: true; the input reads as it did. -/
def escapeDecodesSpec : ChangeSpec := { name := "escapeDecodes", fn := fun _ => fun
  | [d] => { results := [.lit (.bool true)], args := [d] }
  | _ => none }
def escapeDecodesRow : OpenClaim := { program := "ytcaoamccnibihaadoor", sum := "bf7a5104f37022f56deb9b5a5026a2845e5c9d8fc83a13ed48b164326b975134", func := "counterfoil/counterfoillaw02.EscapeDecodes", spec := "escapeDecodes", inPlace := ["internal/abi.NoEscape", "internal/bytealg.MakeNoZero"], named := ["counterfoil/escape.digits"], apart := false, laid := [("counterfoil/escape.digits", laid_counterfoil_escape_digits)] }
def EscapeDecodesSaid : Prop := escapeDecodesRow.holds Tryd.pinned (OpenSpec.ofChange escapeDecodesSpec)

/-- ITS FALSE NEIGHBOUR: 'it returns false'. Refute it at one input. -/
def escapeDecodesWrong : ChangeSpec := { name := "escapeDecodes", fn := fun _ => fun
  | [d] => { results := [.lit (.bool false)], args := [d] }
  | _ => none }
def EscapeDecodesWrongFalsely : Prop := escapeDecodesRow.holds Tryd.pinned (OpenSpec.ofChange escapeDecodesWrong)

/-- 'counterfoillaw02.EscapeBack': WHATEVER THE INPUT: true; the input reads as it did. -/
def escapeBackSpec : ChangeSpec := { name := "escapeBack", fn := fun _ => fun
  | [d1, d2] => { results := [.lit (.bool true)], args := [d1, d2] }
  | _ => none }
def escapeBackRow : OpenClaim := { program := "ytcaoamccnibihaadoor", sum := "bf7a5104f37022f56deb9b5a5026a2845e5c9d8fc83a13ed48b164326b975134", func := "counterfoil/counterfoillaw02.EscapeBack", spec := "escapeBack", inPlace := ["internal/abi.NoEscape", "internal/bytealg.MakeNoZero", "internal/bytealg.IndexByteString"], named := ["counterfoil/escape.digits", "counterfoil/escape.signs"], apart := false, laid := [("counterfoil/escape.signs", laid_counterfoil_escape_signs), ("counterfoil/escape.digits", laid_counterfoil_escape_digits)] }
def EscapeBackSaid : Prop := escapeBackRow.holds Tryd.pinned (OpenSpec.ofChange escapeBackSpec)

/-- ITS FALSE NEIGHBOUR: 'it returns false'. Refute it at one input. -/
def escapeBackWrong : ChangeSpec := { name := "escapeBack", fn := fun _ => fun
  | [d1, d2] => { results := [.lit (.bool false)], args := [d1, d2] }
  | _ => none }
def EscapeBackWrongFalsely : Prop := escapeBackRow.holds Tryd.pinned (OpenSpec.ofChange escapeBackWrong)

/-- 'counterfoillaw02.EscapeForms': WHATEVER THE INPUT: true; the input reads as it did. -/
def escapeFormsSpec : ChangeSpec := { name := "escapeForms", fn := fun _ => fun
  | [d] => { results := [.lit (.bool true)], args := [d] }
  | _ => none }
def escapeFormsRow : OpenClaim := { program := "ytcaoamccnibihaadoor", sum := "bf7a5104f37022f56deb9b5a5026a2845e5c9d8fc83a13ed48b164326b975134", func := "counterfoil/counterfoillaw02.EscapeForms", spec := "escapeForms", inPlace := ["internal/abi.NoEscape", "internal/bytealg.MakeNoZero", "internal/bytealg.IndexByteString", "internal/bytealg.CountString", "internal/bytealg.IndexString"], named := ["counterfoil/escape.signs", "counterfoil/escape.digits", "internal/bytealg.MaxLen", "unicode/utf8.first", "unicode/utf8.acceptRanges"], apart := false, laid := [("unicode/utf8.acceptRanges", laid_unicode_utf8_acceptRanges), ("counterfoil/escape.signs", laid_counterfoil_escape_signs), ("counterfoil/escape.digits", laid_counterfoil_escape_digits), ("unicode/utf8.first", laid_unicode_utf8_first)] }
def EscapeFormsSaid : Prop := escapeFormsRow.holds Tryd.pinned (OpenSpec.ofChange escapeFormsSpec)

/-- ITS FALSE NEIGHBOUR: 'it returns false'. Refute it at one input. -/
def escapeFormsWrong : ChangeSpec := { name := "escapeForms", fn := fun _ => fun
  | [d] => { results := [.lit (.bool false)], args := [d] }
  | _ => none }
def EscapeFormsWrongFalsely : Prop := escapeFormsRow.holds Tryd.pinned (OpenSpec.ofChange escapeFormsWrong)

/-- 'counterfoillaw02.EscapeJoins': WHATEVER THE INPUT: true; the input reads as it did. -/
def escapeJoinsSpec : ChangeSpec := { name := "escapeJoins", fn := fun _ => fun
  | [d1, d2, d3] => { results := [.lit (.bool true)], args := [d1, d2, d3] }
  | _ => none }
def escapeJoinsRow : OpenClaim := { program := "ytcaoamccnibihaadoor", sum := "bf7a5104f37022f56deb9b5a5026a2845e5c9d8fc83a13ed48b164326b975134", func := "counterfoil/counterfoillaw02.EscapeJoins", spec := "escapeJoins", inPlace := ["internal/abi.NoEscape", "internal/bytealg.MakeNoZero", "internal/bytealg.IndexByteString", "internal/bytealg.CountString", "internal/bytealg.IndexString"], named := ["counterfoil/escape.signs", "counterfoil/escape.digits", "internal/bytealg.MaxLen", "unicode/utf8.first", "unicode/utf8.acceptRanges"], apart := false, laid := [("unicode/utf8.acceptRanges", laid_unicode_utf8_acceptRanges), ("counterfoil/escape.signs", laid_counterfoil_escape_signs), ("counterfoil/escape.digits", laid_counterfoil_escape_digits), ("unicode/utf8.first", laid_unicode_utf8_first)] }
def EscapeJoinsSaid : Prop := escapeJoinsRow.holds Tryd.pinned (OpenSpec.ofChange escapeJoinsSpec)

/-- ITS FALSE NEIGHBOUR: 'it returns false'. Refute it at one input. -/
def escapeJoinsWrong : ChangeSpec := { name := "escapeJoins", fn := fun _ => fun
  | [d1, d2, d3] => { results := [.lit (.bool false)], args := [d1, d2, d3] }
  | _ => none }
def EscapeJoinsWrongFalsely : Prop := escapeJoinsRow.holds Tryd.pinned (OpenSpec.ofChange escapeJoinsWrong)

/- THE SECOND FORM. 'bulk': how many values and letters a reading holds, each counted each time it is reached (what is shared counts as often as it is met; a slice's spare places count too). A statement '..UptoSaid' is the law's where the arguments, and the package variables that the reading takes, are together of bulk at most 1048576: NARROWER than '..Said'. Prove '..Said' where nothing that the law and all that it calls make is longer than what came in: it says more and counts as full. Else prove '..UptoSaid'. A law counts once. -/
mutual
def uptoBulk {H : Type} : DataW H → Nat
  | .lit (.string bytes) => bytes.length + 1
  | .lit _ => 1
  | .nil => 1
  | .ptr d => uptoBulk d + 1
  | .slice elems spare => uptoBulkAll elems + uptoBulkAll spare + 1
  | .agg parts => uptoBulkAll parts + 1
  | .iface _ d => uptoBulk d + 1
  | .map entries => uptoBulkEntries entries + 1
  | .held _ => 1
def uptoBulkAll {H : Type} : List (DataW H) → Nat
  | [] => 0
  | d :: r => uptoBulk d + uptoBulkAll r
def uptoBulkEntries {H : Type} : List (Lit × DataW H) → Nat
  | [] => 0
  | x :: r => uptoBulkEntry x + uptoBulkEntries r
def uptoBulkEntry {H : Type} : Lit × DataW H → Nat
  | (.string bytes, d) => bytes.length + uptoBulk d + 1
  | (_, d) => uptoBulk d + 1
 end
def uptoSmall : (H : Type) → List (DataW H) → Bool := fun _ ds => decide (uptoBulkAll ds ≤ 1048576)
def OpenSpec.upto (s : _root_.Go.ChangeSpec) : _root_.Go.OpenSpec := { _root_.Go.OpenSpec.ofChange s with cond := some uptoSmall }

/-- 'counterfoillaw02.EscapeSets', WHERE WHAT IT READS IS OF BULK AT MOST 1048576: true; the input reads as it did. -/
def escapeSetsUptoRow : OpenClaim := { program := "ytcaoamccnibihaadoor", sum := "bf7a5104f37022f56deb9b5a5026a2845e5c9d8fc83a13ed48b164326b975134", func := "counterfoil/counterfoillaw02.EscapeSets", spec := "escapeSets", inPlace := ["internal/bytealg.IndexByteString"], named := ["counterfoil/escape.signs"], apart := false, laid := [("counterfoil/escape.signs", laid_counterfoil_escape_signs)], narrowed := true }
def EscapeSetsUptoSaid : Prop := escapeSetsUptoRow.holds Tryd.pinned (OpenSpec.upto escapeSetsSpec)

/-- 'counterfoillaw02.EscapeEncodes', WHERE WHAT IT READS IS OF BULK AT MOST 1048576: true; the input reads as it did. -/
def escapeEncodesUptoRow : OpenClaim := { program := "ytcaoamccnibihaadoor", sum := "bf7a5104f37022f56deb9b5a5026a2845e5c9d8fc83a13ed48b164326b975134", func := "counterfoil/counterfoillaw02.EscapeEncodes", spec := "escapeEncodes", inPlace := ["internal/abi.NoEscape", "internal/bytealg.MakeNoZero", "internal/bytealg.IndexByteString"], named := ["counterfoil/escape.signs", "counterfoil/escape.digits"], apart := false, laid := [("counterfoil/escape.signs", laid_counterfoil_escape_signs), ("counterfoil/escape.digits", laid_counterfoil_escape_digits)], narrowed := true }
def EscapeEncodesUptoSaid : Prop := escapeEncodesUptoRow.holds Tryd.pinned (OpenSpec.upto escapeEncodesSpec)

/-- 'counterfoillaw02.EscapeDecodes', WHERE WHAT IT READS IS OF BULK AT MOST 1048576: true; the input reads as it did. -/
def escapeDecodesUptoRow : OpenClaim := { program := "ytcaoamccnibihaadoor", sum := "bf7a5104f37022f56deb9b5a5026a2845e5c9d8fc83a13ed48b164326b975134", func := "counterfoil/counterfoillaw02.EscapeDecodes", spec := "escapeDecodes", inPlace := ["internal/abi.NoEscape", "internal/bytealg.MakeNoZero"], named := ["counterfoil/escape.digits"], apart := false, laid := [("counterfoil/escape.digits", laid_counterfoil_escape_digits)], narrowed := true }
def EscapeDecodesUptoSaid : Prop := escapeDecodesUptoRow.holds Tryd.pinned (OpenSpec.upto escapeDecodesSpec)

/-- 'counterfoillaw02.EscapeBack', WHERE WHAT IT READS IS OF BULK AT MOST 1048576: true; the input reads as it did. -/
def escapeBackUptoRow : OpenClaim := { program := "ytcaoamccnibihaadoor", sum := "bf7a5104f37022f56deb9b5a5026a2845e5c9d8fc83a13ed48b164326b975134", func := "counterfoil/counterfoillaw02.EscapeBack", spec := "escapeBack", inPlace := ["internal/abi.NoEscape", "internal/bytealg.MakeNoZero", "internal/bytealg.IndexByteString"], named := ["counterfoil/escape.digits", "counterfoil/escape.signs"], apart := false, laid := [("counterfoil/escape.signs", laid_counterfoil_escape_signs), ("counterfoil/escape.digits", laid_counterfoil_escape_digits)], narrowed := true }
def EscapeBackUptoSaid : Prop := escapeBackUptoRow.holds Tryd.pinned (OpenSpec.upto escapeBackSpec)

/-- 'counterfoillaw02.EscapeForms', WHERE WHAT IT READS IS OF BULK AT MOST 1048576: true; the input reads as it did. -/
def escapeFormsUptoRow : OpenClaim := { program := "ytcaoamccnibihaadoor", sum := "bf7a5104f37022f56deb9b5a5026a2845e5c9d8fc83a13ed48b164326b975134", func := "counterfoil/counterfoillaw02.EscapeForms", spec := "escapeForms", inPlace := ["internal/abi.NoEscape", "internal/bytealg.MakeNoZero", "internal/bytealg.IndexByteString", "internal/bytealg.CountString", "internal/bytealg.IndexString"], named := ["counterfoil/escape.signs", "counterfoil/escape.digits", "internal/bytealg.MaxLen", "unicode/utf8.first", "unicode/utf8.acceptRanges"], apart := false, laid := [("unicode/utf8.acceptRanges", laid_unicode_utf8_acceptRanges), ("counterfoil/escape.signs", laid_counterfoil_escape_signs), ("counterfoil/escape.digits", laid_counterfoil_escape_digits), ("unicode/utf8.first", laid_unicode_utf8_first)], narrowed := true }
def EscapeFormsUptoSaid : Prop := escapeFormsUptoRow.holds Tryd.pinned (OpenSpec.upto escapeFormsSpec)

/-- 'counterfoillaw02.EscapeJoins', WHERE WHAT IT READS IS OF BULK AT MOST 1048576: true; the input reads as it did. -/
def escapeJoinsUptoRow : OpenClaim := { program := "ytcaoamccnibihaadoor", sum := "bf7a5104f37022f56deb9b5a5026a2845e5c9d8fc83a13ed48b164326b975134", func := "counterfoil/counterfoillaw02.EscapeJoins", spec := "escapeJoins", inPlace := ["internal/abi.NoEscape", "internal/bytealg.MakeNoZero", "internal/bytealg.IndexByteString", "internal/bytealg.CountString", "internal/bytealg.IndexString"], named := ["counterfoil/escape.signs", "counterfoil/escape.digits", "internal/bytealg.MaxLen", "unicode/utf8.first", "unicode/utf8.acceptRanges"], apart := false, laid := [("unicode/utf8.acceptRanges", laid_unicode_utf8_acceptRanges), ("counterfoil/escape.signs", laid_counterfoil_escape_signs), ("counterfoil/escape.digits", laid_counterfoil_escape_digits), ("unicode/utf8.first", laid_unicode_utf8_first)], narrowed := true }
def EscapeJoinsUptoSaid : Prop := escapeJoinsUptoRow.holds Tryd.pinned (OpenSpec.upto escapeJoinsSpec)

end Rows
end Go.Proofs.YtcaoamccnibihaaDoor
