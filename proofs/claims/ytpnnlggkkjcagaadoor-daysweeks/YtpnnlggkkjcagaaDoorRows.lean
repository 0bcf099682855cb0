/-
  NARROWER THAN 'FOR EVERY INPUT', by the rows' own cells (each row's printed sentence says how): DaysLengths: laid · DaysNumbers: laid · DaysDates: laid · DaysMondays: laid · DaysWeeks: laid.
  DERIVED. THE GIVEN ROWS OF THIS SEAT. 5 by the template 'for every input the law returns true; each argument reads behind the call as it read before'; 0 by the template 'total and deterministic' (their statements: YtpnnlggkkjcagaaDoorTotals.lean).
  GIVEN WITH THE SEED: the statements are not yours to turn. If you find one false, say at which input.
  Laid BY PROGRAM, IN A SANDBOX (cutbox-rows.mjs): the forced cells as the released guide's own fill.sh prints them over the translation 62b336a579eb7c1f… (all of the seat's roots in one cut). By AI agents, Wed Nov 11 2026. No macro, syntax, notation, axiom, sorry.
-/
import Derived.Test.YtpnnlggkkjcagaaDoorChecked
import GoSem.Claim
import GoSem.ClaimJoined
import GoSem.ClaimMapViews
import Derived.JoinedTies
import Derived.KernelRfl
namespace Go.Proofs.YtpnnlggkkjcagaaDoor
/- THE CELL 'sum', in the pinned program and in every row, IS THE sha256 OF THE DUMP (.gsa) THAT YtpnnlggkkjcagaaDoorProg.lean LOADS. Nothing in Lean hashes anything: it is a label: what it is worth is what the hold of that sum in a sandbox is worth. -/
noncomputable def Tryd.pinned : Pinned := { name := "ytpnnlggkkjcagaadoor", sum := "62b336a579eb7c1f747d4c09197d13b55c1cb8f8f8b3ba780d78e33ca74d297a", checked := Tryd.checked }
namespace Rows
def none {H : Type} : Left H := { results := [], args := [] }

/- WHAT THE LISTED PACKAGE-LEVEL VARIABLES READ AS WHEN THE CALL BEGINS. Each datum BY PROGRAM (the guide's laid-datum.mjs) off the statement by which the dump's own 'gosem.cut.vars' lays the variable. In a bare row this is a premise. The card (YtpnnlggkkjcagaaDoorCards.lean) ties it to the program's text. -/
def laid_counterfoil_days_lengths {H : Type} : DataW H := .agg [.lit (.int .i64 31), .lit (.int .i64 28), .lit (.int .i64 31), .lit (.int .i64 30), .lit (.int .i64 31), .lit (.int .i64 30), .lit (.int .i64 31), .lit (.int .i64 31), .lit (.int .i64 30), .lit (.int .i64 31), .lit (.int .i64 30), .lit (.int .i64 31)]

/-- 'counterfoillaw04.DaysLengths': WHATEVER THE INPUT: true; the input reads as it did. -/
def daysLengthsSpec : ChangeSpec := { name := "daysLengths", fn := fun _ => fun
  | [d1, d2] => { results := [.lit (.bool true)], args := [d1, d2] }
  | _ => none }
def daysLengthsRow : OpenClaim := { program := "ytpnnlggkkjcagaadoor", sum := "62b336a579eb7c1f747d4c09197d13b55c1cb8f8f8b3ba780d78e33ca74d297a", func := "counterfoil/counterfoillaw04.DaysLengths", spec := "daysLengths", named := ["counterfoil/days.lengths"], apart := false, laid := [("counterfoil/days.lengths", laid_counterfoil_days_lengths)] }
def DaysLengthsSaid : Prop := daysLengthsRow.holds Tryd.pinned (OpenSpec.ofChange daysLengthsSpec)

/-- ITS FALSE NEIGHBOUR: 'it returns false'. Refute it at one input. -/
def daysLengthsWrong : ChangeSpec := { name := "daysLengths", fn := fun _ => fun
  | [d1, d2] => { results := [.lit (.bool false)], args := [d1, d2] }
  | _ => none }
def DaysLengthsWrongFalsely : Prop := daysLengthsRow.holds Tryd.pinned (OpenSpec.ofChange daysLengthsWrong)

/-- 'counterfoillaw04.DaysNumbers': WHATEVER THE INPUT: true; the input reads as it did. -/
def daysNumbersSpec : ChangeSpec := { name := "daysNumbers", fn := fun _ => fun
  | [d1, d2, d3] => { results := [.lit (.bool true)], args := [d1, d2, d3] }
  | _ => none }
def daysNumbersRow : OpenClaim := { program := "ytpnnlggkkjcagaadoor", sum := "62b336a579eb7c1f747d4c09197d13b55c1cb8f8f8b3ba780d78e33ca74d297a", func := "counterfoil/counterfoillaw04.DaysNumbers", spec := "daysNumbers", unfollowed := true, recurses := true, named := ["counterfoil/days.lengths"], apart := false, laid := [("counterfoil/days.lengths", laid_counterfoil_days_lengths)] }
def DaysNumbersSaid : Prop := daysNumbersRow.holds Tryd.pinned (OpenSpec.ofChange daysNumbersSpec)

/-- ITS FALSE NEIGHBOUR: 'it returns false'. Refute it at one input. -/
def daysNumbersWrong : ChangeSpec := { name := "daysNumbers", fn := fun _ => fun
  | [d1, d2, d3] => { results := [.lit (.bool false)], args := [d1, d2, d3] }
  | _ => none }
def DaysNumbersWrongFalsely : Prop := daysNumbersRow.holds Tryd.pinned (OpenSpec.ofChange daysNumbersWrong)

/-- 'counterfoillaw04.DaysDates': WHATEVER THE INPUT: true; the input reads as it did. -/
def daysDatesSpec : ChangeSpec := { name := "daysDates", fn := fun _ => fun
  | [d] => { results := [.lit (.bool true)], args := [d] }
  | _ => none }
def daysDatesRow : OpenClaim := { program := "ytpnnlggkkjcagaadoor", sum := "62b336a579eb7c1f747d4c09197d13b55c1cb8f8f8b3ba780d78e33ca74d297a", func := "counterfoil/counterfoillaw04.DaysDates", spec := "daysDates", unfollowed := true, recurses := true, named := ["counterfoil/days.lengths"], apart := false, laid := [("counterfoil/days.lengths", laid_counterfoil_days_lengths)] }
def DaysDatesSaid : Prop := daysDatesRow.holds Tryd.pinned (OpenSpec.ofChange daysDatesSpec)

/-- ITS FALSE NEIGHBOUR: 'it returns false'. Refute it at one input. -/
def daysDatesWrong : ChangeSpec := { name := "daysDates", fn := fun _ => fun
  | [d] => { results := [.lit (.bool false)], args := [d] }
  | _ => none }
def DaysDatesWrongFalsely : Prop := daysDatesRow.holds Tryd.pinned (OpenSpec.ofChange daysDatesWrong)

/-- 'counterfoillaw04.DaysMondays': WHATEVER THE INPUT: true; the input reads as it did. -/
def daysMondaysSpec : ChangeSpec := { name := "daysMondays", fn := fun _ => fun
  | [d1, d2] => { results := [.lit (.bool true)], args := [d1, d2] }
  | _ => none }
def daysMondaysRow : OpenClaim := { program := "ytpnnlggkkjcagaadoor", sum := "62b336a579eb7c1f747d4c09197d13b55c1cb8f8f8b3ba780d78e33ca74d297a", func := "counterfoil/counterfoillaw04.DaysMondays", spec := "daysMondays", named := ["counterfoil/days.lengths"], apart := false, laid := [("counterfoil/days.lengths", laid_counterfoil_days_lengths)] }
def DaysMondaysSaid : Prop := daysMondaysRow.holds Tryd.pinned (OpenSpec.ofChange daysMondaysSpec)

/-- ITS FALSE NEIGHBOUR: 'it returns false'. Refute it at one input. -/
def daysMondaysWrong : ChangeSpec := { name := "daysMondays", fn := fun _ => fun
  | [d1, d2] => { results := [.lit (.bool false)], args := [d1, d2] }
  | _ => none }
def DaysMondaysWrongFalsely : Prop := daysMondaysRow.holds Tryd.pinned (OpenSpec.ofChange daysMondaysWrong)

/-- 'counterfoillaw04.DaysWeeks': WHATEVER THE INPUT: true; the input reads as it did. -/
def daysWeeksSpec : ChangeSpec := { name := "daysWeeks", fn := fun _ => fun
  | [d] => { results := [.lit (.bool true)], args := [d] }
  | _ => none }
def daysWeeksRow : OpenClaim := { program := "ytpnnlggkkjcagaadoor", sum := "62b336a579eb7c1f747d4c09197d13b55c1cb8f8f8b3ba780d78e33ca74d297a", func := "counterfoil/counterfoillaw04.DaysWeeks", spec := "daysWeeks", unfollowed := true, recurses := true, named := ["counterfoil/days.lengths"], apart := false, laid := [("counterfoil/days.lengths", laid_counterfoil_days_lengths)] }
def DaysWeeksSaid : Prop := daysWeeksRow.holds Tryd.pinned (OpenSpec.ofChange daysWeeksSpec)

/-- ITS FALSE NEIGHBOUR: 'it returns false'. Refute it at one input. -/
def daysWeeksWrong : ChangeSpec := { name := "daysWeeks", fn := fun _ => fun
  | [d] => { results := [.lit (.bool false)], args := [d] }
  | _ => none }
def DaysWeeksWrongFalsely : Prop := daysWeeksRow.holds Tryd.pinned (OpenSpec.ofChange daysWeeksWrong)

/- THE SECOND FORM. 'bulk': how many values and letters a reading holds, each counted each time it is reached (what is shared counts as often as it is met; a slice's spare places count too). A statement '..UptoSaid' is the law's where the arguments, and the package variables that the reading takes, are together of bulk at most 1048576: NARROWER than '..Said'. Prove '..Said' where nothing that the law and all that it calls make is longer than what came in: it says more and counts as full. Else prove '..UptoSaid'. A law counts once. -/
mutual
def uptoBulk {H : Type} : DataW H → Nat
  | .lit (.string bytes) => bytes.length + 1
  | .lit _ => 1
  | .nil => 1
  | .ptr d => uptoBulk d + 1
  | .slice elems spare => uptoBulkAll elems + uptoBulkAll spare + 1
  | .agg parts => uptoBulkAll parts + 1
  | .iface _ d => uptoBulk d + 1
  | .map entries => uptoBulkEntries entries + 1
  | .held _ => 1
def uptoBulkAll {H : Type} : List (DataW H) → Nat
  | [] => 0
  | d :: r => uptoBulk d + uptoBulkAll r
def uptoBulkEntries {H : Type} : List (Lit × DataW H) → Nat
  | [] => 0
  | x :: r => uptoBulkEntry x + uptoBulkEntries r
def uptoBulkEntry {H : Type} : Lit × DataW H → Nat
  | (.string bytes, d) => bytes.length + uptoBulk d + 1
  | (_, d) => uptoBulk d + 1
 end
def uptoSmall : (H : Type) → List (DataW H) → Bool := fun _ ds => decide (uptoBulkAll ds ≤ 1048576)
def OpenSpec.upto (s : _root_.Go.ChangeSpec) : _root_.Go.OpenSpec := { _root_.Go.OpenSpec.ofChange s with cond := some uptoSmall }

/-- 'counterfoillaw04.DaysLengths', WHERE WHAT IT READS IS OF BULK AT MOST 1048576: true; the input reads as it did. -/
def daysLengthsUptoRow : OpenClaim := { program := "ytpnnlggkkjcagaadoor", sum := "62b336a579eb7c1f747d4c09197d13b55c1cb8f8f8b3ba780d78e33ca74d297a", func := "counterfoil/counterfoillaw04.DaysLengths", spec := "daysLengths", named := ["counterfoil/days.lengths"], apart := false, laid := [("counterfoil/days.lengths", laid_counterfoil_days_lengths)], narrowed := true }
def DaysLengthsUptoSaid : Prop := daysLengthsUptoRow.holds Tryd.pinned (OpenSpec.upto daysLengthsSpec)

/-- 'counterfoillaw04.DaysNumbers', WHERE WHAT IT READS IS OF BULK AT MOST 1048576: true; the input reads as it did. -/
def daysNumbersUptoRow : OpenClaim := { program := "ytpnnlggkkjcagaadoor", sum := "62b336a579eb7c1f747d4c09197d13b55c1cb8f8f8b3ba780d78e33ca74d297a", func := "counterfoil/counterfoillaw04.DaysNumbers", spec := "daysNumbers", unfollowed := true, recurses := true, named := ["counterfoil/days.lengths"], apart := false, laid := [("counterfoil/days.lengths", laid_counterfoil_days_lengths)], narrowed := true }
def DaysNumbersUptoSaid : Prop := daysNumbersUptoRow.holds Tryd.pinned (OpenSpec.upto daysNumbersSpec)

/-- 'counterfoillaw04.DaysDates', WHERE WHAT IT READS IS OF BULK AT MOST 1048576: true; the input reads as it did. -/
def daysDatesUptoRow : OpenClaim := { program := "ytpnnlggkkjcagaadoor", sum := "62b336a579eb7c1f747d4c09197d13b55c1cb8f8f8b3ba780d78e33ca74d297a", func := "counterfoil/counterfoillaw04.DaysDates", spec := "daysDates", unfollowed := true, recurses := true, named := ["counterfoil/days.lengths"], apart := false, laid := [("counterfoil/days.lengths", laid_counterfoil_days_lengths)], narrowed := true }
def DaysDatesUptoSaid : Prop := daysDatesUptoRow.holds Tryd.pinned (OpenSpec.upto daysDatesSpec)

/-- 'counterfoillaw04.DaysMondays', WHERE WHAT IT READS IS OF BULK AT MOST 1048576: true; the input reads as it did. -/
def daysMondaysUptoRow : OpenClaim := { program := "ytpnnlggkkjcagaadoor", sum := "62b336a579eb7c1f747d4c09197d13b55c1cb8f8f8b3ba780d78e33ca74d297a", func := "counterfoil/counterfoillaw04.DaysMondays", spec := "daysMondays", named := ["counterfoil/days.lengths"], apart := false, laid := [("counterfoil/days.lengths", laid_counterfoil_days_lengths)], narrowed := true }
def DaysMondaysUptoSaid : Prop := daysMondaysUptoRow.holds Tryd.pinned (OpenSpec.upto daysMondaysSpec)

/-- 'counterfoillaw04.DaysWeeks', WHERE WHAT IT READS IS OF BULK AT MOST 1048576: true; the input reads as it did. -/
def daysWeeksUptoRow : OpenClaim := { program := "ytpnnlggkkjcagaadoor", sum := "62b336a579eb7c1f747d4c09197d13b55c1cb8f8f8b3ba780d78e33ca74d297a", func := "counterfoil/counterfoillaw04.DaysWeeks", spec := "daysWeeks", unfollowed := true, recurses := true, named := ["counterfoil/days.lengths"], apart := false, laid := [("counterfoil/days.lengths", laid_counterfoil_days_lengths)], narrowed := true }
def DaysWeeksUptoSaid : Prop := daysWeeksUptoRow.holds Tryd.pinned (OpenSpec.upto daysWeeksSpec)

end Rows
end Go.Proofs.YtpnnlggkkjcagaaDoor
