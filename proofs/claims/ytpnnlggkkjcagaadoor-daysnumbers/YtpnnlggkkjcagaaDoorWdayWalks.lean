/- The week day of a number: the program's and the document's Weekday answer by wdayV; the world is as it was. Condition: numbers of 64 bits. -/
import Derived.Test.YtpnnlggkkjcagaaDoorRows
import Derived.Test.YtpnnlggkkjcagaaDoorDayFacts
namespace Go.Proofs.YtpnnlggkkjcagaaDoor
open Go.RowKit

set_option maxHeartbeats 1000000 in
theorem weekday_any (n : Int) (w : World) (_h1 : -9223372036854775808 ≤ n) (_h2 : n ≤ 9223372036854775807) :
    Calls Tryd.prog 21 #[.int .i64 n] w fun e w' => e = .returned (.int .i64 (wdayV n)) ∧ w' = w := by
  obtain ⟨e, a, b⟩ := wday_plus n
  have hb := wday_bounds n
  rw [e] at hb
  have hb1 := hb.1
  have hb2 := hb.2
  have E := hide e
  clear e hb
  go_enter Tryd.func21, Tryd.ntmps21
  go_wp2_with fail
  go_ret
  exact ⟨ret_int E.out.symm, rfl⟩

set_option maxHeartbeats 1000000 in
theorem refWeekday_any (n : Int) (w : World) (_h1 : -9223372036854775808 ≤ n) (_h2 : n ≤ 9223372036854775807) :
    Calls Tryd.prog 35 #[.int .i64 n] w fun e w' => e = .returned (.int .i64 (wdayV n)) ∧ w' = w := by
  have hb := wday_bounds n
  rcases wday_parts n with ⟨a, b, e⟩ | ⟨a, b, e⟩
  · rw [e] at hb
    have hb1 := hb.1
    have hb2 := hb.2
    have E := hide e
    clear e hb
    go_enter Tryd.func35, Tryd.ntmps35
    go_wp2_with fail
    go_ret
    exact ⟨ret_int E.out.symm, rfl⟩
  · rw [e] at hb
    have hb1 := hb.1
    have hb2 := hb.2
    have E := hide e
    clear e hb
    go_enter Tryd.func35, Tryd.ntmps35
    go_wp2_with fail
    go_ret
    exact ⟨ret_int E.out.symm, rfl⟩

end Go.Proofs.YtpnnlggkkjcagaaDoor
