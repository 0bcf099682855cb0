/- The week day of a number: the program's and the document's Weekday answer by wdayV; the world is as it was. Condition: numbers of 64 bits. -/
import Derived.Test.YtekcbkicfoaheaaGreatDoorRows
import Derived.Test.YtekcbkicfoaheaaGreatDoorDayFacts
namespace Go.Proofs.YtekcbkicfoaheaaGreatDoor
open Go.RowKit

set_option maxHeartbeats 1000000 in
theorem weekday_any (n : Int) (w : World) (_h1 : -9223372036854775808 ≤ n) (_h2 : n ≤ 9223372036854775807) :
    Calls Tryz.prog 52 #[.int .i64 n] w fun e w' => e = .returned (.int .i64 (wdayV n)) ∧ w' = w := by
  obtain ⟨e, a, b⟩ := wday_plus n
  have hb := wday_bounds n
  rw [e] at hb
  have hb1 := hb.1
  have hb2 := hb.2
  have E := hide e
  clear e hb
  go_enter Tryz.func52, Tryz.ntmps52
  go_wp2_with fail
  go_ret
  exact ⟨ret_int E.out.symm, rfl⟩

set_option maxHeartbeats 1000000 in
theorem refWeekday_any (n : Int) (w : World) (_h1 : -9223372036854775808 ≤ n) (_h2 : n ≤ 9223372036854775807) :
    Calls Tryz.prog 30 #[.int .i64 n] w fun e w' => e = .returned (.int .i64 (wdayV n)) ∧ w' = w := by
  have hb := wday_bounds n
  rcases wday_parts n with ⟨a, b, e⟩ | ⟨a, b, e⟩
  · rw [e] at hb
    have hb1 := hb.1
    have hb2 := hb.2
    have E := hide e
    clear e hb
    go_enter Tryz.func30, Tryz.ntmps30
    go_wp2_with fail
    go_ret
    exact ⟨ret_int E.out.symm, rfl⟩
  · rw [e] at hb
    have hb1 := hb.1
    have hb2 := hb.2
    have E := hide e
    clear e hb
    go_enter Tryz.func30, Tryz.ntmps30
    go_wp2_with fail
    go_ret
    exact ⟨ret_int E.out.symm, rfl⟩

end Go.Proofs.YtekcbkicfoaheaaGreatDoor
