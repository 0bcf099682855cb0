/- The document's leap, Leap, length, Length, New: they answer by the functions of 'Days'; the world is as it was. Condition: numbers of 64 bits; New: years from 1 to some six digits. -/
import Derived.Test.YtekcbkicfoaheaaGreatDoorRows
import Derived.Test.YtekcbkicfoaheaaGreatDoorDayFacts
namespace Go.Proofs.YtekcbkicfoaheaaGreatDoor
open Go.RowKit

set_option maxHeartbeats 1000000 in
theorem refleap_any (y : Int) (w : World) (_h1 : -9223372036854775808 ≤ y) (_h2 : y ≤ 9223372036854775807) :
    Calls Tryz.prog 78 #[.int .i64 y] w fun e w' => e = .returned (.bool (leapV y)) ∧ w' = w := by
  rcases leap_parts y with ⟨e, a⟩ | ⟨e, a, b⟩ | ⟨e, a, b, c⟩ | ⟨e, a, b, c⟩
  · have E := hide e
    clear e
    go_enter Tryz.func78, Tryz.ntmps78
    go_wp2_with fail
    go_ret
    exact ⟨ret_bool E.out.symm, rfl⟩
  · have E := hide e
    clear e
    go_enter Tryz.func78, Tryz.ntmps78
    go_wp2_with fail
    go_ret
    exact ⟨ret_bool E.out.symm, rfl⟩
  · have E := hide e
    clear e
    go_enter Tryz.func78, Tryz.ntmps78
    go_wp2_with fail
    go_ret
    exact ⟨ret_bool (by rw [E.out, bne, c]; rfl), rfl⟩
  · have E := hide e
    clear e
    go_enter Tryz.func78, Tryz.ntmps78
    go_wp2_with fail
    go_ret
    exact ⟨ret_bool (by rw [E.out, bne, c]; rfl), rfl⟩


set_option maxHeartbeats 1000000 in
theorem reflen_any (y m : Int) (w : World) (h1 : -9223372036854775808 ≤ y) (h2 : y ≤ 9223372036854775807) :
    Calls Tryz.prog 56 #[.int .i64 y, .int .i64 m] w fun e w' => e = .returned (.int .i64 (lenV y m)) ∧ w' = w := by
  by_cases m2 : m = 2
  · subst m2
    have hL := fun w => refleap_any y w h1 h2
    cases hl : leapV y with
    | true =>
      rw [hl] at hL
      have E := hide (len_feb hl)
      have HL := hide hL
      clear hL hl
      go_enter Tryz.func56, Tryz.ntmps56
      go_wp2_with fail
      refine (HL.out _).mono ?_
      rintro e u1 ⟨rfl, rfl⟩
      go_wp2_with fail
      go_ret
      exact ⟨ret_int E.out.symm, rfl⟩
    | false =>
      rw [hl] at hL
      have E := hide (len_feb' hl)
      have HL := hide hL
      clear hL hl
      go_enter Tryz.func56, Tryz.ntmps56
      go_wp2_with fail
      refine (HL.out _).mono ?_
      rintro e u1 ⟨rfl, rfl⟩
      go_wp2_with fail
      go_ret
      exact ⟨ret_int E.out.symm, rfl⟩
  by_cases m4 : m = 4
  · subst m4
    have E := hide (len_30 (y := y) (m := 4) (by omega))
    clear m2
    go_enter Tryz.func56, Tryz.ntmps56
    go_wp2_with fail
    go_ret
    exact ⟨ret_int E.out.symm, rfl⟩
  by_cases m6 : m = 6
  · subst m6
    have E := hide (len_30 (y := y) (m := 6) (by omega))
    clear m2
    go_enter Tryz.func56, Tryz.ntmps56
    go_wp2_with fail
    go_ret
    exact ⟨ret_int E.out.symm, rfl⟩
  by_cases m9 : m = 9
  · subst m9
    have E := hide (len_30 (y := y) (m := 9) (by omega))
    clear m2
    go_enter Tryz.func56, Tryz.ntmps56
    go_wp2_with fail
    go_ret
    exact ⟨ret_int E.out.symm, rfl⟩
  by_cases m11 : m = 11
  · subst m11
    have E := hide (len_30 (y := y) (m := 11) (by omega))
    clear m2
    go_enter Tryz.func56, Tryz.ntmps56
    go_wp2_with fail
    go_ret
    exact ⟨ret_int E.out.symm, rfl⟩
  have E := hide (len_31 (y := y) m2 (by omega))
  have b2 := beq_no m2
  have b4 := beq_no m4
  have b6 := beq_no m6
  have b9 := beq_no m9
  have b11 := beq_no m11
  clear m2 m4 m6 m9 m11
  go_enter Tryz.func56, Tryz.ntmps56
  go_wp2_with fail
  go_ret
  exact ⟨ret_int E.out.symm, rfl⟩

set_option maxHeartbeats 1000000 in
theorem refLen_any (y m : Int) (w : World) (h1 : -9223372036854775808 ≤ y) (h2 : y ≤ 9223372036854775807) (g1 : -9223372036854775808 ≤ m) (g2 : m ≤ 9223372036854775807) :
    Calls Tryz.prog 87 #[.int .i64 y, .int .i64 m] w fun e w' => e = .returned (.int .i64 (LenV y m)) ∧ w' = w := by
  rcases (show y < 1 ∨ 275760 < y ∨ (1 ≤ y ∧ y ≤ 275760) by omega) with h | h | ⟨h, h'⟩
  · have E := hide (len_out (y := y) (m := m) (by omega))
    go_enter Tryz.func87, Tryz.ntmps87
    go_wp2_with fail
    go_ret
    exact ⟨ret_int E.out.symm, rfl⟩
  · have E := hide (len_out (y := y) (m := m) (by omega))
    go_enter Tryz.func87, Tryz.ntmps87
    go_wp2_with fail
    go_ret
    exact ⟨ret_int E.out.symm, rfl⟩
  · rcases (show m < 1 ∨ 12 < m ∨ (1 ≤ m ∧ m ≤ 12) by omega) with g | g | ⟨g, g'⟩
    · have E := hide (len_out (y := y) (m := m) (by omega))
      go_enter Tryz.func87, Tryz.ntmps87
      go_wp2_with fail
      go_ret
      exact ⟨ret_int E.out.symm, rfl⟩
    · have E := hide (len_out (y := y) (m := m) (by omega))
      go_enter Tryz.func87, Tryz.ntmps87
      go_wp2_with fail
      go_ret
      exact ⟨ret_int E.out.symm, rfl⟩
    · have E := hide (len_in (y := y) (m := m) (by omega))
      go_enter Tryz.func87, Tryz.ntmps87
      go_wp2_with fail
      refine (reflen_any y m _ h1 h2).mono ?_
      rintro e u1 ⟨rfl, rfl⟩
      go_wp2_with fail
      go_ret
      exact ⟨ret_int E.out.symm, rfl⟩

set_option maxHeartbeats 1000000 in
theorem refNew_any (y : Int) (w : World) (h1 : 1 ≤ y) (h2 : y ≤ 275763) :
    Calls Tryz.prog 55 #[.int .i64 y] w fun e w' => e = .returned (.int .i64 (newV y)) ∧ w' = w := by
  have E := hide (show newV y = (y - 1) * 365 + (y - 1) / 4 - (y - 1) / 100 + (y - 1) / 400 - 719162 from rfl)
  go_enter Tryz.func55, Tryz.ntmps55
  go_wp2_with fail
  go_ret
  exact ⟨ret_int E.out.symm, rfl⟩

end Go.Proofs.YtekcbkicfoaheaaGreatDoor
