/- The program's isYear, Leap, Length, firstDay, firstMonday, Weeks, Monday: they answer by the functions of 'Days'; the world is as it was. Condition: numbers of 64 bits; firstDay, firstMonday: years from 1 to some six digits; Length: the table of lengths reads as the program's text lays it. -/
import Derived.Test.YtekcbkicfoaheaaGreatDoorDayRef2
import Derived.Test.YtekcbkicfoaheaaGreatDoorDayTabs
namespace Go.Proofs.YtekcbkicfoaheaaGreatDoor
open Go.RowKit

set_option maxHeartbeats 1000000 in
theorem isYear_any (y : Int) (w : World) :
    Calls Tryz.prog 62 #[.int .i64 y] w fun e w' => e = .returned (.bool (yearOk y)) ∧ w' = w := by
  rcases (show y < 1 ∨ 275760 < y ∨ (1 ≤ y ∧ y ≤ 275760) by omega) with h | h | ⟨h, h'⟩
  · have E := hide (yearOk_low h)
    go_enter Tryz.func62, Tryz.ntmps62
    go_wp2_with fail
    go_ret
    exact ⟨ret_bool E.out.symm, rfl⟩
  · have E := hide (yearOk_high h)
    go_enter Tryz.func62, Tryz.ntmps62
    go_wp2_with fail
    go_ret
    exact ⟨ret_bool (by rw [E.out]; exact decide_eq_false (by omega)), rfl⟩
  · have E := hide (yearOk_in h h')
    go_enter Tryz.func62, Tryz.ntmps62
    go_wp2_with fail
    go_ret
    exact ⟨ret_bool E.out.symm, rfl⟩
theorem isYear_yes (y : Int) (w : World) (h : 1 ≤ y) (h' : y ≤ 275760) :
    Calls Tryz.prog 62 #[.int .i64 y] w fun e w' => e = .returned (.bool true) ∧ w' = w := by
  have := isYear_any y w
  rw [yearOk_in h h'] at this; exact this
theorem isYear_no (y : Int) (w : World) (h : y < 1 ∨ 275760 < y) :
    Calls Tryz.prog 62 #[.int .i64 y] w fun e w' => e = .returned (.bool false) ∧ w' = w := by
  have := isYear_any y w
  rcases h with h | h
  · rw [yearOk_low h] at this; exact this
  · rw [yearOk_high h] at this; exact this

set_option maxHeartbeats 1000000 in
theorem leap_any (y : Int) (w : World) (h1 : -9223372036854775808 ≤ y) (h2 : y ≤ 9223372036854775807) :
    Calls Tryz.prog 63 #[.int .i64 y] w fun e w' => e = .returned (.bool (LeapV y)) ∧ w' = w := by
  by_cases h : y < 1 ∨ 275760 < y
  · have E := hide (show LeapV y = false from h.elim leap_low leap_high)
    have HY := hide (fun w => isYear_no y w h)
    clear h
    go_enter Tryz.func63, Tryz.ntmps63
    go_wp2_with fail
    refine (HY.out _).mono ?_
    rintro e u1 ⟨rfl, rfl⟩
    go_wp2_with fail
    go_ret
    exact ⟨ret_bool E.out.symm, rfl⟩
  · have HY := hide (fun w => isYear_yes y w (by omega) (by omega))
    rw [leap_year (by omega) (by omega)]
    rcases leap_split y with ⟨e, c, f⟩ | ⟨e, c, f⟩ | ⟨e, c, d, f⟩ | ⟨e, c, d, f⟩ | ⟨e, c, d⟩
    · have E := hide e
      clear e h
      go_enter Tryz.func63, Tryz.ntmps63
      go_wp2_with fail
      refine (HY.out _).mono ?_
      rintro e u1 ⟨rfl, rfl⟩
      go_wp2_with fail
      go_ret
      exact ⟨ret_bool (by first | exact E.out.symm | (rw [E.out]; assumption)), rfl⟩
    · have E := hide e
      clear e h
      go_enter Tryz.func63, Tryz.ntmps63
      go_wp2_with fail
      refine (HY.out _).mono ?_
      rintro e u1 ⟨rfl, rfl⟩
      go_wp2_with fail
      go_ret
      exact ⟨ret_bool (by first | exact E.out.symm | (rw [E.out]; assumption)), rfl⟩
    · have E := hide e
      clear e h
      go_enter Tryz.func63, Tryz.ntmps63
      go_wp2_with fail
      refine (HY.out _).mono ?_
      rintro e u1 ⟨rfl, rfl⟩
      go_wp2_with fail
      go_ret
      exact ⟨ret_bool (by first | exact E.out.symm | (rw [E.out]; assumption)), rfl⟩
    · have E := hide e
      clear e h
      go_enter Tryz.func63, Tryz.ntmps63
      go_wp2_with fail
      refine (HY.out _).mono ?_
      rintro e u1 ⟨rfl, rfl⟩
      go_wp2_with fail
      go_ret
      exact ⟨ret_bool (by first | exact E.out.symm | (rw [E.out]; assumption)), rfl⟩
    · have E := hide e
      clear e h
      go_enter Tryz.func63, Tryz.ntmps63
      go_wp2_with fail
      refine (HY.out _).mono ?_
      rintro e u1 ⟨rfl, rfl⟩
      go_wp2_with fail
      go_ret
      exact ⟨ret_bool (by first | exact E.out.symm | (rw [E.out]; assumption)), rfl⟩

set_option maxHeartbeats 1000000 in
theorem length_any (y m : Int) (w : World) (h1 : -9223372036854775808 ≤ y) (h2 : y ≤ 9223372036854775807) (_g1 : -9223372036854775808 ≤ m) (_g2 : m ≤ 9223372036854775807) (hT : Lens w) :
    Calls Tryz.prog 37 #[.int .i64 y, .int .i64 m] w fun e w' => e = .returned (.int .i64 (LenV y m)) ∧ w' = w := by
  by_cases h : y < 1 ∨ 275760 < y
  · have E := hide (len_out (y := y) (m := m) (by omega))
    have HY := hide (fun w => isYear_no y w h)
    clear h hT
    go_enter Tryz.func37, Tryz.ntmps37
    go_wp2_with fail
    refine (HY.out _).mono ?_
    rintro e u1 ⟨rfl, rfl⟩
    go_wp2_with fail
    go_ret
    exact ⟨ret_int E.out.symm, rfl⟩
  · have HY := hide (fun w => isYear_yes y w (by omega) (by omega))
    rcases (show m < 1 ∨ 12 < m ∨ (1 ≤ m ∧ m ≤ 12) by omega) with g | g | ⟨g, g'⟩
    · have E := hide (len_out (y := y) (m := m) (by omega))
      clear h hT
      go_enter Tryz.func37, Tryz.ntmps37
      go_wp2_with fail
      refine (HY.out _).mono ?_
      rintro e u1 ⟨rfl, rfl⟩
      go_wp2_with fail
      go_ret
      exact ⟨ret_int E.out.symm, rfl⟩
    · have E := hide (len_out (y := y) (m := m) (by omega))
      clear h hT
      go_enter Tryz.func37, Tryz.ntmps37
      go_wp2_with fail
      refine (HY.out _).mono ?_
      rintro e u1 ⟨rfl, rfl⟩
      go_wp2_with fail
      go_ret
      exact ⟨ret_int E.out.symm, rfl⟩
    · have e := len_in (y := y) (m := m) (by omega)
      have hL := fun w => leap_any y w h1 h2
      rw [leap_year (by omega) (by omega)] at hL
      obtain ⟨k, rfl⟩ : ∃ k : Nat, m = (k : Int) + 1 := ⟨(m - 1).toNat, by omega⟩
      have t := hT k (by omega)
      have hk : k < 12 := by omega
      by_cases k1 : k = 1
      · subst k1
        rw [show lenV 1 ((1 : Nat) + 1 : Int) = 28 by decide] at t
        cases hl : leapV y with
        | true =>
          have E := hide (e.trans (len_feb hl))
          rw [hl] at hL
          have HL := hide hL
          clear h hT hL hl e g g'
          go_enter Tryz.func37, Tryz.ntmps37
          go_wp2_with fail
          refine (HY.out _).mono ?_
          rintro e u1 ⟨rfl, rfl⟩
          go_wp2_with fail
          refine (HL.out _).mono ?_
          rintro e u1 ⟨rfl, rfl⟩
          go_wp2_with fail
          go_ret
          exact ⟨ret_int E.out.symm, rfl⟩
        | false =>
          have E := hide (e.trans (len_feb' hl))
          rw [hl] at hL
          have HL := hide hL
          clear h hT hL hl e g g'
          go_enter Tryz.func37, Tryz.ntmps37
          go_wp2_with fail
          refine (HY.out _).mono ?_
          rintro e u1 ⟨rfl, rfl⟩
          go_wp2_with fail
          refine (HL.out _).mono ?_
          rintro e u1 ⟨rfl, rfl⟩
          go_wp2_with fail
          go_ret
          exact ⟨ret_int E.out.symm, rfl⟩
      · rcases (show k = 0 ∨ k = 2 ∨ k = 3 ∨ k = 4 ∨ k = 5 ∨ k = 6 ∨ k = 7 ∨ k = 8 ∨ k = 9 ∨ k = 10 ∨ k = 11 by omega) with rfl | rfl | rfl | rfl | rfl | rfl | rfl | rfl | rfl | rfl | rfl
        · have E := hide (e.trans (len_any (y := y) (x := 1) (m := ((0 : Nat) : Int) + 1) (by decide)))
          rw [show lenV 1 (((0 : Nat) : Int) + 1) = 31 by decide] at E t
          clear h hT hL e k1 g g' hk _g1 _g2
          go_enter Tryz.func37, Tryz.ntmps37
          go_wp2_with fail
          refine (HY.out _).mono ?_
          rintro e u1 ⟨rfl, rfl⟩
          go_wp2_with fail
          go_ret
          exact ⟨ret_int E.out.symm, rfl⟩
        · have E := hide (e.trans (len_any (y := y) (x := 1) (m := ((2 : Nat) : Int) + 1) (by decide)))
          rw [show lenV 1 (((2 : Nat) : Int) + 1) = 31 by decide] at E t
          clear h hT hL e k1 g g' hk _g1 _g2
          go_enter Tryz.func37, Tryz.ntmps37
          go_wp2_with fail
          refine (HY.out _).mono ?_
          rintro e u1 ⟨rfl, rfl⟩
          go_wp2_with fail
          go_ret
          exact ⟨ret_int E.out.symm, rfl⟩
        · have E := hide (e.trans (len_any (y := y) (x := 1) (m := ((3 : Nat) : Int) + 1) (by decide)))
          rw [show lenV 1 (((3 : Nat) : Int) + 1) = 30 by decide] at E t
          clear h hT hL e k1 g g' hk _g1 _g2
          go_enter Tryz.func37, Tryz.ntmps37
          go_wp2_with fail
          refine (HY.out _).mono ?_
          rintro e u1 ⟨rfl, rfl⟩
          go_wp2_with fail
          go_ret
          exact ⟨ret_int E.out.symm, rfl⟩
        · have E := hide (e.trans (len_any (y := y) (x := 1) (m := ((4 : Nat) : Int) + 1) (by decide)))
          rw [show lenV 1 (((4 : Nat) : Int) + 1) = 31 by decide] at E t
          clear h hT hL e k1 g g' hk _g1 _g2
          go_enter Tryz.func37, Tryz.ntmps37
          go_wp2_with fail
          refine (HY.out _).mono ?_
          rintro e u1 ⟨rfl, rfl⟩
          go_wp2_with fail
          go_ret
          exact ⟨ret_int E.out.symm, rfl⟩
        · have E := hide (e.trans (len_any (y := y) (x := 1) (m := ((5 : Nat) : Int) + 1) (by decide)))
          rw [show lenV 1 (((5 : Nat) : Int) + 1) = 30 by decide] at E t
          clear h hT hL e k1 g g' hk _g1 _g2
          go_enter Tryz.func37, Tryz.ntmps37
          go_wp2_with fail
          refine (HY.out _).mono ?_
          rintro e u1 ⟨rfl, rfl⟩
          go_wp2_with fail
          go_ret
          exact ⟨ret_int E.out.symm, rfl⟩
        · have E := hide (e.trans (len_any (y := y) (x := 1) (m := ((6 : Nat) : Int) + 1) (by decide)))
          rw [show lenV 1 (((6 : Nat) : Int) + 1) = 31 by decide] at E t
          clear h hT hL e k1 g g' hk _g1 _g2
          go_enter Tryz.func37, Tryz.ntmps37
          go_wp2_with fail
          refine (HY.out _).mono ?_
          rintro e u1 ⟨rfl, rfl⟩
          go_wp2_with fail
          go_ret
          exact ⟨ret_int E.out.symm, rfl⟩
        · have E := hide (e.trans (len_any (y := y) (x := 1) (m := ((7 : Nat) : Int) + 1) (by decide)))
          rw [show lenV 1 (((7 : Nat) : Int) + 1) = 31 by decide] at E t
          clear h hT hL e k1 g g' hk _g1 _g2
          go_enter Tryz.func37, Tryz.ntmps37
          go_wp2_with fail
          refine (HY.out _).mono ?_
          rintro e u1 ⟨rfl, rfl⟩
          go_wp2_with fail
          go_ret
          exact ⟨ret_int E.out.symm, rfl⟩
        · have E := hide (e.trans (len_any (y := y) (x := 1) (m := ((8 : Nat) : Int) + 1) (by decide)))
          rw [show lenV 1 (((8 : Nat) : Int) + 1) = 30 by decide] at E t
          clear h hT hL e k1 g g' hk _g1 _g2
          go_enter Tryz.func37, Tryz.ntmps37
          go_wp2_with fail
          refine (HY.out _).mono ?_
          rintro e u1 ⟨rfl, rfl⟩
          go_wp2_with fail
          go_ret
          exact ⟨ret_int E.out.symm, rfl⟩
        · have E := hide (e.trans (len_any (y := y) (x := 1) (m := ((9 : Nat) : Int) + 1) (by decide)))
          rw [show lenV 1 (((9 : Nat) : Int) + 1) = 31 by decide] at E t
          clear h hT hL e k1 g g' hk _g1 _g2
          go_enter Tryz.func37, Tryz.ntmps37
          go_wp2_with fail
          refine (HY.out _).mono ?_
          rintro e u1 ⟨rfl, rfl⟩
          go_wp2_with fail
          go_ret
          exact ⟨ret_int E.out.symm, rfl⟩
        · have E := hide (e.trans (len_any (y := y) (x := 1) (m := ((10 : Nat) : Int) + 1) (by decide)))
          rw [show lenV 1 (((10 : Nat) : Int) + 1) = 30 by decide] at E t
          clear h hT hL e k1 g g' hk _g1 _g2
          go_enter Tryz.func37, Tryz.ntmps37
          go_wp2_with fail
          refine (HY.out _).mono ?_
          rintro e u1 ⟨rfl, rfl⟩
          go_wp2_with fail
          go_ret
          exact ⟨ret_int E.out.symm, rfl⟩
        · have E := hide (e.trans (len_any (y := y) (x := 1) (m := ((11 : Nat) : Int) + 1) (by decide)))
          rw [show lenV 1 (((11 : Nat) : Int) + 1) = 31 by decide] at E t
          clear h hT hL e k1 g g' hk _g1 _g2
          go_enter Tryz.func37, Tryz.ntmps37
          go_wp2_with fail
          refine (HY.out _).mono ?_
          rintro e u1 ⟨rfl, rfl⟩
          go_wp2_with fail
          go_ret
          exact ⟨ret_int E.out.symm, rfl⟩

set_option maxHeartbeats 1000000 in
theorem firstDay_any (y : Int) (w : World) (h1 : 1 ≤ y) (h2 : y ≤ 275763) :
    Calls Tryz.prog 61 #[.int .i64 y] w fun e w' => e = .returned (.int .i64 (newV y)) ∧ w' = w := by
  have E := hide (new_sum y)
  go_enter Tryz.func61, Tryz.ntmps61
  go_wp2_with fail
  go_ret
  exact ⟨ret_int E.out.symm, rfl⟩

set_option maxHeartbeats 1000000 in
theorem firstMonday_any (y : Int) (w : World) (h1 : 1 ≤ y) (h2 : y ≤ 275763) :
    Calls Tryz.prog 65 #[.int .i64 y] w fun e w' => e = .returned (.int .i64 (firstV y)) ∧ w' = w := by
  have E := hide (first_back y)
  obtain ⟨n1, n2⟩ := new_range h1 h2
  have hN := fun w => firstDay_any y w h1 h2
  generalize newV y = N at *
  have hW := fun w => weekday_any (N + 3) w (by omega) (by omega)
  obtain ⟨d1, d2⟩ := wday_bounds (N + 3)
  generalize wdayV (N + 3) = d at *
  have HN := hide hN
  have HW := hide hW
  clear hN hW
  go_enter Tryz.func65, Tryz.ntmps65
  go_wp2_with fail
  refine (HN.out _).mono ?_
  rintro e u1 ⟨rfl, rfl⟩
  go_wp2_with fail
  refine (HW.out _).mono ?_
  rintro e u1 ⟨rfl, rfl⟩
  go_wp2_with fail
  go_ret
  exact ⟨ret_int E.out.symm, rfl⟩

set_option maxHeartbeats 1000000 in
theorem weeks_any (y : Int) (w : World) :
    Calls Tryz.prog 64 #[.int .i64 y] w fun e w' => e = .returned (.int .i64 (WeeksV y)) ∧ w' = w := by
  by_cases h : y < 1 ∨ 275760 < y
  · have E := hide (weeks_out (y := y) (by omega))
    have HY := hide (fun w => isYear_no y w h)
    clear h
    go_enter Tryz.func64, Tryz.ntmps64
    go_wp2_with fail
    refine (HY.out _).mono ?_
    rintro e u1 ⟨rfl, rfl⟩
    go_wp2_with fail
    go_ret
    exact ⟨ret_int E.out.symm, rfl⟩
  · have HY := hide (fun w => isYear_yes y w (by omega) (by omega))
    have y1 : 1 ≤ y := by omega
    have y2 : y ≤ 275760 := by omega
    have E := hide (weeks_in (y := y) ⟨y1, y2⟩)
    have hF := fun w => firstMonday_any y w y1 (by omega)
    have hG := fun w => firstMonday_any (y + 1) w (by omega) (by omega)
    obtain ⟨n1, n2⟩ := first_range y1 (by omega)
    obtain ⟨e1, e2⟩ := weeks_is y
    rw [e1] at hG
    generalize firstV y = F at *
    generalize weeksV y = k at *
    have e3 : 0 ≤ k ∧ k ≤ 53 := by omega
    have HF := hide hF
    have HG := hide hG
    clear hF hG e1 e2 h
    go_enter Tryz.func64, Tryz.ntmps64
    go_wp2_with fail
    refine (HY.out _).mono ?_
    rintro e u1 ⟨rfl, rfl⟩
    go_wp2_with fail
    refine (HG.out _).mono ?_
    rintro e u1 ⟨rfl, rfl⟩
    go_wp2_with fail
    refine (HF.out _).mono ?_
    rintro e u1 ⟨rfl, rfl⟩
    go_wp2_with fail
    go_ret
    exact ⟨ret_int (by rw [E.out]; omega), rfl⟩

set_option maxHeartbeats 1000000 in
theorem monday_any (y k : Int) (w : World) (_g1 : -9223372036854775808 ≤ k) (_g2 : k ≤ 9223372036854775807) :
    Calls Tryz.prog 38 #[.int .i64 y, .int .i64 k] w fun e w' => e = .returned (.tuple #[.int .i64 (monV y k).1, .int .i64 (monV y k).2]) ∧ w' = w := by
  have hW := fun w => weeks_any y w
  rcases (show k < 1 ∨ (1 ≤ k ∧ WeeksV y < k) ∨ (1 ≤ k ∧ k ≤ WeeksV y) by omega) with h | ⟨h, h'⟩ | ⟨h, h'⟩
  · have E := hide (mon_out (y := y) (k := k) (by omega))
    clear hW
    go_enter Tryz.func38, Tryz.ntmps38
    go_wp2_with fail
    go_ret2
    exact ⟨ret_two E.out, rfl⟩
  · have E := hide (mon_out (y := y) (k := k) (by omega))
    generalize WeeksV y = W at *
    have HW := hide hW
    clear hW
    go_enter Tryz.func38, Tryz.ntmps38
    go_wp2_with fail
    refine (HW.out _).mono ?_
    rintro e u1 ⟨rfl, rfl⟩
    go_wp2_with fail
    go_ret2
    exact ⟨ret_two E.out, rfl⟩
  · have E := hide (mon_in (y := y) (k := k) ⟨h, h'⟩)
    obtain ⟨y1, y2, k2⟩ := weeks_some ⟨h, h'⟩
    have hF := fun w => firstMonday_any y w y1 (by omega)
    obtain ⟨n1, n2⟩ := first_range y1 (by omega)
    generalize firstV y = F at *
    generalize WeeksV y = W at *
    have HW := hide hW
    have HF := hide hF
    clear hW hF
    go_enter Tryz.func38, Tryz.ntmps38
    go_wp2_with fail
    refine (HW.out _).mono ?_
    rintro e u1 ⟨rfl, rfl⟩
    go_wp2_with fail
    refine (HF.out _).mono ?_
    rintro e u1 ⟨rfl, rfl⟩
    go_wp2_with fail
    go_ret2
    exact ⟨ret_two (by rw [E.out, Int.mul_comm 7]), rfl⟩

end Go.Proofs.YtekcbkicfoaheaaGreatDoor
