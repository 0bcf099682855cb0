/- The document's first, Weeks, Monday, Year, Number: they answer by the functions of 'Days'; the world is as it was. Condition: numbers of 64 bits; first: years from 1 to some six digits. -/
import Derived.Test.YtekcbkicfoaheaaGreatDoorDayRef
import Derived.Test.YtekcbkicfoaheaaGreatDoorWdayWalks
import Derived.Test.YtekcbkicfoaheaaGreatDoorDayMore
namespace Go.Proofs.YtekcbkicfoaheaaGreatDoor
open Go.RowKit

set_option maxHeartbeats 1000000 in
theorem reffirst_any (y : Int) (w : World) (h1 : 1 ≤ y) (h2 : y ≤ 275763) :
    Calls Tryz.prog 58 #[.int .i64 y] w fun e w' => e = .returned (.int .i64 (firstV y)) ∧ w' = w := by
  obtain ⟨n1, n2⟩ := new_range h1 h2
  obtain ⟨f1, f2⟩ := first_bounds y
  have hA := fun n => first_at (y := y) (n := n)
  have hN := fun w => refNew_any y w h1 h2
  generalize newV y = N at *
  generalize firstV y = F at *
  have HA := hide hA
  have HN := hide hN
  clear hA hN
  go_enter Tryz.func58, Tryz.ntmps58
  go_wp2_with fail
  refine (HN.out _).mono ?_
  rintro e u1 ⟨rfl, rfl⟩
  go_wp2_with fail
  go_loop [3] (fun s => ∃ n : Int, s = .int .i64 n ∧ F ≤ n ∧ n ≤ N + 3) (fun s => (intOf s - F).toNat)
  case atStart => exact ⟨N + 3, rfl, f2, by omega⟩
  case round =>
    obtain ⟨n, rfl, a1, a2⟩ := hrel
    have ⟨c1, c2⟩ := HA.out n a1 a2
    have hW := fun w => refWeekday_any n w (by omega) (by omega)
    by_cases hw : wdayV n = 1
    · rw [hw] at hW
      have E := hide (c1 hw)
      have HW := hide hW
      clear hW hw c1 c2
      go_wp2_with fail
      refine (HW.out _).mono ?_
      rintro e u1 ⟨rfl, rfl⟩
      go_wp2_with fail
      go_ret
      exact ⟨ret_int E.out, rfl⟩
    · have c3 := c2 hw
      have d := beq_no hw
      generalize wdayV n = d at *
      have HW := hide hW
      clear hW hw c1 c2
      go_wp2_with fail
      refine (HW.out _).mono ?_
      rintro e u1 ⟨rfl, rfl⟩
      go_wp2_with fail
      go_round
      case rel => exact ⟨n - 1, rfl, c3, by omega⟩
      case measure => simp [intOf]; omega

set_option maxHeartbeats 1000000 in
theorem refWeeks_any (y : Int) (w : World) (h1 : -9223372036854775808 ≤ y) (h2 : y ≤ 9223372036854775807) :
    Calls Tryz.prog 70 #[.int .i64 y] w fun e w' => e = .returned (.int .i64 (WeeksV y)) ∧ w' = w := by
  rcases (show y < 1 ∨ 275760 < y ∨ (1 ≤ y ∧ y ≤ 275760) by omega) with h | h | ⟨h, h'⟩
  · have E := hide (weeks_out (y := y) (by omega))
    go_enter Tryz.func70, Tryz.ntmps70
    go_wp2_with fail
    go_ret
    exact ⟨ret_int E.out.symm, rfl⟩
  · have E := hide (weeks_out (y := y) (by omega))
    go_enter Tryz.func70, Tryz.ntmps70
    go_wp2_with fail
    go_ret
    exact ⟨ret_int E.out.symm, rfl⟩
  · rw [weeks_in ⟨h, h'⟩]
    obtain ⟨n1, n2⟩ := first_range h (by omega)
    have hF := fun w => reffirst_any y w h (by omega)
    have hG := fun w => reffirst_any (y + 1) w (by omega) (by omega)
    obtain ⟨e1, e2⟩ := weeks_is y
    rw [e1] at hG
    have e3 : 0 ≤ weeksV y ∧ weeksV y ≤ 53 := by omega
    generalize firstV y = F at *
    generalize weeksV y = k at *
    have HF := hide hF
    have HG := hide hG
    clear hF hG e1 e2
    go_enter Tryz.func70, Tryz.ntmps70
    go_wp2_with fail
    go_loop [3] (fun s => ∃ n : Int, s = .int .i64 n ∧ 0 ≤ n ∧ n ≤ k) (fun s => (k - intOf s).toNat)
    case atStart => exact ⟨0, rfl, by omega, by omega⟩
    case round =>
      obtain ⟨n, rfl, a1, a2⟩ := hrel
      by_cases hn : n < k
      · go_wp2_with fail
        refine (HF.out _).mono ?_
        rintro e u1 ⟨rfl, rfl⟩
        go_wp2_with fail
        refine (HG.out _).mono ?_
        rintro e u1 ⟨rfl, rfl⟩
        go_wp2_with fail
        go_round
        case rel => exact ⟨n + 1, rfl, by omega, by omega⟩
        case measure => simp [intOf]; omega
      · obtain rfl : n = k := by omega
        go_wp2_with fail
        refine (HF.out _).mono ?_
        rintro e u1 ⟨rfl, rfl⟩
        go_wp2_with fail
        refine (HG.out _).mono ?_
        rintro e u1 ⟨rfl, rfl⟩
        go_wp2_with fail
        go_ret
        exact ⟨rfl, rfl⟩

theorem ret_two {p : Int × Int} {a b : Int} (h : p = (a, b)) : Ending.returned (.tuple #[.int .i64 a, .int .i64 b]) = .returned (.tuple #[.int .i64 p.1, .int .i64 p.2]) := by rw [h]

set_option maxHeartbeats 1000000 in
theorem refMonday_any (y k : Int) (w : World) (h1 : -9223372036854775808 ≤ y) (h2 : y ≤ 9223372036854775807) (_g1 : -9223372036854775808 ≤ k) (_g2 : k ≤ 9223372036854775807) :
    Calls Tryz.prog 46 #[.int .i64 y, .int .i64 k] w fun e w' => e = .returned (.tuple #[.int .i64 (monV y k).1, .int .i64 (monV y k).2]) ∧ w' = w := by
  have hW := fun w => refWeeks_any y w h1 h2
  rcases (show k < 1 ∨ (1 ≤ k ∧ WeeksV y < k) ∨ (1 ≤ k ∧ k ≤ WeeksV y) by omega) with h | ⟨h, h'⟩ | ⟨h, h'⟩
  · have E := hide (mon_out (y := y) (k := k) (by omega))
    clear hW
    go_enter Tryz.func46, Tryz.ntmps46
    go_wp2_with fail
    go_ret2
    exact ⟨ret_two E.out, rfl⟩
  · have E := hide (mon_out (y := y) (k := k) (by omega))
    generalize WeeksV y = W at *
    have HW := hide hW
    clear hW
    go_enter Tryz.func46, Tryz.ntmps46
    go_wp2_with fail
    refine (HW.out _).mono ?_
    rintro e u1 ⟨rfl, rfl⟩
    go_wp2_with fail
    go_ret2
    exact ⟨ret_two E.out, rfl⟩
  · have E := hide (mon_in (y := y) (k := k) ⟨h, h'⟩)
    obtain ⟨y1, y2, k2⟩ := weeks_some ⟨h, h'⟩
    have hF := fun w => reffirst_any y w y1 (by omega)
    obtain ⟨n1, n2⟩ := first_range y1 (by omega)
    generalize firstV y = F at *
    generalize WeeksV y = W at *
    have HW := hide hW
    have HF := hide hF
    clear hW hF
    go_enter Tryz.func46, Tryz.ntmps46
    go_wp2_with fail
    refine (HW.out _).mono ?_
    rintro e u1 ⟨rfl, rfl⟩
    go_wp2_with fail
    refine (HF.out _).mono ?_
    rintro e u1 ⟨rfl, rfl⟩
    go_wp2_with fail
    go_ret2
    exact ⟨ret_two E.out, rfl⟩

theorem refYear_low (n : Int) (w : World) (h : n < newV 1) :
    Calls Tryz.prog 54 #[.int .i64 n] w fun e w' => e = .returned (.int .i64 0) ∧ w' = w := by
  have hN := fun w => refNew_any 1 w (by decide) (by decide)
  generalize newV 1 = N at *
  have HN := hide hN
  clear hN
  go_enter Tryz.func54, Tryz.ntmps54
  go_wp2_with fail
  refine (HN.out _).mono ?_
  rintro e u1 ⟨rfl, rfl⟩
  go_wp2_with fail
  go_ret
  exact ⟨rfl, rfl⟩
theorem refYear_high (n : Int) (w : World) (h : newV 275762 ≤ n) :
    Calls Tryz.prog 54 #[.int .i64 n] w fun e w' => e = .returned (.int .i64 0) ∧ w' = w := by
  have hN := fun w => refNew_any 1 w (by decide) (by decide)
  have hM := fun w => refNew_any 275762 w (by decide) (by decide)
  have h0 := new_mono (show (1 : Int) ≤ 275762 by decide)
  generalize newV 1 = N at *
  generalize newV 275762 = M at *
  have g : N ≤ n := by omega
  have HN := hide hN
  have HM := hide hM
  clear hN hM h0
  go_enter Tryz.func54, Tryz.ntmps54
  go_wp2_with fail
  refine (HN.out _).mono ?_
  rintro e u1 ⟨rfl, rfl⟩
  go_wp2_with fail
  refine (HM.out _).mono ?_
  rintro e u1 ⟨rfl, rfl⟩
  go_wp2_with fail
  go_ret
  exact ⟨rfl, rfl⟩

set_option maxHeartbeats 1000000 in
theorem refYear_in (n y : Int) (w : World) (hy : IsYear n y) (y1 : 1 ≤ y) (y2 : y ≤ 275761) :
    Calls Tryz.prog 54 #[.int .i64 n] w fun e w' => e = .returned (.int .i64 y) ∧ w' = w := by
  have hN := fun w => refNew_any 1 w (by decide) (by decide)
  have hM := fun w => refNew_any 275762 w (by decide) (by decide)
  have g1 := (year_here hy (x := 1)).2 y1
  have g2 : n < newV 275762 := by
    rcases Int.lt_or_le n (newV 275762) with h | h
    · exact h
    · have := (year_here hy).1 h; omega
  have hX := fun x => year_here hy (x := x)
  generalize newV 1 = N at *
  generalize newV 275762 = M at *
  have HX := hide hX
  have HN := hide hN
  have HM := hide hM
  clear hN hM hX hy
  go_enter Tryz.func54, Tryz.ntmps54
  go_wp2_with fail
  refine (HN.out _).mono ?_
  rintro e u1 ⟨rfl, rfl⟩
  go_wp2_with fail
  refine (HM.out _).mono ?_
  rintro e u1 ⟨rfl, rfl⟩
  go_wp2_with fail
  go_loop [3, 4] (fun s t => ∃ a b : Int, s = .int .i64 a ∧ t = .int .i64 b ∧ 1 ≤ a ∧ a ≤ y ∧ y ≤ b ∧ b ≤ 275761) (fun s t => (intOf t - intOf s).toNat)
  case atStart => exact ⟨1, 275761, rfl, rfl, by omega, by omega, by omega, by omega⟩
  case round =>
    obtain ⟨a, b, rfl, rfl, a1, a2, a3, a4⟩ := hrel
    by_cases hab : a < b
    · have hC := fun w => refNew_any ((a + b + 1) / 2) w (by omega) (by omega)
      have hx := HX.out ((a + b + 1) / 2)
      by_cases hc : (a + b + 1) / 2 ≤ y
      · have hd := hx.2 hc
        generalize newV ((a + b + 1) / 2) = V at *
        have HC := hide hC
        clear hC hx
        go_wp2_with fail
        refine (HC.out _).mono ?_
        rintro e u1 ⟨rfl, rfl⟩
        go_wp2_with fail
        go_round
        case rel => exact ⟨(a + b + 1) / 2, b, rfl, rfl, by omega, hc, a3, a4⟩
        case measure => simp [intOf]; omega
      · have hd : n < newV ((a + b + 1) / 2) := by
          rcases Int.lt_or_le n (newV ((a + b + 1) / 2)) with h | h
          · exact h
          · exact absurd (hx.1 h) hc
        generalize newV ((a + b + 1) / 2) = V at *
        have HC := hide hC
        clear hC hx
        go_wp2_with fail
        refine (HC.out _).mono ?_
        rintro e u1 ⟨rfl, rfl⟩
        go_wp2_with fail
        go_round
        case rel => exact ⟨a, (a + b + 1) / 2 - 1, rfl, rfl, a1, a2, by omega, by omega⟩
        case measure => simp [intOf]; omega
    · obtain rfl : a = b := by omega
      obtain rfl : a = y := by omega
      go_wp2_with fail
      go_ret
      exact ⟨rfl, rfl⟩

end Go.Proofs.YtekcbkicfoaheaaGreatDoor
