/- What a division leaves, the numbers that fit a base and a step, and the greatest that isn't above one: the program's and the document's functions answer by those of 'NumMod'; the world is as it was. Condition: numbers of 64 bits; a step above 0 where one is divided by it. -/
import Derived.Test.YthakeibmbcgjfaaRows
import Derived.Test.YthakeibmbcgjfaaNumMod
namespace Go.Proofs.Ythakeibmbcgjfaa
open Go.RowKit

theorem left_at {n s : Int} (h3 : 1 ≤ s) : (0 ≤ n.tmod s → n % s = n.tmod s) ∧ (n.tmod s < 0 → n % s = n.tmod s + s ∧ -s < n.tmod s ∧ n < 0) := by
  by_cases hn : 0 ≤ n
  · have e := left_pos (n := n) (s := s) hn
    have := Int.emod_nonneg n (by omega : s ≠ 0)
    exact ⟨fun _ => e.symm, fun h => by omega⟩
  · have ⟨b1, b2⟩ := left_bounds (n := n) (s := s) (by omega) (by omega)
    refine ⟨fun h => ?_, fun h => ⟨?_, b1, by omega⟩⟩
    · have e : n.tmod s = 0 := by omega
      rw [left_neg0 e, e]
    · have := left_neg (n := n) (s := s) (by omega) (by omega) (by omega)
      omega
theorem left_less {n s : Int} (h3 : 1 ≤ s) : 0 ≤ n % s ∧ n % s < s := ⟨Int.emod_nonneg _ (by omega), Int.emod_lt_of_pos _ (by omega)⟩

set_option maxHeartbeats 1000000 in
theorem left_any (n s : Int) (w : World) (_h1 : -9223372036854775808 ≤ n) (_h2 : n ≤ 9223372036854775807) (h3 : 1 ≤ s) (h4 : s ≤ 9223372036854775807) :
    Calls Try.prog 9 #[.int .i64 n, .int .i64 s] w fun e w' => e = .returned (.int .i64 (n % s)) ∧ w' = w := by
  have ⟨a1, a2⟩ := left_at (n := n) h3
  by_cases hc : 0 ≤ n.tmod s
  · have E := hide (a1 hc)
    clear a1 a2
    go_enter Try.func9, Try.ntmps9
    go_wp2_with fail
    go_ret
    exact ⟨ret_int E.out.symm, rfl⟩
  · have hc' : n.tmod s < 0 := by omega
    have E := hide (a2 hc').1
    have b := (a2 hc').2.1
    clear a1 a2 hc
    go_enter Try.func9, Try.ntmps9
    go_wp2_with fail
    go_ret
    exact ⟨ret_int E.out.symm, rfl⟩

set_option maxHeartbeats 1000000 in
theorem refLeft_any (n s : Int) (w : World) (_h1 : -9223372036854775808 ≤ n) (_h2 : n ≤ 9223372036854775807) (h3 : 1 ≤ s) (h4 : s ≤ 9223372036854775807) :
    Calls Try.prog 10 #[.int .i64 n, .int .i64 s] w fun e w' => e = .returned (.int .i64 (n % s)) ∧ w' = w := by
  have ⟨a1, a2⟩ := left_at (n := n) h3
  have l3 := left_pos (n := n) (s := s)
  have l4 := left_bounds (n := n) (s := s) (by omega)
  by_cases hn : 0 ≤ n
  · clear a1 a2 l3 l4
    go_enter Try.func10, Try.ntmps10
    go_wp2_with fail
    go_ret
    exact ⟨rfl, rfl⟩
  · have hn' : n < 0 := by omega
    have ⟨b1, b2⟩ := l4 hn'
    by_cases hc : n.tmod s = 0
    · have E := hide ((a1 (by omega)).trans hc)
      have hc1 : (n.tmod s == 0) = true := by simpa using hc
      clear a1 a2 l3 l4 hn hc
      go_enter Try.func10, Try.ntmps10
      go_wp2_with fail
      go_ret
      exact ⟨ret_int E.out.symm, rfl⟩
    · have E := hide (a2 (by omega)).1
      have hc1 : (n.tmod s == 0) = false := by simpa using hc
      clear a1 a2 l3 l4 hn hc
      go_enter Try.func10, Try.ntmps10
      go_wp2_with fail
      go_ret
      exact ⟨ret_int (by rw [E.out]; omega), rfl⟩

theorem fit_no {n base step : Int} (h : ¬ 1 ≤ step) : fitV n base step = false := decide_eq_false (fun x => h x.1)
theorem fit_is {n base step : Int} (h : 1 ≤ step) : fitV n base step = (n % step == base % step) := by
  unfold fitV
  by_cases e : n % step = base % step
  · rw [decide_eq_true ⟨h, e⟩]; simp [e]
  · rw [decide_eq_false (fun x => e x.2)]; simp [e]

set_option maxHeartbeats 1000000 in
theorem fits_any (n base step : Int) (w : World) (h1 : -9223372036854775808 ≤ n) (h2 : n ≤ 9223372036854775807) (g1 : -9223372036854775808 ≤ base) (g2 : base ≤ 9223372036854775807) (h4 : step ≤ 9223372036854775807) (h5 : -9223372036854775808 ≤ step) :
    Calls Try.prog 5 #[.int .i64 n, .int .i64 base, .int .i64 step] w fun e w' => e = .returned (.bool (fitV n base step)) ∧ w' = w := by
  by_cases hs : 1 ≤ step
  · have E := hide (fit_is (n := n) (base := base) hs)
    go_enter Try.func5, Try.ntmps5
    go_wp2_with fail
    refine (left_any n step _ h1 h2 hs h4).mono ?_
    rintro e u1 ⟨rfl, rfl⟩
    go_wp2_with fail
    refine (left_any base step _ g1 g2 hs h4).mono ?_
    rintro e u1 ⟨rfl, rfl⟩
    go_wp2_with fail
    go_ret
    exact ⟨ret_bool E.out.symm, rfl⟩
  · have E := hide (fit_no (n := n) (base := base) hs)
    have hs' : step ≤ 0 := by omega
    clear hs
    go_enter Try.func5, Try.ntmps5
    go_wp2_with fail
    go_ret
    exact ⟨ret_bool E.out.symm, rfl⟩

set_option maxHeartbeats 1000000 in
theorem refFits_any (n base step : Int) (w : World) (h1 : -9223372036854775808 ≤ n) (h2 : n ≤ 9223372036854775807) (g1 : -9223372036854775808 ≤ base) (g2 : base ≤ 9223372036854775807) (h4 : step ≤ 9223372036854775807) (h5 : -9223372036854775808 ≤ step) :
    Calls Try.prog 6 #[.int .i64 n, .int .i64 base, .int .i64 step] w fun e w' => e = .returned (.bool (fitV n base step)) ∧ w' = w := by
  by_cases hs : 1 ≤ step
  · have E := hide (fit_is (n := n) (base := base) hs)
    go_enter Try.func6, Try.ntmps6
    go_wp2_with fail
    refine (refLeft_any n step _ h1 h2 hs h4).mono ?_
    rintro e u1 ⟨rfl, rfl⟩
    go_wp2_with fail
    refine (refLeft_any base step _ g1 g2 hs h4).mono ?_
    rintro e u1 ⟨rfl, rfl⟩
    go_wp2_with fail
    go_ret
    exact ⟨ret_bool E.out.symm, rfl⟩
  · have E := hide (fit_no (n := n) (base := base) hs)
    have hs' : step ≤ 0 := by omega
    clear hs
    go_enter Try.func6, Try.ntmps6
    go_wp2_with fail
    go_ret
    exact ⟨ret_bool E.out.symm, rfl⟩

theorem ret_down {n : Int} {b : Bool} {m : Int} {c : Bool} (h : n = m) (g : b = c) : Ending.returned (.tuple #[.int .i64 n, .bool b]) = .returned (.tuple #[.int .i64 m, .bool c]) := by rw [h, g]
theorem down_off {n base step : Int} (h : ¬ 1 ≤ step) : downOk n base step = false := decide_eq_false (fun x => h x.1)
theorem down_none {n base step : Int} (h : n + 9223372036854775808 < muchV n base step) : downOk n base step = false := decide_eq_false (fun x => by have := x.2; omega)
theorem down_some {n base step : Int} (h : 1 ≤ step) (h2 : muchV n base step ≤ n + 9223372036854775808) : downOk n base step = true := decide_eq_true ⟨h, h2⟩
theorem much_left {n base step : Int} : (n % step - base % step) % step = muchV n base step := (Int.sub_emod n base step).symm

set_option maxHeartbeats 1000000 in
theorem down_any (n base step : Int) (w : World) (h1 : -9223372036854775808 ≤ n) (h2 : n ≤ 9223372036854775807) (g1 : -9223372036854775808 ≤ base) (g2 : base ≤ 9223372036854775807) (h4 : step ≤ 9223372036854775807) (h5 : -9223372036854775808 ≤ step) :
    Calls Try.prog 7 #[.int .i64 n, .int .i64 base, .int .i64 step] w fun e w' => e = .returned (.tuple #[.int .i64 (downV n base step), .bool (downOk n base step)]) ∧ w' = w := by
  by_cases hs : 1 ≤ step
  · have ⟨a1, a2⟩ := left_less (n := n) hs
    have ⟨b1, b2⟩ := left_less (n := base) hs
    have ⟨m1, m2⟩ := much_bounds (n := n) (base := base) hs
    have hL := left_any (n % step - base % step) step
    rw [much_left] at hL
    by_cases hm : muchV n base step ≤ n + 9223372036854775808
    · have E := hide (down_some hs hm)
      have E2 := hide (downV_yes E.out)
      generalize muchV n base step = m at *
      have HL := hide (fun w => hL w (by omega) (by omega) hs h4)
      clear hL
      go_enter Try.func7, Try.ntmps7
      go_wp2_with fail
      refine (left_any n step _ h1 h2 hs h4).mono ?_
      rintro e u1 ⟨rfl, rfl⟩
      go_wp2_with fail
      refine (left_any base step _ g1 g2 hs h4).mono ?_
      rintro e u1 ⟨rfl, rfl⟩
      go_wp2_with fail
      refine (HL.out _).mono ?_
      rintro e u1 ⟨rfl, rfl⟩
      go_wp2_with fail
      go_ret2
      exact ⟨ret_down E2.out.symm E.out.symm, rfl⟩
    · have E := hide (down_none (n := n) (base := base) (step := step) (by omega))
      have E2 := hide (downV_no E.out)
      generalize muchV n base step = m at *
      have HL := hide (fun w => hL w (by omega) (by omega) hs h4)
      have hm' : n + 9223372036854775808 < m := by omega
      clear hL hm
      go_enter Try.func7, Try.ntmps7
      go_wp2_with fail
      refine (left_any n step _ h1 h2 hs h4).mono ?_
      rintro e u1 ⟨rfl, rfl⟩
      go_wp2_with fail
      refine (left_any base step _ g1 g2 hs h4).mono ?_
      rintro e u1 ⟨rfl, rfl⟩
      go_wp2_with fail
      refine (HL.out _).mono ?_
      rintro e u1 ⟨rfl, rfl⟩
      go_wp2_with fail
      go_ret2
      exact ⟨ret_down E2.out.symm E.out.symm, rfl⟩
  · have E := hide (down_off (n := n) (base := base) hs)
    have E2 := hide (downV_no E.out)
    have hs' : step ≤ 0 := by omega
    clear hs
    go_enter Try.func7, Try.ntmps7
    go_wp2_with fail
    go_ret2
    exact ⟨ret_down E2.out.symm E.out.symm, rfl⟩

set_option maxHeartbeats 1000000 in
theorem refDown_any (n base step : Int) (w : World) (h1 : -9223372036854775808 ≤ n) (h2 : n ≤ 9223372036854775807) (g1 : -9223372036854775808 ≤ base) (g2 : base ≤ 9223372036854775807) (h4 : step ≤ 9223372036854775807) (h5 : -9223372036854775808 ≤ step) :
    Calls Try.prog 8 #[.int .i64 n, .int .i64 base, .int .i64 step] w fun e w' => e = .returned (.tuple #[.int .i64 (downV n base step), .bool (downOk n base step)]) ∧ w' = w := by
  by_cases hs : 1 ≤ step
  · have ⟨a1, a2⟩ := left_less (n := n) hs
    have ⟨b1, b2⟩ := left_less (n := base) hs
    have ⟨m1, m2⟩ := much_bounds (n := n) (base := base) hs
    have hA := fun w => refLeft_any n step w h1 h2 hs h4
    have hB := fun w => refLeft_any base step w g1 g2 hs h4
    have u1 := much_up (n := n) (base := base) hs
    have u2 := much_down (n := n) (base := base) hs
    have hy := down_some (n := n) (base := base) hs
    have hn := down_none (n := n) (base := base) (step := step)
    have hy2 := downV_yes (n := n) (base := base) (step := step)
    have hn2 := downV_no (n := n) (base := base) (step := step)
    generalize muchV n base step = m at *
    generalize n % step = a at *
    generalize base % step = b at *
    have HA := hide hA
    have HB := hide hB
    clear hA hB
    have hw : IntKind.u64.wrap (IntKind.u64.wrap n - 9223372036854775808) = n + 9223372036854775808 := by rw [IntKind.wrap_u64, IntKind.wrap_u64]; omega
    by_cases hab : b ≤ a
    · have e := u1 hab
      clear u1 u2
      by_cases hm : m ≤ n + 9223372036854775808
      · have E := hide (hy hm)
        have E2 := hide (hy2 E.out)
        clear hy hn hy2 hn2
        subst e
        go_enter Try.func8, Try.ntmps8
        go_wp2_with fail
        refine (HA.out _).mono ?_
        rintro e u1 ⟨rfl, rfl⟩
        go_wp2_with fail
        refine (HB.out _).mono ?_
        rintro e u1 ⟨rfl, rfl⟩
        go_wp2_with fail
        go_ret2
        exact ⟨ret_down E2.out.symm E.out.symm, rfl⟩
      · have E := hide (hn (by omega))
        have E2 := hide (hn2 E.out)
        clear hy hn hy2 hn2
        subst e
        go_enter Try.func8, Try.ntmps8
        go_wp2_with fail
        refine (HA.out _).mono ?_
        rintro e u1 ⟨rfl, rfl⟩
        go_wp2_with fail
        refine (HB.out _).mono ?_
        rintro e u1 ⟨rfl, rfl⟩
        go_wp2_with fail
        go_ret2
        exact ⟨ret_down E2.out.symm E.out.symm, rfl⟩
    · have e := u2 hab
      clear u1 u2
      by_cases hm : m ≤ n + 9223372036854775808
      · have E := hide (hy hm)
        have E2 := hide (hy2 E.out)
        clear hy hn hy2 hn2
        subst e
        go_enter Try.func8, Try.ntmps8
        go_wp2_with fail
        refine (HA.out _).mono ?_
        rintro e u1 ⟨rfl, rfl⟩
        go_wp2_with fail
        refine (HB.out _).mono ?_
        rintro e u1 ⟨rfl, rfl⟩
        go_wp2_with fail
        go_ret2
        exact ⟨ret_down E2.out.symm E.out.symm, rfl⟩
      · have E := hide (hn (by omega))
        have E2 := hide (hn2 E.out)
        clear hy hn hy2 hn2
        subst e
        go_enter Try.func8, Try.ntmps8
        go_wp2_with fail
        refine (HA.out _).mono ?_
        rintro e u1 ⟨rfl, rfl⟩
        go_wp2_with fail
        refine (HB.out _).mono ?_
        rintro e u1 ⟨rfl, rfl⟩
        go_wp2_with fail
        go_ret2
        exact ⟨ret_down E2.out.symm E.out.symm, rfl⟩
  · have E := hide (down_off (n := n) (base := base) hs)
    have E2 := hide (downV_no E.out)
    have hs' : step ≤ 0 := by omega
    clear hs
    go_enter Try.func8, Try.ntmps8
    go_wp2_with fail
    go_ret2
    exact ⟨ret_down E2.out.symm E.out.symm, rfl⟩

end Go.Proofs.Ythakeibmbcgjfaa
