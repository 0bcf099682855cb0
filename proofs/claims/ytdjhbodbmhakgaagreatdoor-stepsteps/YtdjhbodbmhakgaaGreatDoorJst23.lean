/- Joined texts. FitProg: The program's Left, Fits and Down of layer 3. Conditions: numbers of 64 bits. -/
import Derived.Test.YtdjhbodbmhakgaaGreatDoorRows
import Derived.Test.YtdjhbodbmhakgaaGreatDoorJst2
import Derived.Test.YtdjhbodbmhakgaaGreatDoorJst20
namespace Go.Proofs.YtdjhbodbmhakgaaGreatDoor
open Go.RowKit
set_option maxRecDepth 100000

set_option maxHeartbeats 1000000 in
theorem left_any (n s : Int) (w : World) (_h1 : -9223372036854775808 ≤ n) (_h2 : n ≤ 9223372036854775807) (h3 : 1 ≤ s) (h4 : s ≤ 9223372036854775807) :
    Calls Tryz.prog 70 #[.int .i64 n, .int .i64 s] w fun e w' => e = .returned (.int .i64 (n % s)) ∧ w' = w := by
  have ⟨a1, a2⟩ := left_at (n := n) h3
  by_cases hc : 0 ≤ n.tmod s
  · have E := hide (a1 hc)
    clear a1 a2
    go_enter Tryz.func70, Tryz.ntmps70
    go_wp2_with fail
    go_ret
    exact ⟨ret_int E.out.symm, rfl⟩
  · have hc' : n.tmod s < 0 := by omega
    have E := hide (a2 hc').1
    have b := (a2 hc').2.1
    clear a1 a2 hc
    go_enter Tryz.func70, Tryz.ntmps70
    go_wp2_with fail
    go_ret
    exact ⟨ret_int E.out.symm, rfl⟩
set_option maxHeartbeats 1000000 in
theorem fits_any (n base step : Int) (w : World) (h1 : -9223372036854775808 ≤ n) (h2 : n ≤ 9223372036854775807) (g1 : -9223372036854775808 ≤ base) (g2 : base ≤ 9223372036854775807) (h4 : step ≤ 9223372036854775807) (h5 : -9223372036854775808 ≤ step) :
    Calls Tryz.prog 41 #[.int .i64 n, .int .i64 base, .int .i64 step] w fun e w' => e = .returned (.bool (fitV n base step)) ∧ w' = w := by
  by_cases hs : 1 ≤ step
  · have E := hide (fit_is (n := n) (base := base) hs)
    go_enter Tryz.func41, Tryz.ntmps41
    go_wp2_with fail
    refine (left_any n step _ h1 h2 hs h4).mono ?_
    rintro e u1 ⟨rfl, rfl⟩
    go_wp2_with fail
    refine (left_any base step _ g1 g2 hs h4).mono ?_
    rintro e u1 ⟨rfl, rfl⟩
    go_wp2_with fail
    go_ret
    exact ⟨ret_bool E.out.symm, rfl⟩
  · have E := hide (fit_no (n := n) (base := base) hs)
    have hs' : step ≤ 0 := by omega
    clear hs
    go_enter Tryz.func41, Tryz.ntmps41
    go_wp2_with fail
    go_ret
    exact ⟨ret_bool E.out.symm, rfl⟩

end Go.Proofs.YtdjhbodbmhakgaaGreatDoor
