/- The program's 'split' and 'pad': they answer by division and by padL; what lay in the world lies there still. Conditions: numbers of 64 bits; 'pad': numbers of six digits at most, the library's table of powers of ten reads as its text lays it. -/
import Derived.Test.YtekcbkicfoaheaaGreatDoorMomLib
import Derived.Test.YtekcbkicfoaheaaGreatDoorRefLeft
import Derived.Test.YtekcbkicfoaheaaGreatDoorMomSh1
import Derived.Deep.QuietTactic
import Derived.BigQuiet
namespace Go.Proofs.YtekcbkicfoaheaaGreatDoor
open Go.RowKit

theorem drew_below (w : World) (q : Nat) : Below w.heap.size w (w.drewN q) := ⟨rfl, rfl, rfl, Nat.le_refl _, fun _ _ => rfl⟩
theorem quo_bounds {n s : Int} (h1 : -9223372036854775808 ≤ n) (h2 : n ≤ 9223372036854775807) (h3 : 2 ≤ s) : -4611686018427387904 ≤ n.tdiv s ∧ n.tdiv s ≤ 4611686018427387904 := by
  have e := Int.mul_tdiv_add_tmod n s
  by_cases hn : 0 ≤ n
  · have a := Int.tdiv_nonneg hn (show 0 ≤ s by omega)
    have b := Int.tmod_nonneg s hn
    have c : 2 * n.tdiv s ≤ s * n.tdiv s := Int.mul_le_mul_of_nonneg_right h3 a
    omega
  · have a : n.tdiv s ≤ 0 := by
      have := Int.tdiv_nonneg (a := -n) (b := s) (by omega) (by omega)
      rw [Int.neg_tdiv] at this
      omega
    have b := left_bounds (n := n) (s := s) (by omega) (by omega)
    have c : s * n.tdiv s ≤ 2 * n.tdiv s := Int.mul_le_mul_of_nonpos_right h3 a
    omega

theorem ret_halves {a b c d : Int} (h1 : a = c) (h2 : b = d) : Ending.returned (.tuple #[.int .i64 a, .int .i64 b]) = .returned (.tuple #[.int .i64 c, .int .i64 d]) := by rw [h1, h2]
theorem quo_up {n s : Int} (h3 : 1 ≤ s) (h : 0 ≤ n.tmod s) : n.tdiv s = n / s ∧ n.tmod s = n % s := by
  have e := (left_at (n := n) h3).1 h
  have e1 := Int.mul_tdiv_add_tmod n s
  have e2 := Int.mul_ediv_add_emod n s
  exact ⟨Int.eq_of_mul_eq_mul_left (show s ≠ 0 by omega) (by omega), e.symm⟩
theorem quo_down {n s : Int} (h3 : 1 ≤ s) (h : n.tmod s < 0) : n.tdiv s - 1 = n / s ∧ n.tmod s + s = n % s := by
  have e := ((left_at (n := n) h3).2 h).1
  have e1 := Int.mul_tdiv_add_tmod n s
  have e2 := Int.mul_ediv_add_emod n s
  refine ⟨Int.eq_of_mul_eq_mul_left (show s ≠ 0 by omega) ?_, e.symm⟩
  rw [Int.mul_sub]; omega

set_option maxHeartbeats 1000000 in
theorem split_any (n s : Int) (w : World) (h1 : -9223372036854775808 ≤ n) (h2 : n ≤ 9223372036854775807) (h3 : 2 ≤ s) (h4 : s ≤ 86400000) :
    Calls Tryz.prog 48 #[.int .i64 n, .int .i64 s] w fun e w' => e = .returned (.tuple #[.int .i64 (n / s), .int .i64 (n % s)]) ∧ Below w.heap.size w w' := by
  have ⟨d1, d2⟩ := quo_bounds h1 h2 h3
  have U := hide (quo_up (n := n) (s := s) (by omega))
  have D := hide (quo_down (n := n) (s := s) (by omega))
  have LB := hide (left_bounds (n := n) (s := s) (by omega))
  go_enter Tryz.func48, Tryz.ntmps48
  go_wp2_with fail
  go_quiet (fail)
  by_cases hc : 0 ≤ n.tmod s
  · have E := hide (U.out hc)
    clear U D LB
    go_wp2_with fail
    go_ret2
    exact ⟨ret_halves E.out.1 E.out.2, drew_below _ _⟩
  · have hc' : n.tmod s < 0 := by omega
    have E := hide (D.out hc')
    have hn : n < 0 := by
      rcases Int.lt_or_le n 0 with g | g
      · exact g
      · have := Int.tmod_nonneg s g; omega
    have b1 := (LB.out hn).1
    clear U D LB hc
    go_wp2_with fail
    go_ret2
    exact ⟨ret_halves E.out.1 E.out.2, drew_below _ _⟩

set_option maxHeartbeats 1000000 in
theorem padP_any (n k : Nat) (w : World) (hn : n ≤ 1000000) (hk : k ≤ 10) (hT : Tens w) :
    Calls Tryz.prog 50 #[.int .i64 n, .int .i64 k] w fun e w' => e = .returned (.string (txt (padL n k))) ∧ Below w.heap.size w w' := by
  have HI := hide (itoa_any n w hn hT)
  have HR := hide (fun w => repeat_noughts (k - (decD n).length) w (by omega))
  have hl := decD_len (n := n) (k := 7) (by omega) (by decide)
  have hz : (txt (decD n)).size = (decD n).length := rfl
  have hj : Hid (txt (padL n k) = txt (List.replicate (k - (decD n).length) 48) ++ txt (decD n)) := by
    show _ = _
    unfold padL
    rw [txt_app]
  have hr : (txt (List.replicate (k - (decD n).length) 48)).size ≤ 10 := by rw [txt_size, List.length_replicate]; omega
  have ha := fun w => run_string_add_sum (P := Tryz.prog) w (txt (List.replicate (k - (decD n).length) 48)) (txt (decD n)) (by omega)
  have hn2 : (n : Int) ≤ 1000000 := by omega
  have hn3 : (0 : Int) ≤ n := by omega
  generalize txt (List.replicate (k - (decD n).length) 48) = zs at *
  by_cases g : (decD n).length ≤ k
  · have e : ((k - (decD n).length : Nat) : Int) = (k : Int) - ((decD n).length : Int) := by omega
    rw [e] at HR
    have g' : ((decD n).length : Int) ≤ (k : Int) := by omega
    have gm : max (0 : Int) ((k : Int) - ((decD n).length : Int)) = (k : Int) - ((decD n).length : Int) := by omega
    clear e hT hn
    generalize txt (decD n) = ds at *
    go_enter Tryz.func50, Tryz.ntmps50
    go_wp2_with fail
    refine HI.out.mono ?_
    rintro e v ⟨rfl, b1⟩
    go_wp2_with fail
    refine (HR.out _).mono ?_
    rintro e v2 ⟨rfl, b2⟩
    go_wp2_with fail
    go_ret
    exact ⟨ret_str hj.out.symm, chain b1 b2⟩
  · have e : k - (decD n).length = 0 := by omega
    rw [e] at HR
    have g' : (k : Int) < ((decD n).length : Int) := by omega
    have gm : max (0 : Int) ((k : Int) - ((decD n).length : Int)) = 0 := by omega
    clear e hT hn
    generalize txt (decD n) = ds at *
    go_enter Tryz.func50, Tryz.ntmps50
    go_wp2_with fail
    refine HI.out.mono ?_
    rintro e v ⟨rfl, b1⟩
    go_wp2_with fail
    refine (HR.out _).mono ?_
    rintro e v2 ⟨rfl, b2⟩
    go_wp2_with fail
    go_ret
    exact ⟨ret_str hj.out.symm, chain b1 b2⟩

end Go.Proofs.YtekcbkicfoaheaaGreatDoor
