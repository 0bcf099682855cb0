/- More on days: what a division leaves, in the machine's own words. Plain facts of no program. No condition. -/
import Derived.Test.YtekcbkicfoaheaaGreatDoorDays
namespace Go.Proofs.YtekcbkicfoaheaaGreatDoor
open Go.RowKit

theorem tmod_zero {n k : Int} : n.tmod k = 0 ↔ n % k = 0 := by
  rw [← Int.dvd_iff_tmod_eq_zero, ← Int.dvd_iff_emod_eq_zero]
/-- Four cases of a year: by 400; not by 4; by 100 alone; a leap year by 4. -/
theorem leap_parts (y : Int) : (leapV y = true ∧ (y.tmod 400 == 0) = true) ∨ (leapV y = false ∧ (y.tmod 400 == 0) = false ∧ (y.tmod 4 == 0) = false)
    ∨ (leapV y = false ∧ (y.tmod 400 == 0) = false ∧ (y.tmod 4 == 0) = true ∧ (y.tmod 100 == 0) = true) ∨ (leapV y = true ∧ (y.tmod 400 == 0) = false ∧ (y.tmod 4 == 0) = true ∧ (y.tmod 100 == 0) = false) := by
  simp only [beq_iff_eq, beq_eq_false_iff_ne, ne_eq, leap_iff, leap_not, tmod_zero]
  omega


theorem beq_no {a b : Int} (h : ¬ a = b) : (a == b) = false := by simpa using h
theorem beq_yes {a b : Int} (h : a = b) : (a == b) = true := by simpa using h
theorem tmod7 (n : Int) : (0 ≤ n.tmod 7 ∧ n.tmod 7 ≤ 6 ∧ n.tmod 7 = n % 7) ∨ (n.tmod 7 < 0 ∧ -6 ≤ n.tmod 7 ∧ n.tmod 7 + 7 = n % 7) := by
  by_cases h : 0 ≤ n
  · have e := Int.tmod_eq_emod_of_nonneg (b := 7) h
    omega
  · have e := Int.neg_tmod (-n) 7
    have e2 := Int.tmod_eq_emod_of_nonneg (a := -n) (b := 7) (by omega)
    rw [Int.neg_neg] at e
    omega
/-- The week day by what a division leaves. -/
theorem wday_parts (n : Int) : (0 ≤ n.tmod 7 ∧ n.tmod 7 ≤ 6 ∧ wdayV n = (n.tmod 7 + 3) % 7 + 1) ∨ (n.tmod 7 < 0 ∧ -6 ≤ n.tmod 7 ∧ wdayV n = (n.tmod 7 + 7 + 3) % 7 + 1) := by
  rcases tmod7 n with ⟨a, b, c⟩ | ⟨a, b, c⟩
  · refine .inl ⟨a, b, ?_⟩
    unfold wdayV; omega
  · refine .inr ⟨a, b, ?_⟩
    unfold wdayV; omega
theorem wday_plus (n : Int) : wdayV n = (n.tmod 7 + 7 + 3) % 7 + 1 ∧ -6 ≤ n.tmod 7 ∧ n.tmod 7 ≤ 6 := by
  rcases tmod7 n with ⟨a, b, c⟩ | ⟨a, b, c⟩
  · refine ⟨?_, by omega, b⟩
    unfold wdayV; omega
  · refine ⟨?_, b, by omega⟩
    unfold wdayV; omega
theorem tdiv_at {n k : Int} (h : 0 ≤ n) : n.tdiv k = n / k := Int.tdiv_eq_ediv_of_nonneg h
theorem new_tdiv {y : Int} (h : 1 ≤ y) : newV y = (y - 1) * 365 + (y - 1).tdiv 4 - (y - 1).tdiv 100 + (y - 1).tdiv 400 - 719162 := by
  rw [tdiv_at (by omega), tdiv_at (by omega), tdiv_at (by omega)]
  rfl
theorem new_sum (y : Int) : newV y = -719162 + (y - 1) * 365 + (y - 1) / 4 - (y - 1) / 100 + (y - 1) / 400 := by
  unfold newV; omega
theorem tdiv_bounds {n k : Int} (h : 0 ≤ n) (hk : 1 ≤ k) : 0 ≤ n.tdiv k ∧ n.tdiv k ≤ n := by
  rw [tdiv_at h]
  exact ⟨Int.ediv_nonneg h (by omega), Int.ediv_le_self _ h⟩
/-- A month that is none of the short ones. -/
theorem len_feb {y : Int} (h : leapV y = true) : lenV y 2 = 29 := by unfold lenV; rw [if_pos rfl, if_pos h]
theorem len_feb' {y : Int} (h : leapV y = false) : lenV y 2 = 28 := by unfold lenV; rw [if_pos rfl, if_neg (by rw [h]; decide)]
theorem len_30 {y m : Int} (h : m = 4 ∨ m = 6 ∨ m = 9 ∨ m = 11) : lenV y m = 30 := by unfold lenV; rw [if_neg (by omega), if_pos h]
theorem len_31 {y m : Int} (h2 : ¬ m = 2) (h : ¬ (m = 4 ∨ m = 6 ∨ m = 9 ∨ m = 11)) : lenV y m = 31 := by unfold lenV; rw [if_neg h2, if_neg h]
theorem yearOk_in {y : Int} (h1 : 1 ≤ y) (h2 : y ≤ 275760) : yearOk y = true := decide_eq_true ⟨h1, h2⟩
theorem yearOk_low {y : Int} (h : y < 1) : yearOk y = false := decide_eq_false (fun x => by omega)
theorem yearOk_high {y : Int} (h : 275760 < y) : yearOk y = false := decide_eq_false (fun x => by omega)
theorem leap_low {y : Int} (h : y < 1) : LeapV y = false := by unfold LeapV; rw [yearOk_low h]; rfl
theorem leap_high {y : Int} (h : 275760 < y) : LeapV y = false := by unfold LeapV; rw [yearOk_high h]; rfl
theorem leap_year {y : Int} (h1 : 1 ≤ y) (h2 : y ≤ 275760) : LeapV y = leapV y := by unfold LeapV; rw [yearOk_in h1 h2]; rfl
/-- Going back from January 4 to a Monday. -/
theorem first_at {y n : Int} (h1 : firstV y ≤ n) (h2 : n ≤ newV y + 3) : (wdayV n = 1 → n = firstV y) ∧ (¬ wdayV n = 1 → firstV y ≤ n - 1) := by
  unfold firstV wdayV at *; omega
theorem first_back (y : Int) : firstV y = newV y + 3 - (wdayV (newV y + 3) - 1) := by unfold firstV wdayV; omega
theorem first_range {y : Int} (h1 : 1 ≤ y) (h2 : y ≤ 275763) : -719165 ≤ firstV y ∧ firstV y ≤ 200000003 := by
  have := first_bounds y
  unfold newV at this; omega
theorem new_range {y : Int} (h1 : 1 ≤ y) (h2 : y ≤ 275763) : -719162 ≤ newV y ∧ newV y ≤ 200000000 := by unfold newV; omega
/-- Five cases of a year, by 4 first. -/
theorem leap_split (y : Int) : (leapV y = true ∧ (y.tmod 4 == 0) = false ∧ (y.tmod 400 == 0) = true) ∨ (leapV y = false ∧ (y.tmod 4 == 0) = false ∧ (y.tmod 400 == 0) = false)
    ∨ (leapV y = true ∧ (y.tmod 4 == 0) = true ∧ (y.tmod 100 != 0) = false ∧ (y.tmod 400 == 0) = true) ∨ (leapV y = false ∧ (y.tmod 4 == 0) = true ∧ (y.tmod 100 != 0) = false ∧ (y.tmod 400 == 0) = false)
    ∨ (leapV y = true ∧ (y.tmod 4 == 0) = true ∧ (y.tmod 100 != 0) = true) := by
  simp only [bne, Bool.not_eq_true', Bool.not_eq_false', beq_iff_eq, beq_eq_false_iff_ne, ne_eq, leap_iff, leap_not, tmod_zero]
  omega
theorem len_any {y x m : Int} (h : ¬ m = 2) : lenV y m = lenV x m := by unfold lenV; rw [if_neg h, if_neg h]

end Go.Proofs.YtekcbkicfoaheaaGreatDoor
