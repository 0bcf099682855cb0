/- Days again, months told by whole numbers: the day of a number, one, and some. Plain facts of no program. No condition. -/
import Derived.Test.YtekcbkicfoaheaaGreatDoorDayFacts
namespace Go.Proofs.YtekcbkicfoaheaaGreatDoor
open Go.RowKit

/-- Days of the months ahead of a month. -/
def aheadI (y k : Int) : Int := aheadV y (k - 1).toNat
theorem aheadI_1 (y : Int) : aheadI y 1 = 0 := rfl
theorem aheadI_next {y k : Int} (h : 1 ≤ k) : aheadI y (k + 1) = aheadI y k + lenV y k := by
  unfold aheadI
  obtain ⟨j, rfl⟩ : ∃ j : Nat, k = (j : Int) + 1 := ⟨(k - 1).toNat, by omega⟩
  rw [show ((j : Int) + 1 + 1 - 1).toNat = j + 1 by omega, show ((j : Int) + 1 - 1).toNat = j by omega, ahead_step]
theorem aheadI_bounds {y k : Int} (h2 : k ≤ 13) : 0 ≤ aheadI y k ∧ aheadI y k ≤ 366 := ahead_bounds y (by omega)
theorem aheadI_mono {y j k : Int} (h : j ≤ k) : aheadI y j ≤ aheadI y k := ahead_mono y (by omega)
/-- The number n has the day d of the month m of the year y. -/
structure IsDay (n y m d : Int) : Prop where
  y1 : 1 ≤ y
  y2 : y ≤ 275760
  m1 : 1 ≤ m
  m2 : m ≤ 12
  d1 : 1 ≤ d
  d2 : d ≤ lenV y m
  is : n = newV y + aheadI y m + (d - 1)
theorem IsDay.date {n y m d : Int} (h : IsDay n y m d) : IsDate n y (m - 1).toNat d := by
  have h1 := h.m1; have h2 := h.m2
  refine ⟨h.y1, h.y2, by omega, h.d1, ?_, h.is⟩
  rw [show (((m - 1).toNat : Nat) : Int) + 1 = m by omega]; exact h.d2
theorem day_date {n y : Int} {m : Nat} {d : Int} (h : IsDate n y m d) : IsDay n y ((m : Int) + 1) d := by
  have h2 := h.m2
  refine ⟨h.y1, h.y2, by omega, by omega, h.d1, h.d2, ?_⟩
  have := h.is
  unfold aheadI
  rw [show ((m : Int) + 1 - 1).toNat = m by omega]; exact this
theorem IsDay.year {n y m d : Int} (h : IsDay n y m d) : IsYear n y := date_year h.date
theorem IsDay.inside {n y m d : Int} (h : IsDay n y m d) : newV 1 ≤ n ∧ n < newV 275761 := date_in h.date
theorem day_some {n : Int} (h1 : newV 1 ≤ n) (h2 : n < newV 275761) : ∃ y m d, IsDay n y m d := by
  obtain ⟨y, m, d, h⟩ := date_some h1 h2
  exact ⟨y, _, d, day_date h⟩
/-- Is there such a day? -/
theorem day_is {y m d : Int} (h1 : 1 ≤ d) (h2 : d ≤ LenV y m) : IsDay (newV y + aheadI y m + (d - 1)) y m d := by
  by_cases h : 1 ≤ y ∧ y ≤ 275760 ∧ 1 ≤ m ∧ m ≤ 12
  · rw [len_in h] at h2
    exact ⟨h.1, h.2.1, h.2.2.1, h.2.2.2, h1, h2, rfl⟩
  · rw [len_out h] at h2; omega
theorem IsDay.len {n y m d : Int} (h : IsDay n y m d) : LenV y m = lenV y m := len_in ⟨h.y1, h.y2, h.m1, h.m2⟩
theorem IsDay.bounds {n y m d : Int} (h : IsDay n y m d) : -719162 ≤ n ∧ n ≤ 200000366 := by
  have h1 := h.inside
  have h2 := new_range (y := 275761) (by decide) (by decide)
  rw [new_1] at h1
  omega
/-- The month of a day of a year, found by going through the months: k is it, or one ahead of it. -/
theorem month_next {n y m d k : Int} (h : IsDay n y m d) (h1 : 1 ≤ k) (h2 : k < m) : lenV y k ≤ n - newV y - aheadI y k := by
  have a := aheadI_next (y := y) h1
  have b := aheadI_mono (y := y) (show k + 1 ≤ m by omega)
  have c := h.is; have d' := h.d1
  omega
theorem month_here {n y m d : Int} (h : IsDay n y m d) : n - newV y - aheadI y m < lenV y m ∧ n - newV y - aheadI y m + 1 = d := by
  have c := h.is; have d' := h.d2
  omega

/-- The Monday of a week, and the error. -/
def monV (y w : Int) : Int × Int := if 1 ≤ w ∧ w ≤ WeeksV y then (firstV y + 7 * (w - 1), 0) else (0, 2)
theorem mon_out {y k : Int} (h : ¬ (1 ≤ k ∧ k ≤ WeeksV y)) : monV y k = (0, 2) := if_neg h
theorem mon_in {y k : Int} (h : 1 ≤ k ∧ k ≤ WeeksV y) : monV y k = (firstV y + 7 * (k - 1), 0) := if_pos h
theorem weeks_some {y k : Int} (h : 1 ≤ k ∧ k ≤ WeeksV y) : 1 ≤ y ∧ y ≤ 275760 ∧ k ≤ 53 := by
  by_cases g : 1 ≤ y ∧ y ≤ 275760
  · rw [weeks_in g] at h
    have := weeks_is y
    omega
  · rw [weeks_out g] at h; omega

end Go.Proofs.YtekcbkicfoaheaaGreatDoor
