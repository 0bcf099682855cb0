/- Days of the calendar as numbers: leap years, lengths, the number of a day, the day of a number, week days, weeks: plain facts of no program. No condition. -/
import Derived.Test.YtekcbkicfoaheaaGreatDoorDKit
namespace Go.Proofs.YtekcbkicfoaheaaGreatDoor
open Go.RowKit

def leapV (y : Int) : Bool := decide (y % 400 = 0 ∨ (y % 4 = 0 ∧ ¬ y % 100 = 0))
theorem leap_iff (y : Int) : leapV y = true ↔ (y % 400 = 0 ∨ (y % 4 = 0 ∧ ¬ y % 100 = 0)) := by unfold leapV; simp
theorem leap_not (y : Int) : leapV y = false ↔ ¬ (y % 400 = 0 ∨ (y % 4 = 0 ∧ ¬ y % 100 = 0)) := by unfold leapV; rw [decide_eq_false_iff_not]
/-- How many days a month of any year has. -/
def lenV (y m : Int) : Int := if m = 2 then (if leapV y then 29 else 28) else if m = 4 ∨ m = 6 ∨ m = 9 ∨ m = 11 then 30 else 31
theorem len_bounds (y m : Int) : 28 ≤ lenV y m ∧ lenV y m ≤ 31 := by
  unfold lenV; split
  · split <;> omega
  · split <;> omega
/-- Is it a year? -/
def yearOk (y : Int) : Bool := decide (1 ≤ y ∧ y ≤ 275760)
def LeapV (y : Int) : Bool := yearOk y && leapV y
def LenV (y m : Int) : Int := if 1 ≤ y ∧ y ≤ 275760 ∧ 1 ≤ m ∧ m ≤ 12 then lenV y m else 0
theorem len_in {y m : Int} (h : 1 ≤ y ∧ y ≤ 275760 ∧ 1 ≤ m ∧ m ≤ 12) : LenV y m = lenV y m := by unfold LenV; rw [if_pos h]
theorem len_out {y m : Int} (h : ¬ (1 ≤ y ∧ y ≤ 275760 ∧ 1 ≤ m ∧ m ≤ 12)) : LenV y m = 0 := by unfold LenV; rw [if_neg h]

/-- The number of January 1 of a year. -/
def newV (y : Int) : Int := (y - 1) * 365 + (y - 1) / 4 - (y - 1) / 100 + (y - 1) / 400 - 719162
theorem new_next (y : Int) : newV (y + 1) = newV y + (if leapV y then 366 else 365) := by
  cases h : leapV y with
  | true =>
    have := (leap_iff y).1 h
    rw [if_pos rfl]; unfold newV; omega
  | false =>
    have := (leap_not y).1 h
    rw [if_neg (by decide)]; unfold newV; omega
theorem new_step (y : Int) : newV y + 365 ≤ newV (y + 1) ∧ newV (y + 1) ≤ newV y + 366 := by
  rw [new_next]; split <;> omega
theorem new_mono {x y : Int} (h : x ≤ y) : newV x ≤ newV y := by unfold newV; omega
theorem new_lt {x y : Int} (h : x < y) : newV x + 365 ≤ newV y := by
  have h1 := (new_step x).1
  have h2 := new_mono (show x + 1 ≤ y by omega)
  omega
theorem new_1 : newV 1 = -719162 := by decide
theorem new_70 : newV 1970 = 0 := by decide
theorem new_bounds {y : Int} (h1 : 1 ≤ y) (h2 : y ≤ 275762) : -719162 ≤ newV y ∧ newV y ≤ 200000000 := by unfold newV; omega

/-- The year of a number. -/
def IsYear (n y : Int) : Prop := newV y ≤ n ∧ n < newV (y + 1)
theorem year_one {n x y : Int} (h1 : IsYear n x) (h2 : IsYear n y) : x = y := by
  rcases Int.lt_trichotomy x y with h | h | h
  · have := new_mono (show x + 1 ≤ y by omega)
    have := h1.2; have := h2.1; omega
  · exact h
  · have := new_mono (show y + 1 ≤ x by omega)
    have := h2.2; have := h1.1; omega
theorem year_some (k : Nat) : ∀ {n a : Int}, newV a ≤ n → n < newV (a + k) → ∃ y, a ≤ y ∧ y < a + k ∧ IsYear n y := by
  induction k with
  | zero => intro n a h1 h2; simp at h2; omega
  | succ k ih =>
    intro n a h1 h2
    by_cases h : n < newV (a + 1)
    · exact ⟨a, by omega, by omega, h1, h⟩
    · obtain ⟨y, y1, y2, y3⟩ := ih (n := n) (a := a + 1) (by omega) (by
        have e : a + ((k + 1 : Nat) : Int) = a + 1 + (k : Int) := by omega
        rw [e] at h2; exact h2)
      exact ⟨y, by omega, by omega, y3⟩
/-- Where a search for the year stands: it lies between low and high. -/
theorem year_here {n x y : Int} (h : IsYear n y) : (newV x ≤ n ↔ x ≤ y) := by
  constructor
  · intro g
    rcases Int.lt_or_le y x with a | a
    · have := new_mono (show y + 1 ≤ x by omega)
      have := h.2; omega
    · exact a
  · intro g
    have := new_mono g
    have := h.1; omega

/-- Days of the months ahead. -/
def aheadV (y : Int) : Nat → Int
  | 0 => 0
  | k + 1 => aheadV y k + lenV y (k + 1)
theorem ahead_step (y : Int) (k : Nat) : aheadV y (k + 1) = aheadV y k + lenV y (k + 1) := rfl
theorem ahead_mono (y : Int) {j k : Nat} (h : j ≤ k) : aheadV y j ≤ aheadV y k := by
  induction k with
  | zero => have : j = 0 := by omega
            subst this; exact Int.le_refl _
  | succ k ih =>
    rcases Nat.lt_or_ge j (k + 1) with g | g
    · have := ih (by omega)
      have := (len_bounds y (k + 1)).1
      rw [ahead_step]; omega
    · have : j = k + 1 := by omega
      subst this; exact Int.le_refl _
theorem ahead_year (y : Int) : aheadV y 12 = if leapV y then 366 else 365 := by
  unfold aheadV aheadV aheadV aheadV aheadV aheadV aheadV aheadV aheadV aheadV aheadV aheadV aheadV lenV
  cases leapV y <;> simp
theorem ahead_bounds (y : Int) {k : Nat} (h : k ≤ 12) : 0 ≤ aheadV y k ∧ aheadV y k ≤ 366 := by
  have h1 := ahead_mono y (show 0 ≤ k by omega)
  have h2 := ahead_mono y h
  have h3 := ahead_year y
  have h0 : aheadV y 0 = 0 := rfl
  refine ⟨by omega, ?_⟩
  split at h3 <;> omega
/-- The day of a number: m months are ahead, in year y. -/
structure IsDate (n y : Int) (m : Nat) (d : Int) : Prop where
  y1 : 1 ≤ y
  y2 : y ≤ 275760
  m2 : m < 12
  d1 : 1 ≤ d
  d2 : d ≤ lenV y (m + 1)
  is : n = newV y + aheadV y m + (d - 1)
theorem date_year {n y : Int} {m : Nat} {d : Int} (h : IsDate n y m d) : IsYear n y := by
  have h1 := ahead_bounds y (show m ≤ 12 by have := h.m2; omega)
  have h2 := ahead_mono y (show m + 1 ≤ 12 by have := h.m2; omega)
  rw [ahead_step, ahead_year] at h2
  have h3 := h.d1; have h4 := h.d2; have h5 := h.is
  refine ⟨by omega, ?_⟩
  rw [new_next]; omega
theorem month_one {y a : Int} {i j : Nat} (h1 : aheadV y i ≤ a) (h2 : a < aheadV y (i + 1)) (h3 : aheadV y j ≤ a) (h4 : a < aheadV y (j + 1)) : i = j := by
  rcases Nat.lt_trichotomy i j with h | h | h
  · have := ahead_mono y (show i + 1 ≤ j by omega); omega
  · exact h
  · have := ahead_mono y (show j + 1 ≤ i by omega); omega
theorem date_one {n y x : Int} {m k : Nat} {d c : Int} (h1 : IsDate n y m d) (h2 : IsDate n x k c) : y = x ∧ m = k ∧ d = c := by
  obtain rfl := year_one (date_year h1) (date_year h2)
  have a1 := h1.is; have a2 := h2.is
  have b1 := h1.d1; have b2 := h1.d2; have c1 := h2.d1; have c2 := h2.d2
  have e : m = k := month_one (y := y) (a := n - newV y) (by omega) (by rw [ahead_step]; omega) (by omega) (by rw [ahead_step]; omega)
  subst e
  exact ⟨rfl, rfl, by omega⟩
theorem month_some {y a : Int} : ∀ k : Nat, 0 ≤ a → a < aheadV y k → ∃ m, m < k ∧ aheadV y m ≤ a ∧ a < aheadV y (m + 1)
  | 0, h1, h2 => by have : aheadV y 0 = 0 := rfl
                    omega
  | k + 1, h1, h2 => by
    by_cases h : a < aheadV y k
    · obtain ⟨m, m1, m2, m3⟩ := month_some k h1 h
      exact ⟨m, by omega, m2, m3⟩
    · exact ⟨k, by omega, by omega, h2⟩
theorem date_of {n y : Int} (h : IsYear n y) (y1 : 1 ≤ y) (y2 : y ≤ 275760) : ∃ m d, IsDate n y m d := by
  have h1 := h.1; have h2 := h.2
  rw [new_next, ← ahead_year] at h2
  obtain ⟨m, m1, m2, m3⟩ := month_some (y := y) (a := n - newV y) 12 (by omega) (by omega)
  rw [ahead_step] at m3
  exact ⟨m, n - newV y - aheadV y m + 1, y1, y2, m1, by omega, by omega, by omega⟩
theorem date_some {n : Int} (h1 : newV 1 ≤ n) (h2 : n < newV 275761) : ∃ y m d, IsDate n y m d := by
  obtain ⟨y, y1, y2, y3⟩ := year_some 275760 (n := n) (a := 1) h1 (by exact h2)
  obtain ⟨m, d, h⟩ := date_of y3 y1 (by omega)
  exact ⟨y, m, d, h⟩
theorem date_in {n y : Int} {m : Nat} {d : Int} (h : IsDate n y m d) : newV 1 ≤ n ∧ n < newV 275761 := by
  have hy := date_year h
  have h1 := new_mono h.y1
  have h2 := new_mono (show y + 1 ≤ 275761 by have := h.y2; omega)
  exact ⟨by have := hy.1; omega, by have := hy.2; omega⟩

/-- The week day of a number. -/
def wdayV (n : Int) : Int := (n + 3) % 7 + 1
theorem wday_bounds (n : Int) : 1 ≤ wdayV n ∧ wdayV n ≤ 7 := by unfold wdayV; omega
theorem wday_week (n : Int) : wdayV (n + 7) = wdayV n := by unfold wdayV; omega
theorem wday_next (n : Int) : wdayV (n + 1) = wdayV n % 7 + 1 := by unfold wdayV; omega
/-- The Monday of the first week of a year: that one that has January 4. -/
def firstV (y : Int) : Int := newV y + 3 - (newV y + 6) % 7
theorem first_monday (y : Int) : wdayV (firstV y) = 1 := by unfold wdayV firstV; omega
theorem first_bounds (y : Int) : newV y - 3 ≤ firstV y ∧ firstV y ≤ newV y + 3 := by unfold firstV; omega
theorem first_step (y : Int) : firstV (y + 1) = firstV y + 364 ∨ firstV (y + 1) = firstV y + 371 := by
  have h1 := new_step y
  have h2 := new_next y
  unfold firstV
  split at h2 <;> omega
def weeksV (y : Int) : Int := (firstV (y + 1) - firstV y) / 7
theorem weeks_is (y : Int) : firstV (y + 1) = firstV y + 7 * weeksV y ∧ (weeksV y = 52 ∨ weeksV y = 53) := by
  have := first_step y
  unfold weeksV; omega
def WeeksV (y : Int) : Int := if 1 ≤ y ∧ y ≤ 275760 then weeksV y else 0
theorem weeks_in {y : Int} (h : 1 ≤ y ∧ y ≤ 275760) : WeeksV y = weeksV y := by unfold WeeksV; rw [if_pos h]
theorem weeks_out {y : Int} (h : ¬ (1 ≤ y ∧ y ≤ 275760)) : WeeksV y = 0 := by unfold WeeksV; rw [if_neg h]
theorem first_lt {x y : Int} (h : x < y) : firstV x < firstV y := by
  have h1 := new_lt h
  have h2 := first_bounds x
  have h3 := first_bounds y
  omega
theorem first_mono {x y : Int} (h : x ≤ y) : firstV x ≤ firstV y := by
  rcases Int.lt_or_eq_of_le h with g | g
  · exact Int.le_of_lt (first_lt g)
  · subst g; exact Int.le_refl _
theorem first_1 : firstV 1 = -719162 := by decide
/-- The year whose weeks have a number. -/
def InWeeks (n y : Int) : Prop := firstV y ≤ n ∧ n < firstV (y + 1)
theorem inWeeks_one {n x y : Int} (h1 : InWeeks n x) (h2 : InWeeks n y) : x = y := by
  rcases Int.lt_trichotomy x y with h | h | h
  · have := first_mono (show x + 1 ≤ y by omega)
    have := h1.2; have := h2.1; omega
  · exact h
  · have := first_mono (show y + 1 ≤ x by omega)
    have := h2.2; have := h1.1; omega
/-- The year of the weeks is that of the number, or one beside it. -/
theorem inWeeks_near {n y : Int} (h : IsYear n y) : InWeeks n (y - 1) ∨ InWeeks n y ∨ InWeeks n (y + 1) := by
  have h1 := h.1; have h2 := h.2
  have b0 := first_bounds (y - 1)
  have b1 := first_bounds y
  have b2 := first_bounds (y + 1)
  have b3 := first_bounds (y + 2)
  have n1 := (new_step (y - 1)).1
  have n2 := (new_step (y + 1)).1
  have e1 : y - 1 + 1 = y := by omega
  have e2 : y + 1 + 1 = y + 2 := by omega
  rw [e1] at n1
  rw [e2] at n2
  unfold InWeeks
  rw [e1, e2]
  omega
theorem inWeeks_some {n : Int} (h1 : firstV 1 ≤ n) (h2 : n < firstV 275761) : ∃ y, 1 ≤ y ∧ y ≤ 275760 ∧ InWeeks n y := by
  have b := first_bounds 275761
  have s := (new_step 275761).1
  have f1 := first_1
  have n1 := new_1
  obtain ⟨y, y1, y2, y3⟩ := year_some 275761 (n := n) (a := 1) (by omega) (by
    show n < newV (275761 + 1)
    omega)
  rcases inWeeks_near y3 with h | h | h
  · refine ⟨y - 1, ?_, by omega, h⟩
    rcases Int.lt_or_le 1 y with g | g
    · omega
    · have := first_mono (show y - 1 + 1 ≤ 1 by omega)
      have := h.2; omega
  · refine ⟨y, y1, ?_, h⟩
    rcases Int.lt_or_le y 275761 with g | g
    · omega
    · have := first_mono g
      have := h.1; omega
  · refine ⟨y + 1, by omega, ?_, h⟩
    rcases Int.lt_or_le (y + 1) 275761 with g | g
    · omega
    · have := first_mono g
      have := h.1; omega
theorem inWeeks_in {n y : Int} (h : InWeeks n y) (y1 : 1 ≤ y) (y2 : y ≤ 275760) : firstV 1 ≤ n ∧ n < firstV 275761 := by
  have h1 := first_mono y1
  have h2 := first_mono (show y + 1 ≤ 275761 by omega)
  exact ⟨by have := h.1; omega, by have := h.2; omega⟩
/-- The week of a number in the year whose weeks have it. -/
def weekV (n y : Int) : Int := (n - firstV y) / 7 + 1
theorem week_is {n y : Int} (h : InWeeks n y) : 1 ≤ weekV n y ∧ weekV n y ≤ weeksV y ∧ firstV y + 7 * (weekV n y - 1) ≤ n ∧ n < firstV y + 7 * (weekV n y - 1) + 7 := by
  have h1 := h.1; have h2 := h.2
  have h3 := (weeks_is y).1
  unfold weekV; omega

end Go.Proofs.YtekcbkicfoaheaaGreatDoor
