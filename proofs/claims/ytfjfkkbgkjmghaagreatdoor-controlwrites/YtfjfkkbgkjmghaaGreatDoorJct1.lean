/- Facts of no program. Days of the calendar as numbers. More on days. The document's leap, Leap, length, Length, New. The week day of a number. Days again, months told by whole numbers. The document's first, Weeks, Monday, Year, Number. The number of a day, by the document. The document's Date and Week. What a division leaves, by the document. -/
import Derived.Test.YtfjfkkbgkjmghaaGreatDoorRows
import Derived.Test.YtfjfkkbgkjmghaaGreatDoorJct2

namespace Go.Proofs.YtfjfkkbgkjmghaaGreatDoor
open Go.RowKit
theorem hide {p : Prop} (h : p) : Hid p := h
theorem ret_int {k : IntKind} {a b : Int} (h : a = b) : Ending.returned (.int k a) = .returned (.int k b) := by rw [h]
theorem ret_bool {a b : Bool} (h : a = b) : Ending.returned (.bool a) = .returned (.bool b) := by rw [h]
/-- Two calls behind one another. -/
theorem chain {w w1 w2 : World} (h1 : Below w.heap.size w w1) (h2 : Below w1.heap.size w1 w2) : Below w.heap.size w w2 := h1.trans (h2.mono h1.size)
theorem results_tmp4 {fn : Func} {t u v x : Tmp} (h : fn.results = #[.tmp t, .tmp u, .tmp v, .tmp x]) (tmps : Array Value) (P : Program) (w : World) :
    (results fn tmps).run P w = .ok (.tuple #[tmps.getD t undef, tmps.getD u undef, tmps.getD v undef, tmps.getD x undef]) w := by
  simp [results, h]
end Go.Proofs.YtfjfkkbgkjmghaaGreatDoor

namespace Go.Proofs.YtfjfkkbgkjmghaaGreatDoor
open Go.RowKit
def leapV (y : Int) : Bool := decide (y % 400 = 0 ∨ (y % 4 = 0 ∧ ¬ y % 100 = 0))
theorem leap_iff (y : Int) : leapV y = true ↔ (y % 400 = 0 ∨ (y % 4 = 0 ∧ ¬ y % 100 = 0)) := by unfold leapV; simp
theorem leap_not (y : Int) : leapV y = false ↔ ¬ (y % 400 = 0 ∨ (y % 4 = 0 ∧ ¬ y % 100 = 0)) := by unfold leapV; rw [decide_eq_false_iff_not]
/-- How many days a month of any year has. -/
def lenV (y m : Int) : Int := if m = 2 then (if leapV y then 29 else 28) else if m = 4 ∨ m = 6 ∨ m = 9 ∨ m = 11 then 30 else 31
theorem len_bounds (y m : Int) : 28 ≤ lenV y m ∧ lenV y m ≤ 31 := by
  unfold lenV; split
  · split <;> omega
  · split <;> omega
/-- Is it a year? -/
def yearOk (y : Int) : Bool := decide (1 ≤ y ∧ y ≤ 275760)
def LeapV (y : Int) : Bool := yearOk y && leapV y
def LenV (y m : Int) : Int := if 1 ≤ y ∧ y ≤ 275760 ∧ 1 ≤ m ∧ m ≤ 12 then lenV y m else 0
theorem len_in {y m : Int} (h : 1 ≤ y ∧ y ≤ 275760 ∧ 1 ≤ m ∧ m ≤ 12) : LenV y m = lenV y m := by unfold LenV; rw [if_pos h]
theorem len_out {y m : Int} (h : ¬ (1 ≤ y ∧ y ≤ 275760 ∧ 1 ≤ m ∧ m ≤ 12)) : LenV y m = 0 := by unfold LenV; rw [if_neg h]
/-- The number of January 1 of a year. -/
def newV (y : Int) : Int := (y - 1) * 365 + (y - 1) / 4 - (y - 1) / 100 + (y - 1) / 400 - 719162
theorem new_next (y : Int) : newV (y + 1) = newV y + (if leapV y then 366 else 365) := by
  cases h : leapV y with
  | true =>
    have := (leap_iff y).1 h
    rw [if_pos rfl]; unfold newV; omega
  | false =>
    have := (leap_not y).1 h
    rw [if_neg (by decide)]; unfold newV; omega
theorem new_step (y : Int) : newV y + 365 ≤ newV (y + 1) ∧ newV (y + 1) ≤ newV y + 366 := by
  rw [new_next]; split <;> omega
theorem new_mono {x y : Int} (h : x ≤ y) : newV x ≤ newV y := by unfold newV; omega
theorem new_lt {x y : Int} (h : x < y) : newV x + 365 ≤ newV y := by
  have h1 := (new_step x).1
  have h2 := new_mono (show x + 1 ≤ y by omega)
  omega
theorem new_1 : newV 1 = -719162 := by decide
theorem new_bounds {y : Int} (h1 : 1 ≤ y) (h2 : y ≤ 275762) : -719162 ≤ newV y ∧ newV y ≤ 200000000 := by unfold newV; omega
/-- The year of a number. -/
def IsYear (n y : Int) : Prop := newV y ≤ n ∧ n < newV (y + 1)
theorem year_some (k : Nat) : ∀ {n a : Int}, newV a ≤ n → n < newV (a + k) → ∃ y, a ≤ y ∧ y < a + k ∧ IsYear n y := by
  induction k with
  | zero => intro n a h1 h2; simp at h2; omega
  | succ k ih =>
    intro n a h1 h2
    by_cases h : n < newV (a + 1)
    · exact ⟨a, by omega, by omega, h1, h⟩
    · obtain ⟨y, y1, y2, y3⟩ := ih (n := n) (a := a + 1) (by omega) (by
        have e : a + ((k + 1 : Nat) : Int) = a + 1 + (k : Int) := by omega
        rw [e] at h2; exact h2)
      exact ⟨y, by omega, by omega, y3⟩
/-- Where a search for the year stands: it lies between low and high. -/
theorem year_here {n x y : Int} (h : IsYear n y) : (newV x ≤ n ↔ x ≤ y) := by
  constructor
  · intro g
    rcases Int.lt_or_le y x with a | a
    · have := new_mono (show y + 1 ≤ x by omega)
      have := h.2; omega
    · exact a
  · intro g
    have := new_mono g
    have := h.1; omega
/-- Days of the months ahead. -/
def aheadV (y : Int) : Nat → Int
  | 0 => 0
  | k + 1 => aheadV y k + lenV y (k + 1)
theorem ahead_step (y : Int) (k : Nat) : aheadV y (k + 1) = aheadV y k + lenV y (k + 1) := rfl
theorem ahead_mono (y : Int) {j k : Nat} (h : j ≤ k) : aheadV y j ≤ aheadV y k := by
  induction k with
  | zero => have : j = 0 := by omega
            subst this; exact Int.le_refl _
  | succ k ih =>
    rcases Nat.lt_or_ge j (k + 1) with g | g
    · have := ih (by omega)
      have := (len_bounds y (k + 1)).1
      rw [ahead_step]; omega
    · have : j = k + 1 := by omega
      subst this; exact Int.le_refl _
theorem ahead_year (y : Int) : aheadV y 12 = if leapV y then 366 else 365 := by
  unfold aheadV aheadV aheadV aheadV aheadV aheadV aheadV aheadV aheadV aheadV aheadV aheadV aheadV lenV
  cases leapV y <;> simp
theorem ahead_bounds (y : Int) {k : Nat} (h : k ≤ 12) : 0 ≤ aheadV y k ∧ aheadV y k ≤ 366 := by
  have h1 := ahead_mono y (show 0 ≤ k by omega)
  have h2 := ahead_mono y h
  have h3 := ahead_year y
  have h0 : aheadV y 0 = 0 := rfl
  refine ⟨by omega, ?_⟩
  split at h3 <;> omega
/-- The day of a number: m months are ahead, in year y. -/
structure IsDate (n y : Int) (m : Nat) (d : Int) : Prop where
  y1 : 1 ≤ y
  y2 : y ≤ 275760
  m2 : m < 12
  d1 : 1 ≤ d
  d2 : d ≤ lenV y (m + 1)
  is : n = newV y + aheadV y m + (d - 1)
theorem date_year {n y : Int} {m : Nat} {d : Int} (h : IsDate n y m d) : IsYear n y := by
  have h1 := ahead_bounds y (show m ≤ 12 by have := h.m2; omega)
  have h2 := ahead_mono y (show m + 1 ≤ 12 by have := h.m2; omega)
  rw [ahead_step, ahead_year] at h2
  have h3 := h.d1; have h4 := h.d2; have h5 := h.is
  refine ⟨by omega, ?_⟩
  rw [new_next]; omega
theorem month_some {y a : Int} : ∀ k : Nat, 0 ≤ a → a < aheadV y k → ∃ m, m < k ∧ aheadV y m ≤ a ∧ a < aheadV y (m + 1)
  | 0, h1, h2 => by have : aheadV y 0 = 0 := rfl
                    omega
  | k + 1, h1, h2 => by
    by_cases h : a < aheadV y k
    · obtain ⟨m, m1, m2, m3⟩ := month_some k h1 h
      exact ⟨m, by omega, m2, m3⟩
    · exact ⟨k, by omega, by omega, h2⟩
theorem date_of {n y : Int} (h : IsYear n y) (y1 : 1 ≤ y) (y2 : y ≤ 275760) : ∃ m d, IsDate n y m d := by
  have h1 := h.1; have h2 := h.2
  rw [new_next, ← ahead_year] at h2
  obtain ⟨m, m1, m2, m3⟩ := month_some (y := y) (a := n - newV y) 12 (by omega) (by omega)
  rw [ahead_step] at m3
  exact ⟨m, n - newV y - aheadV y m + 1, y1, y2, m1, by omega, by omega, by omega⟩
theorem date_some {n : Int} (h1 : newV 1 ≤ n) (h2 : n < newV 275761) : ∃ y m d, IsDate n y m d := by
  obtain ⟨y, y1, y2, y3⟩ := year_some 275760 (n := n) (a := 1) h1 (by exact h2)
  obtain ⟨m, d, h⟩ := date_of y3 y1 (by omega)
  exact ⟨y, m, d, h⟩
theorem date_in {n y : Int} {m : Nat} {d : Int} (h : IsDate n y m d) : newV 1 ≤ n ∧ n < newV 275761 := by
  have hy := date_year h
  have h1 := new_mono h.y1
  have h2 := new_mono (show y + 1 ≤ 275761 by have := h.y2; omega)
  exact ⟨by have := hy.1; omega, by have := hy.2; omega⟩
/-- The week day of a number. -/
def wdayV (n : Int) : Int := (n + 3) % 7 + 1
theorem wday_bounds (n : Int) : 1 ≤ wdayV n ∧ wdayV n ≤ 7 := by unfold wdayV; omega
/-- The Monday of the first week of a year: that one that has January 4. -/
def firstV (y : Int) : Int := newV y + 3 - (newV y + 6) % 7
theorem first_monday (y : Int) : wdayV (firstV y) = 1 := by unfold wdayV firstV; omega
theorem first_bounds (y : Int) : newV y - 3 ≤ firstV y ∧ firstV y ≤ newV y + 3 := by unfold firstV; omega
theorem first_step (y : Int) : firstV (y + 1) = firstV y + 364 ∨ firstV (y + 1) = firstV y + 371 := by
  have h1 := new_step y
  have h2 := new_next y
  unfold firstV
  split at h2 <;> omega
def weeksV (y : Int) : Int := (firstV (y + 1) - firstV y) / 7
theorem weeks_is (y : Int) : firstV (y + 1) = firstV y + 7 * weeksV y ∧ (weeksV y = 52 ∨ weeksV y = 53) := by
  have := first_step y
  unfold weeksV; omega
def WeeksV (y : Int) : Int := if 1 ≤ y ∧ y ≤ 275760 then weeksV y else 0
theorem weeks_in {y : Int} (h : 1 ≤ y ∧ y ≤ 275760) : WeeksV y = weeksV y := by unfold WeeksV; rw [if_pos h]
theorem weeks_out {y : Int} (h : ¬ (1 ≤ y ∧ y ≤ 275760)) : WeeksV y = 0 := by unfold WeeksV; rw [if_neg h]
theorem first_lt {x y : Int} (h : x < y) : firstV x < firstV y := by
  have h1 := new_lt h
  have h2 := first_bounds x
  have h3 := first_bounds y
  omega
theorem first_mono {x y : Int} (h : x ≤ y) : firstV x ≤ firstV y := by
  rcases Int.lt_or_eq_of_le h with g | g
  · exact Int.le_of_lt (first_lt g)
  · subst g; exact Int.le_refl _
theorem first_1 : firstV 1 = -719162 := by decide
/-- The year whose weeks have a number. -/
def InWeeks (n y : Int) : Prop := firstV y ≤ n ∧ n < firstV (y + 1)
theorem inWeeks_one {n x y : Int} (h1 : InWeeks n x) (h2 : InWeeks n y) : x = y := by
  rcases Int.lt_trichotomy x y with h | h | h
  · have := first_mono (show x + 1 ≤ y by omega)
    have := h1.2; have := h2.1; omega
  · exact h
  · have := first_mono (show y + 1 ≤ x by omega)
    have := h2.2; have := h1.1; omega
/-- The year of the weeks is that of the number, or one beside it. -/
theorem inWeeks_near {n y : Int} (h : IsYear n y) : InWeeks n (y - 1) ∨ InWeeks n y ∨ InWeeks n (y + 1) := by
  have h1 := h.1; have h2 := h.2
  have b0 := first_bounds (y - 1)
  have b1 := first_bounds y
  have b2 := first_bounds (y + 1)
  have b3 := first_bounds (y + 2)
  have n1 := (new_step (y - 1)).1
  have n2 := (new_step (y + 1)).1
  have e1 : y - 1 + 1 = y := by omega
  have e2 : y + 1 + 1 = y + 2 := by omega
  rw [e1] at n1
  rw [e2] at n2
  unfold InWeeks
  rw [e1, e2]
  omega
theorem inWeeks_some {n : Int} (h1 : firstV 1 ≤ n) (h2 : n < firstV 275761) : ∃ y, 1 ≤ y ∧ y ≤ 275760 ∧ InWeeks n y := by
  have b := first_bounds 275761
  have s := (new_step 275761).1
  have f1 := first_1
  have n1 := new_1
  obtain ⟨y, y1, y2, y3⟩ := year_some 275761 (n := n) (a := 1) (by omega) (by
    show n < newV (275761 + 1)
    omega)
  rcases inWeeks_near y3 with h | h | h
  · refine ⟨y - 1, ?_, by omega, h⟩
    rcases Int.lt_or_le 1 y with g | g
    · omega
    · have := first_mono (show y - 1 + 1 ≤ 1 by omega)
      have := h.2; omega
  · refine ⟨y, y1, ?_, h⟩
    rcases Int.lt_or_le y 275761 with g | g
    · omega
    · have := first_mono g
      have := h.1; omega
  · refine ⟨y + 1, by omega, ?_, h⟩
    rcases Int.lt_or_le (y + 1) 275761 with g | g
    · omega
    · have := first_mono g
      have := h.1; omega
theorem inWeeks_in {n y : Int} (h : InWeeks n y) (y1 : 1 ≤ y) (y2 : y ≤ 275760) : firstV 1 ≤ n ∧ n < firstV 275761 := by
  have h1 := first_mono y1
  have h2 := first_mono (show y + 1 ≤ 275761 by omega)
  exact ⟨by have := h.1; omega, by have := h.2; omega⟩
/-- The week of a number in the year whose weeks have it. -/
def weekV (n y : Int) : Int := (n - firstV y) / 7 + 1
theorem week_is {n y : Int} (h : InWeeks n y) : 1 ≤ weekV n y ∧ weekV n y ≤ weeksV y ∧ firstV y + 7 * (weekV n y - 1) ≤ n ∧ n < firstV y + 7 * (weekV n y - 1) + 7 := by
  have h1 := h.1; have h2 := h.2
  have h3 := (weeks_is y).1
  unfold weekV; omega
end Go.Proofs.YtfjfkkbgkjmghaaGreatDoor

namespace Go.Proofs.YtfjfkkbgkjmghaaGreatDoor
open Go.RowKit
theorem tmod_zero {n k : Int} : n.tmod k = 0 ↔ n % k = 0 := by
  rw [← Int.dvd_iff_tmod_eq_zero, ← Int.dvd_iff_emod_eq_zero]
/-- Four cases of a year: by 400; not by 4; by 100 alone; a leap year by 4. -/
theorem leap_parts (y : Int) : (leapV y = true ∧ (y.tmod 400 == 0) = true) ∨ (leapV y = false ∧ (y.tmod 400 == 0) = false ∧ (y.tmod 4 == 0) = false)
    ∨ (leapV y = false ∧ (y.tmod 400 == 0) = false ∧ (y.tmod 4 == 0) = true ∧ (y.tmod 100 == 0) = true) ∨ (leapV y = true ∧ (y.tmod 400 == 0) = false ∧ (y.tmod 4 == 0) = true ∧ (y.tmod 100 == 0) = false) := by
  simp only [beq_iff_eq, beq_eq_false_iff_ne, ne_eq, leap_iff, leap_not, tmod_zero]
  omega
theorem beq_no {a b : Int} (h : ¬ a = b) : (a == b) = false := by simpa using h
theorem beq_yes {a b : Int} (h : a = b) : (a == b) = true := by simpa using h
theorem tmod7 (n : Int) : (0 ≤ n.tmod 7 ∧ n.tmod 7 ≤ 6 ∧ n.tmod 7 = n % 7) ∨ (n.tmod 7 < 0 ∧ -6 ≤ n.tmod 7 ∧ n.tmod 7 + 7 = n % 7) := by
  by_cases h : 0 ≤ n
  · have e := Int.tmod_eq_emod_of_nonneg (b := 7) h
    omega
  · have e := Int.neg_tmod (-n) 7
    have e2 := Int.tmod_eq_emod_of_nonneg (a := -n) (b := 7) (by omega)
    rw [Int.neg_neg] at e
    omega
/-- The week day by what a division leaves. -/
theorem wday_parts (n : Int) : (0 ≤ n.tmod 7 ∧ n.tmod 7 ≤ 6 ∧ wdayV n = (n.tmod 7 + 3) % 7 + 1) ∨ (n.tmod 7 < 0 ∧ -6 ≤ n.tmod 7 ∧ wdayV n = (n.tmod 7 + 7 + 3) % 7 + 1) := by
  rcases tmod7 n with ⟨a, b, c⟩ | ⟨a, b, c⟩
  · refine .inl ⟨a, b, ?_⟩
    unfold wdayV; omega
  · refine .inr ⟨a, b, ?_⟩
    unfold wdayV; omega
theorem wday_plus (n : Int) : wdayV n = (n.tmod 7 + 7 + 3) % 7 + 1 ∧ -6 ≤ n.tmod 7 ∧ n.tmod 7 ≤ 6 := by
  rcases tmod7 n with ⟨a, b, c⟩ | ⟨a, b, c⟩
  · refine ⟨?_, by omega, b⟩
    unfold wdayV; omega
  · refine ⟨?_, b, by omega⟩
    unfold wdayV; omega
theorem new_sum (y : Int) : newV y = -719162 + (y - 1) * 365 + (y - 1) / 4 - (y - 1) / 100 + (y - 1) / 400 := by
  unfold newV; omega
/-- A month that is none of the short ones. -/
theorem len_feb {y : Int} (h : leapV y = true) : lenV y 2 = 29 := by unfold lenV; rw [if_pos rfl, if_pos h]
theorem len_feb' {y : Int} (h : leapV y = false) : lenV y 2 = 28 := by unfold lenV; rw [if_pos rfl, if_neg (by rw [h]; decide)]
theorem len_30 {y m : Int} (h : m = 4 ∨ m = 6 ∨ m = 9 ∨ m = 11) : lenV y m = 30 := by unfold lenV; rw [if_neg (by omega), if_pos h]
theorem len_31 {y m : Int} (h2 : ¬ m = 2) (h : ¬ (m = 4 ∨ m = 6 ∨ m = 9 ∨ m = 11)) : lenV y m = 31 := by unfold lenV; rw [if_neg h2, if_neg h]
theorem yearOk_in {y : Int} (h1 : 1 ≤ y) (h2 : y ≤ 275760) : yearOk y = true := decide_eq_true ⟨h1, h2⟩
theorem yearOk_low {y : Int} (h : y < 1) : yearOk y = false := decide_eq_false (fun x => by omega)
theorem yearOk_high {y : Int} (h : 275760 < y) : yearOk y = false := decide_eq_false (fun x => by omega)
theorem leap_low {y : Int} (h : y < 1) : LeapV y = false := by unfold LeapV; rw [yearOk_low h]; rfl
theorem leap_high {y : Int} (h : 275760 < y) : LeapV y = false := by unfold LeapV; rw [yearOk_high h]; rfl
theorem leap_year {y : Int} (h1 : 1 ≤ y) (h2 : y ≤ 275760) : LeapV y = leapV y := by unfold LeapV; rw [yearOk_in h1 h2]; rfl
/-- Going back from January 4 to a Monday. -/
theorem first_at {y n : Int} (h1 : firstV y ≤ n) (h2 : n ≤ newV y + 3) : (wdayV n = 1 → n = firstV y) ∧ (¬ wdayV n = 1 → firstV y ≤ n - 1) := by
  unfold firstV wdayV at *; omega
theorem first_back (y : Int) : firstV y = newV y + 3 - (wdayV (newV y + 3) - 1) := by unfold firstV wdayV; omega
theorem first_range {y : Int} (h1 : 1 ≤ y) (h2 : y ≤ 275763) : -719165 ≤ firstV y ∧ firstV y ≤ 200000003 := by
  have := first_bounds y
  unfold newV at this; omega
theorem new_range {y : Int} (h1 : 1 ≤ y) (h2 : y ≤ 275763) : -719162 ≤ newV y ∧ newV y ≤ 200000000 := by unfold newV; omega
/-- Five cases of a year, by 4 first. -/
theorem leap_split (y : Int) : (leapV y = true ∧ (y.tmod 4 == 0) = false ∧ (y.tmod 400 == 0) = true) ∨ (leapV y = false ∧ (y.tmod 4 == 0) = false ∧ (y.tmod 400 == 0) = false)
    ∨ (leapV y = true ∧ (y.tmod 4 == 0) = true ∧ (y.tmod 100 != 0) = false ∧ (y.tmod 400 == 0) = true) ∨ (leapV y = false ∧ (y.tmod 4 == 0) = true ∧ (y.tmod 100 != 0) = false ∧ (y.tmod 400 == 0) = false)
    ∨ (leapV y = true ∧ (y.tmod 4 == 0) = true ∧ (y.tmod 100 != 0) = true) := by
  simp only [bne, Bool.not_eq_true', Bool.not_eq_false', beq_iff_eq, beq_eq_false_iff_ne, ne_eq, leap_iff, leap_not, tmod_zero]
  omega
theorem len_any {y x m : Int} (h : ¬ m = 2) : lenV y m = lenV x m := by unfold lenV; rw [if_neg h, if_neg h]
end Go.Proofs.YtfjfkkbgkjmghaaGreatDoor

namespace Go.Proofs.YtfjfkkbgkjmghaaGreatDoor
open Go.RowKit
set_option maxRecDepth 100000
set_option maxHeartbeats 1000000 in
theorem refleap_any (y : Int) (w : World) (_h1 : -9223372036854775808 ≤ y) (_h2 : y ≤ 9223372036854775807) :
    Calls Tryz.prog 172 #[.int .i64 y] w fun e w' => e = .returned (.bool (leapV y)) ∧ w' = w := by
  rcases leap_parts y with ⟨e, a⟩ | ⟨e, a, b⟩ | ⟨e, a, b, c⟩ | ⟨e, a, b, c⟩
  · have E := hide e
    clear e
    go_enter Tryz.func172, Tryz.ntmps172
    go_wp2_with fail
    go_ret
    exact ⟨ret_bool E.out.symm, rfl⟩
  · have E := hide e
    clear e
    go_enter Tryz.func172, Tryz.ntmps172
    go_wp2_with fail
    go_ret
    exact ⟨ret_bool E.out.symm, rfl⟩
  · have E := hide e
    clear e
    go_enter Tryz.func172, Tryz.ntmps172
    go_wp2_with fail
    go_ret
    exact ⟨ret_bool (by rw [E.out, bne, c]; rfl), rfl⟩
  · have E := hide e
    clear e
    go_enter Tryz.func172, Tryz.ntmps172
    go_wp2_with fail
    go_ret
    exact ⟨ret_bool (by rw [E.out, bne, c]; rfl), rfl⟩
set_option maxHeartbeats 1000000 in
theorem reflen_any (y m : Int) (w : World) (h1 : -9223372036854775808 ≤ y) (h2 : y ≤ 9223372036854775807) :
    Calls Tryz.prog 134 #[.int .i64 y, .int .i64 m] w fun e w' => e = .returned (.int .i64 (lenV y m)) ∧ w' = w := by
  by_cases m2 : m = 2
  · subst m2
    have hL := fun w => refleap_any y w h1 h2
    cases hl : leapV y with
    | true =>
      rw [hl] at hL
      have E := hide (len_feb hl)
      have HL := hide hL
      clear hL hl
      go_enter Tryz.func134, Tryz.ntmps134
      go_wp2_with fail
      refine (HL.out _).mono ?_
      rintro e u1 ⟨rfl, rfl⟩
      go_wp2_with fail
      go_ret
      exact ⟨ret_int E.out.symm, rfl⟩
    | false =>
      rw [hl] at hL
      have E := hide (len_feb' hl)
      have HL := hide hL
      clear hL hl
      go_enter Tryz.func134, Tryz.ntmps134
      go_wp2_with fail
      refine (HL.out _).mono ?_
      rintro e u1 ⟨rfl, rfl⟩
      go_wp2_with fail
      go_ret
      exact ⟨ret_int E.out.symm, rfl⟩
  by_cases m4 : m = 4
  · subst m4
    have E := hide (len_30 (y := y) (m := 4) (by omega))
    clear m2
    go_enter Tryz.func134, Tryz.ntmps134
    go_wp2_with fail
    go_ret
    exact ⟨ret_int E.out.symm, rfl⟩
  by_cases m6 : m = 6
  · subst m6
    have E := hide (len_30 (y := y) (m := 6) (by omega))
    clear m2
    go_enter Tryz.func134, Tryz.ntmps134
    go_wp2_with fail
    go_ret
    exact ⟨ret_int E.out.symm, rfl⟩
  by_cases m9 : m = 9
  · subst m9
    have E := hide (len_30 (y := y) (m := 9) (by omega))
    clear m2
    go_enter Tryz.func134, Tryz.ntmps134
    go_wp2_with fail
    go_ret
    exact ⟨ret_int E.out.symm, rfl⟩
  by_cases m11 : m = 11
  · subst m11
    have E := hide (len_30 (y := y) (m := 11) (by omega))
    clear m2
    go_enter Tryz.func134, Tryz.ntmps134
    go_wp2_with fail
    go_ret
    exact ⟨ret_int E.out.symm, rfl⟩
  have E := hide (len_31 (y := y) m2 (by omega))
  have b2 := beq_no m2
  have b4 := beq_no m4
  have b6 := beq_no m6
  have b9 := beq_no m9
  have b11 := beq_no m11
  clear m2 m4 m6 m9 m11
  go_enter Tryz.func134, Tryz.ntmps134
  go_wp2_with fail
  go_ret
  exact ⟨ret_int E.out.symm, rfl⟩
set_option maxHeartbeats 1000000 in
theorem refLen_any (y m : Int) (w : World) (h1 : -9223372036854775808 ≤ y) (h2 : y ≤ 9223372036854775807) (g1 : -9223372036854775808 ≤ m) (g2 : m ≤ 9223372036854775807) :
    Calls Tryz.prog 205 #[.int .i64 y, .int .i64 m] w fun e w' => e = .returned (.int .i64 (LenV y m)) ∧ w' = w := by
  rcases (show y < 1 ∨ 275760 < y ∨ (1 ≤ y ∧ y ≤ 275760) by omega) with h | h | ⟨h, h'⟩
  · have E := hide (len_out (y := y) (m := m) (by omega))
    go_enter Tryz.func205, Tryz.ntmps205
    go_wp2_with fail
    go_ret
    exact ⟨ret_int E.out.symm, rfl⟩
  · have E := hide (len_out (y := y) (m := m) (by omega))
    go_enter Tryz.func205, Tryz.ntmps205
    go_wp2_with fail
    go_ret
    exact ⟨ret_int E.out.symm, rfl⟩
  · rcases (show m < 1 ∨ 12 < m ∨ (1 ≤ m ∧ m ≤ 12) by omega) with g | g | ⟨g, g'⟩
    · have E := hide (len_out (y := y) (m := m) (by omega))
      go_enter Tryz.func205, Tryz.ntmps205
      go_wp2_with fail
      go_ret
      exact ⟨ret_int E.out.symm, rfl⟩
    · have E := hide (len_out (y := y) (m := m) (by omega))
      go_enter Tryz.func205, Tryz.ntmps205
      go_wp2_with fail
      go_ret
      exact ⟨ret_int E.out.symm, rfl⟩
    · have E := hide (len_in (y := y) (m := m) (by omega))
      go_enter Tryz.func205, Tryz.ntmps205
      go_wp2_with fail
      refine (reflen_any y m _ h1 h2).mono ?_
      rintro e u1 ⟨rfl, rfl⟩
      go_wp2_with fail
      go_ret
      exact ⟨ret_int E.out.symm, rfl⟩
set_option maxHeartbeats 1000000 in
theorem refNew_any (y : Int) (w : World) (h1 : 1 ≤ y) (h2 : y ≤ 275763) :
    Calls Tryz.prog 133 #[.int .i64 y] w fun e w' => e = .returned (.int .i64 (newV y)) ∧ w' = w := by
  have E := hide (show newV y = (y - 1) * 365 + (y - 1) / 4 - (y - 1) / 100 + (y - 1) / 400 - 719162 from rfl)
  go_enter Tryz.func133, Tryz.ntmps133
  go_wp2_with fail
  go_ret
  exact ⟨ret_int E.out.symm, rfl⟩
end Go.Proofs.YtfjfkkbgkjmghaaGreatDoor

namespace Go.Proofs.YtfjfkkbgkjmghaaGreatDoor
open Go.RowKit
set_option maxRecDepth 100000
set_option maxHeartbeats 1000000 in
theorem weekday_any (n : Int) (w : World) (_h1 : -9223372036854775808 ≤ n) (_h2 : n ≤ 9223372036854775807) :
    Calls Tryz.prog 202 #[.int .i64 n] w fun e w' => e = .returned (.int .i64 (wdayV n)) ∧ w' = w := by
  obtain ⟨e, a, b⟩ := wday_plus n
  have hb := wday_bounds n
  rw [e] at hb
  have hb1 := hb.1
  have hb2 := hb.2
  have E := hide e
  clear e hb
  go_enter Tryz.func202, Tryz.ntmps202
  go_wp2_with fail
  go_ret
  exact ⟨ret_int E.out.symm, rfl⟩

set_option maxHeartbeats 1000000 in
theorem refWeekday_any (n : Int) (w : World) (_h1 : -9223372036854775808 ≤ n) (_h2 : n ≤ 9223372036854775807) :
    Calls Tryz.prog 101 #[.int .i64 n] w fun e w' => e = .returned (.int .i64 (wdayV n)) ∧ w' = w := by
  have hb := wday_bounds n
  rcases wday_parts n with ⟨a, b, e⟩ | ⟨a, b, e⟩
  · rw [e] at hb
    have hb1 := hb.1
    have hb2 := hb.2
    have E := hide e
    clear e hb
    go_enter Tryz.func101, Tryz.ntmps101
    go_wp2_with fail
    go_ret
    exact ⟨ret_int E.out.symm, rfl⟩
  · rw [e] at hb
    have hb1 := hb.1
    have hb2 := hb.2
    have E := hide e
    clear e hb
    go_enter Tryz.func101, Tryz.ntmps101
    go_wp2_with fail
    go_ret
    exact ⟨ret_int E.out.symm, rfl⟩

end Go.Proofs.YtfjfkkbgkjmghaaGreatDoor

namespace Go.Proofs.YtfjfkkbgkjmghaaGreatDoor
open Go.RowKit
/-- Days of the months ahead of a month. -/
def aheadI (y k : Int) : Int := aheadV y (k - 1).toNat
theorem aheadI_1 (y : Int) : aheadI y 1 = 0 := rfl
theorem aheadI_next {y k : Int} (h : 1 ≤ k) : aheadI y (k + 1) = aheadI y k + lenV y k := by
  unfold aheadI
  obtain ⟨j, rfl⟩ : ∃ j : Nat, k = (j : Int) + 1 := ⟨(k - 1).toNat, by omega⟩
  rw [show ((j : Int) + 1 + 1 - 1).toNat = j + 1 by omega, show ((j : Int) + 1 - 1).toNat = j by omega, ahead_step]
theorem aheadI_bounds {y k : Int} (h2 : k ≤ 13) : 0 ≤ aheadI y k ∧ aheadI y k ≤ 366 := ahead_bounds y (by omega)
theorem aheadI_mono {y j k : Int} (h : j ≤ k) : aheadI y j ≤ aheadI y k := ahead_mono y (by omega)
/-- The number n has the day d of the month m of the year y. -/
structure IsDay (n y m d : Int) : Prop where
  y1 : 1 ≤ y
  y2 : y ≤ 275760
  m1 : 1 ≤ m
  m2 : m ≤ 12
  d1 : 1 ≤ d
  d2 : d ≤ lenV y m
  is : n = newV y + aheadI y m + (d - 1)
theorem IsDay.date {n y m d : Int} (h : IsDay n y m d) : IsDate n y (m - 1).toNat d := by
  have h1 := h.m1; have h2 := h.m2
  refine ⟨h.y1, h.y2, by omega, h.d1, ?_, h.is⟩
  rw [show (((m - 1).toNat : Nat) : Int) + 1 = m by omega]; exact h.d2
theorem day_date {n y : Int} {m : Nat} {d : Int} (h : IsDate n y m d) : IsDay n y ((m : Int) + 1) d := by
  have h2 := h.m2
  refine ⟨h.y1, h.y2, by omega, by omega, h.d1, h.d2, ?_⟩
  have := h.is
  unfold aheadI
  rw [show ((m : Int) + 1 - 1).toNat = m by omega]; exact this
theorem IsDay.year {n y m d : Int} (h : IsDay n y m d) : IsYear n y := date_year h.date
theorem IsDay.inside {n y m d : Int} (h : IsDay n y m d) : newV 1 ≤ n ∧ n < newV 275761 := date_in h.date
theorem day_some {n : Int} (h1 : newV 1 ≤ n) (h2 : n < newV 275761) : ∃ y m d, IsDay n y m d := by
  obtain ⟨y, m, d, h⟩ := date_some h1 h2
  exact ⟨y, _, d, day_date h⟩
/-- Is there such a day? -/
theorem day_is {y m d : Int} (h1 : 1 ≤ d) (h2 : d ≤ LenV y m) : IsDay (newV y + aheadI y m + (d - 1)) y m d := by
  by_cases h : 1 ≤ y ∧ y ≤ 275760 ∧ 1 ≤ m ∧ m ≤ 12
  · rw [len_in h] at h2
    exact ⟨h.1, h.2.1, h.2.2.1, h.2.2.2, h1, h2, rfl⟩
  · rw [len_out h] at h2; omega
theorem IsDay.len {n y m d : Int} (h : IsDay n y m d) : LenV y m = lenV y m := len_in ⟨h.y1, h.y2, h.m1, h.m2⟩
theorem IsDay.bounds {n y m d : Int} (h : IsDay n y m d) : -719162 ≤ n ∧ n ≤ 200000366 := by
  have h1 := h.inside
  have h2 := new_range (y := 275761) (by decide) (by decide)
  rw [new_1] at h1
  omega
/-- The month of a day of a year, found by going through the months: k is it, or one ahead of it. -/
theorem month_next {n y m d k : Int} (h : IsDay n y m d) (h1 : 1 ≤ k) (h2 : k < m) : lenV y k ≤ n - newV y - aheadI y k := by
  have a := aheadI_next (y := y) h1
  have b := aheadI_mono (y := y) (show k + 1 ≤ m by omega)
  have c := h.is; have d' := h.d1
  omega
theorem month_here {n y m d : Int} (h : IsDay n y m d) : n - newV y - aheadI y m < lenV y m ∧ n - newV y - aheadI y m + 1 = d := by
  have c := h.is; have d' := h.d2
  omega
/-- The Monday of a week, and the error. -/
def monV (y w : Int) : Int × Int := if 1 ≤ w ∧ w ≤ WeeksV y then (firstV y + 7 * (w - 1), 0) else (0, 2)
theorem mon_out {y k : Int} (h : ¬ (1 ≤ k ∧ k ≤ WeeksV y)) : monV y k = (0, 2) := if_neg h
theorem mon_in {y k : Int} (h : 1 ≤ k ∧ k ≤ WeeksV y) : monV y k = (firstV y + 7 * (k - 1), 0) := if_pos h
theorem weeks_some {y k : Int} (h : 1 ≤ k ∧ k ≤ WeeksV y) : 1 ≤ y ∧ y ≤ 275760 ∧ k ≤ 53 := by
  by_cases g : 1 ≤ y ∧ y ≤ 275760
  · rw [weeks_in g] at h
    have := weeks_is y
    omega
  · rw [weeks_out g] at h; omega
end Go.Proofs.YtfjfkkbgkjmghaaGreatDoor

namespace Go.Proofs.YtfjfkkbgkjmghaaGreatDoor
open Go.RowKit
set_option maxRecDepth 100000
set_option maxHeartbeats 1000000 in
theorem reffirst_any (y : Int) (w : World) (h1 : 1 ≤ y) (h2 : y ≤ 275763) :
    Calls Tryz.prog 135 #[.int .i64 y] w fun e w' => e = .returned (.int .i64 (firstV y)) ∧ w' = w := by
  obtain ⟨n1, n2⟩ := new_range h1 h2
  obtain ⟨f1, f2⟩ := first_bounds y
  have hA := fun n => first_at (y := y) (n := n)
  have hN := fun w => refNew_any y w h1 h2
  generalize newV y = N at *
  generalize firstV y = F at *
  have HA := hide hA
  have HN := hide hN
  clear hA hN
  go_enter Tryz.func135, Tryz.ntmps135
  go_wp2_with fail
  refine (HN.out _).mono ?_
  rintro e u1 ⟨rfl, rfl⟩
  go_wp2_with fail
  go_loop [3] (fun s => ∃ n : Int, s = .int .i64 n ∧ F ≤ n ∧ n ≤ N + 3) (fun s => (intOf s - F).toNat)
  case atStart => exact ⟨N + 3, rfl, f2, by omega⟩
  case round =>
    obtain ⟨n, rfl, a1, a2⟩ := hrel
    have ⟨c1, c2⟩ := HA.out n a1 a2
    have hW := fun w => refWeekday_any n w (by omega) (by omega)
    by_cases hw : wdayV n = 1
    · rw [hw] at hW
      have E := hide (c1 hw)
      have HW := hide hW
      clear hW hw c1 c2
      go_wp2_with fail
      refine (HW.out _).mono ?_
      rintro e u1 ⟨rfl, rfl⟩
      go_wp2_with fail
      go_ret
      exact ⟨ret_int E.out, rfl⟩
    · have c3 := c2 hw
      have d := beq_no hw
      generalize wdayV n = d at *
      have HW := hide hW
      clear hW hw c1 c2
      go_wp2_with fail
      refine (HW.out _).mono ?_
      rintro e u1 ⟨rfl, rfl⟩
      go_wp2_with fail
      go_round
      case rel => exact ⟨n - 1, rfl, c3, by omega⟩
      case measure => simp [intOf]; omega
set_option maxHeartbeats 1000000 in
theorem refWeeks_any (y : Int) (w : World) (h1 : -9223372036854775808 ≤ y) (h2 : y ≤ 9223372036854775807) :
    Calls Tryz.prog 171 #[.int .i64 y] w fun e w' => e = .returned (.int .i64 (WeeksV y)) ∧ w' = w := by
  rcases (show y < 1 ∨ 275760 < y ∨ (1 ≤ y ∧ y ≤ 275760) by omega) with h | h | ⟨h, h'⟩
  · have E := hide (weeks_out (y := y) (by omega))
    go_enter Tryz.func171, Tryz.ntmps171
    go_wp2_with fail
    go_ret
    exact ⟨ret_int E.out.symm, rfl⟩
  · have E := hide (weeks_out (y := y) (by omega))
    go_enter Tryz.func171, Tryz.ntmps171
    go_wp2_with fail
    go_ret
    exact ⟨ret_int E.out.symm, rfl⟩
  · rw [weeks_in ⟨h, h'⟩]
    obtain ⟨n1, n2⟩ := first_range h (by omega)
    have hF := fun w => reffirst_any y w h (by omega)
    have hG := fun w => reffirst_any (y + 1) w (by omega) (by omega)
    obtain ⟨e1, e2⟩ := weeks_is y
    rw [e1] at hG
    have e3 : 0 ≤ weeksV y ∧ weeksV y ≤ 53 := by omega
    generalize firstV y = F at *
    generalize weeksV y = k at *
    have HF := hide hF
    have HG := hide hG
    clear hF hG e1 e2
    go_enter Tryz.func171, Tryz.ntmps171
    go_wp2_with fail
    go_loop [3] (fun s => ∃ n : Int, s = .int .i64 n ∧ 0 ≤ n ∧ n ≤ k) (fun s => (k - intOf s).toNat)
    case atStart => exact ⟨0, rfl, by omega, by omega⟩
    case round =>
      obtain ⟨n, rfl, a1, a2⟩ := hrel
      by_cases hn : n < k
      · go_wp2_with fail
        refine (HF.out _).mono ?_
        rintro e u1 ⟨rfl, rfl⟩
        go_wp2_with fail
        refine (HG.out _).mono ?_
        rintro e u1 ⟨rfl, rfl⟩
        go_wp2_with fail
        go_round
        case rel => exact ⟨n + 1, rfl, by omega, by omega⟩
        case measure => simp [intOf]; omega
      · obtain rfl : n = k := by omega
        go_wp2_with fail
        refine (HF.out _).mono ?_
        rintro e u1 ⟨rfl, rfl⟩
        go_wp2_with fail
        refine (HG.out _).mono ?_
        rintro e u1 ⟨rfl, rfl⟩
        go_wp2_with fail
        go_ret
        exact ⟨rfl, rfl⟩
theorem ret_two {p : Int × Int} {a b : Int} (h : p = (a, b)) : Ending.returned (.tuple #[.int .i64 a, .int .i64 b]) = .returned (.tuple #[.int .i64 p.1, .int .i64 p.2]) := by rw [h]
set_option maxHeartbeats 1000000 in
theorem refMonday_any (y k : Int) (w : World) (h1 : -9223372036854775808 ≤ y) (h2 : y ≤ 9223372036854775807) (_g1 : -9223372036854775808 ≤ k) (_g2 : k ≤ 9223372036854775807) :
    Calls Tryz.prog 130 #[.int .i64 y, .int .i64 k] w fun e w' => e = .returned (.tuple #[.int .i64 (monV y k).1, .int .i64 (monV y k).2]) ∧ w' = w := by
  have hW := fun w => refWeeks_any y w h1 h2
  rcases (show k < 1 ∨ (1 ≤ k ∧ WeeksV y < k) ∨ (1 ≤ k ∧ k ≤ WeeksV y) by omega) with h | ⟨h, h'⟩ | ⟨h, h'⟩
  · have E := hide (mon_out (y := y) (k := k) (by omega))
    clear hW
    go_enter Tryz.func130, Tryz.ntmps130
    go_wp2_with fail
    go_ret2
    exact ⟨ret_two E.out, rfl⟩
  · have E := hide (mon_out (y := y) (k := k) (by omega))
    generalize WeeksV y = W at *
    have HW := hide hW
    clear hW
    go_enter Tryz.func130, Tryz.ntmps130
    go_wp2_with fail
    refine (HW.out _).mono ?_
    rintro e u1 ⟨rfl, rfl⟩
    go_wp2_with fail
    go_ret2
    exact ⟨ret_two E.out, rfl⟩
  · have E := hide (mon_in (y := y) (k := k) ⟨h, h'⟩)
    obtain ⟨y1, y2, k2⟩ := weeks_some ⟨h, h'⟩
    have hF := fun w => reffirst_any y w y1 (by omega)
    obtain ⟨n1, n2⟩ := first_range y1 (by omega)
    generalize firstV y = F at *
    generalize WeeksV y = W at *
    have HW := hide hW
    have HF := hide hF
    clear hW hF
    go_enter Tryz.func130, Tryz.ntmps130
    go_wp2_with fail
    refine (HW.out _).mono ?_
    rintro e u1 ⟨rfl, rfl⟩
    go_wp2_with fail
    refine (HF.out _).mono ?_
    rintro e u1 ⟨rfl, rfl⟩
    go_wp2_with fail
    go_ret2
    exact ⟨ret_two E.out, rfl⟩
theorem refYear_low (n : Int) (w : World) (h : n < newV 1) :
    Calls Tryz.prog 132 #[.int .i64 n] w fun e w' => e = .returned (.int .i64 0) ∧ w' = w := by
  have hN := fun w => refNew_any 1 w (by decide) (by decide)
  generalize newV 1 = N at *
  have HN := hide hN
  clear hN
  go_enter Tryz.func132, Tryz.ntmps132
  go_wp2_with fail
  refine (HN.out _).mono ?_
  rintro e u1 ⟨rfl, rfl⟩
  go_wp2_with fail
  go_ret
  exact ⟨rfl, rfl⟩
theorem refYear_high (n : Int) (w : World) (h : newV 275762 ≤ n) :
    Calls Tryz.prog 132 #[.int .i64 n] w fun e w' => e = .returned (.int .i64 0) ∧ w' = w := by
  have hN := fun w => refNew_any 1 w (by decide) (by decide)
  have hM := fun w => refNew_any 275762 w (by decide) (by decide)
  have h0 := new_mono (show (1 : Int) ≤ 275762 by decide)
  generalize newV 1 = N at *
  generalize newV 275762 = M at *
  have g : N ≤ n := by omega
  have HN := hide hN
  have HM := hide hM
  clear hN hM h0
  go_enter Tryz.func132, Tryz.ntmps132
  go_wp2_with fail
  refine (HN.out _).mono ?_
  rintro e u1 ⟨rfl, rfl⟩
  go_wp2_with fail
  refine (HM.out _).mono ?_
  rintro e u1 ⟨rfl, rfl⟩
  go_wp2_with fail
  go_ret
  exact ⟨rfl, rfl⟩
set_option maxHeartbeats 1000000 in
theorem refYear_in (n y : Int) (w : World) (hy : IsYear n y) (y1 : 1 ≤ y) (y2 : y ≤ 275761) :
    Calls Tryz.prog 132 #[.int .i64 n] w fun e w' => e = .returned (.int .i64 y) ∧ w' = w := by
  have hN := fun w => refNew_any 1 w (by decide) (by decide)
  have hM := fun w => refNew_any 275762 w (by decide) (by decide)
  have g1 := (year_here hy (x := 1)).2 y1
  have g2 : n < newV 275762 := by
    rcases Int.lt_or_le n (newV 275762) with h | h
    · exact h
    · have := (year_here hy).1 h; omega
  have hX := fun x => year_here hy (x := x)
  generalize newV 1 = N at *
  generalize newV 275762 = M at *
  have HX := hide hX
  have HN := hide hN
  have HM := hide hM
  clear hN hM hX hy
  go_enter Tryz.func132, Tryz.ntmps132
  go_wp2_with fail
  refine (HN.out _).mono ?_
  rintro e u1 ⟨rfl, rfl⟩
  go_wp2_with fail
  refine (HM.out _).mono ?_
  rintro e u1 ⟨rfl, rfl⟩
  go_wp2_with fail
  go_loop [3, 4] (fun s t => ∃ a b : Int, s = .int .i64 a ∧ t = .int .i64 b ∧ 1 ≤ a ∧ a ≤ y ∧ y ≤ b ∧ b ≤ 275761) (fun s t => (intOf t - intOf s).toNat)
  case atStart => exact ⟨1, 275761, rfl, rfl, by omega, by omega, by omega, by omega⟩
  case round =>
    obtain ⟨a, b, rfl, rfl, a1, a2, a3, a4⟩ := hrel
    by_cases hab : a < b
    · have hC := fun w => refNew_any ((a + b + 1) / 2) w (by omega) (by omega)
      have hx := HX.out ((a + b + 1) / 2)
      by_cases hc : (a + b + 1) / 2 ≤ y
      · have hd := hx.2 hc
        generalize newV ((a + b + 1) / 2) = V at *
        have HC := hide hC
        clear hC hx
        go_wp2_with fail
        refine (HC.out _).mono ?_
        rintro e u1 ⟨rfl, rfl⟩
        go_wp2_with fail
        go_round
        case rel => exact ⟨(a + b + 1) / 2, b, rfl, rfl, by omega, hc, a3, a4⟩
        case measure => simp [intOf]; omega
      · have hd : n < newV ((a + b + 1) / 2) := by
          rcases Int.lt_or_le n (newV ((a + b + 1) / 2)) with h | h
          · exact h
          · exact absurd (hx.1 h) hc
        generalize newV ((a + b + 1) / 2) = V at *
        have HC := hide hC
        clear hC hx
        go_wp2_with fail
        refine (HC.out _).mono ?_
        rintro e u1 ⟨rfl, rfl⟩
        go_wp2_with fail
        go_round
        case rel => exact ⟨a, (a + b + 1) / 2 - 1, rfl, rfl, a1, a2, by omega, by omega⟩
        case measure => simp [intOf]; omega
    · obtain rfl : a = b := by omega
      obtain rfl : a = y := by omega
      go_wp2_with fail
      go_ret
      exact ⟨rfl, rfl⟩
end Go.Proofs.YtfjfkkbgkjmghaaGreatDoor

namespace Go.Proofs.YtfjfkkbgkjmghaaGreatDoor
open Go.RowKit
set_option maxRecDepth 100000
theorem ret_num {a b c : Int} (h : a = b) : Ending.returned (.tuple #[.int .i64 a, .int .i64 c]) = .returned (.tuple #[.int .i64 b, .int .i64 c]) := by rw [h]
set_option maxHeartbeats 1000000 in
theorem refNumber_in (n y m d : Int) (w : World) (h : IsDay n y m d) :
    Calls Tryz.prog 170 #[.int .i64 y, .int .i64 m, .int .i64 d] w fun e w' => e = .returned (.tuple #[.int .i64 n, .int .i64 0]) ∧ w' = w := by
  obtain ⟨y1, y2, m1, m2, d1, d2, e⟩ := h
  have hL := fun w => refLen_any y m w (by omega) (by omega) (by omega) (by omega)
  rw [len_in (by omega)] at hL
  have hF := fun w => refNew_any y w y1 (by omega)
  have hS := fun (k : Int) (h1 : 1 ≤ k) (h2 : k ≤ 12) w => reflen_any y k w (by omega) (by omega)
  have hX := fun (k : Int) (h : 1 ≤ k) => aheadI_next (y := y) h
  have hB := fun (k : Int) (h : k ≤ 13) => aheadI_bounds (y := y) h
  have hM := len_bounds y m
  have hK := len_bounds y
  obtain ⟨n1, n2⟩ := new_range y1 (by omega)
  generalize newV y = N at *
  generalize lenV y m = L at *
  have E := hide e
  have HL := hide hL
  have HF := hide hF
  have HS := hide hS
  have HX := hide hX
  have HB := hide hB
  have HK := hide hK
  clear e hL hF hS hX hB hK
  go_enter Tryz.func170, Tryz.ntmps170
  go_wp2_with fail
  refine (HL.out _).mono ?_
  rintro e u1 ⟨rfl, rfl⟩
  go_wp2_with fail
  refine (HF.out _).mono ?_
  rintro e u1 ⟨rfl, rfl⟩
  go_wp2_with fail
  go_loop [8, 9] (fun s t => ∃ k A : Int, t = .int .i64 k ∧ s = .int .i64 A ∧ 1 ≤ k ∧ k ≤ m ∧ Hid (A = N + aheadI y k)) (fun _ t => (m - intOf t).toNat)
  case atStart => exact ⟨1, N, rfl, rfl, by omega, by omega, hide (by rw [aheadI_1]; omega)⟩
  case round =>
    obtain ⟨k, A, rfl, rfl, k1, k2, eA⟩ := hrel
    have hb := HB.out k (by omega)
    have a1 : -719162 ≤ A := by have := eA.out; omega
    have a2 : A ≤ 200000366 := by have := eA.out; omega
    clear hb
    by_cases hk : k < m
    · have hs := HS.out k (by omega) (by omega)
      have hc := HK.out k
      have hx := hide (HX.out k k1)
      generalize lenV y k = l at *
      have Hs := hide hs
      clear hs
      go_wp2_with fail
      refine (Hs.out _).mono ?_
      rintro e u1 ⟨rfl, rfl⟩
      go_wp2_with fail
      go_round
      case rel => exact ⟨k + 1, A + l, rfl, rfl, by omega, by omega, hide (by rw [hx.out, eA.out]; omega)⟩
      case measure => simp [intOf]; omega
    · obtain rfl : k = m := by omega
      go_wp2_with fail
      go_ret2
      exact ⟨ret_num (by rw [E.out, eA.out]), rfl⟩
set_option maxHeartbeats 1000000 in
theorem refNumber_out (y m d : Int) (w : World) (h1 : -9223372036854775808 ≤ y) (h2 : y ≤ 9223372036854775807) (g1 : -9223372036854775808 ≤ m) (g2 : m ≤ 9223372036854775807) (h : ¬ (1 ≤ d ∧ d ≤ LenV y m)) :
    Calls Tryz.prog 170 #[.int .i64 y, .int .i64 m, .int .i64 d] w fun e w' => e = .returned (.tuple #[.int .i64 0, .int .i64 2]) ∧ w' = w := by
  by_cases hd : d < 1
  · clear h
    go_enter Tryz.func170, Tryz.ntmps170
    go_wp2_with fail
    go_ret2
    exact ⟨rfl, rfl⟩
  · have hd' : LenV y m < d := by omega
    have hd2 : 1 ≤ d := by omega
    have hL := fun w => refLen_any y m w h1 h2 g1 g2
    generalize LenV y m = L at *
    have HL := hide hL
    clear hL h hd
    go_enter Tryz.func170, Tryz.ntmps170
    go_wp2_with fail
    refine (HL.out _).mono ?_
    rintro e u1 ⟨rfl, rfl⟩
    go_wp2_with fail
    go_ret2
    exact ⟨rfl, rfl⟩
end Go.Proofs.YtfjfkkbgkjmghaaGreatDoor

namespace Go.Proofs.YtfjfkkbgkjmghaaGreatDoor
open Go.RowKit
set_option maxRecDepth 100000
/-- A record of three numbers. -/
def dayR (y m d : Int) : Value := .agg #[.int .i64 y, .int .i64 m, .int .i64 d]
theorem rec_below (w : World) (o : Obj) : Below w.heap.size w (w.alloc o) := (Below.refl _ w).alloc (Nat.le_refl _) o
set_option maxHeartbeats 1000000 in
theorem refDate_no (n y : Int) (w : World) (hY : ∀ w, Calls Tryz.prog 132 #[.int .i64 n] w fun e w' => e = .returned (.int .i64 y) ∧ w' = w) (h : y = 0 ∨ 275760 < y) :
    Calls Tryz.prog 97 #[.int .i64 n] w fun e w' => e = .returned (.tuple #[dayR 0 0 0, .int .i64 2]) ∧ Below w.heap.size w w' := by
  have HY := hide hY
  clear hY
  unfold dayR
  rcases h with h | h
  · subst h
    go_enter Tryz.func97, Tryz.ntmps97
    go_wp2_with fail
    refine (HY.out _).mono ?_
    rintro e u1 ⟨rfl, rfl⟩
    go_wp2_with fail
    (try simp only [Exit.inBlock, Exit.then])
    refine bodyPost_ret (v := .tuple #[.agg #[.int .i64 0, .int .i64 0, .int .i64 0], .int .i64 2]) (by simp [results, go_sem]) rfl ?_
    exact ⟨rfl, rec_below _ _⟩
  · have h0 : (y == 0) = false := beq_no (by omega)
    go_enter Tryz.func97, Tryz.ntmps97
    go_wp2_with fail
    refine (HY.out _).mono ?_
    rintro e u1 ⟨rfl, rfl⟩
    go_wp2_with fail
    (try simp only [Exit.inBlock, Exit.then])
    refine bodyPost_ret (v := .tuple #[.agg #[.int .i64 0, .int .i64 0, .int .i64 0], .int .i64 2]) (by simp [results, go_sem]) rfl ?_
    exact ⟨rfl, rec_below _ _⟩
theorem refDate_out (n : Int) (w : World) (h : n < newV 1 ∨ newV 275761 ≤ n) :
    Calls Tryz.prog 97 #[.int .i64 n] w fun e w' => e = .returned (.tuple #[dayR 0 0 0, .int .i64 2]) ∧ Below w.heap.size w w' := by
  rcases h with h | h
  · exact refDate_no n 0 w (fun w => refYear_low n w h) (.inl rfl)
  · rcases Int.lt_or_le n (newV 275762) with g | g
    · exact refDate_no n 275761 w (fun w => refYear_in n 275761 w ⟨h, g⟩ (by decide) (by decide)) (.inr (by decide))
    · exact refDate_no n 0 w (fun w => refYear_high n w g) (.inl rfl)
theorem dayR_eq {y m d c : Int} (h : c = d) : Ending.returned (.tuple #[.agg #[.int .i64 y, .int .i64 m, .int .i64 c], .int .i64 0]) = .returned (.tuple #[dayR y m d, .int .i64 0]) := by rw [h]; rfl
set_option maxHeartbeats 1000000 in
theorem refDate_in (n y m d : Int) (w : World) (h : IsDay n y m d) :
    Calls Tryz.prog 97 #[.int .i64 n] w fun e w' => e = .returned (.tuple #[dayR y m d, .int .i64 0]) ∧ Below w.heap.size w w' := by
  have HY := hide (fun w => refYear_in n y w h.year h.y1 (by have := h.y2; omega))
  have hN := fun (k : Int) (h1 : 1 ≤ k) (h2 : k < m) => month_next h h1 h2
  have hH := month_here h
  obtain ⟨c1, c2⟩ := h.bounds
  have hM := fun (k : Int) (g : k ≤ m) => aheadI_mono (y := y) g
  have e := h.is
  obtain ⟨y1, y2, m1, m2, d1, d2, -⟩ := h
  have hB := fun (k : Int) (h : k ≤ 13) => aheadI_bounds (y := y) h
  have hX := fun (k : Int) (h : 1 ≤ k) => aheadI_next (y := y) h
  have hK := len_bounds y
  have hm := hK m
  have hF := fun w => refNew_any y w y1 (by omega)
  have hS := fun (k : Int) w => reflen_any y k w (by omega) (by omega)
  obtain ⟨n1, n2⟩ := new_range y1 (by omega)
  generalize newV y = N at *
  have r1 : 0 ≤ n - N ∧ n - N ≤ 400 := by have := hB m (by omega); omega
  have y0 : (y == 0) = false := beq_no (by omega)
  have HN := hide hN
  have HH := hide hH
  have HM := hide hM
  have HB := hide hB
  have HX := hide hX
  have HK := hide hK
  have HF := hide hF
  have HS := hide hS
  have E := hide e
  clear hN hH hM hB hX hK hm hF hS e d2
  go_enter Tryz.func97, Tryz.ntmps97
  go_wp2_with fail
  refine (HY.out _).mono ?_
  rintro e u1 ⟨rfl, rfl⟩
  go_wp2_with fail
  refine (HF.out _).mono ?_
  rintro e u1 ⟨rfl, rfl⟩
  go_wp2_with fail
  go_loop [5, 6] (fun t s => ∃ k r : Int, s = .int .i64 k ∧ t = .int .i64 r ∧ 1 ≤ k ∧ k ≤ m ∧ Hid (r = n - N - aheadI y k)) (fun _ s => (m - intOf s).toNat)
  case atStart => exact ⟨1, n - N, rfl, rfl, by omega, by omega, hide (by rw [aheadI_1]; omega)⟩
  case round =>
    obtain ⟨k, r, rfl, rfl, k1, k2, eR⟩ := hrel
    have hb := HB.out k (by omega)
    have hm := HM.out k k2
    have r1 : 0 ≤ r := by have := eR.out; have := E.out; omega
    have r2 : r ≤ 400 := by have := eR.out; omega
    have hs := HS.out k
    have hc := HK.out k
    clear hb hm
    by_cases hk : k < m
    · have hn : lenV y k ≤ r := by rw [eR.out]; exact HN.out k k1 hk
      have hx := hide (HX.out k k1)
      generalize lenV y k = l at *
      have Hs := hide hs
      clear hs
      go_wp2_with fail
      refine (Hs.out _).mono ?_
      rintro e u1 ⟨rfl, rfl⟩
      go_wp2_with fail
      refine (Hs.out _).mono ?_
      rintro e u1 ⟨rfl, rfl⟩
      go_wp2_with fail
      go_round
      case rel => exact ⟨k + 1, r - l, rfl, rfl, by omega, by omega, hide (by rw [hx.out, eR.out]; omega)⟩
      case measure => simp [intOf]; omega
    · obtain rfl : k = m := by omega
      have hn : r < lenV y k := by rw [eR.out]; exact HH.out.1
      have hd := hide (HH.out.2)
      generalize lenV y k = l at *
      have Hs := hide hs
      clear hs hk
      go_wp2_with fail
      refine (Hs.out _).mono ?_
      rintro e u1 ⟨rfl, rfl⟩
      go_wp2_with fail
      (try simp only [Exit.inBlock, Exit.then])
      refine bodyPost_ret (v := .tuple #[.agg #[.int .i64 y, .int .i64 k, .int .i64 (r + 1)], .int .i64 0]) (by simp [results, go_sem]) rfl ?_
      exact ⟨dayR_eq (by rw [eR.out]; exact hd.out), rec_below _ _⟩
theorem dayR_wk {y m d : Int} (h : m = d) : Ending.returned (.tuple #[.agg #[.int .i64 y, .int .i64 m, .int .i64 0], .int .i64 0]) = .returned (.tuple #[dayR y d 0, .int .i64 0]) := by rw [h]; rfl
set_option maxHeartbeats 1000000 in
theorem refWeek_out (n : Int) (w : World) (h : n < firstV 1 ∨ firstV 275761 ≤ n) :
    Calls Tryz.prog 100 #[.int .i64 n] w fun e w' => e = .returned (.tuple #[dayR 0 0 0, .int .i64 2]) ∧ Below w.heap.size w w' := by
  have hN := fun w => reffirst_any 1 w (by decide) (by decide)
  have hM := fun w => reffirst_any 275761 w (by decide) (by decide)
  have h0 := first_mono (show (1 : Int) ≤ 275761 by decide)
  generalize firstV 1 = N at *
  generalize firstV 275761 = M at *
  have HN := hide hN
  have HM := hide hM
  clear hN hM
  unfold dayR
  rcases h with h | h
  · go_enter Tryz.func100, Tryz.ntmps100
    go_wp2_with fail
    refine (HN.out _).mono ?_
    rintro e u1 ⟨rfl, rfl⟩
    go_wp2_with fail
    (try simp only [Exit.inBlock, Exit.then])
    refine bodyPost_ret (v := .tuple #[.agg #[.int .i64 0, .int .i64 0, .int .i64 0], .int .i64 2]) (by simp [results, go_sem]) rfl ?_
    exact ⟨rfl, rec_below _ _⟩
  · have g : N ≤ n := by omega
    go_enter Tryz.func100, Tryz.ntmps100
    go_wp2_with fail
    refine (HN.out _).mono ?_
    rintro e u1 ⟨rfl, rfl⟩
    go_wp2_with fail
    refine (HM.out _).mono ?_
    rintro e u1 ⟨rfl, rfl⟩
    go_wp2_with fail
    (try simp only [Exit.inBlock, Exit.then])
    refine bodyPost_ret (v := .tuple #[.agg #[.int .i64 0, .int .i64 0, .int .i64 0], .int .i64 2]) (by simp [results, go_sem]) rfl ?_
    exact ⟨rfl, rec_below _ _⟩
theorem week_year {n y : Int} (h : InWeeks n y) (y1 : 1 ≤ y) (y2 : y ≤ 275760) : ∃ x, IsYear n x ∧ 1 ≤ x ∧ x ≤ 275761 ∧ x - 1 ≤ y ∧ y ≤ x + 1 := by
  have ⟨a, b⟩ := inWeeks_in h y1 y2
  have c := first_bounds 275761
  have d := (new_step 275761).1
  rw [first_1] at a
  obtain ⟨x, x1, x2, hx⟩ := year_some 275761 (n := n) (a := 1) (by rw [new_1]; exact a) (by show n < newV (275761 + 1); omega)
  refine ⟨x, hx, x1, by omega, ?_⟩
  rcases inWeeks_near hx with g | g | g
  · have := inWeeks_one h g; omega
  · have := inWeeks_one h g; omega
  · have := inWeeks_one h g; omega
set_option maxHeartbeats 1000000 in
theorem refWeek_in (n y : Int) (w : World) (y1 : 1 ≤ y) (y2 : y ≤ 275760) (h : InWeeks n y) :
    Calls Tryz.prog 100 #[.int .i64 n] w fun e w' => e = .returned (.tuple #[dayR y (weekV n y) 0, .int .i64 0]) ∧ Below w.heap.size w w' := by
  obtain ⟨x, hx, x1, x2, x3, x4⟩ := week_year h y1 y2
  have ⟨a, b⟩ := inWeeks_in h y1 y2
  have hN := fun w => reffirst_any 1 w (by decide) (by decide)
  have hM := fun w => reffirst_any 275761 w (by decide) (by decide)
  have hO := fun w => refNew_any 1 w (by decide) (by decide)
  have c : newV 1 ≤ n := by rw [new_1]; rw [first_1] at a; exact a
  have hF := fun (k : Int) w (k1 : 1 ≤ k) (k2 : k ≤ 275763) => reffirst_any k w k1 k2
  have HY := hide (fun w => refYear_in n x w hx x1 x2)
  have hmo := fun (k : Int) (h : k ≤ y) => first_mono h
  have h1 := h.1
  have h2 := h.2
  have h3 := first_step y
  obtain ⟨n1, n2⟩ := first_range y1 (by omega)
  have h4 : n - firstV y ≤ 371 := by omega
  have h5 : n ≤ 300000000 := by omega
  have E := hide (show weekV n y = (n - firstV y) / 7 + 1 from rfl)
  generalize weekV n y = v at *
  generalize firstV 1 = N at *
  generalize firstV 275761 = M at *
  generalize newV 1 = O at *
  have HN := hide hN
  have HM := hide hM
  have HO := hide hO
  have HF := hide hF
  have HX := hide hmo
  have H1 := hide h1
  have H2 := hide h2
  have H4 := hide h4
  have HR := hide (fun k => first_range (y := k))
  clear hN hM hO hF hmo h h3 h4 h1 h2 hx n1 n2
  go_enter Tryz.func100, Tryz.ntmps100
  go_wp2_with fail
  refine (HN.out _).mono ?_
  rintro e u1 ⟨rfl, rfl⟩
  go_wp2_with fail
  refine (HM.out _).mono ?_
  rintro e u1 ⟨rfl, rfl⟩
  go_wp2_with fail
  refine (HO.out _).mono ?_
  rintro e u1 ⟨rfl, rfl⟩
  go_wp2_with fail
  refine (HY.out _).mono ?_
  rintro e u1 ⟨rfl, rfl⟩
  go_wp2_with fail
  go_loop [5] (fun s => ∃ k : Int, s = .int .i64 k ∧ x - 1 ≤ k ∧ k ≤ y) (fun s => (y - intOf s).toNat)
  case atStart => exact ⟨x - 1, rfl, by omega, by omega⟩
  case round =>
    obtain ⟨k, rfl, k1, k2⟩ := hrel
    rcases (show k ≤ 0 ∨ (1 ≤ k ∧ k < y) ∨ k = y by omega) with h | ⟨h, h'⟩ | h
    · go_wp2_with fail
      go_round
      case rel => exact ⟨k + 1, rfl, by omega, by omega⟩
      case measure => simp [intOf]; omega
    · have hA := fun w => HF.out k w (by omega) (by omega)
      have hB := fun w => HF.out (k + 1) w (by omega) (by omega)
      have g1 : firstV k ≤ n := by have := HX.out k (by omega); have := H1.out; omega
      have g2 : firstV (k + 1) ≤ n := by have := HX.out (k + 1) (by omega); have := H1.out; omega
      generalize firstV k = A at *
      generalize firstV (k + 1) = B at *
      have HA := hide hA
      have HB := hide hB
      clear hA hB
      go_wp2_with fail
      refine (HA.out _).mono ?_
      rintro e u1 ⟨rfl, rfl⟩
      go_wp2_with fail
      refine (HB.out _).mono ?_
      rintro e u1 ⟨rfl, rfl⟩
      go_wp2_with fail
      go_round
      case rel => exact ⟨k + 1, rfl, by omega, by omega⟩
      case measure => simp [intOf]; omega
    · subst h
      have hA := fun w => HF.out k w (by omega) (by omega)
      have hB := fun w => HF.out (k + 1) w (by omega) (by omega)
      have g1 := H1.out
      have g2 := H2.out
      have g3 := H4.out
      have g4 := HR.out k y1 (by omega)
      generalize firstV k = A at *
      generalize firstV (k + 1) = B at *
      have g5 : 0 ≤ n - A := by omega
      have HA := hide hA
      have HB := hide hB
      clear hA hB
      go_wp2_with fail
      refine (HA.out _).mono ?_
      rintro e u1 ⟨rfl, rfl⟩
      go_wp2_with fail
      refine (HB.out _).mono ?_
      rintro e u1 ⟨rfl, rfl⟩
      go_wp2_with fail
      refine (HA.out _).mono ?_
      rintro e u1 ⟨rfl, rfl⟩
      go_wp2_with fail
      (try simp only [Exit.inBlock, Exit.then])
      refine bodyPost_ret (v := .tuple #[.agg #[.int .i64 k, .int .i64 ((n - A) / 7 + 1), .int .i64 0], .int .i64 0]) (by simp [results, go_sem]) rfl ?_
      exact ⟨dayR_wk E.out.symm, rec_below _ _⟩
end Go.Proofs.YtfjfkkbgkjmghaaGreatDoor

namespace Go.Proofs.YtfjfkkbgkjmghaaGreatDoor
open Go.RowKit
set_option maxRecDepth 100000
theorem left_at {n s : Int} (h3 : 1 ≤ s) : (0 ≤ n.tmod s → n % s = n.tmod s) ∧ (n.tmod s < 0 → n % s = n.tmod s + s ∧ -s < n.tmod s ∧ n < 0) := by
  by_cases hn : 0 ≤ n
  · have e := left_pos (n := n) (s := s) hn
    have := Int.emod_nonneg n (by omega : s ≠ 0)
    exact ⟨fun _ => e.symm, fun h => by omega⟩
  · have ⟨b1, b2⟩ := left_bounds (n := n) (s := s) (by omega) (by omega)
    refine ⟨fun h => ?_, fun h => ⟨?_, b1, by omega⟩⟩
    · have e : n.tmod s = 0 := by omega
      rw [left_neg0 e, e]
    · have := left_neg (n := n) (s := s) (by omega) (by omega) (by omega)
      omega
theorem left_less {n s : Int} (h3 : 1 ≤ s) : 0 ≤ n % s ∧ n % s < s := ⟨Int.emod_nonneg _ (by omega), Int.emod_lt_of_pos _ (by omega)⟩
set_option maxHeartbeats 1000000 in
theorem refLeft_any (n s : Int) (w : World) (_h1 : -9223372036854775808 ≤ n) (_h2 : n ≤ 9223372036854775807) (h3 : 1 ≤ s) (h4 : s ≤ 9223372036854775807) :
    Calls Tryz.prog 96 #[.int .i64 n, .int .i64 s] w fun e w' => e = .returned (.int .i64 (n % s)) ∧ w' = w := by
  have ⟨a1, a2⟩ := left_at (n := n) h3
  have l3 := left_pos (n := n) (s := s)
  have l4 := left_bounds (n := n) (s := s) (by omega)
  by_cases hn : 0 ≤ n
  · clear a1 a2 l3 l4
    go_enter Tryz.func96, Tryz.ntmps96
    go_wp2_with fail
    go_ret
    exact ⟨rfl, rfl⟩
  · have hn' : n < 0 := by omega
    have ⟨b1, b2⟩ := l4 hn'
    by_cases hc : n.tmod s = 0
    · have E := hide ((a1 (by omega)).trans hc)
      have hc1 : (n.tmod s == 0) = true := by simpa using hc
      clear a1 a2 l3 l4 hn hc
      go_enter Tryz.func96, Tryz.ntmps96
      go_wp2_with fail
      go_ret
      exact ⟨ret_int E.out.symm, rfl⟩
    · have E := hide (a2 (by omega)).1
      have hc1 : (n.tmod s == 0) = false := by simpa using hc
      clear a1 a2 l3 l4 hn hc
      go_enter Tryz.func96, Tryz.ntmps96
      go_wp2_with fail
      go_ret
      exact ⟨ret_int (by rw [E.out]; omega), rfl⟩

end Go.Proofs.YtfjfkkbgkjmghaaGreatDoor
