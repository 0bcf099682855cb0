/- What a division leaves, from 0 on; numbers that fit a base and a step, and the greatest that isn't above one: plain facts of no program. No condition. -/
import Derived.Test.YtekcbkicfoaheaaGreatDoorKit
namespace Go.Proofs.YtekcbkicfoaheaaGreatDoor
open Go.RowKit

theorem left_pos {n s : Int} (hn : 0 ≤ n) : n.tmod s = n % s := Int.tmod_eq_emod_of_nonneg hn
theorem left_bounds {n s : Int} (hs : 0 < s) (hn : n < 0) : -s < n.tmod s ∧ n.tmod s ≤ 0 := by
  have h1 : n.tmod s = -((-n).tmod s) := by rw [Int.neg_tmod, Int.neg_neg]
  have h2 := Int.tmod_eq_emod_of_nonneg (a := -n) (b := s) (by omega)
  have h3 := Int.emod_nonneg (-n) (by omega : s ≠ 0)
  have h4 := Int.emod_lt_of_pos (-n) hs
  omega
theorem left_neg0 {n s : Int} (h : n.tmod s = 0) : n % s = 0 := Int.emod_eq_zero_of_dvd (Int.dvd_of_tmod_eq_zero h)
theorem left_neg {n s : Int} (hs : 0 < s) (hn : n < 0) (h : n.tmod s ≠ 0) : n % s = s + n.tmod s := by
  have ⟨b1, b2⟩ := left_bounds hs hn
  have e := Int.tmod_add_mul_tdiv n s
  have e2 : n = (s + n.tmod s) + s * (n.tdiv s - 1) := by rw [Int.mul_sub, Int.mul_one]; omega
  have e3 : ((s + n.tmod s) + s * (n.tdiv s - 1)) % s = (s + n.tmod s) % s := Int.add_mul_emod_self_left ..
  rw [← e2] at e3
  rw [e3]
  exact Int.emod_eq_of_lt (by omega) (by omega)

def fitV (n base step : Int) : Bool := decide (1 ≤ step ∧ n % step = base % step)
/-- What n is too much. -/
def muchV (n base step : Int) : Int := (n - base) % step
theorem much_bounds {n base step : Int} (h : 1 ≤ step) : 0 ≤ muchV n base step ∧ muchV n base step < step :=
  ⟨Int.emod_nonneg _ (by omega), Int.emod_lt_of_pos _ (by omega)⟩
theorem much_up {n base step : Int} (h : 1 ≤ step) (hab : base % step ≤ n % step) : n % step - base % step = muchV n base step := by
  have h1 := Int.emod_nonneg n (by omega : step ≠ 0)
  have h2 := Int.emod_lt_of_pos n (by omega : 0 < step)
  have h3 := Int.emod_nonneg base (by omega : step ≠ 0)
  unfold muchV
  rw [Int.sub_emod]
  exact (Int.emod_eq_of_lt (by omega) (by omega)).symm
theorem much_down {n base step : Int} (h : 1 ≤ step) (hab : ¬ base % step ≤ n % step) : step - (base % step - n % step) = muchV n base step := by
  have h1 := Int.emod_nonneg n (by omega : step ≠ 0)
  have h2 := Int.emod_lt_of_pos base (by omega : 0 < step)
  have h3 := Int.emod_nonneg base (by omega : step ≠ 0)
  unfold muchV
  rw [Int.sub_emod]
  have e : (n % step - base % step + step * 1) % step = (n % step - base % step) % step := Int.add_mul_emod_self_left ..
  have e2 : (n % step - base % step + step) % step = n % step - base % step + step := Int.emod_eq_of_lt (by omega) (by omega)
  rw [← e, Int.mul_one, e2]; omega
/-- Is there a greatest one that fits and isn't above n, of 64 bits? -/
def downOk (n base step : Int) : Bool := decide (1 ≤ step ∧ muchV n base step ≤ n + 9223372036854775808)
def downV (n base step : Int) : Int := if downOk n base step then n - muchV n base step else 0
theorem downV_yes {n base step : Int} (h : downOk n base step = true) : downV n base step = n - muchV n base step := by unfold downV; rw [if_pos h]
theorem downV_no {n base step : Int} (h : downOk n base step = false) : downV n base step = 0 := by unfold downV; rw [if_neg (by rw [h]; decide)]
theorem down_fits {n base step : Int} (h : 1 ≤ step) : fitV (n - muchV n base step) base step = true := by
  unfold fitV
  refine decide_eq_true ⟨h, ?_⟩
  unfold muchV
  have e : n - (n - base) % step = base + step * ((n - base) / step) := by
    have := Int.mul_ediv_add_emod (n - base) step
    omega
  rw [e, Int.add_mul_emod_self_left]

end Go.Proofs.YtekcbkicfoaheaaGreatDoor
