/- The document's digit, two, at, year: they answer by the functions of 'Mom'; nothing is changed (draws aside). Condition: texts as long as the law asks. -/
import Derived.Test.YtekcbkicfoaheaaGreatDoorRows
import Derived.Test.YtekcbkicfoaheaaGreatDoorLow
import Derived.Test.YtekcbkicfoaheaaGreatDoorMomShow
import Derived.BigQuiet
namespace Go.Proofs.YtekcbkicfoaheaaGreatDoor
open Go.RowKit

/-- Is there a digit at a place? -/
def digV (s : ByteArray) (k : Nat) : Bool := decide (k < s.size) && isDg (byteAt s k)
theorem dig_in {s : ByteArray} {k : Nat} (h : k < s.size) : digV s k = isDg s[k] := by
  unfold digV; rw [decide_eq_true h, Bool.true_and, byteAt_eq s k h]
theorem dig_out {s : ByteArray} {k : Nat} (h : ¬ k < s.size) : digV s k = false := by
  unfold digV; rw [decide_eq_false h, Bool.false_and]

set_option maxHeartbeats 1000000 in
theorem digit_any (s : ByteArray) (k : Nat) (w : World) (_hs : s.size ≤ 100000) (_hk : k ≤ 200000) :
    Calls Tryz.prog 68 #[.string s, .int .i64 k] w fun e w' => e = .returned (.bool (digV s k)) ∧ w' = w := by
  by_cases h : k < s.size
  · rw [dig_in h]
    rcases (show (s[k].toNat : Int) < 48 ∨ (48 ≤ (s[k].toNat : Int) ∧ 57 < (s[k].toNat : Int)) ∨ (48 ≤ (s[k].toNat : Int) ∧ (s[k].toNat : Int) ≤ 57) by omega) with h1 | ⟨h1, h2⟩ | ⟨h1, h2⟩
    · have E := hide ((isDg_not s[k]).2 (by omega))
      go_enter Tryz.func68, Tryz.ntmps68
      go_wp2_with fail
      go_ret
      exact ⟨ret_bool E.out.symm, rfl⟩
    · have E := hide ((isDg_not s[k]).2 (by omega))
      go_enter Tryz.func68, Tryz.ntmps68
      go_wp2_with fail
      go_ret
      exact ⟨ret_bool (by first | exact E.out.symm | (rw [E.out]; exact decide_eq_false (by omega))), rfl⟩
    · have E := hide ((isDg_iff s[k]).2 (by omega))
      go_enter Tryz.func68, Tryz.ntmps68
      go_wp2_with fail
      go_ret
      exact ⟨ret_bool (by first | exact E.out.symm | (rw [E.out]; exact decide_eq_true (by omega))), rfl⟩
  · have E := hide (dig_out h)
    have h' : s.size ≤ k := by omega
    clear h
    go_enter Tryz.func68, Tryz.ntmps68
    go_wp2_with fail
    go_ret
    exact ⟨ret_bool E.out.symm, rfl⟩

theorem index_at (s : ByteArray) (i : Int) (j : Nat) (h : i = j) (hj : j < s.size) (w : World) : (Instr.index 9 (.string s) (.int .i64 i)).run Tryz.prog w = .ok (.int .u8 (s[j].toNat : Int)) w := by
  subst h
  rw [run_index_string _ _ _ _ _ Tryz.underlying9, dif_pos ⟨by omega, by omega⟩]
  rfl

/-- The number of two digits at a place. -/
def twoAt (s : ByteArray) (k : Nat) : Int := if digV s k = true ∧ digV s (k + 1) = true then (10 * dg (byteAt s k) + dg (byteAt s (k + 1)) : Nat) else -1
theorem twoAt_in {s : ByteArray} {k : Nat} (h : k + 1 < s.size) : twoAt s k = twoV (byteAt s k) (byteAt s (k + 1)) := by
  unfold twoAt twoV
  rw [dig_in h, dig_in (by omega), byteAt_eq, byteAt_eq]
theorem dig_some {s : ByteArray} {k : Nat} (h : digV s k = true) : k < s.size ∧ isDg (byteAt s k) = true := by
  unfold digV at h
  simpa using h

set_option maxHeartbeats 1000000 in
theorem two_any (s : ByteArray) (k : Nat) (w : World) (hs : s.size ≤ 100000) (hk : k ≤ 150000) :
    Calls Tryz.prog 44 #[.string s, .int .i64 k] w fun e w' => e = .returned (.int .i64 (twoAt s k)) ∧ ∃ q, w' = w.drewN q := by
  have hA := fun w => digit_any s k w hs (by omega)
  have hB := fun w => digit_any s (k + 1) w hs (by omega)
  rw [show (((k + 1 : Nat)) : Int) = (k : Int) + 1 by omega] at hB
  unfold twoAt
  cases h1 : digV s k with
  | false =>
    rw [h1] at hA
    have HA := hide hA
    clear hA hB h1
    rw [if_neg (by simp)]
    go_enter Tryz.func44, Tryz.ntmps44
    go_wp2_with fail
    refine (HA.out _).mono ?_
    rintro e u1 ⟨rfl, rfl⟩
    go_wp2_with fail
    go_ret
    exact ⟨rfl, 0, rfl⟩
  | true =>
    rw [h1] at hA
    cases h2 : digV s (k + 1) with
    | false =>
      rw [h2] at hB
      have HA := hide hA
      have HB := hide hB
      clear hA hB h1 h2
      rw [if_neg (by simp)]
      go_enter Tryz.func44, Tryz.ntmps44
      go_wp2_with fail
      refine (HA.out _).mono ?_
      rintro e u1 ⟨rfl, rfl⟩
      go_wp2_with fail
      refine (HB.out _).mono ?_
      rintro e u1 ⟨rfl, rfl⟩
      go_wp2_with fail
      go_ret
      exact ⟨rfl, 0, rfl⟩
    | true =>
      rw [h2] at hB
      have ⟨k1, d1⟩ := dig_some h1
      have ⟨k2, d2⟩ := dig_some h2
      rw [← byteAt_eq s k k1, ← byteAt_eq s (k + 1) k2] at *
      have b1 := (isDg_iff _).1 d1
      have b2 := (isDg_iff _).1 d2
      have c1 : 48 ≤ (s[k].toNat : Int) ∧ (s[k].toNat : Int) ≤ 57 := by omega
      have c2 : 48 ≤ (s[k + 1].toNat : Int) ∧ (s[k + 1].toNat : Int) ≤ 57 := by omega
      have k3 : (k : Int) + 1 < (s.size : Int) := by omega
      have HA := hide hA
      have HB := hide hB
      have E := hide (show (((10 * dg s[k] + dg s[k + 1] : Nat)) : Int) = ((s[k].toNat : Int) - 48) * 10 + ((s[k + 1].toNat : Int) - 48) by unfold dg; omega)
      have hx := fun w => index_at s ((k : Int) + 1) (k + 1) (by omega) k2 w
      clear hA hB h1 h2 d1 d2 b1 b2
      rw [if_pos ⟨rfl, rfl⟩]
      go_enter Tryz.func44, Tryz.ntmps44
      go_wp2_with fail
      refine (HA.out _).mono ?_
      rintro e u1 ⟨rfl, rfl⟩
      go_wp2_with fail
      refine (HB.out _).mono ?_
      rintro e u1 ⟨rfl, rfl⟩
      go_wp2_with fail
      go_quiet (fail)
      go_wp2_with fail
      go_ret
      exact ⟨ret_int E.out.symm, _, rfl⟩

end Go.Proofs.YtekcbkicfoaheaaGreatDoor
