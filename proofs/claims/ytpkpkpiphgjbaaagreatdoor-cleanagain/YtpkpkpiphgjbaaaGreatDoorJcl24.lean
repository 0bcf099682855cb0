/- Joined texts. StepS3: The program's multiply and Step of layer 12: they answer by the functions of 'StepP'; what lay in the world lies there still. Conditions: as in 'StepS2'. FitProg: The program's Left, Fits and Down of layer 3. Conditions: numbers of 64 bits. -/
import Derived.Test.YtpkpkpiphgjbaaaGreatDoorJcl23
import Derived.Test.YtpkpkpiphgjbaaaGreatDoorJcl14
import Derived.Test.YtpkpkpiphgjbaaaGreatDoorRows
import Derived.Test.YtpkpkpiphgjbaaaGreatDoorJcl2
namespace Go.Proofs.YtpkpkpiphgjbaaaGreatDoor
open Go.RowKit
set_option maxRecDepth 100000

set_option maxHeartbeats 4000000 in
set_option maxRecDepth 100000 in
theorem mul_86400000_no (n : Int) (h2 : n ≤ 1000000000000000000) (h : n ≤ 0 ∨ (0 < n ∧ 11574074074 < n / 1000000) ∨ (0 < n ∧ ¬ 11574074074 < n / 1000000 ∧ ((n / 1000000 * 86400000 + n % 1000000 * 86400000 / 1000000) = 0 ∨ 1000000000000000000 < (n / 1000000 * 86400000 + n % 1000000 * 86400000 / 1000000)))) :
    ∃ z, ∀ w, Calls Tryz.prog 128 #[.int .i64 n, .int .i64 86400000] w fun e w' => e = .returned (.tuple #[.int .i64 z, .bool false]) ∧ w' = w := by
  rcases h with h | ⟨h1, h⟩ | ⟨h1, h, h3⟩
  · refine ⟨0, fun w => ?_⟩
    first
    | (exfalso; omega)
    | go_enter Tryz.func128, Tryz.ntmps128
      go_wp2_with fail
      go_ret2
      exact ⟨by rfl, rfl⟩
  · have h0 : ¬ n ≤ 0 := by omega
    refine ⟨0, fun w => ?_⟩
    first
    | (exfalso; omega)
    | go_enter Tryz.func128, Tryz.ntmps128
      go_wp2_with fail
      go_ret2
      exact ⟨by rfl, rfl⟩
  · have h0 : ¬ n ≤ 0 := by omega
    refine ⟨(n / 1000000 * 86400000 + n % 1000000 * 86400000 / 1000000), fun w => ?_⟩
    rcases h3 with h3 | h3
    · have z0 : ¬ 0 < (n / 1000000 * 86400000 + n % 1000000 * 86400000 / 1000000) := by omega
      first
      | (exfalso; omega)
      | go_enter Tryz.func128, Tryz.ntmps128
        go_wp2_with fail
        go_ret2
        exact ⟨by rfl, rfl⟩
    · have z0 : 0 < (n / 1000000 * 86400000 + n % 1000000 * 86400000 / 1000000) := by omega
      have z1 : ¬ (n / 1000000 * 86400000 + n % 1000000 * 86400000 / 1000000) ≤ 1000000000000000000 := by omega
      first
      | (exfalso; omega)
      | go_enter Tryz.func128, Tryz.ntmps128
        go_wp2_with fail
        go_ret2
        exact ⟨by rfl, rfl⟩
set_option maxHeartbeats 4000000 in
set_option maxRecDepth 100000 in
theorem mul_86400000_yes (n : Int) (h1 : 0 < n) (h2 : n ≤ 1000000000000000000) (h : ¬ 11574074074 < n / 1000000) (_h3 : ¬ (n / 1000000 * 86400000 + n % 1000000 * 86400000 / 1000000) = 0) (h4 : ¬ 1000000000000000000 < (n / 1000000 * 86400000 + n % 1000000 * 86400000 / 1000000)) (w : World) :
    Calls Tryz.prog 128 #[.int .i64 n, .int .i64 86400000] w fun e w' => e = .returned (.tuple #[.int .i64 (n / 1000000 * 86400000 + n % 1000000 * 86400000 / 1000000), .bool true]) ∧ w' = w := by
  have h0 : ¬ n ≤ 0 := by omega
  have z0 : 0 < (n / 1000000 * 86400000 + n % 1000000 * 86400000 / 1000000) := by omega
  have z1 : (n / 1000000 * 86400000 + n % 1000000 * 86400000 / 1000000) ≤ 1000000000000000000 := by omega
  go_enter Tryz.func128, Tryz.ntmps128
  go_wp2_with fail
  go_ret2
  exact ⟨by rfl, rfl⟩
set_option maxHeartbeats 4000000 in
set_option maxRecDepth 100000 in
theorem mul_1_no (n : Int) (h2 : n ≤ 1000000000000000000) (h : n ≤ 0 ∨ (0 < n ∧ 1000000000000000000 < n / 1000000) ∨ (0 < n ∧ ¬ 1000000000000000000 < n / 1000000 ∧ ((n / 1000000 + n % 1000000 / 1000000) = 0 ∨ 1000000000000000000 < (n / 1000000 + n % 1000000 / 1000000)))) :
    ∃ z, ∀ w, Calls Tryz.prog 128 #[.int .i64 n, .int .i64 1] w fun e w' => e = .returned (.tuple #[.int .i64 z, .bool false]) ∧ w' = w := by
  rcases h with h | ⟨h1, h⟩ | ⟨h1, h, h3⟩
  · refine ⟨0, fun w => ?_⟩
    first
    | (exfalso; omega)
    | go_enter Tryz.func128, Tryz.ntmps128
      go_wp2_with fail
      go_ret2
      exact ⟨by rfl, rfl⟩
  · have h0 : ¬ n ≤ 0 := by omega
    refine ⟨0, fun w => ?_⟩
    first
    | (exfalso; omega)
    | go_enter Tryz.func128, Tryz.ntmps128
      go_wp2_with fail
      go_ret2
      exact ⟨by rfl, rfl⟩
  · have h0 : ¬ n ≤ 0 := by omega
    refine ⟨(n / 1000000 + n % 1000000 / 1000000), fun w => ?_⟩
    rcases h3 with h3 | h3
    · have z0 : ¬ 0 < (n / 1000000 + n % 1000000 / 1000000) := by omega
      first
      | (exfalso; omega)
      | go_enter Tryz.func128, Tryz.ntmps128
        go_wp2_with fail
        go_ret2
        exact ⟨by rfl, rfl⟩
    · have z0 : 0 < (n / 1000000 + n % 1000000 / 1000000) := by omega
      have z1 : ¬ (n / 1000000 + n % 1000000 / 1000000) ≤ 1000000000000000000 := by omega
      first
      | (exfalso; omega)
      | go_enter Tryz.func128, Tryz.ntmps128
        go_wp2_with fail
        go_ret2
        exact ⟨by rfl, rfl⟩
set_option maxHeartbeats 4000000 in
set_option maxRecDepth 100000 in
theorem mul_1_yes (n : Int) (h1 : 0 < n) (h2 : n ≤ 1000000000000000000) (h : ¬ 1000000000000000000 < n / 1000000) (_h3 : ¬ (n / 1000000 + n % 1000000 / 1000000) = 0) (h4 : ¬ 1000000000000000000 < (n / 1000000 + n % 1000000 / 1000000)) (w : World) :
    Calls Tryz.prog 128 #[.int .i64 n, .int .i64 1] w fun e w' => e = .returned (.tuple #[.int .i64 (n / 1000000 + n % 1000000 / 1000000), .bool true]) ∧ w' = w := by
  have h0 : ¬ n ≤ 0 := by omega
  have z0 : 0 < (n / 1000000 + n % 1000000 / 1000000) := by omega
  have z1 : (n / 1000000 + n % 1000000 / 1000000) ≤ 1000000000000000000 := by omega
  go_enter Tryz.func128, Tryz.ntmps128
  go_wp2_with fail
  go_ret2
  exact ⟨by rfl, rfl⟩
set_option maxHeartbeats 4000000 in
set_option maxRecDepth 100000 in
theorem mul_604800000_no (n : Int) (h2 : n ≤ 1000000000000000000) (h : n ≤ 0 ∨ (0 < n ∧ 1653439153 < n / 1000000) ∨ (0 < n ∧ ¬ 1653439153 < n / 1000000 ∧ ((n / 1000000 * 604800000 + n % 1000000 * 604800000 / 1000000) = 0 ∨ 1000000000000000000 < (n / 1000000 * 604800000 + n % 1000000 * 604800000 / 1000000)))) :
    ∃ z, ∀ w, Calls Tryz.prog 128 #[.int .i64 n, .int .i64 604800000] w fun e w' => e = .returned (.tuple #[.int .i64 z, .bool false]) ∧ w' = w := by
  rcases h with h | ⟨h1, h⟩ | ⟨h1, h, h3⟩
  · refine ⟨0, fun w => ?_⟩
    first
    | (exfalso; omega)
    | go_enter Tryz.func128, Tryz.ntmps128
      go_wp2_with fail
      go_ret2
      exact ⟨by rfl, rfl⟩
  · have h0 : ¬ n ≤ 0 := by omega
    refine ⟨0, fun w => ?_⟩
    first
    | (exfalso; omega)
    | go_enter Tryz.func128, Tryz.ntmps128
      go_wp2_with fail
      go_ret2
      exact ⟨by rfl, rfl⟩
  · have h0 : ¬ n ≤ 0 := by omega
    refine ⟨(n / 1000000 * 604800000 + n % 1000000 * 604800000 / 1000000), fun w => ?_⟩
    rcases h3 with h3 | h3
    · have z0 : ¬ 0 < (n / 1000000 * 604800000 + n % 1000000 * 604800000 / 1000000) := by omega
      first
      | (exfalso; omega)
      | go_enter Tryz.func128, Tryz.ntmps128
        go_wp2_with fail
        go_ret2
        exact ⟨by rfl, rfl⟩
    · have z0 : 0 < (n / 1000000 * 604800000 + n % 1000000 * 604800000 / 1000000) := by omega
      have z1 : ¬ (n / 1000000 * 604800000 + n % 1000000 * 604800000 / 1000000) ≤ 1000000000000000000 := by omega
      first
      | (exfalso; omega)
      | go_enter Tryz.func128, Tryz.ntmps128
        go_wp2_with fail
        go_ret2
        exact ⟨by rfl, rfl⟩
set_option maxHeartbeats 4000000 in
set_option maxRecDepth 100000 in
theorem mul_604800000_yes (n : Int) (h1 : 0 < n) (h2 : n ≤ 1000000000000000000) (h : ¬ 1653439153 < n / 1000000) (_h3 : ¬ (n / 1000000 * 604800000 + n % 1000000 * 604800000 / 1000000) = 0) (h4 : ¬ 1000000000000000000 < (n / 1000000 * 604800000 + n % 1000000 * 604800000 / 1000000)) (w : World) :
    Calls Tryz.prog 128 #[.int .i64 n, .int .i64 604800000] w fun e w' => e = .returned (.tuple #[.int .i64 (n / 1000000 * 604800000 + n % 1000000 * 604800000 / 1000000), .bool true]) ∧ w' = w := by
  have h0 : ¬ n ≤ 0 := by omega
  have z0 : 0 < (n / 1000000 * 604800000 + n % 1000000 * 604800000 / 1000000) := by omega
  have z1 : (n / 1000000 * 604800000 + n % 1000000 * 604800000 / 1000000) ≤ 1000000000000000000 := by omega
  go_enter Tryz.func128, Tryz.ntmps128
  go_wp2_with fail
  go_ret2
  exact ⟨by rfl, rfl⟩
set_option maxHeartbeats 4000000 in
set_option maxRecDepth 100000 in
theorem mul_1000_no (n : Int) (h2 : n ≤ 1000000000000000000) (h : n ≤ 0 ∨ (0 < n ∧ 1000000000000000 < n / 1000000) ∨ (0 < n ∧ ¬ 1000000000000000 < n / 1000000 ∧ ((n / 1000000 * 1000 + n % 1000000 * 1000 / 1000000) = 0 ∨ 1000000000000000000 < (n / 1000000 * 1000 + n % 1000000 * 1000 / 1000000)))) :
    ∃ z, ∀ w, Calls Tryz.prog 128 #[.int .i64 n, .int .i64 1000] w fun e w' => e = .returned (.tuple #[.int .i64 z, .bool false]) ∧ w' = w := by
  rcases h with h | ⟨h1, h⟩ | ⟨h1, h, h3⟩
  · refine ⟨0, fun w => ?_⟩
    first
    | (exfalso; omega)
    | go_enter Tryz.func128, Tryz.ntmps128
      go_wp2_with fail
      go_ret2
      exact ⟨by rfl, rfl⟩
  · have h0 : ¬ n ≤ 0 := by omega
    refine ⟨0, fun w => ?_⟩
    first
    | (exfalso; omega)
    | go_enter Tryz.func128, Tryz.ntmps128
      go_wp2_with fail
      go_ret2
      exact ⟨by rfl, rfl⟩
  · have h0 : ¬ n ≤ 0 := by omega
    refine ⟨(n / 1000000 * 1000 + n % 1000000 * 1000 / 1000000), fun w => ?_⟩
    rcases h3 with h3 | h3
    · have z0 : ¬ 0 < (n / 1000000 * 1000 + n % 1000000 * 1000 / 1000000) := by omega
      first
      | (exfalso; omega)
      | go_enter Tryz.func128, Tryz.ntmps128
        go_wp2_with fail
        go_ret2
        exact ⟨by rfl, rfl⟩
    · have z0 : 0 < (n / 1000000 * 1000 + n % 1000000 * 1000 / 1000000) := by omega
      have z1 : ¬ (n / 1000000 * 1000 + n % 1000000 * 1000 / 1000000) ≤ 1000000000000000000 := by omega
      first
      | (exfalso; omega)
      | go_enter Tryz.func128, Tryz.ntmps128
        go_wp2_with fail
        go_ret2
        exact ⟨by rfl, rfl⟩
set_option maxHeartbeats 4000000 in
set_option maxRecDepth 100000 in
theorem mul_1000_yes (n : Int) (h1 : 0 < n) (h2 : n ≤ 1000000000000000000) (h : ¬ 1000000000000000 < n / 1000000) (_h3 : ¬ (n / 1000000 * 1000 + n % 1000000 * 1000 / 1000000) = 0) (h4 : ¬ 1000000000000000000 < (n / 1000000 * 1000 + n % 1000000 * 1000 / 1000000)) (w : World) :
    Calls Tryz.prog 128 #[.int .i64 n, .int .i64 1000] w fun e w' => e = .returned (.tuple #[.int .i64 (n / 1000000 * 1000 + n % 1000000 * 1000 / 1000000), .bool true]) ∧ w' = w := by
  have h0 : ¬ n ≤ 0 := by omega
  have z0 : 0 < (n / 1000000 * 1000 + n % 1000000 * 1000 / 1000000) := by omega
  have z1 : (n / 1000000 * 1000 + n % 1000000 * 1000 / 1000000) ≤ 1000000000000000000 := by omega
  go_enter Tryz.func128, Tryz.ntmps128
  go_wp2_with fail
  go_ret2
  exact ⟨by rfl, rfl⟩
set_option maxHeartbeats 4000000 in
set_option maxRecDepth 100000 in
theorem mul_1000000_no (n : Int) (h2 : n ≤ 1000000000000000000) (h : n ≤ 0 ∨ (0 < n ∧ 1000000000000 < n / 1000000) ∨ (0 < n ∧ ¬ 1000000000000 < n / 1000000 ∧ ((n / 1000000 * 1000000 + n % 1000000) = 0 ∨ 1000000000000000000 < (n / 1000000 * 1000000 + n % 1000000)))) :
    ∃ z, ∀ w, Calls Tryz.prog 128 #[.int .i64 n, .int .i64 1000000] w fun e w' => e = .returned (.tuple #[.int .i64 z, .bool false]) ∧ w' = w := by
  rcases h with h | ⟨h1, h⟩ | ⟨h1, h, h3⟩
  · refine ⟨0, fun w => ?_⟩
    first
    | (exfalso; omega)
    | go_enter Tryz.func128, Tryz.ntmps128
      go_wp2_with fail
      go_ret2
      exact ⟨by rfl, rfl⟩
  · have h0 : ¬ n ≤ 0 := by omega
    refine ⟨0, fun w => ?_⟩
    first
    | (exfalso; omega)
    | go_enter Tryz.func128, Tryz.ntmps128
      go_wp2_with fail
      go_ret2
      exact ⟨by rfl, rfl⟩
  · have h0 : ¬ n ≤ 0 := by omega
    refine ⟨(n / 1000000 * 1000000 + n % 1000000), fun w => ?_⟩
    rcases h3 with h3 | h3
    · have z0 : ¬ 0 < (n / 1000000 * 1000000 + n % 1000000) := by omega
      first
      | (exfalso; omega)
      | go_enter Tryz.func128, Tryz.ntmps128
        go_wp2_with fail
        go_ret2
        exact ⟨by rfl, rfl⟩
    · have z0 : 0 < (n / 1000000 * 1000000 + n % 1000000) := by omega
      have z1 : ¬ (n / 1000000 * 1000000 + n % 1000000) ≤ 1000000000000000000 := by omega
      first
      | (exfalso; omega)
      | go_enter Tryz.func128, Tryz.ntmps128
        go_wp2_with fail
        go_ret2
        exact ⟨by rfl, rfl⟩
set_option maxHeartbeats 4000000 in
set_option maxRecDepth 100000 in
theorem mul_1000000_yes (n : Int) (h1 : 0 < n) (h2 : n ≤ 1000000000000000000) (h : ¬ 1000000000000 < n / 1000000) (_h3 : ¬ (n / 1000000 * 1000000 + n % 1000000) = 0) (h4 : ¬ 1000000000000000000 < (n / 1000000 * 1000000 + n % 1000000)) (w : World) :
    Calls Tryz.prog 128 #[.int .i64 n, .int .i64 1000000] w fun e w' => e = .returned (.tuple #[.int .i64 (n / 1000000 * 1000000 + n % 1000000), .bool true]) ∧ w' = w := by
  have h0 : ¬ n ≤ 0 := by omega
  have z0 : 0 < (n / 1000000 * 1000000 + n % 1000000) := by omega
  have z1 : (n / 1000000 * 1000000 + n % 1000000) ≤ 1000000000000000000 := by omega
  go_enter Tryz.func128, Tryz.ntmps128
  go_wp2_with fail
  go_ret2
  exact ⟨by rfl, rfl⟩
/-- What multiply makes of a number, by a kind's unit. -/
theorem mul_any (k n : Int) (hk : 8 ≤ k ∧ k ≤ 14) (h2 : n ≤ 1000000000000000000) :
    (stepN k n = defK k ∧ ∃ z, ∀ w, Calls Tryz.prog 128 #[.int .i64 n, .int .i64 (scaleK k)] w fun e w' => e = .returned (.tuple #[.int .i64 z, .bool false]) ∧ w' = w) ∨
    (∀ w, Calls Tryz.prog 128 #[.int .i64 n, .int .i64 (scaleK k)] w fun e w' => e = .returned (.tuple #[.int .i64 (stepN k n), .bool true]) ∧ w' = w) := by
  have E : stepN k n = if n ≤ 0 then defK k else if 1000000000000000000 / scaleK k < n / 1000000 then defK k else if outN k n = 0 ∨ 1000000000000000000 < outN k n then defK k else outN k n := rfl
  have O : outN k n = n / 1000000 * scaleK k + n % 1000000 * scaleK k / 1000000 := rfl
  rcases (show k = 8 ∨ k = 9 ∨ k = 10 ∨ k = 11 ∨ k = 12 ∨ k = 13 ∨ k = 14 by omega) with rfl | rfl | rfl | rfl | rfl | rfl | rfl
  · rw [show scaleK 8 = 86400000 by decide] at E O ⊢
    rw [show (1000000000000000000 : Int) / 86400000 = 11574074074 by decide, O] at E
    by_cases g1 : n ≤ 0
    · rw [if_pos g1] at E
      exact .inl ⟨E, mul_86400000_no n h2 (.inl g1)⟩
    · rw [if_neg g1] at E
      by_cases g2 : 11574074074 < n / 1000000
      · rw [if_pos g2] at E
        exact .inl ⟨E, mul_86400000_no n h2 (.inr (.inl ⟨by omega, g2⟩))⟩
      · rw [if_neg g2] at E
        by_cases g3 : (n / 1000000 * 86400000 + n % 1000000 * 86400000 / 1000000) = 0 ∨ 1000000000000000000 < (n / 1000000 * 86400000 + n % 1000000 * 86400000 / 1000000)
        · rw [if_pos g3] at E
          exact .inl ⟨E, mul_86400000_no n h2 (.inr (.inr ⟨by omega, g2, g3⟩))⟩
        · rw [if_neg g3] at E
          rw [E]
          exact .inr (mul_86400000_yes n (by omega) h2 g2 (fun q => g3 (.inl q)) (fun q => g3 (.inr q)))
  · rw [show scaleK 9 = 1 by decide] at E O ⊢
    rw [show (1000000000000000000 : Int) / 1 = 1000000000000000000 by decide, O] at E
    rw [Int.mul_one, Int.mul_one] at E
    by_cases g1 : n ≤ 0
    · rw [if_pos g1] at E
      exact .inl ⟨E, mul_1_no n h2 (.inl g1)⟩
    · rw [if_neg g1] at E
      by_cases g2 : 1000000000000000000 < n / 1000000
      · rw [if_pos g2] at E
        exact .inl ⟨E, mul_1_no n h2 (.inr (.inl ⟨by omega, g2⟩))⟩
      · rw [if_neg g2] at E
        by_cases g3 : (n / 1000000 + n % 1000000 / 1000000) = 0 ∨ 1000000000000000000 < (n / 1000000 + n % 1000000 / 1000000)
        · rw [if_pos g3] at E
          exact .inl ⟨E, mul_1_no n h2 (.inr (.inr ⟨by omega, g2, g3⟩))⟩
        · rw [if_neg g3] at E
          rw [E]
          exact .inr (mul_1_yes n (by omega) h2 g2 (fun q => g3 (.inl q)) (fun q => g3 (.inr q)))
  · rw [show scaleK 10 = 604800000 by decide] at E O ⊢
    rw [show (1000000000000000000 : Int) / 604800000 = 1653439153 by decide, O] at E
    by_cases g1 : n ≤ 0
    · rw [if_pos g1] at E
      exact .inl ⟨E, mul_604800000_no n h2 (.inl g1)⟩
    · rw [if_neg g1] at E
      by_cases g2 : 1653439153 < n / 1000000
      · rw [if_pos g2] at E
        exact .inl ⟨E, mul_604800000_no n h2 (.inr (.inl ⟨by omega, g2⟩))⟩
      · rw [if_neg g2] at E
        by_cases g3 : (n / 1000000 * 604800000 + n % 1000000 * 604800000 / 1000000) = 0 ∨ 1000000000000000000 < (n / 1000000 * 604800000 + n % 1000000 * 604800000 / 1000000)
        · rw [if_pos g3] at E
          exact .inl ⟨E, mul_604800000_no n h2 (.inr (.inr ⟨by omega, g2, g3⟩))⟩
        · rw [if_neg g3] at E
          rw [E]
          exact .inr (mul_604800000_yes n (by omega) h2 g2 (fun q => g3 (.inl q)) (fun q => g3 (.inr q)))
  · rw [show scaleK 11 = 1000 by decide] at E O ⊢
    rw [show (1000000000000000000 : Int) / 1000 = 1000000000000000 by decide, O] at E
    by_cases g1 : n ≤ 0
    · rw [if_pos g1] at E
      exact .inl ⟨E, mul_1000_no n h2 (.inl g1)⟩
    · rw [if_neg g1] at E
      by_cases g2 : 1000000000000000 < n / 1000000
      · rw [if_pos g2] at E
        exact .inl ⟨E, mul_1000_no n h2 (.inr (.inl ⟨by omega, g2⟩))⟩
      · rw [if_neg g2] at E
        by_cases g3 : (n / 1000000 * 1000 + n % 1000000 * 1000 / 1000000) = 0 ∨ 1000000000000000000 < (n / 1000000 * 1000 + n % 1000000 * 1000 / 1000000)
        · rw [if_pos g3] at E
          exact .inl ⟨E, mul_1000_no n h2 (.inr (.inr ⟨by omega, g2, g3⟩))⟩
        · rw [if_neg g3] at E
          rw [E]
          exact .inr (mul_1000_yes n (by omega) h2 g2 (fun q => g3 (.inl q)) (fun q => g3 (.inr q)))
  · rw [show scaleK 12 = 1000 by decide] at E O ⊢
    rw [show (1000000000000000000 : Int) / 1000 = 1000000000000000 by decide, O] at E
    by_cases g1 : n ≤ 0
    · rw [if_pos g1] at E
      exact .inl ⟨E, mul_1000_no n h2 (.inl g1)⟩
    · rw [if_neg g1] at E
      by_cases g2 : 1000000000000000 < n / 1000000
      · rw [if_pos g2] at E
        exact .inl ⟨E, mul_1000_no n h2 (.inr (.inl ⟨by omega, g2⟩))⟩
      · rw [if_neg g2] at E
        by_cases g3 : (n / 1000000 * 1000 + n % 1000000 * 1000 / 1000000) = 0 ∨ 1000000000000000000 < (n / 1000000 * 1000 + n % 1000000 * 1000 / 1000000)
        · rw [if_pos g3] at E
          exact .inl ⟨E, mul_1000_no n h2 (.inr (.inr ⟨by omega, g2, g3⟩))⟩
        · rw [if_neg g3] at E
          rw [E]
          exact .inr (mul_1000_yes n (by omega) h2 g2 (fun q => g3 (.inl q)) (fun q => g3 (.inr q)))
  · rw [show scaleK 13 = 1000000 by decide] at E O ⊢
    rw [show (1000000000000000000 : Int) / 1000000 = 1000000000000 by decide, O] at E
    rw [Int.mul_ediv_cancel _ (by decide)] at E
    by_cases g1 : n ≤ 0
    · rw [if_pos g1] at E
      exact .inl ⟨E, mul_1000000_no n h2 (.inl g1)⟩
    · rw [if_neg g1] at E
      by_cases g2 : 1000000000000 < n / 1000000
      · rw [if_pos g2] at E
        exact .inl ⟨E, mul_1000000_no n h2 (.inr (.inl ⟨by omega, g2⟩))⟩
      · rw [if_neg g2] at E
        by_cases g3 : (n / 1000000 * 1000000 + n % 1000000) = 0 ∨ 1000000000000000000 < (n / 1000000 * 1000000 + n % 1000000)
        · rw [if_pos g3] at E
          exact .inl ⟨E, mul_1000000_no n h2 (.inr (.inr ⟨by omega, g2, g3⟩))⟩
        · rw [if_neg g3] at E
          rw [E]
          exact .inr (mul_1000000_yes n (by omega) h2 g2 (fun q => g3 (.inl q)) (fun q => g3 (.inr q)))
  · rw [show scaleK 14 = 1000000 by decide] at E O ⊢
    rw [show (1000000000000000000 : Int) / 1000000 = 1000000000000 by decide, O] at E
    rw [Int.mul_ediv_cancel _ (by decide)] at E
    by_cases g1 : n ≤ 0
    · rw [if_pos g1] at E
      exact .inl ⟨E, mul_1000000_no n h2 (.inl g1)⟩
    · rw [if_neg g1] at E
      by_cases g2 : 1000000000000 < n / 1000000
      · rw [if_pos g2] at E
        exact .inl ⟨E, mul_1000000_no n h2 (.inr (.inl ⟨by omega, g2⟩))⟩
      · rw [if_neg g2] at E
        by_cases g3 : (n / 1000000 * 1000000 + n % 1000000) = 0 ∨ 1000000000000000000 < (n / 1000000 * 1000000 + n % 1000000)
        · rw [if_pos g3] at E
          exact .inl ⟨E, mul_1000000_no n h2 (.inr (.inr ⟨by omega, g2, g3⟩))⟩
        · rw [if_neg g3] at E
          rw [E]
          exact .inr (mul_1000000_yes n (by omega) h2 g2 (fun q => g3 (.inl q)) (fun q => g3 (.inr q)))
theorem low_nil : ¬ lowS ⟨#[]⟩ = anyS := by decide
theorem parse_nil : okP (parseV (⟨#[]⟩ : ByteArray).data.toList) = none := by decide +kernel
/-- The step by the text that is found, if any. -/
theorem step_is {k : Int} (hk : 8 ≤ k ∧ k ≤ 14) (ax : List (ByteArray × ByteArray)) : stepK k ax = if lowS (fndS ax stepS) = anyS then none else some (stepOf k (okP (parseV (fndS ax stepS).data.toList))) := by
  unfold stepK fndS
  rw [if_pos hk]
  cases e : findA ax stepS with
  | none =>
    show some (defK k) = if lowS ⟨#[]⟩ = anyS then none else some (stepOf k (okP (parseV (⟨#[]⟩ : ByteArray).data.toList)))
    rw [if_neg low_nil, parse_nil]; rfl
  | some i => rfl
theorem row_in {k : Int} (h : 8 ≤ k ∧ k ≤ 14) : rowU k = .agg #[.int .i64 (momK k), .int .i64 (scaleK k), .int .i64 (defK k)] := if_pos h
theorem lit_dec3 (a b : ByteArray) (l : List UInt8) (h : b.toList = l) : (a.toList == b.toList) = decide (a = ⟨l.toArray⟩) := by
  rw [Bool.eq_iff_iff, beq_iff_eq, decide_eq_true_eq, h, ByteArray.toList_eq]
  constructor
  · intro e
    apply ByteArray.ext
    exact Array.ext' e
  · intro e; rw [e]

set_option maxHeartbeats 4000000 in
set_option maxRecDepth 100000 in
theorem stStep_out (k : Int) (v : Value) (hv : ∃ p n c, v = .slice p n c) (ax : List (ByteArray × ByteArray)) (w : World) (hT : StTabs w) (hk : ¬ (8 ≤ k ∧ k ≤ 14)) :
    Calls Tryz.prog 79 #[.int .i64 k, v] w fun e w' => e = .returned (optV (stepK k ax)) ∧ Below w.heap.size w w' := by
  have E : Hid (stepK k ax = none) := if_neg hk
  have HU := hide (unitOf_any k w hT.unit)
  rw [row_out hk] at HU
  obtain ⟨p, n, c, rfl⟩ := hv
  clear hT hk
  go_enter Tryz.func79, Tryz.ntmps79
  go_wp2_with fail
  refine HU.out.mono ?_
  rintro e u1 ⟨rfl, b1⟩
  go_wp2_with fail
  go_ret2
  exact ⟨by rw [E.out]; rfl, b1.alloc b1.size _⟩
set_option maxHeartbeats 4000000 in
set_option maxRecDepth 100000 in
theorem stStep_in (k : Int) (v : Value) (ax : List (ByteArray × ByteArray)) (w : World) (hv : AttrsV w v ax) (hz : AxOK ax) (hT : StTabs w) (hk : 8 ≤ k ∧ k ≤ 14) :
    Calls Tryz.prog 79 #[.int .i64 k, v] w fun e w' => e = .returned (optV (stepK k ax)) ∧ Below w.heap.size w w' := by
  have HU := hide (unitOf_any k w hT.unit)
  rw [row_in hk] at HU
  have HF := hide (fun W => finder_any v (by obtain ⟨p, c, e, _⟩ := hv; exact ⟨p, _, c, e⟩) W)
  have HG := hide (fun (B : Nat) W (h : FndAt W B v ax) => finder1_any B v ax stepS W h.cell h.row hz.len)
  have FN := hide (fun W (hb : Below w.heap.size w W) => fnd_new (hv.below hb))
  have E := hide (step_is hk ax)
  have sm := fnd_small hz stepS
  generalize (findA ax stepS).isSome = is at *
  generalize fndS ax stepS = t at *
  have HS := hide (fun W => same_any t ⟨#[97, 110, 121]⟩ W (by unfold maxLen; omega) (by decide))
  have HP := hide (fun W (hb : Below w.heap.size w W) => parse_any t W (by omega) (hT.below hb).max)
  rw [show stepS = ⟨#[115, 116, 101, 112]⟩ from rfl] at HG
  obtain ⟨p, c, rfl, _⟩ := hv
  have d := scale_range k
  have s0 : ¬ scaleK k = 0 := by omega
  have s1 : (scaleK k == 0) = false := beq_eq_false_iff_ne.2 s0
  have PR := hide (fun n => parse_range (l := t.data.toList) (n := n))
  have MU := hide (fun n => mul_any k n hk)
  generalize parseV t.data.toList = r at *
  obtain ⟨n, ec⟩ := r
  have S3 := hide (lit_dec3 (lowS t) (lowS ⟨#[97, 110, 121]⟩) [97, 110, 121] (by rw [ByteArray.toList_eq]; decide))
  generalize stepK k ax = L at *
  generalize momK k = m at *
  have WAY : (Hid (L = none) ∧ ((lowS t).toList == (lowS ⟨#[97, 110, 121]⟩).toList) = true) ∨ (Hid (L = some (defK k)) ∧ ((lowS t).toList == (lowS ⟨#[97, 110, 121]⟩).toList) = false ∧ (ec == 0) = false ∧ ¬ ec = 0) ∨
      (Hid (L = some (defK k)) ∧ ((lowS t).toList == (lowS ⟨#[97, 110, 121]⟩).toList) = false ∧ (ec == 0) = true ∧ Hid (∃ z, ∀ w, Calls Tryz.prog 128 #[.int .i64 n, .int .i64 (scaleK k)] w fun e w' => e = .returned (.tuple #[.int .i64 z, .bool false]) ∧ w' = w)) ∨
      (((lowS t).toList == (lowS ⟨#[97, 110, 121]⟩).toList) = false ∧ (ec == 0) = true ∧ ∃ z, Hid (L = some z) ∧ Hid (∀ w, Calls Tryz.prog 128 #[.int .i64 n, .int .i64 (scaleK k)] w fun e w' => e = .returned (.tuple #[.int .i64 z, .bool true]) ∧ w' = w)) := by
    rw [S3.out]
    by_cases q : lowS t = anyS
    · exact .inl ⟨by show _ = _; rw [E.out, if_pos q], decide_eq_true q⟩
    · have f : decide (lowS t = ⟨[97, 110, 121].toArray⟩) = false := decide_eq_false q
      have E' := E.out
      rw [if_neg q] at E'
      by_cases h0 : ec = 0
      · have ok : okP (n, ec) = some n := if_pos h0
        have eb : (ec == 0) = true := by rw [h0]; rfl
        rw [ok] at E'
        rcases MU.out n (PR.out n ok).2 with ⟨e, hm⟩ | hm
        · exact .inr (.inr (.inl ⟨by show _ = _; rw [E']; exact congrArg some e, f, eb, hm⟩))
        · exact .inr (.inr (.inr ⟨f, eb, stepN k n, E', hm⟩))
      · have ok : okP (n, ec) = none := if_neg h0
        rw [ok] at E'
        exact .inr (.inl ⟨E', f, beq_eq_false_iff_ne.2 h0, h0⟩)
  clear E PR MU S3 hz hk d
  generalize scaleK k = sc at *
  generalize defK k = de at *
  generalize ((lowS t).toList == (lowS ⟨#[97, 110, 121]⟩).toList) = sb at *
  rcases WAY with ⟨E, rfl⟩ | ⟨E, rfl, eb, ne⟩ | ⟨E, rfl, eb, HM⟩ | ⟨rfl, eb, z, E, HM⟩
  · clear HP
    go_enter Tryz.func79, Tryz.ntmps79
    go_wp2_with fail
    refine HU.out.mono ?_
    rintro e u1 ⟨rfl, b1⟩
    have BX : Hid (Below u1.heap.size u1 (u1.alloc (.cells #[.int .i64 m, .int .i64 sc, .int .i64 de] 79))) := (Below.refl _ u1).alloc (Nat.le_refl _) _
    have NX := hide (Bk.new u1 [.int .i64 m, .int .i64 sc, .int .i64 de] 79)
    go_wp2_with fail
    generalize u1.alloc (.cells #[.int .i64 m, .int .i64 sc, .int .i64 de] 79) = x1 at *
    have B1 := hide (chain b1 BX.out)
    refine (HF.out _).mono ?_
    rintro e x2 ⟨rfl, e2⟩
    have F2 := hide (FN.out x1 B1.out)
    have b2 : Below x1.heap.size x1 x2 := by rw [e2]; exact (Below.refl _ x1).alloc (Nat.le_refl _) _
    rw [← e2] at F2
    clear e2
    have B2 := hide (chain B1.out b2)
    go_wp2_with fail
    refine (HG.out _ _ F2.out).mono ?_
    rintro e x3 ⟨rfl, b3⟩
    have B3 := hide (chain B2.out b3)
    go_wp2_with fail
    refine (HS.out _).mono ?_
    rintro e x4 ⟨rfl, b4⟩
    have B4 := hide (chain B3.out b4)
    have N4 := hide (((NX.out.below b2).below b3).below b4)
    clear NX BX F2 B1 B2 B3 b1 b2 b3 b4
    go_wp2_with fail
    go_ret2
    exact ⟨by rw [E.out]; rfl, B4.out⟩
  · go_enter Tryz.func79, Tryz.ntmps79
    go_wp2_with fail
    refine HU.out.mono ?_
    rintro e u1 ⟨rfl, b1⟩
    have BX : Hid (Below u1.heap.size u1 (u1.alloc (.cells #[.int .i64 m, .int .i64 sc, .int .i64 de] 79))) := (Below.refl _ u1).alloc (Nat.le_refl _) _
    have NX := hide (Bk.new u1 [.int .i64 m, .int .i64 sc, .int .i64 de] 79)
    go_wp2_with fail
    generalize u1.alloc (.cells #[.int .i64 m, .int .i64 sc, .int .i64 de] 79) = x1 at *
    have B1 := hide (chain b1 BX.out)
    refine (HF.out _).mono ?_
    rintro e x2 ⟨rfl, e2⟩
    have F2 := hide (FN.out x1 B1.out)
    have b2 : Below x1.heap.size x1 x2 := by rw [e2]; exact (Below.refl _ x1).alloc (Nat.le_refl _) _
    rw [← e2] at F2
    clear e2
    have B2 := hide (chain B1.out b2)
    go_wp2_with fail
    refine (HG.out _ _ F2.out).mono ?_
    rintro e x3 ⟨rfl, b3⟩
    have B3 := hide (chain B2.out b3)
    go_wp2_with fail
    refine (HS.out _).mono ?_
    rintro e x4 ⟨rfl, b4⟩
    have B4 := hide (chain B3.out b4)
    have N4 := hide (((NX.out.below b2).below b3).below b4)
    clear NX BX F2 B1 B2 B3 b1 b2 b3 b4
    go_wp2_with fail
    refine (HP.out _ B4.out).mono ?_
    rintro e x5 ⟨rfl, b5⟩
    have N5 := N4.out.below b5
    have r1 := N5.cell 1 rfl
    have r2 := N5.cell 2 rfl
    clear N4 N5
    go_wp2_with fail
    go_ret2
    exact ⟨by rw [E.out]; rfl, chain B4.out b5⟩
  · obtain ⟨z, HM⟩ := HM.out
    replace HM := hide HM
    go_enter Tryz.func79, Tryz.ntmps79
    go_wp2_with fail
    refine HU.out.mono ?_
    rintro e u1 ⟨rfl, b1⟩
    have BX : Hid (Below u1.heap.size u1 (u1.alloc (.cells #[.int .i64 m, .int .i64 sc, .int .i64 de] 79))) := (Below.refl _ u1).alloc (Nat.le_refl _) _
    have NX := hide (Bk.new u1 [.int .i64 m, .int .i64 sc, .int .i64 de] 79)
    go_wp2_with fail
    generalize u1.alloc (.cells #[.int .i64 m, .int .i64 sc, .int .i64 de] 79) = x1 at *
    have B1 := hide (chain b1 BX.out)
    refine (HF.out _).mono ?_
    rintro e x2 ⟨rfl, e2⟩
    have F2 := hide (FN.out x1 B1.out)
    have b2 : Below x1.heap.size x1 x2 := by rw [e2]; exact (Below.refl _ x1).alloc (Nat.le_refl _) _
    rw [← e2] at F2
    clear e2
    have B2 := hide (chain B1.out b2)
    go_wp2_with fail
    refine (HG.out _ _ F2.out).mono ?_
    rintro e x3 ⟨rfl, b3⟩
    have B3 := hide (chain B2.out b3)
    go_wp2_with fail
    refine (HS.out _).mono ?_
    rintro e x4 ⟨rfl, b4⟩
    have B4 := hide (chain B3.out b4)
    have N4 := hide (((NX.out.below b2).below b3).below b4)
    clear NX BX F2 B1 B2 B3 b1 b2 b3 b4
    go_wp2_with fail
    refine (HP.out _ B4.out).mono ?_
    rintro e x5 ⟨rfl, b5⟩
    have N5 := N4.out.below b5
    have r1 := N5.cell 1 rfl
    have r2 := N5.cell 2 rfl
    clear N4 N5
    go_wp2_with fail
    refine (HM.out _).mono ?_
    rintro e x6 ⟨rfl, e6⟩
    obtain rfl : x5 = x6 := e6.symm
    go_wp2_with fail
    go_ret2
    exact ⟨by rw [E.out]; rfl, chain B4.out b5⟩
  · go_enter Tryz.func79, Tryz.ntmps79
    go_wp2_with fail
    refine HU.out.mono ?_
    rintro e u1 ⟨rfl, b1⟩
    have BX : Hid (Below u1.heap.size u1 (u1.alloc (.cells #[.int .i64 m, .int .i64 sc, .int .i64 de] 79))) := (Below.refl _ u1).alloc (Nat.le_refl _) _
    have NX := hide (Bk.new u1 [.int .i64 m, .int .i64 sc, .int .i64 de] 79)
    go_wp2_with fail
    generalize u1.alloc (.cells #[.int .i64 m, .int .i64 sc, .int .i64 de] 79) = x1 at *
    have B1 := hide (chain b1 BX.out)
    refine (HF.out _).mono ?_
    rintro e x2 ⟨rfl, e2⟩
    have F2 := hide (FN.out x1 B1.out)
    have b2 : Below x1.heap.size x1 x2 := by rw [e2]; exact (Below.refl _ x1).alloc (Nat.le_refl _) _
    rw [← e2] at F2
    clear e2
    have B2 := hide (chain B1.out b2)
    go_wp2_with fail
    refine (HG.out _ _ F2.out).mono ?_
    rintro e x3 ⟨rfl, b3⟩
    have B3 := hide (chain B2.out b3)
    go_wp2_with fail
    refine (HS.out _).mono ?_
    rintro e x4 ⟨rfl, b4⟩
    have B4 := hide (chain B3.out b4)
    have N4 := hide (((NX.out.below b2).below b3).below b4)
    clear NX BX F2 B1 B2 B3 b1 b2 b3 b4
    go_wp2_with fail
    refine (HP.out _ B4.out).mono ?_
    rintro e x5 ⟨rfl, b5⟩
    have N5 := N4.out.below b5
    have r1 := N5.cell 1 rfl
    have r2 := N5.cell 2 rfl
    clear N4 N5
    go_wp2_with fail
    refine (HM.out _).mono ?_
    rintro e x6 ⟨rfl, e6⟩
    obtain rfl : x5 = x6 := e6.symm
    go_wp2_with fail
    go_ret2
    exact ⟨by rw [E.out]; rfl, chain B4.out b5⟩
theorem stStep_any (k : Int) (v : Value) (ax : List (ByteArray × ByteArray)) (w : World) (hv : AttrsV w v ax) (hz : AxOK ax) (hT : StTabs w) :
    Calls Tryz.prog 79 #[.int .i64 k, v] w fun e w' => e = .returned (optV (stepK k ax)) ∧ Below w.heap.size w w' := by
  by_cases hk : 8 ≤ k ∧ k ≤ 14
  · exact stStep_in k v ax w hv hz hT hk
  · exact stStep_out k v (by obtain ⟨p, c, e, _⟩ := hv; exact ⟨p, _, c, e⟩) ax w hT hk

end Go.Proofs.YtpkpkpiphgjbaaaGreatDoor

namespace Go.Proofs.YtpkpkpiphgjbaaaGreatDoor
open Go.RowKit
set_option maxRecDepth 100000

set_option maxHeartbeats 1000000 in
theorem left_any (n s : Int) (w : World) (_h1 : -9223372036854775808 ≤ n) (_h2 : n ≤ 9223372036854775807) (h3 : 1 ≤ s) (h4 : s ≤ 9223372036854775807) :
    Calls Tryz.prog 129 #[.int .i64 n, .int .i64 s] w fun e w' => e = .returned (.int .i64 (n % s)) ∧ w' = w := by
  have ⟨a1, a2⟩ := left_at (n := n) h3
  by_cases hc : 0 ≤ n.tmod s
  · have E := hide (a1 hc)
    clear a1 a2
    go_enter Tryz.func129, Tryz.ntmps129
    go_wp2_with fail
    go_ret
    exact ⟨ret_int E.out.symm, rfl⟩
  · have hc' : n.tmod s < 0 := by omega
    have E := hide (a2 hc').1
    have b := (a2 hc').2.1
    clear a1 a2 hc
    go_enter Tryz.func129, Tryz.ntmps129
    go_wp2_with fail
    go_ret
    exact ⟨ret_int E.out.symm, rfl⟩
set_option maxHeartbeats 1000000 in
theorem fits_any (n base step : Int) (w : World) (h1 : -9223372036854775808 ≤ n) (h2 : n ≤ 9223372036854775807) (g1 : -9223372036854775808 ≤ base) (g2 : base ≤ 9223372036854775807) (h4 : step ≤ 9223372036854775807) (h5 : -9223372036854775808 ≤ step) :
    Calls Tryz.prog 81 #[.int .i64 n, .int .i64 base, .int .i64 step] w fun e w' => e = .returned (.bool (fitV n base step)) ∧ w' = w := by
  by_cases hs : 1 ≤ step
  · have E := hide (fit_is (n := n) (base := base) hs)
    go_enter Tryz.func81, Tryz.ntmps81
    go_wp2_with fail
    refine (left_any n step _ h1 h2 hs h4).mono ?_
    rintro e u1 ⟨rfl, rfl⟩
    go_wp2_with fail
    refine (left_any base step _ g1 g2 hs h4).mono ?_
    rintro e u1 ⟨rfl, rfl⟩
    go_wp2_with fail
    go_ret
    exact ⟨ret_bool E.out.symm, rfl⟩
  · have E := hide (fit_no (n := n) (base := base) hs)
    have hs' : step ≤ 0 := by omega
    clear hs
    go_enter Tryz.func81, Tryz.ntmps81
    go_wp2_with fail
    go_ret
    exact ⟨ret_bool E.out.symm, rfl⟩
set_option maxHeartbeats 1000000 in
theorem down_any (n base step : Int) (w : World) (h1 : -9223372036854775808 ≤ n) (h2 : n ≤ 9223372036854775807) (g1 : -9223372036854775808 ≤ base) (g2 : base ≤ 9223372036854775807) (h4 : step ≤ 9223372036854775807) (h5 : -9223372036854775808 ≤ step) :
    Calls Tryz.prog 82 #[.int .i64 n, .int .i64 base, .int .i64 step] w fun e w' => e = .returned (.tuple #[.int .i64 (downV n base step), .bool (downOk n base step)]) ∧ w' = w := by
  by_cases hs : 1 ≤ step
  · have ⟨a1, a2⟩ := left_less (n := n) hs
    have ⟨b1, b2⟩ := left_less (n := base) hs
    have ⟨m1, m2⟩ := much_bounds (n := n) (base := base) hs
    have hL := left_any (n % step - base % step) step
    rw [much_left] at hL
    by_cases hm : muchV n base step ≤ n + 9223372036854775808
    · have E := hide (down_some hs hm)
      have E2 := hide (downV_yes E.out)
      generalize muchV n base step = m at *
      have HL := hide (fun w => hL w (by omega) (by omega) hs h4)
      clear hL
      go_enter Tryz.func82, Tryz.ntmps82
      go_wp2_with fail
      refine (left_any n step _ h1 h2 hs h4).mono ?_
      rintro e u1 ⟨rfl, rfl⟩
      go_wp2_with fail
      refine (left_any base step _ g1 g2 hs h4).mono ?_
      rintro e u1 ⟨rfl, rfl⟩
      go_wp2_with fail
      refine (HL.out _).mono ?_
      rintro e u1 ⟨rfl, rfl⟩
      go_wp2_with fail
      go_ret2
      exact ⟨ret_down E2.out.symm E.out.symm, rfl⟩
    · have E := hide (down_none (n := n) (base := base) (step := step) (by omega))
      have E2 := hide (downV_no E.out)
      generalize muchV n base step = m at *
      have HL := hide (fun w => hL w (by omega) (by omega) hs h4)
      have hm' : n + 9223372036854775808 < m := by omega
      clear hL hm
      go_enter Tryz.func82, Tryz.ntmps82
      go_wp2_with fail
      refine (left_any n step _ h1 h2 hs h4).mono ?_
      rintro e u1 ⟨rfl, rfl⟩
      go_wp2_with fail
      refine (left_any base step _ g1 g2 hs h4).mono ?_
      rintro e u1 ⟨rfl, rfl⟩
      go_wp2_with fail
      refine (HL.out _).mono ?_
      rintro e u1 ⟨rfl, rfl⟩
      go_wp2_with fail
      go_ret2
      exact ⟨ret_down E2.out.symm E.out.symm, rfl⟩
  · have E := hide (down_off (n := n) (base := base) hs)
    have E2 := hide (downV_no E.out)
    have hs' : step ≤ 0 := by omega
    clear hs
    go_enter Tryz.func82, Tryz.ntmps82
    go_wp2_with fail
    go_ret2
    exact ⟨ret_down E2.out.symm E.out.symm, rfl⟩

end Go.Proofs.YtpkpkpiphgjbaaaGreatDoor
