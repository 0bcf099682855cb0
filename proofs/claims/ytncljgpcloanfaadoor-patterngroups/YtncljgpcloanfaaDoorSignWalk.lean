/- The document's Sign answers by the model's own decoder: how many bytes the sign at a place has, and whether it is above FFFF; it changes nothing. Condition: the place lies in the text. -/
import Derived.Test.YtncljgpcloanfaaDoorRows
import Derived.Test.YtncljgpcloanfaaDoorUtf
namespace Go.Proofs.YtncljgpcloanfaaDoor
open Go.RowKit

theorem ret_sign {s : ByteArray} {i a : Nat} {b : Bool} (h : signAt s i = (a, b)) : Ending.returned (.tuple #[.int .i64 (a : Int), .bool b]) = .returned (.tuple #[.int .i64 (signAt s i).1, .bool (signAt s i).2]) := by rw [h]
theorem ret_signd {s : ByteArray} {i a : Nat} {b c : Bool} (h : signAt s i = (a, b)) (e : c = b) : Ending.returned (.tuple #[.int .i64 (a : Int), .bool c]) = .returned (.tuple #[.int .i64 (signAt s i).1, .bool (signAt s i).2]) := by rw [h, e]
theorem bad_1 {s : ByteArray} {i : Nat} (h : 194 ≤ bn s i ∧ bn s i < 224) (k : Nat) (hk : k < 1) (_ : GoesTo s i k) (n : ¬ Goes s (i + (k + 1))) : signAt s i = (0, false) := by
  obtain rfl : k = 0 := by omega
  exact (signAt_two h).2 n
theorem bad_2 {s : ByteArray} {i : Nat} (h : 224 ≤ bn s i ∧ bn s i < 240) (k : Nat) (hk : k < 2) (_ : GoesTo s i k) (n : ¬ Goes s (i + (k + 1))) : signAt s i = (0, false) := by
  rcases (show k = 0 ∨ k = 1 by omega) with rfl | rfl
  · exact (signAt_three h).2.2 (.inl n)
  · exact (signAt_three h).2.2 (.inr n)
theorem bad_3 {s : ByteArray} {i : Nat} (h : 240 ≤ bn s i ∧ bn s i < 245) (k : Nat) (hk : k < 3) (_ : GoesTo s i k) (n : ¬ Goes s (i + (k + 1))) : signAt s i = (0, false) := by
  rcases (show k = 0 ∨ k = 1 ∨ k = 2 by omega) with rfl | rfl | rfl
  · exact (signAt_four h).2.2 (.inl n)
  · exact (signAt_four h).2.2 (.inr (.inl n))
  · exact (signAt_four h).2.2 (.inr (.inr n))

set_option maxHeartbeats 2000000 in
set_option maxRecDepth 100000 in
theorem sign_two (s : ByteArray) (i : Nat) (w : World) (hs : s.size ≤ 9223372036854775000) (hi : i < s.size) (h : 194 ≤ bn s i ∧ bn s i < 224) :
    Calls Tryd.prog 22 #[.string s, .int .i64 i] w fun e w' => e = .returned (.tuple #[.int .i64 (signAt s i).1, .bool (signAt s i).2]) ∧ w' = w := by
  have hb := bn_at s i hi
  have HS := hide (signAt_two h)
  have bad_sign_two : ∀ k, k < 1 → GoesTo s i k → ¬ Goes s (i + (k + 1)) → signAt s i = (0, false) := bad_1 h
  generalize hx : bn s i = x at *
  have h1 : ¬ (x : Int) < 128 := by omega
  have h2 : (194 : Int) ≤ (x : Int) := by omega
  have h3 : (x : Int) < 224 := by omega
  go_enter Tryd.func22, Tryd.ntmps22
  go_wp2_with fail
  go_loop [9, 10] (fun c q => ∃ k : Nat, k ≤ 1 ∧ q = .int .i64 ((k : Int) + 1) ∧ c = .int .i64 (codeTo ((x : Int) - 192) s i k) ∧ GoesTo s i k) (fun _ q => 1 + 1 - (intOf q).toNat)
  case atStart => exact ⟨0, by omega, by go_num, rfl, goesTo_zero s i⟩
  case round =>
    obtain ⟨k, hk, rfl, rfl, hg⟩ := hrel
    have bd := codeTo_bd (c := (x : Int) - 192) (s := s) (i := i) (k := k) (by omega) (by omega) (by omega) hg
    by_cases hkn : k < 1
    · have hle : (k : Int) + 1 ≤ 1 := by omega
      by_cases hin : i + (k + 1) < s.size
      · have hz : (i : Int) + ((k : Int) + 1) < (s.size : Int) := by omega
        have hbj := bn_at s (i + (k + 1)) hin
        have hlt := bn_lt s (i + (k + 1))
        have HC : Hid (codeTo ((x : Int) - 192) s i (k + 1) = codeTo ((x : Int) - 192) s i k * 64 + (bn s (i + (k + 1)) : Int) - 128) := rfl
        have HG := hide (fun a b => goesTo_succ hg ⟨hin, a, b⟩)
        have HN : Hid (¬ (128 ≤ bn s (i + (k + 1)) ∧ bn s (i + (k + 1)) < 192) → ¬ Goes s (i + (k + 1))) := fun a b => a b.2
        generalize bn s (i + (k + 1)) = y at *
        generalize codeTo ((x : Int) - 192) s i k = z at *
        by_cases hy1 : (y : Int) < 128
        · have HE := hide (bad_sign_two k hkn hg (HN.out (by omega)))
          go_wp2_with fail
          go_ret2
          exact ⟨ret_sign HE.out, rfl⟩
        · by_cases hy2 : 192 ≤ (y : Int)
          · have HE := hide (bad_sign_two k hkn hg (HN.out (by omega)))
            go_wp2_with fail
            go_ret2
            exact ⟨ret_sign HE.out, rfl⟩
          · go_wp2_with fail
            go_round
            case rel => exact ⟨k + 1, by omega, by go_num, by rw [HC.out], HG.out (by omega) (by omega)⟩
            case measure => simp [intOf]; omega
      · have hz : ¬ (i : Int) + ((k : Int) + 1) < (s.size : Int) := by omega
        have HE := hide (bad_sign_two k hkn hg (fun g => hin g.1))
        go_wp2_with fail
        go_ret2
        exact ⟨ret_sign HE.out, rfl⟩
    · obtain rfl : k = 1 := by omega
      have g1 := hg 1 (by omega) (by omega)
      have HE := hide (HS.out.1 g1)
      have hv : codeTo ((x : Int) - 192) s i 1 = ((x : Int) - 192) * 64 + (bn s (i + 1) : Int) - 128 := rfl
      have e1 : ¬ codeTo ((x : Int) - 192) s i 1 < 128 := by have := g1.2; omega
      have e2 : codeTo ((x : Int) - 192) s i 1 ≤ 2047 := by have := g1.2; omega
      clear hv
      generalize codeTo ((x : Int) - 192) s i 1 = z at *
      go_wp2_with fail
      go_ret2
      exact ⟨ret_signd HE.out (by simp; omega), rfl⟩

set_option maxHeartbeats 2000000 in
set_option maxRecDepth 100000 in
theorem sign_three (s : ByteArray) (i : Nat) (w : World) (hs : s.size ≤ 9223372036854775000) (hi : i < s.size) (h : 224 ≤ bn s i ∧ bn s i < 240) :
    Calls Tryd.prog 22 #[.string s, .int .i64 i] w fun e w' => e = .returned (.tuple #[.int .i64 (signAt s i).1, .bool (signAt s i).2]) ∧ w' = w := by
  have hb := bn_at s i hi
  have HS := hide (signAt_three h)
  have bad_sign_three : ∀ k, k < 2 → GoesTo s i k → ¬ Goes s (i + (k + 1)) → signAt s i = (0, false) := bad_2 h
  generalize hx : bn s i = x at *
  have h1 : ¬ (x : Int) < 128 := by omega
  have h2 : (194 : Int) ≤ (x : Int) := by omega
  have h3 : ¬ (x : Int) < 224 := by omega
  have h4 : (224 : Int) ≤ (x : Int) := by omega
  have h5 : (x : Int) < 240 := by omega
  go_enter Tryd.func22, Tryd.ntmps22
  go_wp2_with fail
  go_loop [9, 10] (fun c q => ∃ k : Nat, k ≤ 2 ∧ q = .int .i64 ((k : Int) + 1) ∧ c = .int .i64 (codeTo ((x : Int) - 224) s i k) ∧ GoesTo s i k) (fun _ q => 2 + 1 - (intOf q).toNat)
  case atStart => exact ⟨0, by omega, by go_num, rfl, goesTo_zero s i⟩
  case round =>
    obtain ⟨k, hk, rfl, rfl, hg⟩ := hrel
    have bd := codeTo_bd (c := (x : Int) - 224) (s := s) (i := i) (k := k) (by omega) (by omega) (by omega) hg
    by_cases hkn : k < 2
    · have hle : (k : Int) + 1 ≤ 2 := by omega
      by_cases hin : i + (k + 1) < s.size
      · have hz : (i : Int) + ((k : Int) + 1) < (s.size : Int) := by omega
        have hbj := bn_at s (i + (k + 1)) hin
        have hlt := bn_lt s (i + (k + 1))
        have HC : Hid (codeTo ((x : Int) - 224) s i (k + 1) = codeTo ((x : Int) - 224) s i k * 64 + (bn s (i + (k + 1)) : Int) - 128) := rfl
        have HG := hide (fun a b => goesTo_succ hg ⟨hin, a, b⟩)
        have HN : Hid (¬ (128 ≤ bn s (i + (k + 1)) ∧ bn s (i + (k + 1)) < 192) → ¬ Goes s (i + (k + 1))) := fun a b => a b.2
        generalize bn s (i + (k + 1)) = y at *
        generalize codeTo ((x : Int) - 224) s i k = z at *
        by_cases hy1 : (y : Int) < 128
        · have HE := hide (bad_sign_three k hkn hg (HN.out (by omega)))
          go_wp2_with fail
          go_ret2
          exact ⟨ret_sign HE.out, rfl⟩
        · by_cases hy2 : 192 ≤ (y : Int)
          · have HE := hide (bad_sign_three k hkn hg (HN.out (by omega)))
            go_wp2_with fail
            go_ret2
            exact ⟨ret_sign HE.out, rfl⟩
          · go_wp2_with fail
            go_round
            case rel => exact ⟨k + 1, by omega, by go_num, by rw [HC.out], HG.out (by omega) (by omega)⟩
            case measure => simp [intOf]; omega
      · have hz : ¬ (i : Int) + ((k : Int) + 1) < (s.size : Int) := by omega
        have HE := hide (bad_sign_three k hkn hg (fun g => hin g.1))
        go_wp2_with fail
        go_ret2
        exact ⟨ret_sign HE.out, rfl⟩
    · obtain rfl : k = 2 := by omega
      have g1 := hg 1 (by omega) (by omega)
      have g2 := hg 2 (by omega) (by omega)
      have HS' := hide (fun a b => HS.out.1 g1 g2 a b)
      have HF' := hide (fun a => HS.out.2.1 g1 g2 a)
      rw [code3_to, hx] at HS' HF'
      have e2 : codeTo ((x : Int) - 224) s i 2 ≤ 65535 := by
        have hv : codeTo ((x : Int) - 224) s i 2 = ((((x : Int) - 224) * 64 + (bn s (i + (0 + 1)) : Int) - 128) * 64 + (bn s (i + (1 + 1)) : Int) - 128) := rfl
        have q1 := g1.2; have q2 := g2.2
        have r1 : i + (0 + 1) = i + 1 := rfl
        have r2 : i + (1 + 1) = i + 2 := rfl
        rw [r1, r2] at hv; omega
      generalize codeTo ((x : Int) - 224) s i 2 = z at *
      by_cases d1 : z < 2048
      · have HE := hide (HF'.out (by omega))
        go_wp2_with fail
        go_ret2
        exact ⟨ret_sign HE.out, rfl⟩
      · by_cases d2 : 55296 ≤ z
        · by_cases d3 : z < 57344
          · have HE := hide (HF'.out (by omega))
            go_wp2_with fail
            go_ret2
            exact ⟨ret_sign HE.out, rfl⟩
          · have HE := hide (HS'.out (by omega) (by omega))
            go_wp2_with fail
            go_ret2
            exact ⟨ret_signd HE.out (by simp; omega), rfl⟩
        · have HE := hide (HS'.out (by omega) (by omega))
          go_wp2_with fail
          go_ret2
          exact ⟨ret_signd HE.out (by simp; omega), rfl⟩

set_option maxHeartbeats 2000000 in
set_option maxRecDepth 100000 in
theorem sign_four (s : ByteArray) (i : Nat) (w : World) (hs : s.size ≤ 9223372036854775000) (hi : i < s.size) (h : 240 ≤ bn s i ∧ bn s i < 245) :
    Calls Tryd.prog 22 #[.string s, .int .i64 i] w fun e w' => e = .returned (.tuple #[.int .i64 (signAt s i).1, .bool (signAt s i).2]) ∧ w' = w := by
  have hb := bn_at s i hi
  have HS := hide (signAt_four h)
  have bad_sign_four : ∀ k, k < 3 → GoesTo s i k → ¬ Goes s (i + (k + 1)) → signAt s i = (0, false) := bad_3 h
  generalize hx : bn s i = x at *
  have h1 : ¬ (x : Int) < 128 := by omega
  have h2 : (194 : Int) ≤ (x : Int) := by omega
  have h3 : ¬ (x : Int) < 224 := by omega
  have h4 : (224 : Int) ≤ (x : Int) := by omega
  have h5 : ¬ (x : Int) < 240 := by omega
  have h6 : (240 : Int) ≤ (x : Int) := by omega
  have h7 : (x : Int) < 245 := by omega
  go_enter Tryd.func22, Tryd.ntmps22
  go_wp2_with fail
  go_loop [9, 10] (fun c q => ∃ k : Nat, k ≤ 3 ∧ q = .int .i64 ((k : Int) + 1) ∧ c = .int .i64 (codeTo ((x : Int) - 240) s i k) ∧ GoesTo s i k) (fun _ q => 3 + 1 - (intOf q).toNat)
  case atStart => exact ⟨0, by omega, by go_num, rfl, goesTo_zero s i⟩
  case round =>
    obtain ⟨k, hk, rfl, rfl, hg⟩ := hrel
    have bd := codeTo_bd (c := (x : Int) - 240) (s := s) (i := i) (k := k) (by omega) (by omega) (by omega) hg
    by_cases hkn : k < 3
    · have hle : (k : Int) + 1 ≤ 3 := by omega
      by_cases hin : i + (k + 1) < s.size
      · have hz : (i : Int) + ((k : Int) + 1) < (s.size : Int) := by omega
        have hbj := bn_at s (i + (k + 1)) hin
        have hlt := bn_lt s (i + (k + 1))
        have HC : Hid (codeTo ((x : Int) - 240) s i (k + 1) = codeTo ((x : Int) - 240) s i k * 64 + (bn s (i + (k + 1)) : Int) - 128) := rfl
        have HG := hide (fun a b => goesTo_succ hg ⟨hin, a, b⟩)
        have HN : Hid (¬ (128 ≤ bn s (i + (k + 1)) ∧ bn s (i + (k + 1)) < 192) → ¬ Goes s (i + (k + 1))) := fun a b => a b.2
        generalize bn s (i + (k + 1)) = y at *
        generalize codeTo ((x : Int) - 240) s i k = z at *
        by_cases hy1 : (y : Int) < 128
        · have HE := hide (bad_sign_four k hkn hg (HN.out (by omega)))
          go_wp2_with fail
          go_ret2
          exact ⟨ret_sign HE.out, rfl⟩
        · by_cases hy2 : 192 ≤ (y : Int)
          · have HE := hide (bad_sign_four k hkn hg (HN.out (by omega)))
            go_wp2_with fail
            go_ret2
            exact ⟨ret_sign HE.out, rfl⟩
          · go_wp2_with fail
            go_round
            case rel => exact ⟨k + 1, by omega, by go_num, by rw [HC.out], HG.out (by omega) (by omega)⟩
            case measure => simp [intOf]; omega
      · have hz : ¬ (i : Int) + ((k : Int) + 1) < (s.size : Int) := by omega
        have HE := hide (bad_sign_four k hkn hg (fun g => hin g.1))
        go_wp2_with fail
        go_ret2
        exact ⟨ret_sign HE.out, rfl⟩
    · obtain rfl : k = 3 := by omega
      have g1 := hg 1 (by omega) (by omega)
      have g2 := hg 2 (by omega) (by omega)
      have g3 := hg 3 (by omega) (by omega)
      have HS' := hide (fun a b => HS.out.1 g1 g2 g3 a b)
      have HF' := hide (fun a => HS.out.2.1 g1 g2 g3 a)
      rw [code4_to, hx] at HS' HF'
      generalize codeTo ((x : Int) - 240) s i 3 = z at *
      by_cases d1 : z < 65536
      · have HE := hide (HF'.out (by omega))
        go_wp2_with fail
        go_ret2
        exact ⟨ret_sign HE.out, rfl⟩
      · by_cases d2 : 1114111 < z
        · have HE := hide (HF'.out (by omega))
          go_wp2_with fail
          go_ret2
          exact ⟨ret_sign HE.out, rfl⟩
        · have HE := hide (HS'.out (by omega) (by omega))
          go_wp2_with fail
          go_ret2
          exact ⟨ret_signd HE.out (by simp; omega), rfl⟩

set_option maxHeartbeats 1000000 in
set_option maxRecDepth 100000 in
theorem sign_any (s : ByteArray) (i : Nat) (w : World) (hs : s.size ≤ 9223372036854775000) (hi : i < s.size) :
    Calls Tryd.prog 22 #[.string s, .int .i64 i] w fun e w' => e = .returned (.tuple #[.int .i64 (signAt s i).1, .bool (signAt s i).2]) ∧ w' = w := by
  have hlt := bn_lt s i
  by_cases a2 : 194 ≤ bn s i ∧ bn s i < 224
  · exact sign_two s i w hs hi a2
  by_cases a3 : 224 ≤ bn s i ∧ bn s i < 240
  · exact sign_three s i w hs hi a3
  by_cases a4 : 240 ≤ bn s i ∧ bn s i < 245
  · exact sign_four s i w hs hi a4
  have hb := bn_at s i hi
  by_cases a1 : bn s i < 128
  · have HE := hide (signAt_one a1)
    generalize bn s i = x at *
    have h1 : (x : Int) < 128 := by omega
    go_enter Tryd.func22, Tryd.ntmps22
    go_wp2_with fail
    go_ret2
    exact ⟨ret_sign HE.out, rfl⟩
  · have HE := hide (signAt_none (s := s) (i := i) (by omega))
    generalize bn s i = x at *
    have h1 : ¬ (x : Int) < 128 := by omega
    by_cases a5 : (x : Int) < 194
    · go_enter Tryd.func22, Tryd.ntmps22
      go_wp2_with fail
      go_ret2
      exact ⟨ret_sign HE.out, rfl⟩
    · have b1 : (245 : Int) ≤ (x : Int) := by omega
      go_enter Tryd.func22, Tryd.ntmps22
      go_wp2_with fail
      go_ret2
      exact ⟨ret_sign HE.out, rfl⟩

end Go.Proofs.YtncljgpcloanfaaDoor
