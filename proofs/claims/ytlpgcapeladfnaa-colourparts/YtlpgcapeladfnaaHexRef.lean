/- The document's Digit: the number of a hexadecimal digit, or -1. No condition. -/
import Derived.Test.YtlpgcapeladfnaaRows
import Derived.Test.YtlpgcapeladfnaaLow
import Derived.Test.YtlpgcapeladfnaaEsc
namespace Go.Proofs.Ytlpgcapeladfnaa
open Go.RowKit
set_option maxRecDepth 100000

def num22 (k : Nat) : Int := if k < 10 then (48 : Int) + k else if k < 16 then (55 : Int) + k else (81 : Int) + k
theorem at22 (k : Nat) (hk : k < (⟨#[48, 49, 50, 51, 52, 53, 54, 55, 56, 57, 65, 66, 67, 68, 69, 70, 97, 98, 99, 100, 101, 102]⟩ : ByteArray).size) : (((⟨#[48, 49, 50, 51, 52, 53, 54, 55, 56, 57, 65, 66, 67, 68, 69, 70, 97, 98, 99, 100, 101, 102]⟩ : ByteArray)[k].toNat : Nat) : Int) = num22 k := by
  have : ∀ n : Fin 22, (((⟨#[48, 49, 50, 51, 52, 53, 54, 55, 56, 57, 65, 66, 67, 68, 69, 70, 97, 98, 99, 100, 101, 102]⟩ : ByteArray)[n.val]'(by have := n.isLt; exact this)).toNat : Int) = num22 n.val := by decide
  exact this ⟨k, hk⟩
def NotTo22 (x : Int) (k : Nat) : Prop := ∀ j, j < k → num22 j ≠ x
theorem notTo22_succ {x : Int} {k : Nat} (h : NotTo22 x k) (he : num22 k ≠ x) : NotTo22 x (k + 1) := by
  intro j hj
  rcases Nat.lt_or_ge j k with h' | h'
  · exact h j h'
  · obtain rfl : j = k := by omega
    exact he
theorem hexV_small {c : UInt8} {k : Nat} (hk : k ≤ 15) (he : num22 k = (c.toNat : Int)) : (k : Int) = hexV c := by
  unfold num22 at he
  unfold hexV
  by_cases h : k < 10
  · rw [if_pos h] at he; rw [if_pos (by omega)]; omega
  · rw [if_neg h, if_pos (by omega)] at he; rw [if_neg (by omega), if_pos (by omega)]; omega
theorem hexV_great {c : UInt8} {k : Nat} (hk : 15 < k) (h22 : k < 22) (he : num22 k = (c.toNat : Int)) : (k : Int) - 6 = hexV c := by
  unfold num22 at he
  rw [if_neg (by omega), if_neg (by omega)] at he
  unfold hexV
  rw [if_neg (by omega), if_neg (by omega), if_pos (by omega)]; omega
theorem hexV_not {c : UInt8} (h : NotTo22 (c.toNat : Int) 22) : -1 = hexV c := by
  unfold hexV
  by_cases h1 : 48 ≤ c.toNat ∧ c.toNat ≤ 57
  · exfalso
    refine h (c.toNat - 48) (by omega) ?_
    unfold num22; rw [if_pos (by omega)]; omega
  · by_cases h2 : 65 ≤ c.toNat ∧ c.toNat ≤ 70
    · exfalso
      refine h (c.toNat - 55) (by omega) ?_
      unfold num22; rw [if_neg (by omega), if_pos (by omega)]; omega
    · by_cases h3 : 97 ≤ c.toNat ∧ c.toNat ≤ 102
      · exfalso
        refine h (c.toNat - 81) (by omega) ?_
        unfold num22; rw [if_neg (by omega), if_neg (by omega)]; omega
      · rw [if_neg h1, if_neg h2, if_neg h3]

set_option maxHeartbeats 1000000 in
theorem refDigit_any (c : UInt8) (w : World) :
    Calls Try.prog 18 #[.int .u8 (c.toNat : Int)] w fun e w' => e = .returned (.int .i64 (hexV c)) ∧ w' = w := by
  go_enter Try.func18, Try.ntmps18
  go_wp2_with fail
  go_loop [4] (fun i => ∃ k : Nat, k ≤ 22 ∧ i = .int .i64 k ∧ NotTo22 (c.toNat : Int) k) (fun i => 22 - (intOf i).toNat)
  case atStart => exact ⟨0, Nat.zero_le _, rfl, fun j hj => absurd hj (Nat.not_lt_zero _)⟩
  case round =>
    obtain ⟨k, hk, rfl, hn⟩ := hrel
    have HN := hide hn
    clear hn
    by_cases hlt : k < 22
    · by_cases he : num22 k = (c.toNat : Int)
      · have q : ((((⟨#[48, 49, 50, 51, 52, 53, 54, 55, 56, 57, 65, 66, 67, 68, 69, 70, 97, 98, 99, 100, 101, 102]⟩ : ByteArray)[k]'hlt).toNat : Int) == (c.toNat : Int)) = true := by rw [at22 k hlt]; simpa using he
        by_cases h15 : k ≤ 15
        · have HV := hide (hexV_small h15 he)
          clear he
          go_wp2
          go_ret
          exact ⟨ret_int HV.out, rfl⟩
        · have HV := hide (hexV_great (by omega) hlt he)
          have h16 : (15 : Int) < (k : Int) := by omega
          clear he
          go_wp2
          go_ret
          exact ⟨ret_int HV.out, rfl⟩
      · have q : ((((⟨#[48, 49, 50, 51, 52, 53, 54, 55, 56, 57, 65, 66, 67, 68, 69, 70, 97, 98, 99, 100, 101, 102]⟩ : ByteArray)[k]'hlt).toNat : Int) == (c.toNat : Int)) = false := by rw [at22 k hlt]; simpa using he
        have HV := hide (notTo22_succ HN.out he)
        clear he
        go_wp2
        go_round
        case rel => exact ⟨k + 1, by omega, by go_num, HV.out⟩
        case measure => simp [intOf]; omega
    · have e : k = 22 := by omega
      subst e
      have HV := hide (hexV_not HN.out)
      go_wp2
      go_ret
      exact ⟨ret_int HV.out, rfl⟩

end Go.Proofs.Ytlpgcapeladfnaa
