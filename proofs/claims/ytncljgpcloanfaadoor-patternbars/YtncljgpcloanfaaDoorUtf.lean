/- Signs of UTF-8 in a text, by the model's own decoder: how many bytes the sign at a place has (0: none begins there), and whether it is above FFFF; validity and units of 16 bits by it: plain facts of no program. No condition. -/
import Derived.Test.YtncljgpcloanfaaDoorLow
import Derived.Lib.DecodeN
import Derived.Lib.ValidLaws
namespace Go.Proofs.YtncljgpcloanfaaDoor
open Go.RowKit Go.Lib

def sgn (n b0 b1 b2 b3 : Nat) : Nat × Bool :=
  if (decodeN n b0 b1 b2 b3).1 = 65533 ∧ (decodeN n b0 b1 b2 b3).2 = 1 then (0, false) else ((decodeN n b0 b1 b2 b3).2, decide (65535 < (decodeN n b0 b1 b2 b3).1))

theorem sgn_bad {n b0 b1 b2 b3 : Nat} (h : decodeN n b0 b1 b2 b3 = (65533, 1)) : sgn n b0 b1 b2 b3 = (0, false) := by
  unfold sgn; rw [h]; simp
theorem sgn_good {n b0 b1 b2 b3 c k : Nat} (h : decodeN n b0 b1 b2 b3 = (c, k)) (hk : 2 ≤ k) : sgn n b0 b1 b2 b3 = (k, decide (65535 < c)) := by
  unfold sgn; rw [h, if_neg (by simp; omega)]
theorem sgn_ascii {n b0 b1 b2 b3 : Nat} (h : b0 < 128) : sgn n b0 b1 b2 b3 = (1, false) := by
  have e : decodeN n b0 b1 b2 b3 = (b0, 1) := by unfold decodeN; rw [if_pos h]
  unfold sgn; rw [e, if_neg (by simp; omega)]; simp; omega
theorem sgn_none {n b0 b1 b2 b3 : Nat} (h : (128 ≤ b0 ∧ b0 < 194) ∨ (245 ≤ b0 ∧ b0 < 256)) : sgn n b0 b1 b2 b3 = (0, false) := sgn_bad (decodeN_bad n b0 b1 b2 b3 h)

set_option maxHeartbeats 1000000 in
theorem dec_two {n b0 b1 b2 b3 : Nat} (h1 : b1 < 256) (h : 194 ≤ b0 ∧ b0 < 224) : decodeN n b0 b1 b2 b3 = if 1 < n ∧ 128 ≤ b1 ∧ b1 < 192 then (b0 % 32 * 64 + b1 % 64, 2) else (65533, 1) := by
  unfold decodeN
  rw [if_neg (by omega)]
  by_cases c : 1 < n ∧ 128 ≤ b1 ∧ b1 < 192
  · rw [if_pos (by omega), if_pos (by omega), if_pos c]
  · rw [if_neg (by omega), if_neg (by omega), if_neg (by omega), if_neg c]
set_option maxHeartbeats 1000000 in
theorem dec_three {n b0 b1 b2 b3 : Nat} (h1 : b1 < 256) (h2 : b2 < 256) (h : 224 ≤ b0 ∧ b0 < 240) : decodeN n b0 b1 b2 b3 =
    if (1 < n ∧ 128 ≤ b1 ∧ b1 < 192) ∧ (2 < n ∧ 128 ≤ b2 ∧ b2 < 192) ∧ ¬ (b0 % 16 * 4096 + b1 % 64 * 64 + b2 % 64 < 2048) ∧ ¬ (55296 ≤ b0 % 16 * 4096 + b1 % 64 * 64 + b2 % 64 ∧ b0 % 16 * 4096 + b1 % 64 * 64 + b2 % 64 < 57344) then (b0 % 16 * 4096 + b1 % 64 * 64 + b2 % 64, 3) else (65533, 1) := by
  unfold decodeN
  rw [if_neg (by omega), if_neg (by omega)]
  by_cases c : (1 < n ∧ 128 ≤ b1 ∧ b1 < 192) ∧ (2 < n ∧ 128 ≤ b2 ∧ b2 < 192)
  · rw [if_pos (by omega)]
    by_cases d : ¬ (b0 % 16 * 4096 + b1 % 64 * 64 + b2 % 64 < 2048) ∧ ¬ (55296 ≤ b0 % 16 * 4096 + b1 % 64 * 64 + b2 % 64 ∧ b0 % 16 * 4096 + b1 % 64 * 64 + b2 % 64 < 57344)
    · rw [if_pos (by omega), if_pos ⟨c.1, c.2, d⟩]
    · rw [if_neg (by omega), if_neg (fun x => d x.2.2)]
  · rw [if_neg (by omega), if_neg (by omega), if_neg (fun x => c ⟨x.1, x.2.1⟩)]
set_option maxHeartbeats 1000000 in
theorem dec_four {n b0 b1 b2 b3 : Nat} (h1 : b1 < 256) (h2 : b2 < 256) (h3 : b3 < 256) (h : 240 ≤ b0 ∧ b0 < 245) : decodeN n b0 b1 b2 b3 =
    if (1 < n ∧ 128 ≤ b1 ∧ b1 < 192) ∧ (2 < n ∧ 128 ≤ b2 ∧ b2 < 192) ∧ (3 < n ∧ 128 ≤ b3 ∧ b3 < 192) ∧ ¬ (b0 % 8 * 262144 + b1 % 64 * 4096 + b2 % 64 * 64 + b3 % 64 < 65536) ∧ ¬ (1114111 < b0 % 8 * 262144 + b1 % 64 * 4096 + b2 % 64 * 64 + b3 % 64)
      then (b0 % 8 * 262144 + b1 % 64 * 4096 + b2 % 64 * 64 + b3 % 64, 4) else (65533, 1) := by
  unfold decodeN
  rw [if_neg (by omega), if_neg (by omega), if_neg (by omega)]
  by_cases c : (1 < n ∧ 128 ≤ b1 ∧ b1 < 192) ∧ (2 < n ∧ 128 ≤ b2 ∧ b2 < 192) ∧ (3 < n ∧ 128 ≤ b3 ∧ b3 < 192)
  · rw [if_pos (by omega)]
    by_cases d : ¬ (b0 % 8 * 262144 + b1 % 64 * 4096 + b2 % 64 * 64 + b3 % 64 < 65536) ∧ ¬ (1114111 < b0 % 8 * 262144 + b1 % 64 * 4096 + b2 % 64 * 64 + b3 % 64)
    · rw [if_pos (by omega), if_pos ⟨c.1, c.2.1, c.2.2, d⟩]
    · rw [if_neg (by omega), if_neg (fun x => d x.2.2.2)]
  · rw [if_neg (by omega), if_neg (fun x => c ⟨x.1, x.2.1, x.2.2.1⟩)]

/-- The byte at a place, as a number (0 beyond the end). -/
def bn (s : ByteArray) (j : Nat) : Nat := (byteAt s j).toNat
theorem bn_lt (s : ByteArray) (j : Nat) : bn s j < 256 := (byteAt s j).toNat_lt
theorem bn_at (s : ByteArray) (j : Nat) (h : j < s.size) : (s[j].toNat : Int) = (bn s j : Int) := by unfold bn; rw [byteAt_eq s j h]
theorem bn_end (s : ByteArray) (j : Nat) (h : s.size ≤ j) : bn s j = 0 := by
  unfold bn byteAt; rw [List.getD, List.getElem?_eq_none (by simpa using h)]; rfl
theorem get!_bn (s : ByteArray) (j : Nat) : (s.get! j).toNat = bn s j := by
  unfold bn byteAt
  rw [← Lib.getD_get!']

/-- The sign at a place. -/
def signAt (s : ByteArray) (i : Nat) : Nat × Bool := sgn (s.size - i) (bn s i) (bn s (i + 1)) (bn s (i + 2)) (bn s (i + 3))
theorem decode_bn (s : ByteArray) (i : Nat) : Utf8.decode s i = decodeN (s.size - i) (bn s i) (bn s (i + 1)) (bn s (i + 2)) (bn s (i + 3)) := by
  rw [decode_at]; simp only [get!_bn]

/-- Is the byte at a place one that goes on with a sign? -/
def Goes (s : ByteArray) (j : Nat) : Prop := j < s.size ∧ 128 ≤ bn s j ∧ bn s j < 192

theorem signAt_one {s : ByteArray} {i : Nat} (h : bn s i < 128) : signAt s i = (1, false) := sgn_ascii h
theorem signAt_none {s : ByteArray} {i : Nat} (h : (128 ≤ bn s i ∧ bn s i < 194) ∨ 245 ≤ bn s i) : signAt s i = (0, false) :=
  sgn_none (by have := bn_lt s i; omega)
theorem goes_iff (s : ByteArray) (i k : Nat) : Goes s (i + k) ↔ k < s.size - i ∧ 128 ≤ bn s (i + k) ∧ bn s (i + k) < 192 := by
  unfold Goes; constructor <;> (intro h; omega)
theorem signAt_two {s : ByteArray} {i : Nat} (h : 194 ≤ bn s i ∧ bn s i < 224) : (Goes s (i + 1) → signAt s i = (2, false)) ∧ (¬ Goes s (i + 1) → signAt s i = (0, false)) := by
  have d := dec_two (n := s.size - i) (b2 := bn s (i + 2)) (b3 := bn s (i + 3)) (bn_lt s (i + 1)) h
  have G1 := goes_iff s i 1
  constructor
  · intro g; rw [if_pos (G1.1 g)] at d
    unfold signAt; rw [sgn_good d (by omega)]; congr 1; have := g.2; simp; omega
  · intro g; rw [if_neg (fun x => g (G1.2 x))] at d; exact sgn_bad d
def code3 (s : ByteArray) (i : Nat) : Int := (((bn s i : Int) - 224) * 64 + (bn s (i + 1) : Int) - 128) * 64 + (bn s (i + 2) : Int) - 128
def code4 (s : ByteArray) (i : Nat) : Int := ((((bn s i : Int) - 240) * 64 + (bn s (i + 1) : Int) - 128) * 64 + (bn s (i + 2) : Int) - 128) * 64 + (bn s (i + 3) : Int) - 128
theorem signAt_three {s : ByteArray} {i : Nat} (h : 224 ≤ bn s i ∧ bn s i < 240) :
    (Goes s (i + 1) → Goes s (i + 2) → ¬ code3 s i < 2048 → ¬ (55296 ≤ code3 s i ∧ code3 s i < 57344) → signAt s i = (3, false)) ∧
    (Goes s (i + 1) → Goes s (i + 2) → (code3 s i < 2048 ∨ (55296 ≤ code3 s i ∧ code3 s i < 57344)) → signAt s i = (0, false)) ∧
    (¬ Goes s (i + 1) ∨ ¬ Goes s (i + 2) → signAt s i = (0, false)) := by
  have d := dec_three (n := s.size - i) (b3 := bn s (i + 3)) (bn_lt s (i + 1)) (bn_lt s (i + 2)) h
  have G1 := goes_iff s i 1
  have G2 := goes_iff s i 2
  have hc : Goes s (i + 1) → Goes s (i + 2) → code3 s i = ((bn s i % 16 * 4096 + bn s (i + 1) % 64 * 64 + bn s (i + 2) % 64 : Nat) : Int) := fun g1 g2 => by
    have := g1.2; have := g2.2; unfold code3; omega
  refine ⟨fun g1 g2 a b => ?_, fun g1 g2 a => ?_, fun g => ?_⟩
  · rw [hc g1 g2] at a b
    rw [if_pos ⟨G1.1 g1, G2.1 g2, by omega, by omega⟩] at d
    unfold signAt; rw [sgn_good d (by omega)]; congr 1; have := g1.2; have := g2.2; simp; omega
  · rw [hc g1 g2] at a
    rw [if_neg (by intro x; omega)] at d; exact sgn_bad d
  · rw [if_neg (by intro x; rcases g with g | g; exact g (G1.2 x.1); exact g (G2.2 x.2.1))] at d; exact sgn_bad d
theorem signAt_four {s : ByteArray} {i : Nat} (h : 240 ≤ bn s i ∧ bn s i < 245) :
    (Goes s (i + 1) → Goes s (i + 2) → Goes s (i + 3) → ¬ code4 s i < 65536 → ¬ 1114111 < code4 s i → signAt s i = (4, true)) ∧
    (Goes s (i + 1) → Goes s (i + 2) → Goes s (i + 3) → (code4 s i < 65536 ∨ 1114111 < code4 s i) → signAt s i = (0, false)) ∧
    (¬ Goes s (i + 1) ∨ ¬ Goes s (i + 2) ∨ ¬ Goes s (i + 3) → signAt s i = (0, false)) := by
  have d := dec_four (n := s.size - i) (bn_lt s (i + 1)) (bn_lt s (i + 2)) (bn_lt s (i + 3)) h
  have G1 := goes_iff s i 1
  have G2 := goes_iff s i 2
  have G3 := goes_iff s i 3
  have hc : Goes s (i + 1) → Goes s (i + 2) → Goes s (i + 3) → code4 s i = ((bn s i % 8 * 262144 + bn s (i + 1) % 64 * 4096 + bn s (i + 2) % 64 * 64 + bn s (i + 3) % 64 : Nat) : Int) := fun g1 g2 g3 => by
    have := g1.2; have := g2.2; have := g3.2; unfold code4; omega
  refine ⟨fun g1 g2 g3 a b => ?_, fun g1 g2 g3 a => ?_, fun g => ?_⟩
  · rw [hc g1 g2 g3] at a b
    rw [if_pos ⟨G1.1 g1, G2.1 g2, G3.1 g3, by omega, by omega⟩] at d
    unfold signAt; rw [sgn_good d (by omega)]; congr 1; simp; omega
  · rw [hc g1 g2 g3] at a
    rw [if_neg (by intro x; omega)] at d; exact sgn_bad d
  · rw [if_neg (by intro x; rcases g with g | g | g; exact g (G1.2 x.1); exact g (G2.2 x.2.1); exact g (G3.2 x.2.2.1))] at d; exact sgn_bad d

/-- The number that the first k bytes behind the lead add to. -/
def codeTo (c : Int) (s : ByteArray) (i : Nat) : Nat → Int
  | 0 => c
  | k + 1 => codeTo c s i k * 64 + (bn s (i + (k + 1)) : Int) - 128
/-- The k bytes behind the lead go on with it. -/
def GoesTo (s : ByteArray) (i k : Nat) : Prop := ∀ j, 1 ≤ j → j ≤ k → Goes s (i + j)
theorem goesTo_zero (s : ByteArray) (i : Nat) : GoesTo s i 0 := fun j h1 h2 => absurd h1 (by omega)
theorem goesTo_succ {s : ByteArray} {i k : Nat} (h : GoesTo s i k) (g : Goes s (i + (k + 1))) : GoesTo s i (k + 1) := fun j h1 h2 => by
  rcases Nat.lt_or_ge k j with h' | h'
  · obtain rfl : j = k + 1 := by omega
    exact g
  · exact h j h1 h'
theorem codeTo_bd {c : Int} {s : ByteArray} {i k : Nat} (h0 : 0 ≤ c) (h1 : c ≤ 31) (hk : k ≤ 3) (g : GoesTo s i k) : 0 ≤ codeTo c s i k ∧ codeTo c s i k ≤ 8388607 := by
  have d : ∀ j, 1 ≤ j → j ≤ k → (128 : Int) ≤ (bn s (i + j) : Int) ∧ (bn s (i + j) : Int) < 192 := fun j a b => by have := (g j a b).2; omega
  rcases (show k = 0 ∨ k = 1 ∨ k = 2 ∨ k = 3 by omega) with rfl | rfl | rfl | rfl
  · simp only [codeTo]; omega
  · have := d (0 + 1) (by omega) (by omega); simp only [codeTo]; omega
  · have := d (0 + 1) (by omega) (by omega); have := d (1 + 1) (by omega) (by omega); simp only [codeTo]; omega
  · have := d (0 + 1) (by omega) (by omega); have := d (1 + 1) (by omega) (by omega); have := d (2 + 1) (by omega) (by omega); simp only [codeTo]; omega
theorem code3_to (s : ByteArray) (i : Nat) : code3 s i = codeTo ((bn s i : Int) - 224) s i 2 := rfl
theorem code4_to (s : ByteArray) (i : Nat) : code4 s i = codeTo ((bn s i : Int) - 240) s i 3 := rfl

end Go.Proofs.YtncljgpcloanfaaDoor
