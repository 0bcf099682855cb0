/- The document's Show answers by the function of 'Num'; it changes nothing that was there. Condition: numbers of 64 bits. -/
import Derived.Test.YthakeibmbcgjfaaDoorRefShowWalks
namespace Go.Proofs.YthakeibmbcgjfaaDoor
open Go.RowKit

/-- Places behind the point: what is told already, and what is left. -/
structure ShowAt (full : List UInt8) (r : Nat) (acc : List UInt8) (p m : Nat) : Prop where
  le : p ≤ 6
  lt : m < 10 ^ p
  rest : r = m * 10 ^ (6 - p)
  is : full = acc ++ fracD p m
theorem showAt_start (pre : List UInt8) {m : Nat} (h : m < 1000000) : ShowAt (pre ++ fracD 6 m) m pre 6 m :=
  ⟨Nat.le_refl _, h, by simp, rfl⟩
theorem showAt_end {full acc : List UInt8} {p m : Nat} (h : ShowAt full 0 acc p m) : full = acc := by
  have hp : 0 < 10 ^ (6 - p) := Nat.pow_pos (by decide)
  have : m = 0 := by
    have := h.rest
    rcases Nat.eq_zero_or_pos m with e | e
    · exact e
    · have := Nat.mul_pos e hp; omega
  rw [h.is, this, fracD_zero, List.append_nil]
theorem showAt_less {full acc : List UInt8} {r p m : Nat} (h : ShowAt full r acc p m) : r < 1000000 := by
  have hp : 0 < 10 ^ (6 - p) := Nat.pow_pos (by decide)
  rw [h.rest]
  have h1 : m * 10 ^ (6 - p) < 10 ^ p * 10 ^ (6 - p) := (Nat.mul_lt_mul_right hp).2 h.lt
  rw [← Nat.pow_add, Nat.add_sub_cancel' h.le] at h1
  exact h1
theorem showAt_next {full acc : List UInt8} {r p m : Nat} (h : ShowAt full r acc p m) (h0 : 0 < r) : acc.length < full.length ∧ ∃ m', ShowAt full (r % 100000 * 10) (acc ++ [dgB (r / 100000)]) (p - 1) m' := by
  have hm : m ≠ 0 := by
    intro e
    have := h.rest
    rw [e] at this; omega
  obtain ⟨q, rfl⟩ : ∃ q, p = q + 1 := ⟨p - 1, by
    have := h.lt
    rcases Nat.eq_zero_or_pos p with e | e
    · rw [e] at this; simp at this; omega
    · omega⟩
  have hq : q < 6 := by have := h.le; omega
  have e1 : 6 - (q + 1) = 5 - q := by omega
  have er := h.rest
  rw [e1] at er
  have en := frac_next hq hm
  rw [← er] at en
  have ei := h.is
  rw [en] at ei
  refine ⟨by rw [ei, List.length_append, List.length_cons]; omega, m % 10 ^ q, ⟨by show q ≤ 6; omega, Nat.mod_lt _ (Nat.pow_pos (by decide)), ?_, ?_⟩⟩
  · rw [er]; exact frac_rest hq
  · show full = _
    rw [ei, List.append_assoc]; rfl

theorem decD_one {n : Nat} (h : n < 10) : decD n = [dgB n] := decD_small h

/-- What is told of a number's amount, behind what stands ahead. -/
def tellL (pre : List UInt8) (u : Nat) : List UInt8 := (pre ++ decD (u / 1000000)) ++ (if u % 1000000 = 0 then [] else 46 :: fracD 6 (u % 1000000))
theorem tell_no {pre : List UInt8} {u : Nat} (h : u % 1000000 = 0) : tellL pre u = pre ++ decD (u / 1000000) := by
  unfold tellL; rw [if_pos h, List.append_nil]
theorem tell_yes {pre : List UInt8} {u : Nat} (h : u % 1000000 ≠ 0) : tellL pre u = (pre ++ decD (u / 1000000) ++ [46]) ++ fracD 6 (u % 1000000) := by
  unfold tellL; rw [if_neg h]; simp
theorem tell_is (n : Int) : showL n = tellL (if n < 0 then [45] else []) n.natAbs := rfl
theorem tell_len {pre : List UInt8} {u : Nat} (hp : pre.length ≤ 1) (hu : u < 18446744073709551616) : (tellL pre u).length ≤ 30 := by
  have h1 := decD_len (n := u / 1000000) (k := 20) (by omega) (by decide)
  have h2 := fracD_len 6 (u % 1000000)
  unfold tellL
  split
  · simp; omega
  · simp; omega

end Go.Proofs.YthakeibmbcgjfaaDoor
