/- Escapes of texts, as lists of bytes. Simple colours as lists of bytes. -/
import Derived.Test.YtfjfkkbgkjmghaaGreatDoorJct3
import Derived.Lib.Replace

namespace Go.Proofs.YtfjfkkbgkjmghaaGreatDoor
open Go.RowKit
def hexV (c : UInt8) : Int := if 48 ≤ c.toNat ∧ c.toNat ≤ 57 then c.toNat - 48 else if 65 ≤ c.toNat ∧ c.toNat ≤ 70 then c.toNat - 55 else if 97 ≤ c.toNat ∧ c.toNat ≤ 102 then c.toNat - 87 else -1
end Go.Proofs.YtfjfkkbgkjmghaaGreatDoor

namespace Go.Proofs.YtfjfkkbgkjmghaaGreatDoor
open Go.RowKit
def isHex (c : UInt8) : Bool := decide (0 ≤ hexV c)
theorem isHex_iff (c : UInt8) : isHex c = true ↔ 0 ≤ hexV c := by unfold isHex; simp
def simpleL (l : List UInt8) : Bool := decide (l.length = 7) && (l.getD 0 0 == 35) && (l.drop 1).all isHex
def blackL : List UInt8 := [35, 48, 48, 48, 48, 48, 48]
def cleanL (l : List UInt8) : List UInt8 := if simpleL l = true then lowL l else blackL
theorem clean_yes {l : List UInt8} (h : simpleL l = true) : cleanL l = lowL l := if_pos h
theorem clean_no {l : List UInt8} (h : simpleL l = false) : cleanL l = blackL := if_neg (by rw [h]; decide)
theorem simple_shape {l : List UInt8} (h : simpleL l = true) : ∃ a b c d e f, l = [35, a, b, c, d, e, f] ∧ 0 ≤ hexV a ∧ 0 ≤ hexV b ∧ 0 ≤ hexV c ∧ 0 ≤ hexV d ∧ 0 ≤ hexV e ∧ 0 ≤ hexV f := by
  unfold simpleL at h
  rw [Bool.and_eq_true, Bool.and_eq_true, decide_eq_true_eq, beq_iff_eq, List.all_eq_true] at h
  obtain ⟨⟨h1, h2⟩, h3⟩ := h
  rcases l with _ | ⟨x, _ | ⟨a, _ | ⟨b, _ | ⟨c, _ | ⟨d, _ | ⟨e, _ | ⟨f, _ | ⟨g, r⟩⟩⟩⟩⟩⟩⟩⟩
  · cases h1
  · cases h1
  · cases h1
  · cases h1
  · cases h1
  · cases h1
  · cases h1
  · have hx : x = 35 := h2
    subst hx
    refine ⟨a, b, c, d, e, f, rfl, ?_⟩
    have g := fun y hy => (isHex_iff y).1 (h3 y hy)
    exact ⟨g a (by simp), g b (by simp), g c (by simp), g d (by simp), g e (by simp), g f (by simp)⟩
  · simp at h1
/-- What is a simple colour, place by place. -/
theorem simple_at {s : ByteArray} : simpleL s.data.toList = true ↔ s.size = 7 ∧ byteAt s 0 = 35 ∧ ∀ k, 1 ≤ k → k < 7 → 0 ≤ hexV (byteAt s k) := by
  have hl : s.data.toList.length = s.size := by simp
  constructor
  · intro h
    obtain ⟨a, b, c, d, e, f, hs, ha, hb, hc, hd, he, hf⟩ := simple_shape h
    rw [hs] at hl
    refine ⟨hl.symm, by unfold byteAt; rw [hs]; rfl, ?_⟩
    intro k h1 h2
    unfold byteAt
    rw [hs]
    rcases (show k = 1 ∨ k = 2 ∨ k = 3 ∨ k = 4 ∨ k = 5 ∨ k = 6 by omega) with rfl | rfl | rfl | rfl | rfl | rfl <;> assumption
  · rintro ⟨h1, h2, h3⟩
    unfold simpleL
    rw [Bool.and_eq_true, Bool.and_eq_true, decide_eq_true_eq, beq_iff_eq, List.all_eq_true]
    refine ⟨⟨by omega, h2⟩, ?_⟩
    intro x hx
    obtain ⟨j, hj, e⟩ := List.getElem_of_mem hx
    rw [isHex_iff]
    have hj' : j < 6 := by rw [List.length_drop] at hj; omega
    have := h3 (j + 1) (by omega) (by omega)
    rw [← byteAt_eq s (j + 1) (by omega)] at this
    have hq : s[j + 1] = s.data.toList[j + 1]'(by omega) := by simp; rfl
    rw [List.getElem_drop] at e
    rw [hq] at this
    rw [← e]
    simpa only [Nat.add_comm 1 j] using this

end Go.Proofs.YtfjfkkbgkjmghaaGreatDoor
