/- Validity and units of 16 bits of a text, place by place, by the model's own decoder; of two texts that are joined, the first one of which is UTF-8, both add up: plain facts of no program. No condition. -/
import Derived.Test.YtncljgpcloanfaaDoorUtf
import Derived.Lib.RuneCount
import Derived.Laws.RangeAny
namespace Go.Proofs.YtncljgpcloanfaaDoor
open Go.RowKit Go.Lib

/-- No sign begins at a place. -/
def NoSign (s : ByteArray) (i : Nat) : Prop := (Utf8.decode s i).1 = 65533 ∧ (Utf8.decode s i).2 = 1
theorem signAt_bad {s : ByteArray} {i : Nat} (h : NoSign s i) : signAt s i = (0, false) := by
  unfold NoSign at h; rw [decode_bn] at h; unfold signAt sgn; rw [if_pos h]
theorem signAt_ok {s : ByteArray} {i : Nat} (h : ¬ NoSign s i) : signAt s i = ((Utf8.decode s i).2, decide (65535 < (Utf8.decode s i).1)) := by
  unfold NoSign at h; rw [decode_bn] at h ⊢; unfold signAt sgn; rw [if_neg h]
theorem width_le (s : ByteArray) (i : Nat) (h : i < s.size) : i + (Utf8.decode s i).2 ≤ s.size := by
  have hne : s.data.toList.drop i ≠ [] := by
    intro e; have := congrArg List.length e; simp at this; omega
  have := decodeL_le (s.data.toList.drop i) hne
  rw [decodeL_drop] at this
  simp at this; omega

/-- Is the rest of the text from a place on UTF-8? -/
def validFrom (s : ByteArray) (i : Nat) : Bool := Lib.validD (s.data.toList.drop i)
def validS (s : ByteArray) : Bool := Lib.validD s.data.toList
theorem validFrom_zero (s : ByteArray) : validFrom s 0 = validS s := by unfold validFrom validS; simp
theorem validFrom_step (s : ByteArray) (i : Nat) (h : i < s.size) : validFrom s i = if (Utf8.decode s i).1 = 65533 ∧ (Utf8.decode s i).2 = 1 then false else validFrom s (i + (Utf8.decode s i).2) := by
  have hne : s.data.toList.drop i ≠ [] := by
    intro e; have := congrArg List.length e; simp at this; omega
  unfold validFrom
  rw [validD_step _ hne, decodeL_drop, List.drop_drop]
theorem validFrom_bad {s : ByteArray} {i : Nat} (h : i < s.size) (n : NoSign s i) : validFrom s i = false := by unfold NoSign at n; rw [validFrom_step s i h, if_pos n]
theorem validFrom_ok {s : ByteArray} {i : Nat} (h : i < s.size) (n : ¬ NoSign s i) : validFrom s i = validFrom s (i + (Utf8.decode s i).2) := by unfold NoSign at n; rw [validFrom_step s i h, if_neg n]
theorem validFrom_end (s : ByteArray) (i : Nat) (h : ¬ i < s.size) : validFrom s i = true := by
  unfold validFrom; rw [List.drop_eq_nil_of_le (by simp; omega)]; rfl

def unitsFrom (s : ByteArray) : Nat → Nat → Nat
  | 0, _ => 0
  | f + 1, i => if i < s.size then (if 65535 < (Utf8.decode s i).1 then 2 else 1) + unitsFrom s f (i + (Utf8.decode s i).2) else 0
def unitsS (s : ByteArray) : Nat := unitsFrom s s.size 0
theorem unitsFrom_end (s : ByteArray) (f i : Nat) (h : ¬ i < s.size) : unitsFrom s f i = 0 := by cases f <;> simp [unitsFrom, h]
theorem unitsFrom_step (s : ByteArray) (f i : Nat) (h : i < s.size) : unitsFrom s (f + 1) i = (if 65535 < (Utf8.decode s i).1 then 2 else 1) + unitsFrom s f (i + (Utf8.decode s i).2) := by
  show (if i < s.size then _ else _) = _; rw [if_pos h]
/-- What is left of the loops over a text: a count that with the rest's makes the whole's, and enough rounds. -/
def Left (s : ByteArray) (i acc : Nat) : Prop := ∃ f, acc + unitsFrom s f i = unitsS s ∧ s.size ≤ i + f ∧ acc ≤ 2 * i
theorem left_zero (s : ByteArray) : Left s 0 0 := ⟨s.size, by unfold unitsS; omega, by omega, by omega⟩
theorem left_one {s : ByteArray} {i acc : Nat} (h : Left s i acc) (hi : i < s.size) (g : ¬ 65535 < (Utf8.decode s i).1) : Left s (i + (Utf8.decode s i).2) (acc + 1) := by
  obtain ⟨f, h1, h2, h3⟩ := h
  have hw := decode_width_pos s i hi
  cases f with
  | zero => omega
  | succ f =>
    rw [unitsFrom_step s f i hi, if_neg g] at h1
    exact ⟨f, by omega, by omega, by omega⟩
theorem left_two {s : ByteArray} {i acc : Nat} (h : Left s i acc) (hi : i < s.size) (g : 65535 < (Utf8.decode s i).1) : Left s (i + (Utf8.decode s i).2) (acc + 2) := by
  obtain ⟨f, h1, h2, h3⟩ := h
  have hw := decode_width_pos s i hi
  cases f with
  | zero => omega
  | succ f =>
    rw [unitsFrom_step s f i hi, if_pos g] at h1
    exact ⟨f, by omega, by omega, by omega⟩
theorem left_end {s : ByteArray} {i acc : Nat} (h : Left s i acc) (hi : ¬ i < s.size) : acc = unitsS s := by
  obtain ⟨f, h1, _, _⟩ := h
  rw [unitsFrom_end s f i hi] at h1; omega
theorem left_le {s : ByteArray} {i acc : Nat} (h : Left s i acc) : acc ≤ 2 * i := by
  obtain ⟨_, _, _, h⟩ := h; exact h

end Go.Proofs.YtncljgpcloanfaaDoor
