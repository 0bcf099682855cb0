/- The document's first, last, Digits, Value, Scheme of layer 8: they answer by the functions of 'Link'; what lay in the world lies there still. Condition: texts of at most 2^20 bytes. -/
import Derived.Test.YtkllknfgojjphabDoorRows
import Derived.Test.YtkllknfgojjphabDoorLink
import Derived.Test.YtkllknfgojjphabDoorLowWalks
namespace Go.Proofs.YtkllknfgojjphabDoor
open Go.RowKit

theorem at_list (s : ByteArray) (k : Nat) (h : k < s.size) : s.data.toList[k]'(by simpa using h) = s[k] := by simp; rfl
theorem list_at {s : ByteArray} {k : Nat} (hk : k < s.size) : s.data.toList = s.data.toList.take k ++ s[k] :: s.data.toList.drop (k + 1) := by
  have h := (List.take_append_drop k s.data.toList).symm
  rw [List.drop_eq_getElem_cons (by simpa using hk), at_list s k hk] at h
  exact h
theorem take_free {s : ByteArray} {c : UInt8} {k : Nat} (h : ∀ j (_ : j < s.size), j < k → ¬ s[j] = c) : c ∉ s.data.toList.take k := by
  intro m
  obtain ⟨j, hj, e⟩ := List.getElem_of_mem m
  rw [List.length_take] at hj
  have hs : j < s.size := by have : s.data.toList.length = s.size := by simp
                             omega
  rw [List.getElem_take, at_list s j hs] at e
  exact h j hs (by omega) e
theorem drop_free {s : ByteArray} {c : UInt8} {k : Nat} (h : ∀ j (_ : j < s.size), k ≤ j → ¬ s[j] = c) : c ∉ s.data.toList.drop k := by
  intro m
  obtain ⟨j, hj, e⟩ := List.getElem_of_mem m
  rw [List.length_drop] at hj
  have hs : k + j < s.size := by have : s.data.toList.length = s.size := by simp
                                 omega
  rw [List.getElem_drop, at_list s (k + j) hs] at e
  exact h (k + j) hs (by omega) e
theorem len_take {s : ByteArray} {k : Nat} (hk : k ≤ s.size) : (s.data.toList.take k).length = k := by
  have : s.data.toList.length = s.size := by simp
  rw [List.length_take]; omega
theorem first_hit {s : ByteArray} {c : UInt8} {k : Nat} (hk : k < s.size) (h : ∀ j (_ : j < s.size), j < k → ¬ s[j] = c) (e : s[k] = c) : firstL c s.data.toList = k := by
  rw [list_at hk, e, first_app _ (take_free h)]
  exact len_take (by omega)
theorem first_end {s : ByteArray} {c : UInt8} (h : ∀ j (_ : j < s.size), ¬ s[j] = c) : firstL c s.data.toList = s.size := by
  have hl : s.data.toList.length = s.size := by simp
  have := take_free (s := s) (c := c) (k := s.size) (fun j hj _ => h j hj)
  rw [List.take_of_length_le (by omega)] at this
  rw [first_no this, hl]
theorem last_hit {s : ByteArray} {c : UInt8} {k : Nat} (hk : k < s.size) (h : ∀ j (_ : j < s.size), k + 1 ≤ j → ¬ s[j] = c) (e : s[k] = c) : lastL c s.data.toList = k := by
  rw [list_at hk, e, last_app _ (drop_free h), len_take (by omega)]
theorem last_end {s : ByteArray} {c : UInt8} (h : ∀ j (_ : j < s.size), 0 ≤ j → ¬ s[j] = c) : lastL c s.data.toList = -1 := by
  have := drop_free (s := s) (c := c) (k := 0) h
  exact last_no this
theorem ne_int {a c : UInt8} (h : ¬ a = c) : ((a.toNat : Int) == (c.toNat : Int)) = false := by
  rw [beq_eq_false_iff_ne]
  exact fun e => h (UInt8.toNat_inj.1 (by omega))

theorem dig_ne {l : List UInt8} {c : UInt8} (m : c ∈ l) (h : isDg c = false) : digitsL l = false := by
  unfold digitsL
  rw [List.all_eq_false.2 ⟨c, m, by rw [h]; simp⟩, Bool.and_false]
theorem mem_at {s : ByteArray} {k : Nat} (hk : k < s.size) : s[k] ∈ s.data.toList := by
  rw [← at_list s k hk]; exact List.getElem_mem _
theorem dig_all {s : ByteArray} (h : ∀ j (_ : j < s.size), isDg s[j] = true) : digitsL s.data.toList = decide (0 < s.size) := by
  have hl : s.data.toList.length = s.size := by simp
  have : s.data.toList.all isDg = true := by
    rw [List.all_eq_true]
    intro c m
    obtain ⟨j, hj, e⟩ := List.getElem_of_mem m
    rw [← e, at_list s j (by omega)]
    exact h j (by omega)
  unfold digitsL
  rw [this, Bool.and_true]
  cases g : s.data.toList with
  | nil => rw [g] at hl; rw [decide_eq_false (by simp at hl; omega)]; rfl
  | cons => rw [g] at hl; rw [decide_eq_true (by simp at hl; omega)]; rfl
theorem val_bd (l : List UInt8) : ∀ n, n ≤ 10000255 → l.foldl valStep n ≤ 10000255 := by
  induction l with
  | nil => exact fun n h => h
  | cons x l ih =>
    intro n h
    refine ih _ ?_
    unfold valStep
    have := x.toNat_lt
    split <;> omega
theorem val_take {s : ByteArray} {k : Nat} (hk : k < s.size) : valueL (s.data.toList.take (k + 1)) = valStep (valueL (s.data.toList.take k)) s[k] := by
  unfold valueL
  rw [byteAt_take s k hk, List.foldl_append, byteAt_eq s k hk]
  rfl
end Go.Proofs.YtkllknfgojjphabDoor
