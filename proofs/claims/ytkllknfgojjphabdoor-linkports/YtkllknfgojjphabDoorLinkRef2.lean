/- The document's Scheme and Fine of layer 8: they answer by the functions of 'Link'; what lay in the world lies there still. Condition: texts of at most 2^20 bytes. -/
import Derived.Test.YtkllknfgojjphabDoorLinkRef1
namespace Go.Proofs.YtkllknfgojjphabDoor
open Go.RowKit

theorem sch_bad {s : ByteArray} {k : Nat} (hk : k < s.size) (h : ∀ j (_ : j < s.size), j < k → ¬ s[j] = 58) (h2 : ¬ s[k] = 58) (hb : schC s[k] = false ∨ (k = 0 ∧ alphaB s[k] = false)) : schOk s.data.toList = false := by
  rcases first_cases 58 s.data.toList with m | ⟨a, b, e, ha⟩
  · exact sch_none m
  · rw [e, (sch_cut b ha).1]
    have hlen : k < a.length := by
      rcases Nat.lt_or_ge k a.length with g | g
      · exact g
      · exfalso
        have hal : a.length < s.size := by
          have := congrArg List.length e
          rw [List.length_append, List.length_cons] at this
          have hl : s.data.toList.length = s.size := by simp
          omega
        have ea : s[a.length] = 58 := by
          rw [← at_list s a.length hal]
          simp [e]
        rcases Nat.lt_or_ge a.length k with q | q
        · exact h a.length hal q ea
        · obtain rfl : k = a.length := by omega
          exact h2 ea
    have ek : a[k] = s[k] := by
      rw [← at_list s k hk]
      simp [e, hlen]
    rcases hb with hb | ⟨h0, hb⟩
    · have : a.all schC = false := all_not (List.getElem_mem hlen) (by rw [ek]; exact hb)
      rw [this]; simp
    · subst h0
      have : a.getD 0 0 = s[0] := by rw [← ek]; simp [List.getD, hlen]
      rw [this, hb]; simp
theorem sch_end {s : ByteArray} (h : ∀ j (_ : j < s.size), ¬ s[j] = 58) : schOk s.data.toList = false := by
  refine sch_none ?_
  have := take_free (s := s) (c := 58) (k := s.size) (fun j hj _ => h j hj)
  rw [List.take_of_length_le (by simp)] at this
  exact this
theorem sch_zero {s : ByteArray} (hk : 0 < s.size) (e : s[0] = 58) : schOk s.data.toList = false := by
  have := list_at hk
  rw [e, List.take_zero, List.nil_append] at this
  rw [this]; rfl
theorem sch_yes {s : ByteArray} {k : Nat} (hk : k < s.size) (h0 : k ≠ 0) (h : ∀ j (_ : j < s.size), j < k → ¬ s[j] = 58 ∧ schC s[j] = true ∧ (j = 0 → alphaB s[j] = true)) (e : s[k] = 58) : schOk s.data.toList = true ∧ schL s.data.toList = lowL (s.data.toList.take k) := by
  have el := list_at hk
  rw [e] at el
  have hf := take_free (s := s) (c := 58) (k := k) (fun j hj hjk => (h j hj hjk).1)
  have hlen := len_take (s := s) (k := k) (by omega)
  have ok : schOk s.data.toList = true := by
    rw [el, (sch_cut _ hf).1]
    have a1 : (s.data.toList.take k).isEmpty = false := by
      cases g : s.data.toList.take k with
      | nil => rw [g] at hlen; simp at hlen; omega
      | cons => rfl
    have a2 : alphaB ((s.data.toList.take k).getD 0 0) = true := by
      have : (s.data.toList.take k).getD 0 0 = s[0] := by
        rw [← at_list s 0 (by omega)]
        simp [List.getD, show 0 < k by omega, show 0 < s.size by omega]
      rw [this]
      exact (h 0 (by omega) (by omega)).2.2 rfl
    have a3 : (s.data.toList.take k).all schC = true := by
      rw [List.all_eq_true]
      intro c m
      obtain ⟨j, hj, e2⟩ := List.getElem_of_mem m
      rw [List.getElem_take, at_list s j (by omega)] at e2
      rw [← e2]
      exact (h j (by omega) (by omega)).2.1
    rw [a1, a2, a3]; rfl
  refine ⟨ok, ?_⟩
  have := schL_cut (s.data.toList.drop (k + 1)) hf (by rw [← el]; exact ok)
  rw [← el] at this
  exact this

def schV (s : ByteArray) : Value := .tuple #[.string (txt (schL s.data.toList)), .bool (schOk s.data.toList)]
theorem schV_no {s : ByteArray} (h : schOk s.data.toList = false) : schV s = .tuple #[.string ⟨#[]⟩, .bool false] := by
  unfold schV schL
  rw [h]; rfl
theorem schV_yes {s t : ByteArray} (h : schOk s.data.toList = true) (h2 : schL s.data.toList = t.data.toList) : schV s = .tuple #[.string t, .bool true] := by
  unfold schV
  rw [h, h2]; rfl
theorem sch_parts (c : UInt8) : schC c = (plainB c || hasB schSg c) ∧ alphaB c = (plainB c && !isDg c) := ⟨rfl, rfl⟩

end Go.Proofs.YtkllknfgojjphabDoor
