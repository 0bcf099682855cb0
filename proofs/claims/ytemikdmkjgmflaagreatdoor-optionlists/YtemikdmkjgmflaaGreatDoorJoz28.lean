/- The words of a text, as a loop over its bytes finds them. -/
import Derived.Test.YtemikdmkjgmflaaGreatDoorJoz9

namespace Go.Proofs.YtemikdmkjgmflaaGreatDoor
open Go.RowKit
def sub (s : ByteArray) (j k : Nat) : List UInt8 := (s.data.toList.drop j).take (k - j)
theorem sub_txt (s : ByteArray) (j k : Nat) : s.extract j k = txt (sub s j k) := by
  unfold txt sub
  have : (s.extract j k).data = ((s.data.toList.drop j).take (k - j)).toArray := by
    apply Array.ext'; simp
  cases h : s.extract j k with
  | mk d => rw [h] at this; exact congrArg ByteArray.mk this
theorem drop_at (s : ByteArray) (k : Nat) (h : k < s.size) : s.data.toList.drop k = s[k] :: s.data.toList.drop (k + 1) := by
  rw [List.drop_eq_getElem_cons (by simpa using h)]; rfl
theorem sub_one (s : ByteArray) (k : Nat) (h : k < s.size) : sub s k (k + 1) = [s[k]] := by
  unfold sub; rw [drop_at s k h, Nat.add_sub_cancel_left]; rfl
theorem sub_succ (s : ByteArray) (j k : Nat) (hj : j ≤ k) (h : k < s.size) : sub s j (k + 1) = sub s j k ++ [s[k]] := by
  unfold sub
  have e : k + 1 - j = (k - j) + 1 := by omega
  have hl : k - j < (s.data.toList.drop j).length := by simp; omega
  rw [e, List.take_succ_eq_append_getElem hl]
  congr 2
  rw [List.getElem_drop]
  have e2 : j + (k - j) = k := by omega
  simp only [e2]; rfl
theorem sub_ne (s : ByteArray) (j k : Nat) (hj : j < k) (h : k ≤ s.size) : sub s j k ≠ [] := by
  intro e; have := congrArg List.length e; simp [sub] at this; omega
/-- What the loop has behind k bytes: the words that are done; where the one begins that is being read (-1: none is). -/
def WS (s : ByteArray) (k : Nat) (f : Int) (done : List (List UInt8)) : Prop :=
  done.length ≤ k ∧ ((f = -1 ∧ k ≤ s.size ∧ done ++ wordsG [] (s.data.toList.drop k) = wordsG [] s.data.toList) ∨
    (∃ j : Nat, f = j ∧ j < k ∧ k ≤ s.size ∧ done ++ wordsG (sub s j k) (s.data.toList.drop k) = wordsG [] s.data.toList) ∨ (f = -1 ∧ k = s.size + 1 ∧ done = wordsG [] s.data.toList))
theorem ws_zero (s : ByteArray) : WS s 0 (-1) [] := ⟨by simp, .inl ⟨rfl, Nat.zero_le _, by simp⟩⟩
theorem ws_len {s : ByteArray} {k : Nat} {f : Int} {done : List (List UInt8)} (h : WS s k f done) : done.length ≤ k := h.1
theorem ws_none {s : ByteArray} {k : Nat} {done : List (List UInt8)} (h : WS s k (-1) done) (hk : k ≤ s.size) : done ++ wordsG [] (s.data.toList.drop k) = wordsG [] s.data.toList := by
  rcases h.2 with ⟨_, _, h⟩ | ⟨j, h, _⟩ | ⟨_, h, _⟩
  · exact h
  · omega
  · omega
theorem ws_in {s : ByteArray} {j k : Nat} {done : List (List UInt8)} (h : WS s k (j : Int) done) : j < k ∧ k ≤ s.size ∧ done ++ wordsG (sub s j k) (s.data.toList.drop k) = wordsG [] s.data.toList := by
  rcases h.2 with ⟨h, _⟩ | ⟨i, h, r⟩ | ⟨h, _⟩
  · omega
  · obtain rfl : j = i := by omega
    exact r
  · omega
theorem ws_cases {s : ByteArray} {k : Nat} {f : Int} {done : List (List UInt8)} (h : WS s k f done) : f = -1 ∨ ∃ j : Nat, f = j := by
  rcases h.2 with ⟨h, _⟩ | ⟨j, h, _⟩ | ⟨h, _⟩
  · exact .inl h
  · exact .inr ⟨j, h⟩
  · exact .inl h
theorem ws_end {s : ByteArray} {k : Nat} {f : Int} {done : List (List UInt8)} (h : WS s k f done) (hk : ¬ k ≤ s.size) : done = wordsG [] s.data.toList := by
  rcases h.2 with ⟨_, h, _⟩ | ⟨j, _, _, h, _⟩ | ⟨_, _, h⟩
  · exact absurd h hk
  · exact absurd h hk
  · exact h
theorem wordsG_no {cur r : List UInt8} {c : UInt8} (h : isBl c = false) : wordsG cur (c :: r) = wordsG (cur ++ [c]) r := by
  show (if isBl c then _ else _) = _; rw [if_neg (by rw [h]; decide)]
theorem wordsG_bl {cur r : List UInt8} {c : UInt8} (h : isBl c = true) (hc : cur ≠ []) : wordsG cur (c :: r) = cur :: wordsG [] r := by
  show (if isBl c then _ else _) = _; rw [if_pos h, if_neg hc]
theorem wordsG_bl0 {r : List UInt8} {c : UInt8} (h : isBl c = true) : wordsG [] (c :: r) = wordsG [] r := by
  show (if isBl c then _ else _) = _; rw [if_pos h, if_pos rfl]
theorem ws_begin {s : ByteArray} {k : Nat} {done : List (List UInt8)} (h : WS s k (-1) done) (hk : k < s.size) (hb : isBl s[k] = false) : WS s (k + 1) (k : Int) done := by
  have e := ws_none h (by omega)
  rw [drop_at s k hk, wordsG_no hb] at e
  exact ⟨by have := h.1; omega, .inr (.inl ⟨k, rfl, by omega, by omega, by rw [sub_one s k hk]; exact e⟩)⟩
theorem ws_more {s : ByteArray} {j k : Nat} {done : List (List UInt8)} (h : WS s k (j : Int) done) (hk : k < s.size) (hb : isBl s[k] = false) : WS s (k + 1) (j : Int) done := by
  obtain ⟨h1, h2, e⟩ := ws_in h
  rw [drop_at s k hk, wordsG_no hb] at e
  exact ⟨by have := h.1; omega, .inr (.inl ⟨j, rfl, by omega, by omega, by rw [sub_succ s j k (by omega) hk]; exact e⟩)⟩
theorem ws_skip {s : ByteArray} {k : Nat} {done : List (List UInt8)} (h : WS s k (-1) done) (hk : k < s.size) (hb : isBl s[k] = true) : WS s (k + 1) (-1) done := by
  have e := ws_none h (by omega)
  rw [drop_at s k hk, wordsG_bl0 hb] at e
  exact ⟨by have := h.1; omega, .inl ⟨rfl, by omega, e⟩⟩
theorem ws_push {s : ByteArray} {j k : Nat} {done : List (List UInt8)} (h : WS s k (j : Int) done) (hk : k < s.size) (hb : isBl s[k] = true) : WS s (k + 1) (-1) (done ++ [sub s j k]) := by
  obtain ⟨h1, h2, e⟩ := ws_in h
  rw [drop_at s k hk, wordsG_bl hb (sub_ne s j k h1 h2)] at e
  exact ⟨by have := h.1; simp; omega, .inl ⟨rfl, by omega, by rw [List.append_assoc]; exact e⟩⟩
theorem ws_last {s : ByteArray} {done : List (List UInt8)} (h : WS s s.size (-1) done) : WS s (s.size + 1) (-1) done := by
  have e := ws_none h (Nat.le_refl _)
  rw [List.drop_eq_nil_of_le (by simp)] at e
  exact ⟨by have := h.1; omega, .inr (.inr ⟨rfl, rfl, by simpa [wordsG] using e⟩)⟩
theorem ws_final {s : ByteArray} {j : Nat} {done : List (List UInt8)} (h : WS s s.size (j : Int) done) : WS s (s.size + 1) (-1) (done ++ [sub s j s.size]) := by
  obtain ⟨h1, h2, e⟩ := ws_in h
  rw [List.drop_eq_nil_of_le (by simp)] at e
  have hne := sub_ne s j s.size h1 h2
  refine ⟨by have := h.1; simp; omega, .inr (.inr ⟨rfl, rfl, ?_⟩)⟩
  rw [← e]; show _ = done ++ (if sub s j s.size = [] then [] else [sub s j s.size]); rw [if_neg hne]
theorem wordsG_count : ∀ (l cur : List UInt8), (wordsG cur l).length ≤ l.length + 1
  | [], cur => by unfold wordsG; split <;> simp
  | c :: r, cur => by
    cases hb : isBl c with
    | true =>
      have := wordsG_count r []
      by_cases hc : cur = []
      · subst hc; rw [wordsG_bl0 hb]; simp only [List.length_cons]; omega
      · rw [wordsG_bl hb hc]; simp only [List.length_cons]; omega
    | false => rw [wordsG_no hb]; have := wordsG_count r (cur ++ [c]); simp only [List.length_cons]; omega
/-- Joined by k words. -/
theorem joinW_take (ws : List (List UInt8)) (k : Nat) (h : k < ws.length) : joinW (ws.take (k + 1)) = joinW (ws.take k) ++ (if k = 0 then [] else [32]) ++ ws[k] := by
  rw [List.take_succ_eq_append_getElem h]
  by_cases e : k = 0
  · subst e; simp [joinW, sepJ]
  · rw [if_neg e, joinW_snoc _ _ (by intro x; have := congrArg List.length x; rw [List.length_take] at this; simp at this; rcases this with h' | h'; exact e h'; subst h'; simp at h)]
theorem sepJ_len (ws : List (List UInt8)) : (sepJ ws).length = (ws.map (fun x => x.length + 1)).sum := by
  induction ws with
  | nil => rfl
  | cons a t ih => show (32 :: a ++ sepJ t).length = _; simp [ih]; omega
theorem sum_take_le (ws : List Nat) (k : Nat) : (ws.take k).sum ≤ ws.sum := by
  induction ws generalizing k with
  | nil => simp
  | cons a t ih => cases k with
    | zero => simp
    | succ k => simp; exact ih k
theorem joinW_len (ws : List (List UInt8)) : (joinW ws).length ≤ (sepJ ws).length := by
  cases ws with
  | nil => simp [joinW]
  | cons a t => show (a ++ sepJ t).length ≤ (32 :: a ++ sepJ t).length; simp
theorem sepJ_words_le (l : List UInt8) : (sepJ (wordsG [] l)).length ≤ 2 * l.length := by
  rw [(words_col l).2.2]; exact colF_le l 2
theorem joinW_take_le (l : List UInt8) (k : Nat) : (joinW ((wordsG [] l).take k)).length ≤ 2 * l.length := by
  have h1 := joinW_len ((wordsG [] l).take k)
  rw [sepJ_len, List.map_take] at h1
  have h2 := sum_take_le ((wordsG [] l).map fun x => x.length + 1) k
  rw [← sepJ_len] at h2
  have := sepJ_words_le l
  omega
theorem word_le (l : List UInt8) (k : Nat) (h : k < (wordsG [] l).length) : (wordsG [] l)[k].length ≤ 2 * l.length := by
  have h1 := joinW_take_le l (k + 1)
  rw [joinW_take _ _ h] at h1
  simp at h1; omega

end Go.Proofs.YtemikdmkjgmflaaGreatDoor
