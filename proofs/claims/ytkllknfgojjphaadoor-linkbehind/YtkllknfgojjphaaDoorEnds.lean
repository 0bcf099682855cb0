/- Ends of lines in texts, as lists of bytes: each end of a line (10, 13, or 13 and 10) becomes another text: plain facts of no program. No condition. -/
import Derived.Test.YtkllknfgojjphaaDoorLow
namespace Go.Proofs.YtkllknfgojjphaaDoor
open Go.RowKit

/-- What a byte c behind a byte p becomes. -/
def piece (e : List UInt8) (p c : UInt8) : List UInt8 := if c = 10 ∧ p = 13 then [] else if c = 10 ∨ c = 13 then e else [c]
def endsP (e : List UInt8) : UInt8 → List UInt8 → List UInt8
  | _, [] => []
  | p, c :: r => piece e p c ++ endsP e c r
def endsS (e s : ByteArray) : ByteArray := txt (endsP e.data.toList 0 s.data.toList)
def prevAt (s : ByteArray) (k : Nat) : UInt8 := if k = 0 then 0 else byteAt s (k - 1)

theorem piece_none {e : List UInt8} {p c : UInt8} (h1 : c = 10) (h2 : p = 13) : piece e p c = [] := by unfold piece; rw [if_pos ⟨h1, h2⟩]
theorem piece_end {e : List UInt8} {p c : UInt8} (h1 : ¬ (c = 10 ∧ p = 13)) (h2 : c = 10 ∨ c = 13) : piece e p c = e := by unfold piece; rw [if_neg h1, if_pos h2]
theorem piece_byte {e : List UInt8} {p c : UInt8} (h1 : c ≠ 10) (h2 : c ≠ 13) : piece e p c = [c] := by
  unfold piece; rw [if_neg (fun h => h1 h.1), if_neg (fun h => h.elim h1 h2)]
theorem piece_le (e : List UInt8) (p c : UInt8) (h : e.length ≤ 2) : (piece e p c).length ≤ 2 := by
  unfold piece; split
  · simp
  · split
    · exact h
    · simp
theorem endsP_snoc (e : List UInt8) (c : UInt8) : ∀ (l : List UInt8) (p : UInt8), endsP e p (l ++ [c]) = endsP e p l ++ piece e (l.getLastD p) c
  | [], p => by simp [endsP]
  | a :: r, p => by
    have ih := endsP_snoc e c r a
    have hl : (a :: r).getLastD p = r.getLastD a := by cases r <;> rfl
    show piece e p a ++ endsP e a (r ++ [c]) = piece e p a ++ endsP e a r ++ _
    rw [ih, hl, List.append_assoc]
theorem endsP_le (e : List UInt8) (h : e.length ≤ 2) : ∀ (l : List UInt8) (p : UInt8), (endsP e p l).length ≤ 2 * l.length
  | [], p => by simp [endsP]
  | a :: r, p => by
    have ih := endsP_le e h r a
    have := piece_le e p a h
    simp only [endsP, List.length_append, List.length_cons]; omega
theorem getLastD_take (l : List UInt8) (k : Nat) (h : k < l.length) : (l.take (k + 1)).getLastD 0 = l.getD k 0 := by
  have : l.take (k + 1) = l.take k ++ [l[k]] := List.take_succ_eq_append_getElem h
  rw [this, List.getLastD_concat]
  simp [List.getD, h]
theorem last_take (s : ByteArray) (k : Nat) (h : k < s.size) : (s.data.toList.take k).getLastD 0 = prevAt s k := by
  unfold prevAt
  by_cases e : k = 0
  · subst e; simp
  · rw [if_neg e]
    obtain ⟨j, rfl⟩ : ∃ j, k = j + 1 := ⟨k - 1, by omega⟩
    exact getLastD_take _ _ (by simp; omega)
theorem endsP_take (e : List UInt8) (s : ByteArray) (k : Nat) (h : k < s.size) : endsP e 0 (s.data.toList.take (k + 1)) = endsP e 0 (s.data.toList.take k) ++ piece e (prevAt s k) (byteAt s k) := by
  rw [byteAt_take s k h, endsP_snoc, last_take s k h]
theorem take_len_le (s : ByteArray) (k : Nat) : (s.data.toList.take k).length ≤ k := List.length_take_le _ _
theorem endsP_take_le (e s : ByteArray) (k : Nat) (h : e.size ≤ 2) : (endsP e.data.toList 0 (s.data.toList.take k)).length ≤ 2 * k := by
  have := endsP_le e.data.toList (by simpa using h) (s.data.toList.take k) 0
  have := take_len_le s k
  omega
theorem take_all (s : ByteArray) : s.data.toList.take s.size = s.data.toList := List.take_of_length_le (by simp)
theorem b10 (c : UInt8) : c = 10 ↔ (c.toNat : Int) = 10 := by rw [← UInt8.toNat_inj]; simp; omega
theorem b13 (c : UInt8) : c = 13 ↔ (c.toNat : Int) = 13 := by rw [← UInt8.toNat_inj]; simp; omega
theorem prevAt_zero (s : ByteArray) : ¬ prevAt s 0 = 13 := by unfold prevAt; rw [if_pos rfl]; decide
theorem next_free (s : ByteArray) (k : Nat) (h : ¬ byteAt s k = 13) (_ : k + 1 < s.size) : ¬ (byteAt s (k + 1) = 10 ∧ prevAt s (k + 1) = 13) := by
  intro g; have := g.2; unfold prevAt at this; rw [if_neg (by omega)] at this; exact h this
theorem prevAt_eq (s : ByteArray) (k : Nat) (h : k < s.size) (h0 : 0 < k) : s[k - 1]'(by omega) = prevAt s k := by
  unfold prevAt; rw [if_neg (by omega)]; exact byteAt_eq s (k - 1) (by omega)

theorem again_one (f : List UInt8) : ∀ (l : List UInt8) (p q : UInt8), q ≠ 13 → endsP f q (endsP [10] p l) = endsP f p l
  | [], _, _, _ => rfl
  | c :: r, p, q, hq => by
    show endsP f q (piece [10] p c ++ endsP [10] c r) = piece f p c ++ endsP f c r
    by_cases h1 : c = 10 ∧ p = 13
    · rw [piece_none h1.1 h1.2, piece_none h1.1 h1.2, List.nil_append, List.nil_append]
      exact again_one f r c q hq
    · by_cases h2 : c = 10 ∨ c = 13
      · rw [piece_end h1 h2, piece_end h1 h2]
        show piece f q 10 ++ endsP f 10 (endsP [10] c r) = f ++ endsP f c r
        rw [piece_end (fun h => hq h.2) (.inl rfl), again_one f r c 10 (by decide)]
      · have g1 : c ≠ 10 := fun h => h2 (.inl h)
        have g2 : c ≠ 13 := fun h => h2 (.inr h)
        rw [piece_byte g1 g2, piece_byte g1 g2]
        show piece f q c ++ endsP f c (endsP [10] c r) = [c] ++ endsP f c r
        rw [piece_byte g1 g2, again_one f r c c g2]
theorem again_two (f : List UInt8) : ∀ (l : List UInt8) (p q : UInt8), endsP f q (endsP [13, 10] p l) = endsP f p l
  | [], _, _ => rfl
  | c :: r, p, q => by
    show endsP f q (piece [13, 10] p c ++ endsP [13, 10] c r) = piece f p c ++ endsP f c r
    by_cases h1 : c = 10 ∧ p = 13
    · rw [piece_none h1.1 h1.2, piece_none h1.1 h1.2, List.nil_append, List.nil_append]
      exact again_two f r c q
    · by_cases h2 : c = 10 ∨ c = 13
      · rw [piece_end h1 h2, piece_end h1 h2]
        show piece f q 13 ++ (piece f 13 10 ++ endsP f 10 (endsP [13, 10] c r)) = f ++ endsP f c r
        rw [piece_end (fun h => absurd h.1 (by decide)) (.inr rfl), piece_none rfl rfl, List.nil_append, again_two f r c 10]
      · have g1 : c ≠ 10 := fun h => h2 (.inl h)
        have g2 : c ≠ 13 := fun h => h2 (.inr h)
        rw [piece_byte g1 g2, piece_byte g1 g2]
        show piece f q c ++ endsP f c (endsP [13, 10] c r) = [c] ++ endsP f c r
        rw [piece_byte g1 g2, again_two f r c c]

def linesS (s : ByteArray) : ByteArray := endsS ⟨#[10]⟩ s
def pairsS (s : ByteArray) : ByteArray := endsS ⟨#[13, 10]⟩ s
def noBreaksS (s : ByteArray) : ByteArray := endsS ⟨#[]⟩ s
theorem ends_lines (f s : ByteArray) : endsS f (linesS s) = endsS f s := by
  unfold linesS endsS; rw [txt_data]; exact congrArg txt (again_one _ _ _ _ (by decide))
theorem ends_pairs (f s : ByteArray) : endsS f (pairsS s) = endsS f s := by
  unfold pairsS endsS; rw [txt_data]; exact congrArg txt (again_two _ _ _ _)
theorem endsS_size (e s : ByteArray) (h : e.size ≤ 2) : (endsS e s).size ≤ 2 * s.size := by
  unfold endsS; rw [txt_size]
  have := endsP_le e.data.toList (by simpa using h) s.data.toList 0
  simpa using this
theorem linesS_size (s : ByteArray) : (linesS s).size ≤ 2 * s.size := endsS_size _ _ (by decide)
theorem pairsS_size (s : ByteArray) : (pairsS s).size ≤ 2 * s.size := endsS_size _ _ (by decide)

end Go.Proofs.YtkllknfgojjphaaDoor
