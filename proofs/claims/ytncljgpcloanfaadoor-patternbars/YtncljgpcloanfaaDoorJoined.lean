/- Units and validity of two texts that are joined, the first one of which is UTF-8, add up: plain facts of no program. No condition. -/
import Derived.Test.YtncljgpcloanfaaDoorUnits
namespace Go.Proofs.YtncljgpcloanfaaDoor
open Go.RowKit Go.Lib

set_option maxHeartbeats 1000000 in
theorem decodeN_ext {n b0 b1 b2 b3 n' b1' b2' b3' : Nat} (h0 : b0 < 256) (h1 : b1 < 256) (h2 : b2 < 256) (h3 : b3 < 256) (g1 : b1' < 256) (g2 : b2' < 256) (g3 : b3' < 256) (hn : n ≤ n')
    (e1 : 1 < n → b1' = b1) (e2 : 2 < n → b2' = b2) (e3 : 3 < n → b3' = b3) (ok : ¬ ((decodeN n b0 b1 b2 b3).1 = 65533 ∧ (decodeN n b0 b1 b2 b3).2 = 1)) :
    decodeN n' b0 b1' b2' b3' = decodeN n b0 b1 b2 b3 := by
  by_cases c1 : b0 < 128
  · unfold decodeN; rw [if_pos c1, if_pos c1]
  by_cases c2 : b0 < 194
  · exact absurd (by rw [decodeN_bad n b0 b1 b2 b3 (.inl ⟨by omega, c2⟩)]; exact ⟨rfl, rfl⟩) ok
  by_cases c3 : b0 < 224
  · rw [dec_two h1 ⟨by omega, c3⟩] at ok ⊢
    rw [dec_two g1 ⟨by omega, c3⟩]
    by_cases d : 1 < n ∧ 128 ≤ b1 ∧ b1 < 192
    · have := e1 d.1
      subst this
      rw [if_pos d, if_pos ⟨by omega, d.2⟩]
    · rw [if_neg d] at ok; exact absurd ⟨rfl, rfl⟩ ok
  by_cases c4 : b0 < 240
  · rw [dec_three h1 h2 ⟨by omega, c4⟩] at ok ⊢
    rw [dec_three g1 g2 ⟨by omega, c4⟩]
    split at ok
    · rename_i d
      have r1 := e1 d.1.1
      have r2 := e2 d.2.1.1
      subst r1 r2
      rw [if_pos d, if_pos ⟨⟨by omega, d.1.2⟩, ⟨by omega, d.2.1.2⟩, d.2.2⟩]
    · exact absurd ⟨rfl, rfl⟩ ok
  by_cases c5 : b0 < 245
  · rw [dec_four h1 h2 h3 ⟨by omega, c5⟩] at ok ⊢
    rw [dec_four g1 g2 g3 ⟨by omega, c5⟩]
    split at ok
    · rename_i d
      have r1 := e1 d.1.1
      have r2 := e2 d.2.1.1
      have r3 := e3 d.2.2.1.1
      subst r1 r2 r3
      rw [if_pos d, if_pos ⟨⟨by omega, d.1.2⟩, ⟨by omega, d.2.1.2⟩, ⟨by omega, d.2.2.1.2⟩, d.2.2.2⟩]
    · exact absurd ⟨rfl, rfl⟩ ok
  · exact absurd (by rw [decodeN_bad n b0 b1 b2 b3 (.inr ⟨by omega, h0⟩)]; exact ⟨rfl, rfl⟩) ok

theorem decodeL_ext (a b : List UInt8) (hne : a ≠ []) (ok : ¬ ((decodeL a).1 = 65533 ∧ (decodeL a).2 = 1)) : decodeL (a ++ b) = decodeL a := by
  rw [decodeL_N] at ok ⊢
  rw [decodeL_N a]
  have hl : 0 < a.length := List.length_pos_iff.2 hne
  have hg : ∀ j, j < a.length → (a ++ b).getD j 0 = a.getD j 0 := fun j hj => by simp [List.getD, List.getElem?_append_left hj]
  rw [hg 0 hl]
  exact decodeN_ext (UInt8.toNat_lt _) (UInt8.toNat_lt _) (UInt8.toNat_lt _) (UInt8.toNat_lt _) (UInt8.toNat_lt _) (UInt8.toNat_lt _) (UInt8.toNat_lt _) (by simp)
    (fun h => by rw [hg 1 h]) (fun h => by rw [hg 2 h]) (fun h => by rw [hg 3 h]) ok

def unitsLF : Nat → List UInt8 → Nat
  | 0, _ => 0
  | f + 1, l => if l = [] then 0 else (if 65535 < (decodeL l).1 then 2 else 1) + unitsLF f (l.drop (decodeL l).2)
def unitsL (l : List UInt8) : Nat := unitsLF l.length l
theorem unitsLF_nil : ∀ n, unitsLF n [] = 0
  | 0 => rfl
  | _ + 1 => by simp [unitsLF]
theorem unitsLF_fuel : ∀ (n m : Nat) (l : List UInt8), l.length ≤ n → l.length ≤ m → unitsLF n l = unitsLF m l
  | 0, m, l, hn, _ => by
    have : l = [] := List.eq_nil_of_length_eq_zero (by omega)
    subst this; rw [unitsLF_nil, unitsLF_nil]
  | n + 1, 0, l, _, hm => by
    have : l = [] := List.eq_nil_of_length_eq_zero (by omega)
    subst this; rw [unitsLF_nil, unitsLF_nil]
  | n + 1, m + 1, l, hn, hm => by
    unfold unitsLF
    by_cases hne : l = []
    · simp [hne]
    · have hw := decodeL_width l
      rw [if_neg hne, if_neg hne, unitsLF_fuel n m (l.drop (decodeL l).2) (by rw [List.length_drop]; omega) (by rw [List.length_drop]; omega)]
theorem unitsL_step (l : List UInt8) (hne : l ≠ []) : unitsL l = (if 65535 < (decodeL l).1 then 2 else 1) + unitsL (l.drop (decodeL l).2) := by
  have hl : 0 < l.length := List.length_pos_iff.2 hne
  have hw := decodeL_width l
  obtain ⟨n, hn⟩ : ∃ n, l.length = n + 1 := ⟨l.length - 1, by omega⟩
  unfold unitsL
  rw [hn]
  show (if l = [] then 0 else _) = _
  rw [if_neg hne, unitsLF_fuel n (l.drop (decodeL l).2).length _ (by rw [List.length_drop]; omega) (Nat.le_refl _)]
theorem unitsFrom_L (s : ByteArray) : ∀ (f i : Nat), unitsFrom s f i = unitsLF f (s.data.toList.drop i)
  | 0, _ => rfl
  | f + 1, i => by
    unfold unitsFrom unitsLF
    by_cases h : i < s.size
    · have hne : s.data.toList.drop i ≠ [] := by
        intro e; have := congrArg List.length e; simp at this; omega
      rw [if_pos h, if_neg hne, decodeL_drop, List.drop_drop, unitsFrom_L s f]
    · have he : s.data.toList.drop i = [] := List.drop_eq_nil_of_le (by simp; omega)
      rw [if_neg h, if_pos he]
theorem unitsS_L (s : ByteArray) : unitsS s = unitsL s.data.toList := by
  unfold unitsS unitsL; rw [unitsFrom_L]; simp

theorem joined_L (b : List UInt8) : ∀ (n : Nat) (a : List UInt8), a.length ≤ n → validD a = true → unitsL (a ++ b) = unitsL a + unitsL b ∧ validD (a ++ b) = validD b
  | 0, a, h, _ => by
    have : a = [] := List.eq_nil_of_length_eq_zero (by omega)
    subst this; simp [unitsL, unitsLF]
  | n + 1, a, h, hv => by
    by_cases hne : a = []
    · subst hne; simp [unitsL, unitsLF]
    · have hne' : a ++ b ≠ [] := by simp [hne]
      rw [validD_step a hne] at hv
      split at hv
      · cases hv
      · rename_i ok
        have hle := decodeL_le a hne
        have hw := decodeL_width a
        have e := decodeL_ext a b hne ok
        have ih := joined_L b n (a.drop (decodeL a).2) (by rw [List.length_drop]; omega) hv
        rw [unitsL_step (a ++ b) hne', unitsL_step a hne, validD_step (a ++ b) hne', e, if_neg ok, List.drop_append_of_le_length hle, ih.1, ih.2]
        exact ⟨by omega, rfl⟩
theorem joined {a b : ByteArray} (h : validS a = true) : unitsS (a ++ b) = unitsS a + unitsS b ∧ validS (a ++ b) = validS b := by
  have e : (a ++ b).data.toList = a.data.toList ++ b.data.toList := by simp
  rw [unitsS_L, unitsS_L, unitsS_L]
  unfold validS
  rw [e]
  exact joined_L b.data.toList _ a.data.toList (Nat.le_refl _) h
theorem unitsS_le (s : ByteArray) : unitsS s ≤ 2 * s.size := by
  have : ∀ (f i : Nat), unitsFrom s f i ≤ 2 * f := by
    intro f
    induction f with
    | zero => intro i; simp [unitsFrom]
    | succ f ih =>
      intro i
      unfold unitsFrom
      have := ih (i + (Utf8.decode s i).2)
      split
      · split <;> omega
      · omega
  exact this _ _

end Go.Proofs.YtncljgpcloanfaaDoor
