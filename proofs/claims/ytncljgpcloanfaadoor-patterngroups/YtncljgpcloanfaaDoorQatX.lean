/- Patterns with a bar between, in a group, of letters and digits alone: how they are read and what they fit; plain facts of no program. No condition. -/
import Derived.Test.YtncljgpcloanfaaDoorQatW
namespace Go.Proofs.YtncljgpcloanfaaDoor

/-- What may stand behind: something, or nothing but what ends a row. -/
def Behind (r m : List Nat) : Prop := r ≠ [] ∨ ∃ c t, m = c :: t ∧ stopN c = true
theorem atom_ext {f : Option (List Nat → Rd)} {m : List Nat} (h : ∀ g, f = some g → ∀ t p v, g t = some (p, 41 :: v) → g (t ++ m) = some (p, 41 :: v ++ m)) {l r : List Nat} {a : Pat} (ha : atomL f l = some (a, r)) : atomL f (l ++ m) = some (a, r ++ m) := by
  cases l with
  | nil => cases ha
  | cons c t =>
    rw [List.cons_append]
    unfold atomL at ha ⊢
    simp only at ha ⊢
    split at ha
    · rename_i h1
      rw [if_pos h1]
      cases t with
      | nil => cases ha
      | cons x v =>
        rw [List.cons_append]
        unfold clsAt at ha ⊢
        simp only at ha ⊢
        split at ha
        · rename_i h2; rw [if_pos h2]; exact cls_ext (m := m) ha
        · rename_i h2; rw [if_neg h2]; exact cls_ext (m := m) ha
    · rename_i h1
      rw [if_neg h1]
      split at ha
      · rename_i h2
        rw [if_pos h2]
        split at ha
        · cases ha
        · rename_i g
          split at ha
          · rename_i p v hg
            cases ha
            simp only [h g rfl _ _ _ hg]
            rfl
          · cases ha
      · rename_i h2
        rw [if_neg h2]
        split at ha
        · rename_i h3
          rw [if_pos h3]
          cases t with
          | nil => cases ha
          | cons d v =>
            rw [List.cons_append]
            simp only at ha ⊢
            split at ha
            · rename_i h4; rw [if_pos h4]; cases ha; rfl
            · cases ha
        · rename_i h3
          rw [if_neg h3]
          split at ha
          · cases ha
          · rename_i h4
            rw [if_neg h4]
            split at ha
            · rename_i h5; rw [if_pos h5]; cases ha; rfl
            · rename_i h5; rw [if_neg h5]; cases ha; rfl
theorem row_ext {k : Nat} {m : List Nat} (ha : ∀ l a r, atomD k l = some (a, r) → atomD k (l ++ m) = some (a, r ++ m)) : ∀ (n : Nat) (l : List Nat) (p : Pat) (r : List Nat), l.length ≤ n → rowD k l = some (p, r) → Behind r m → rowD k (l ++ m) = some (p, r ++ m)
  | _, [], p, r, _, hx, hb => by
    rw [row_nil] at hx
    cases hx
    rcases hb with hb | ⟨c, t, rfl, hs⟩
    · exact absurd rfl hb
    · exact row_stop k hs
  | 0, c :: t, _, _, hn, _, _ => by simp at hn
  | n + 1, c :: t, p, r, hn, hx, hb => by
    rw [List.cons_append]
    cases hs : stopN c with
    | true =>
      rw [row_stop k hs] at hx
      cases hx
      rw [row_stop k hs]; rfl
    | false =>
      cases hat : atomD k (c :: t) with
      | none => rw [row_bad k hs hat] at hx; cases hx
      | some y =>
        obtain ⟨a, r1⟩ := y
        have hat2 : atomD k (c :: (t ++ m)) = some (a, r1 ++ m) := ha _ _ _ hat
        cases ho : oftenL (c == 40) r1 with
        | none => rw [row_often k hs hat ho] at hx; cases hx
        | some z =>
          obtain ⟨lo, hi, r2⟩ := z
          obtain ⟨e1, l1⟩ := row_next k hs hat ho
          have hr2 : ∀ q, rowD k r2 = some q → q.2.length ≤ r2.length := fun q hq => (level_less k).2.1 _ q.1 q.2 hq
          have lr := often_le ho
          rw [e1] at hx
          cases hr : rowD k r2 with
          | none => rw [hr] at hx; cases hx
          | some q =>
            obtain ⟨row, r3⟩ := q
            rw [hr] at hx
            cases hx
            have l3 := hr2 _ hr
            simp only at l3
            have ho2 : oftenL (c == 40) (r1 ++ m) = some (lo, hi, r2 ++ m) := by
              cases r1 with
              | cons x v => exact often_ext ho (by simp)
              | nil =>
                rw [show oftenL (c == 40) [] = some (1, some 1, []) from rfl] at ho
                cases ho
                rcases hb with hb | ⟨c2, t2, rfl, hs2⟩
                · exact absurd (List.eq_nil_of_length_eq_zero (by simpa using l3)) hb
                · rw [List.nil_append]; exact often_stop rfl hs2
            obtain ⟨e2, _⟩ := row_next k hs hat2 ho2
            rw [e2, row_ext ha n r2 row r (by rw [List.length_cons] at l1 hn; omega) hr hb]
            rfl
theorem rows_ext {k : Nat} {m : List Nat} (ha : ∀ l a r, atomD k l = some (a, r) → atomD k (l ++ m) = some (a, r ++ m)) : ∀ (n : Nat) (l : List Nat) (p : Pat) (r : List Nat), l.length ≤ n → rowsD k l = some (p, r) → (r ≠ [] ∨ m.head? = some 41) → rowsD k (l ++ m) = some (p, r ++ m)
  | n, l, p, r, hn, hx, hb => by
    cases hr : rowD k l with
    | none => rw [rows_none k hr] at hx; cases hx
    | some y =>
      obtain ⟨r1, rest⟩ := y
      have hl := (level_less k).2.1 _ _ _ hr
      have m41 : m.head? = some 41 → ∃ c t, m = c :: t ∧ stopN c = true := by
        intro e
        cases m with
        | nil => cases e
        | cons c t => exact ⟨c, t, rfl, by rw [Option.some.inj e]; rfl⟩
      by_cases e : rest.head? = some 124
      · obtain ⟨v, rfl⟩ : ∃ v, rest = 124 :: v := by
          cases rest with
          | nil => cases e
          | cons c v => exact ⟨v, by rw [Option.some.inj e]⟩
        rw [rows_bar k hr] at hx
        have hr2 := row_ext ha l.length l r1 (124 :: v) (Nat.le_refl _) hr (.inl (by simp))
        rw [rows_bar k (v := v ++ m) hr2]
        rw [List.length_cons] at hl
        cases n with
        | zero => omega
        | succ n =>
          cases hv : rowsD k v with
          | none => rw [hv] at hx; cases hx
          | some q =>
            obtain ⟨rs, r2⟩ := q
            rw [hv] at hx
            cases hx
            rw [rows_ext ha n v rs r (by omega) hv hb]
            rfl
      · rw [rows_one k hr e] at hx
        cases hx
        have hr2 := row_ext ha l.length l p r (Nat.le_refl _) hr (by
          rcases hb with hb | hb
          · exact .inl hb
          · exact .inr (m41 hb))
        refine rows_one k hr2 ?_
        cases r with
        | cons c v => exact e
        | nil =>
          rcases hb with hb | hb
          · exact absurd rfl hb
          · rw [List.nil_append, hb]; simp
theorem level_ext : ∀ (k : Nat) (m : List Nat), ∀ l a r, atomD k l = some (a, r) → atomD k (l ++ m) = some (a, r ++ m)
  | 0, m, l, a, r, h => atom_ext (f := none) (fun g e => by cases e) h
  | k + 1, m, l, a, r, h => atom_ext (f := some (rowsD k)) (fun g e t p v hg => by
      cases e
      exact rows_ext (level_ext k m) t.length t p (41 :: v) (Nat.le_refl _) hg (.inl (by simp))) h
/-- A pattern in front of a closing bracket. -/
theorem rows_shut {k : Nat} {l : List Nat} {p : Pat} (m : List Nat) (h : rowsD k l = some (p, [])) : rowsD k (l ++ 41 :: m) = some (p, 41 :: m) :=
  rows_ext (level_ext k _) l.length l p [] (Nat.le_refl _) h (.inr rfl)
/-- The rows of two patterns. -/
def altA : Pat → Pat → Pat
  | ⟨true, _, none, k⟩, q => .alt (k rfl true) (altA (k rfl false) q)
  | p, q => .alt p q
theorem M_altA (s : List Nat) : ∀ (p q : Pat) (i j : Nat), M s (altA p q) i j ↔ M s p i j ∨ M s q i j
  | ⟨true, _, none, k⟩, q, i, j => by
    show M s (k rfl true) i j ∨ M s (altA (k rfl false) q) i j ↔ (M s (k rfl true) i j ∨ M s (k rfl false) i j) ∨ M s q i j
    rw [M_altA s (k rfl false) q i j, or_assoc]
  | ⟨false, _, _, _⟩, q, i, j => Iff.rfl
  | ⟨true, _, some _, _⟩, q, i, j => Iff.rfl
def NoAlt : Pat → Prop
  | ⟨true, _, none, _⟩ => False
  | _ => True
theorem row_noAlt {k : Nat} {l r : List Nat} {p : Pat} (h : rowD k l = some (p, r)) : NoAlt p := by
  cases l with
  | nil => rw [row_nil] at h; cases h; trivial
  | cons c t =>
    cases hs : stopN c with
    | true => rw [row_stop k hs] at h; cases h; trivial
    | false =>
      cases hat : atomD k (c :: t) with
      | none => rw [row_bad k hs hat] at h; cases h
      | some y =>
        obtain ⟨a, r1⟩ := y
        cases ho : oftenL (c == 40) r1 with
        | none => rw [row_often k hs hat ho] at h; cases h
        | some z =>
          obtain ⟨lo, hi, r2⟩ := z
          rw [(row_next k hs hat ho).1] at h
          cases hr : rowD k r2 with
          | none => rw [hr] at h; cases h
          | some q => rw [hr] at h; cases h; trivial
theorem altA_no {p q : Pat} (h : NoAlt p) : altA p q = .alt p q := by
  match p, h with
  | ⟨true, _, none, _⟩, h => exact absurd h id
  | ⟨true, _, some _, _⟩, _ => rfl
  | ⟨false, _, _, _⟩, _ => rfl
/-- Two patterns with a bar between. -/
theorem rows_join {k : Nat} {q : List Nat} {y : Pat} (hq : rowsD k q = some (y, [])) : ∀ (n : Nat) (l : List Nat) (p : Pat), l.length ≤ n → rowsD k l = some (p, []) → rowsD k (l ++ 124 :: q) = some (altA p y, [])
  | n, l, p, hn, hx => by
    cases hr : rowD k l with
    | none => rw [rows_none k hr] at hx; cases hx
    | some z =>
      obtain ⟨r1, rest⟩ := z
      have hl := (level_less k).2.1 _ _ _ hr
      have hna := row_noAlt hr
      by_cases e : rest.head? = some 124
      · obtain ⟨v, rfl⟩ : ∃ v, rest = 124 :: v := by
          cases rest with
          | nil => cases e
          | cons c v => exact ⟨v, by rw [Option.some.inj e]⟩
        rw [rows_bar k hr] at hx
        have hr2 := row_ext (m := 124 :: q) (level_ext k _) l.length l r1 (124 :: v) (Nat.le_refl _) hr (.inl (by simp))
        rw [rows_bar k (v := v ++ 124 :: q) hr2]
        rw [List.length_cons] at hl
        cases n with
        | zero => omega
        | succ n =>
          cases hv : rowsD k v with
          | none => rw [hv] at hx; cases hx
          | some w =>
            obtain ⟨rs, r2⟩ := w
            rw [hv] at hx
            cases hx
            rw [rows_join hq n v rs (by omega) hv]
            rfl
      · rw [rows_one k hr e] at hx
        cases hx
        have hr2 := row_ext (m := 124 :: q) (level_ext k _) l.length l p [] (Nat.le_refl _) hr (.inr ⟨124, q, rfl, rfl⟩)
        rw [rows_bar k (v := q) hr2, hq, altA_no hna]
        rfl
/-- A group, read: it holds what is read of it. -/
theorem group_read {k : Nat} {l r : List Nat} {p x : Pat} (g : List Nat) (h : rowsD (k + 1) l = some (p, [])) (hg : atomD (k + 1) (40 :: (l ++ 41 :: g)) = some (x, r)) : x = p ∧ r = g := by
  have e : atomD (k + 1) (40 :: (l ++ 41 :: g)) = (match rowsD k (l ++ 41 :: g) with
      | some (p, 41 :: v) => some (p, v)
      | _ => none) := rfl
  rw [e] at hg
  cases hr : rowsD k (l ++ 41 :: g) with
  | none => rw [hr] at hg; cases hg
  | some y =>
    have h2 := (level_more k).2 _ _ hr
    rw [rows_shut g h] at h2
    obtain rfl := Option.some.inj h2
    rw [hr] at hg
    cases hg
    exact ⟨rfl, rfl⟩

end Go.Proofs.YtncljgpcloanfaaDoor
