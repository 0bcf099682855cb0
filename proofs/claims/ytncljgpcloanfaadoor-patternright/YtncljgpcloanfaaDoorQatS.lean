/- Signs of texts; patterns and what they fit, of texts; the laws of bars, groups and letters; plain facts of no program. No condition. -/
import Derived.Test.YtncljgpcloanfaaDoorJoined
import Derived.Test.YtncljgpcloanfaaDoorQatX
namespace Go.Proofs.YtncljgpcloanfaaDoor
open Go.RowKit Go.Lib

/-- The signs of a text; a byte that begins none is FFFD. -/
def signsF : Nat → List UInt8 → List Nat
  | 0, _ => []
  | f + 1, l => if l = [] then [] else (decodeL l).1 :: signsF f (l.drop (decodeL l).2)
def signsL (l : List UInt8) : List Nat := signsF l.length l
theorem signsF_nil : ∀ n, signsF n [] = []
  | 0 => rfl
  | _ + 1 => by simp [signsF]
theorem signsF_fuel : ∀ (n m : Nat) (l : List UInt8), l.length ≤ n → l.length ≤ m → signsF n l = signsF m l
  | 0, m, l, hn, _ => by
    have : l = [] := List.eq_nil_of_length_eq_zero (by omega)
    subst this; rw [signsF_nil, signsF_nil]
  | n + 1, 0, l, _, hm => by
    have : l = [] := List.eq_nil_of_length_eq_zero (by omega)
    subst this; rw [signsF_nil, signsF_nil]
  | n + 1, m + 1, l, hn, hm => by
    unfold signsF
    by_cases hne : l = []
    · simp [hne]
    · have hw := decodeL_width l
      rw [if_neg hne, if_neg hne, signsF_fuel n m (l.drop (decodeL l).2) (by rw [List.length_drop]; omega) (by rw [List.length_drop]; omega)]
theorem signs_nil : signsL [] = [] := rfl
theorem signs_step (l : List UInt8) (hne : l ≠ []) : signsL l = (decodeL l).1 :: signsL (l.drop (decodeL l).2) := by
  have hl : 0 < l.length := List.length_pos_iff.2 hne
  have hw := decodeL_width l
  obtain ⟨n, hn⟩ : ∃ n, l.length = n + 1 := ⟨l.length - 1, by omega⟩
  unfold signsL
  rw [hn]
  show (if l = [] then [] else _) = _
  rw [if_neg hne, signsF_fuel n (l.drop (decodeL l).2).length _ (by rw [List.length_drop]; omega) (Nat.le_refl _)]
theorem signs_cons (c : UInt8) (t : List UInt8) (h : c.toNat < 128) : signsL (c :: t) = c.toNat :: signsL t := by
  rw [signs_step _ (by simp), decodeL_ascii c t h]; rfl
theorem signs_app (b : List UInt8) : ∀ (n : Nat) (a : List UInt8), a.length ≤ n → validD a = true → signsL (a ++ b) = signsL a ++ signsL b
  | 0, a, h, _ => by
    have : a = [] := List.eq_nil_of_length_eq_zero (by omega)
    subst this; rfl
  | n + 1, a, h, hv => by
    by_cases hne : a = []
    · subst hne; rfl
    · have hne' : a ++ b ≠ [] := by simp [hne]
      rw [validD_step a hne] at hv
      split at hv
      · cases hv
      · rename_i ok
        have hle := decodeL_le a hne
        have hw := decodeL_width a
        have e := decodeL_ext a b hne ok
        rw [signs_step (a ++ b) hne', signs_step a hne, e, List.drop_append_of_le_length hle, signs_app b n (a.drop (decodeL a).2) (by rw [List.length_drop]; omega) hv]
        rfl
theorem signs_len : ∀ (n : Nat) (l : List UInt8), l.length ≤ n → (signsL l).length ≤ l.length
  | 0, l, h => by
    have : l = [] := List.eq_nil_of_length_eq_zero (by omega)
    subst this; exact Nat.le_refl _
  | n + 1, l, h => by
    by_cases hne : l = []
    · subst hne; exact Nat.le_refl _
    · have hw := decodeL_width l
      have hl : 0 < l.length := List.length_pos_iff.2 hne
      have ih := signs_len n (l.drop (decodeL l).2) (by rw [List.length_drop]; omega)
      rw [signs_step l hne, List.length_cons]
      rw [List.length_drop] at ih
      omega
theorem signs_empty {l : List UInt8} : signsL l = [] ↔ l = [] := by
  constructor
  · intro h
    by_cases hne : l = []
    · exact hne
    · rw [signs_step l hne] at h; cases h
  · rintro rfl; rfl

/-- The pattern that a text is. -/
def patOf (p : List UInt8) : Option Pat :=
  match rowsD 8 (signsL p) with
  | some (x, []) => some x
  | _ => none
theorem patOf_some {p : List UInt8} {x : Pat} : patOf p = some x ↔ rowsD 8 (signsL p) = some (x, []) := by
  unfold patOf
  cases h : rowsD 8 (signsL p) with
  | none => simp
  | some y =>
    obtain ⟨q, r⟩ := y
    cases r with
    | nil => simp
    | cons => simp
def rightL (p : List UInt8) : Bool := decide (p.length ≤ 200) && (validD p && (patOf p).isSome)
theorem right_iff {p : List UInt8} : rightL p = true ↔ p.length ≤ 200 ∧ validD p = true ∧ ∃ x, patOf p = some x := by
  unfold rightL
  rw [Bool.and_eq_true, Bool.and_eq_true, decide_eq_true_eq, Option.isSome_iff_exists]
def startB (n : Nat) : List Bool := true :: List.replicate n false
def fitB (x : Pat) (s : List Nat) : Bool := (ends s x (startB s.length)).getD s.length false
theorem start_on (n i : Nat) : onB (startB n) i ↔ i = 0 := by
  unfold onB startB
  cases i with
  | zero => simp
  | succ i =>
    simp only [List.getD_cons_succ, Nat.add_one_ne_zero, iff_false]
    by_cases h : i < n
    · simp [List.getD, h]
    · simp [List.getD, h]
theorem fit_iff (x : Pat) (s : List Nat) : fitB x s = true ↔ M s x 0 s.length := by
  have h := (ends_steps s x).on (startB s.length) (by simp [startB]) s.length
  show onB _ _ ↔ _
  rw [h]
  constructor
  · rintro ⟨i, hi, hm⟩
    rw [start_on] at hi
    subst hi; exact hm
  · exact fun hm => ⟨0, (start_on _ _).2 rfl, hm⟩
def patD (p : List UInt8) : Pat := (patOf p).getD .eps
/-- What Fits answers: whether, and the error's number. -/
def fitsV (p s : List UInt8) : Bool × Int := if rightL p then (if 4000 < s.length then (false, 2) else (fitB (patD p) (signsL s), 0)) else (false, 1)
theorem patD_of {p : List UInt8} {x : Pat} (h : patOf p = some x) : patD p = x := by unfold patD; rw [h]; rfl

/-- Two patterns with a bar between. -/
theorem bars_right {p q : List UInt8} (hp : rightL p = true) (hq : rightL q = true) (h : p.length + q.length ≤ 199) : rightL (p ++ 124 :: q) = true ∧ ∀ s, fitB (patD (p ++ 124 :: q)) s = (fitB (patD p) s || fitB (patD q) s) := by
  obtain ⟨p1, p2, x, p3⟩ := right_iff.1 hp
  obtain ⟨q1, q2, y, q3⟩ := right_iff.1 hq
  have e : patOf (p ++ 124 :: q) = some (altA x y) := by
    rw [patOf_some, signs_app _ _ p (Nat.le_refl _) p2, signs_cons 124 q (by decide)]
    exact rows_join (patOf_some.1 q3) _ _ x (Nat.le_refl _) (patOf_some.1 p3)
  refine ⟨right_iff.2 ⟨by simp; omega, ?_, _, e⟩, fun s => ?_⟩
  · rw [(joined_L _ _ p (Nat.le_refl _) p2).2, validD_cons 124 q (by decide)]; exact q2
  · rw [patD_of e, patD_of p3, patD_of q3, Bool.eq_iff_iff, Bool.or_eq_true, fit_iff, fit_iff, fit_iff, M_altA]
theorem M_once (s : List Nat) (x : Pat) (i j : Nat) : M s (.piece x 1 (some 1) .eps) i j ↔ M s x i j := by
  constructor
  · rintro ⟨n, m, h1, h2, h3, h4⟩
    have := h2 1 rfl
    obtain rfl : n = 1 := by omega
    obtain ⟨q, h5, h6⟩ := h3
    have e1 : q = m := h6
    have e2 : m = j := h4
    subst e1 e2; exact h5
  · intro h
    exact ⟨1, j, Nat.le_refl _, (fun h e => by cases e; omega), ⟨j, h, rfl⟩, rfl⟩
theorem M_maybe (s : List Nat) (x : Pat) (i j : Nat) : M s (.piece x 0 (some 1) .eps) i j ↔ i = j ∨ M s x i j := by
  constructor
  · rintro ⟨n, m, h1, h2, h3, h4⟩
    have hn := h2 1 rfl
    have e2 : m = j := h4
    subst e2
    rcases (show n = 0 ∨ n = 1 by omega) with rfl | rfl
    · exact .inl h3
    · obtain ⟨q, h5, h6⟩ := h3
      have e1 : q = m := h6
      subst e1; exact .inr h5
  · rintro (rfl | h)
    · exact ⟨0, i, Nat.le_refl _, (fun h e => by cases e; omega), rfl, rfl⟩
    · exact ⟨1, j, Nat.zero_le _, (fun h e => by cases e; omega), ⟨j, h, rfl⟩, rfl⟩
/-- A group, with what stands behind it. -/
theorem group_of {p : List UInt8} {x : Pat} (hp : rowsD 8 (signsL p) = some (x, [])) (g : List Nat) {a : Pat} {r : List Nat} (ha : atomD 8 (40 :: (signsL p ++ 41 :: g)) = some (a, r)) : a = x ∧ r = g := group_read (k := 7) g hp ha
theorem signs_group {p : List UInt8} (hv : validD p = true) (g : List UInt8) (hg : ∀ c ∈ g, c.toNat < 128) : signsL (40 :: (p ++ 41 :: g)) = 40 :: (signsL p ++ 41 :: g.map (·.toNat)) := by
  rw [signs_cons 40 _ (by decide), signs_app _ _ p (Nat.le_refl _) hv, signs_cons 41 g (by decide)]
  have : ∀ g : List UInt8, (∀ c ∈ g, c.toNat < 128) → signsL g = g.map (·.toNat) := by
    intro g
    induction g with
    | nil => intro _; rfl
    | cons c t ih =>
      intro h
      rw [signs_cons c t (h c (by simp)), ih (fun d hd => h d (by simp [hd]))]; rfl
  rw [this g hg]
  rfl
theorem row_group {x : Pat} {l g : List Nat} (ha : atomD 8 (40 :: l) = some (x, g)) {lo : Nat} {hi : Option Nat} (ho : oftenL true g = some (lo, hi, [])) : rowsD 8 (40 :: l) = some (.piece x lo hi .eps, []) := by
  have h := (row_next 8 (c := 40) (t := l) rfl ha (r2 := []) (lo := lo) (hi := hi) ho).1
  rw [row_nil] at h
  exact rows_one 8 h (by simp)
theorem valid_group {p : List UInt8} (hv : validD p = true) (g : List UInt8) (hg : ∀ c ∈ g, c.toNat < 128) : validD (40 :: (p ++ 41 :: g)) = true := by
  rw [validD_cons 40 _ (by decide), (joined_L _ _ p (Nat.le_refl _) hv).2, validD_cons 41 g (by decide), validD_ascii g.length g (fun b hb => hg b (List.mem_of_mem_take hb)), List.drop_length]
  rfl
/-- A group fits what it holds; with ? nothing, too. -/
theorem groups_right {p : List UInt8} (hp : rightL p = true) (hg : rightL (40 :: (p ++ [41])) = true) (h : p.length ≤ 190) : rightL (40 :: (p ++ [41, 63])) = true ∧
    ∀ s, fitB (patD (40 :: (p ++ [41]))) s = fitB (patD p) s ∧ fitB (patD (40 :: (p ++ [41, 63]))) s = (fitB (patD p) s || s.isEmpty) := by
  obtain ⟨p1, p2, x, p3⟩ := right_iff.1 hp
  obtain ⟨g1, g2, y, g3⟩ := right_iff.1 hg
  have p3' := patOf_some.1 p3
  have g3' := patOf_some.1 g3
  rw [signs_group p2 [] (by simp)] at g3'
  -- the atom
  obtain ⟨a, r, hat⟩ : ∃ a r, atomD 8 (40 :: (signsL p ++ 41 :: [])) = some (a, r) := by
    cases ha : atomD 8 (40 :: (signsL p ++ 41 :: [])) with
    | some z => exact ⟨z.1, z.2, rfl⟩
    | none =>
      have := rows_none 8 (row_bad 8 (c := 40) rfl ha)
      rw [show ([] : List UInt8).map (·.toNat) = ([] : List Nat) from rfl, this] at g3'
      cases g3'
  obtain ⟨rfl, rfl⟩ := group_of p3' [] hat
  have hat2 : atomD 8 (40 :: (signsL p ++ 41 :: [63])) = some (a, [63]) := by
    have := level_ext 8 [63] _ _ _ hat
    rw [List.cons_append, List.append_assoc] at this
    exact this
  have e1 : patOf (40 :: (p ++ [41])) = some (.piece a 1 (some 1) .eps) := by
    rw [patOf_some, signs_group p2 [] (by simp)]
    exact row_group hat rfl
  have e2 : patOf (40 :: (p ++ [41, 63])) = some (.piece a 0 (some 1) .eps) := by
    rw [patOf_some, signs_group p2 [63] (by decide)]
    exact row_group hat2 rfl
  refine ⟨right_iff.2 ⟨by simp; omega, valid_group p2 [63] (by decide), _, e2⟩, fun s => ⟨?_, ?_⟩⟩
  · rw [patD_of e1, patD_of p3, Bool.eq_iff_iff, fit_iff, fit_iff, M_once]
  · rw [patD_of e2, patD_of p3, Bool.eq_iff_iff, Bool.or_eq_true, fit_iff, fit_iff, M_maybe]
    constructor
    · rintro (h | h)
      · exact .inr (by cases s with
          | nil => rfl
          | cons => cases h)
      · exact .inl h
    · rintro (h | h)
      · exact .inr h
      · exact .inl (by cases s with
          | nil => rfl
          | cons => cases h)

end Go.Proofs.YtncljgpcloanfaaDoor
