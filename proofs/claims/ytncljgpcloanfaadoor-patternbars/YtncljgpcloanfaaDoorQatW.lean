/- Patterns that are laid behind one another, with bars between, in groups: how they are read; what letters and digits fit; plain facts of no program. No condition. -/
import Derived.Test.YtncljgpcloanfaaDoorQatM
namespace Go.Proofs.YtncljgpcloanfaaDoor

/-- More groups within one another may stand: nothing that is read is read otherwise. -/
def More (f g : List Nat → Rd) : Prop := ∀ l x, f l = some x → g l = some x
theorem atom_more {f g : Option (List Nat → Rd)} (h : ∀ a, f = some a → ∃ b, g = some b ∧ More a b) : More (atomL f) (atomL g) := by
  intro l x hx
  unfold atomL at hx ⊢
  split at hx
  · cases hx
  · rename_i c t
    split at hx
    · rename_i h1
      rw [if_pos h1]
      exact hx
    · rename_i h1
      rw [if_neg h1]
      split at hx
      · rename_i h2
        rw [if_pos h2]
        split at hx
        · cases hx
        · rename_i a
          obtain ⟨b, e, m⟩ := h a rfl
          rw [e]
          split at hx
          · rename_i p v hf
            simp only [m _ _ hf]
            exact hx
          · cases hx
      · rename_i h2
        rw [if_neg h2]
        exact hx
theorem row_more {k j : Nat} (h : More (atomD k) (atomD j)) : ∀ (n : Nat) (l : List Nat) x, l.length ≤ n → rowD k l = some x → rowD j l = some x
  | _, [], x, _, hx => by rw [row_nil] at hx ⊢; exact hx
  | 0, c :: t, _, hn, _ => by simp at hn
  | n + 1, c :: t, x, hn, hx => by
    cases hs : stopN c with
    | true => rw [row_stop k hs] at hx; rw [row_stop j hs]; exact hx
    | false =>
      cases ha : atomD k (c :: t) with
      | none => rw [row_bad k hs ha] at hx; cases hx
      | some y =>
        obtain ⟨a, r1⟩ := y
        cases ho : oftenL (c == 40) r1 with
        | none => rw [row_often k hs ha ho] at hx; cases hx
        | some z =>
          obtain ⟨lo, hi, r2⟩ := z
          obtain ⟨e1, l1⟩ := row_next k hs ha ho
          obtain ⟨e2, _⟩ := row_next j hs (h _ _ ha) ho
          rw [e1] at hx
          rw [e2]
          cases hr : rowD k r2 with
          | none => rw [hr] at hx; cases hx
          | some q =>
            rw [row_more h n r2 q (by rw [List.length_cons] at l1 hn; omega) hr]
            rw [hr] at hx; exact hx
theorem rows_more {k j : Nat} (h : More (rowD k) (rowD j)) : ∀ (n : Nat) (l : List Nat) x, l.length ≤ n → rowsD k l = some x → rowsD j l = some x
  | n, l, x, hn, hx => by
    cases hr : rowD k l with
    | none => rw [rows_none k hr] at hx; cases hx
    | some y =>
      obtain ⟨r, rest⟩ := y
      have hj := h _ _ hr
      have hl := (level_less k).2.1 _ _ _ hr
      by_cases e : rest.head? = some 124
      · obtain ⟨v, rfl⟩ : ∃ v, rest = 124 :: v := by
          cases rest with
          | nil => cases e
          | cons c v => exact ⟨v, by rw [Option.some.inj e]⟩
        rw [rows_bar k hr] at hx
        rw [rows_bar j hj]
        rw [List.length_cons] at hl
        cases n with
        | zero => omega
        | succ n =>
          cases hv : rowsD k v with
          | none => rw [hv] at hx; cases hx
          | some q =>
            rw [rows_more h n v q (by omega) hv]
            rw [hv] at hx; exact hx
      · rw [rows_one k hr e] at hx
        rw [rows_one j hj e]; exact hx
theorem level_more : ∀ k, More (atomD k) (atomD (k + 1)) ∧ More (rowsD k) (rowsD (k + 1))
  | 0 => by
    have h1 : More (atomD 0) (atomD 1) := atom_more (f := none) (g := some (rowsD 0)) (fun a h => by cases h)
    have h2 : More (rowD 0) (rowD 1) := fun l x hx => row_more h1 l.length l x (Nat.le_refl _) hx
    exact ⟨h1, fun l x hx => rows_more h2 l.length l x (Nat.le_refl _) hx⟩
  | k + 1 => by
    have ih := (level_more k).2
    have h1 : More (atomD (k + 1)) (atomD (k + 2)) := atom_more (f := some (rowsD k)) (g := some (rowsD (k + 1))) (fun a h => by cases h; exact ⟨_, rfl, ih⟩)
    have h2 : More (rowD (k + 1)) (rowD (k + 2)) := fun l x hx => row_more h1 l.length l x (Nat.le_refl _) hx
    exact ⟨h1, fun l x hx => rows_more h2 l.length l x (Nat.le_refl _) hx⟩
theorem level_up (k : Nat) : ∀ j, More (atomD k) (atomD (k + j)) ∧ More (rowsD k) (rowsD (k + j))
  | 0 => ⟨fun _ _ h => h, fun _ _ h => h⟩
  | j + 1 => ⟨fun l x h => (level_more (k + j)).1 l x ((level_up k j).1 l x h), fun l x h => (level_more (k + j)).2 l x ((level_up k j).2 l x h)⟩
theorem row_up (k j : Nat) : More (rowD k) (rowD (k + j)) := fun l x h => row_more (level_up k j).1 l.length l x (Nat.le_refl _) h

/-- What stands behind what was read does not turn it. -/
theorem behind_ext {l m r : List Nat} {k : Bool} {a : Nat} (h : behindL l = some (k, a, r)) : behindL (l ++ m) = some (k, a, r ++ m) := by
  unfold behindL at h
  split at h
  · cases h
  · rename_i c t
    show behindL (c :: (t ++ m)) = _
    unfold behindL
    split at h
    · cases h
    · rename_i h1
      simp only
      rw [if_neg h1]
      split at h
      · rename_i h2
        rw [if_pos h2]
        split at h
        · cases h
        · rename_i d v
          split at h
          · rename_i h3
            cases h
            show (if inN escClsN a then some (inN dwsN a, a, r ++ m) else none) = _
            rw [if_pos h3]
          · cases h
      · rename_i h2
        rw [if_neg h2]
        cases h; rfl
theorem item_dash {l v : List Nat} {k : Bool} {a : Nat} (h : behindL l = some (k, a, 45 :: v)) : itemL l = match behindL v with
      | none => none
      | some (k2, b, r) => if k || (k2 || decide (b < a)) then none else some (.span a b, r) := by
  unfold itemL
  rw [h]
  rfl
theorem item_one {l r : List Nat} {k : Bool} {a : Nat} (h : behindL l = some (k, a, r)) (hn : r.head? ≠ some 45) : itemL l = some (if k then .kind a else .span a a, r) := by
  unfold itemL
  rw [h]
  cases r with
  | nil => rfl
  | cons c v =>
    have : ¬ c = 45 := fun e => hn (by rw [e]; rfl)
    simp [this]
theorem item_ext {l m r : List Nat} {i : Item} (h : itemL l = some (i, r)) (hr : r ≠ []) : itemL (l ++ m) = some (i, r ++ m) := by
  cases hb : behindL l with
  | none => unfold itemL at h; rw [hb] at h; cases h
  | some x =>
    obtain ⟨k, a, r1⟩ := x
    have hb2 := behind_ext (m := m) hb
    by_cases e : r1.head? = some 45
    · obtain ⟨v, rfl⟩ : ∃ v, r1 = 45 :: v := by
        cases r1 with
        | nil => cases e
        | cons c v => exact ⟨v, by rw [Option.some.inj e]⟩
      rw [item_dash hb] at h
      rw [item_dash (v := v ++ m) hb2]
      cases hv : behindL v with
      | none => rw [hv] at h; cases h
      | some y =>
        obtain ⟨k2, b, r2⟩ := y
        rw [hv] at h
        rw [behind_ext (m := m) hv]
        simp only at h ⊢
        split at h
        · cases h
        · rename_i h2
          cases h
          rw [if_neg h2]
    · rw [item_one hb e] at h
      cases h
      refine item_one hb2 ?_
      cases r with
      | nil => exact absurd rfl hr
      | cons c v => exact e
theorem items_ext {m : List Nat} : ∀ {n : Nat} {l : List Nat} {is : List Item} {r : List Nat}, itemsF n l = some (is, r) → ∀ q, (l ++ m).length < q → itemsF q (l ++ m) = some (is, r ++ m)
  | 0, _, _, _, h, _, _ => by cases h
  | _ + 1, [], _, _, h, _, _ => by cases h
  | n + 1, c :: t, is, r, h, 0, hq => by omega
  | n + 1, c :: t, is, r, h, q + 1, hq => by
    show itemsF (q + 1) (c :: (t ++ m)) = _
    unfold itemsF at h ⊢
    split at h
    · rename_i h1
      rw [if_pos h1]
      cases h; rfl
    · rename_i h1
      rw [if_neg h1]
      split at h
      · cases h
      · rename_i i r1 hi
        have hl := item_less hi
        have hr1 : r1 ≠ [] := by
          rintro rfl
          cases n with
          | zero => simp [itemsF] at h
          | succ n => simp [itemsF] at h
        have hie : itemL (c :: (t ++ m)) = some (i, r1 ++ m) := item_ext (m := m) hi hr1
        split at h
        · cases h
        · rename_i is2 r2 h2
          cases h
          rw [hie]
          simp only
          rw [items_ext h2 q (by rw [List.length_append] at hq ⊢; rw [List.length_cons] at hq hl; omega)]
theorem cls_ext {neg : Bool} {l m r : List Nat} {p : Pat} (h : clsL neg l = some (p, r)) : clsL neg (l ++ m) = some (p, r ++ m) := by
  unfold clsL at h ⊢
  split at h
  · cases h
  · rename_i i r1 hi
    split at h
    · cases h
    · rename_i is r2 h2
      have hr1 : r1 ≠ [] := by
        rintro rfl
        simp [itemsF] at h2
      cases h
      rw [item_ext (m := m) hi hr1]
      simp only
      rw [items_ext h2 _ (Nat.lt_succ_self _)]
theorem digs_ext {l m : List Nat} (h : (digsL l).2.2 ≠ []) : digsL (l ++ m) = ((digsL l).1, (digsL l).2.1, (digsL l).2.2 ++ m) := by
  cases l with
  | nil => exact absurd rfl h
  | cons a t =>
    rw [List.cons_append]
    cases h1 : isDN a with
    | false => simp [digsL, h1]
    | true =>
      cases t with
      | nil => simp [digsL, h1] at h
      | cons b r => cases h2 : isDN b <;> simp [digsL, h1, h2]
theorem often_ext {g : Bool} {l m r : List Nat} {lo : Nat} {hi : Option Nat} (h : oftenL g l = some (lo, hi, r)) (hn : l ≠ []) : oftenL g (l ++ m) = some (lo, hi, r ++ m) := by
  cases l with
  | nil => exact absurd rfl hn
  | cons c t =>
    rw [List.cons_append]
    unfold oftenL at h ⊢
    simp only at h ⊢
    split at h
    · rename_i h1; rw [if_pos h1]; cases h; rfl
    · rename_i h1
      rw [if_neg h1]
      split at h
      · rename_i h2; rw [if_pos h2]; cases h; rfl
      · rename_i h2
        rw [if_neg h2]
        split at h
        · rename_i h3; rw [if_pos h3]; cases h; rfl
        · rename_i h3
          rw [if_neg h3]
          split at h
          · rename_i h4
            rw [if_pos h4]
            split at h
            · cases h
            · rename_i h5
              rw [if_neg h5]
              split at h
              · cases h
              · rename_i h6
                split at h
                · cases h
                · rename_i x v hx
                  have e1 := digs_ext (l := t) (m := m) (by rw [hx]; simp)
                  rw [e1, hx, List.cons_append]
                  simp only
                  rw [if_neg h6]
                  split at h
                  · rename_i h7; rw [if_pos h7]; cases h; rfl
                  · rename_i h7
                    rw [if_neg h7]
                    split at h
                    · rename_i h8
                      rw [if_pos h8]
                      split at h
                      · cases h
                      · rename_i y z hy
                        have e2 := digs_ext (l := v) (m := m) (by rw [hy]; simp)
                        rw [e2, hy, List.cons_append]
                        simp only
                        split at h
                        · rename_i h9
                          rw [if_pos h9]
                          split at h
                          · rename_i h10; rw [if_pos h10]; cases h; rfl
                          · rename_i h10
                            rw [if_neg h10]
                            split at h
                            · cases h
                            · rename_i h11; rw [if_neg h11]; cases h; rfl
                        · cases h
                    · cases h
          · rename_i h4; rw [if_neg h4]; cases h; rfl
theorem often_stop {g : Bool} {m : List Nat} {c : Nat} {t : List Nat} (hm : m = c :: t) (h : stopN c = true) : oftenL g m = some (1, some 1, m) := by
  subst hm
  have : c = 124 ∨ c = 41 := by
    unfold stopN at h
    rw [Bool.or_eq_true, beq_iff_eq, beq_iff_eq] at h
    exact h
  unfold oftenL
  rcases this with rfl | rfl <;> rfl

end Go.Proofs.YtncljgpcloanfaaDoor
