/- What is left behind what was read is the end of what was there; plain facts of no program. No condition. -/
import Derived.Test.YtncljgpcloanfaaDoorQatX
namespace Go.Proofs.YtncljgpcloanfaaDoor

def Suf (f : List Nat → Rd) : Prop := ∀ l p r, f l = some (p, r) → r <:+ l
theorem behind_suf {l : List Nat} {k : Bool} {a : Nat} {r : List Nat} (h : behindL l = some (k, a, r)) : r <:+ l := by
  unfold behindL at h
  split at h
  · cases h
  · split at h
    · cases h
    · split at h
      · split at h
        · cases h
        · split at h
          · cases h; exact (List.suffix_cons _ _).trans (List.suffix_cons _ _)
          · cases h
      · cases h; exact List.suffix_cons _ _
theorem item_suf {l : List Nat} {i : Item} {r : List Nat} (h : itemL l = some (i, r)) : r <:+ l := by
  unfold itemL at h
  split at h
  · cases h
  · rename_i k a v hb
    have h1 := behind_suf hb
    split at h
    · cases h
    · rename_i k2 b r2 hb2
      have h2 := behind_suf hb2
      split at h
      · cases h
      · cases h
        exact (h2.trans (List.suffix_cons _ _)).trans h1
  · rename_i k a r2 hb
    cases h
    exact behind_suf hb
theorem items_suf : ∀ {n : Nat} {l : List Nat} {is : List Item} {r : List Nat}, itemsF n l = some (is, r) → r <:+ l
  | 0, _, _, _, h => by cases h
  | _ + 1, [], _, _, h => by cases h
  | n + 1, c :: t, is, r, h => by
    unfold itemsF at h
    split at h
    · cases h; exact List.suffix_cons _ _
    · split at h
      · cases h
      · rename_i i r1 hi
        have h1 := item_suf hi
        split at h
        · cases h
        · rename_i is2 r2 h2
          have h3 := items_suf h2
          cases h
          exact h3.trans h1
theorem cls_suf {neg : Bool} {l : List Nat} {p : Pat} {r : List Nat} (h : clsL neg l = some (p, r)) : r <:+ l := by
  unfold clsL at h
  split at h
  · cases h
  · rename_i i r1 hi
    have h1 := item_suf hi
    split at h
    · cases h
    · rename_i is r2 h2
      have h3 := items_suf h2
      cases h
      exact h3.trans h1
theorem atom_suf {f : Option (List Nat → Rd)} (hf : ∀ g, f = some g → Suf g) : Suf (atomL f) := by
  intro l p r h
  unfold atomL at h
  split at h
  · cases h
  · rename_i c t
    split at h
    · unfold clsAt at h
      split at h
      · cases h
      · split at h
        · exact ((cls_suf h).trans (List.suffix_cons _ _)).trans (List.suffix_cons _ _)
        · exact (cls_suf h).trans (List.suffix_cons _ _)
    · split at h
      · split at h
        · cases h
        · rename_i g
          split at h
          · rename_i p2 v hg
            have := hf g rfl _ _ _ hg
            cases h
            exact ((List.suffix_cons _ _).trans this).trans (List.suffix_cons _ _)
          · cases h
      · split at h
        · split at h
          · cases h
          · split at h
            · cases h; exact (List.suffix_cons _ _).trans (List.suffix_cons _ _)
            · cases h
        · split at h
          · cases h
          · split at h
            · cases h; exact List.suffix_cons _ _
            · cases h; exact List.suffix_cons _ _
theorem digs_suf (l : List Nat) : (digsL l).2.2 <:+ l := by
  unfold digsL
  split
  · exact List.suffix_refl _
  · split
    · split
      · exact List.suffix_cons _ _
      · split
        · exact (List.suffix_cons _ _).trans (List.suffix_cons _ _)
        · exact List.suffix_cons _ _
    · exact List.suffix_refl _
theorem often_suf {g : Bool} {l : List Nat} {lo : Nat} {hi : Option Nat} {r : List Nat} (h : oftenL g l = some (lo, hi, r)) : r <:+ l := by
  unfold oftenL at h
  split at h
  · cases h; exact List.suffix_refl _
  · rename_i c t
    have h1 := digs_suf t
    split at h
    · cases h; exact List.suffix_cons _ _
    · split at h
      · cases h; exact List.suffix_cons _ _
      · split at h
        · cases h; exact List.suffix_cons _ _
        · split at h
          · split at h
            · cases h
            · split at h
              · cases h
              · split at h
                · cases h
                · rename_i x v hx
                  have h2 := digs_suf v
                  rw [hx] at h1
                  have h1' := ((List.suffix_cons x v).trans h1).trans (List.suffix_cons c t)
                  split at h
                  · cases h; exact h1'
                  · split at h
                    · split at h
                      · cases h
                      · rename_i y z hy
                        rw [hy] at h2
                        have h2' := ((List.suffix_cons y z).trans h2).trans h1'
                        split at h
                        · split at h
                          · cases h; exact h2'
                          · split at h
                            · cases h
                            · cases h; exact h2'
                        · cases h
                    · cases h
          · cases h; exact List.suffix_refl _
theorem row_sufF {atom : List Nat → Rd} (ha : Suf atom) : ∀ {n : Nat} {l : List Nat} {p : Pat} {r : List Nat}, rowF atom n l = some (p, r) → r <:+ l
  | 0, _, _, _, h => by cases h
  | _ + 1, [], _, _, h => by unfold rowF at h; cases h; exact List.suffix_refl _
  | n + 1, c :: t, p, r, h => by
    unfold rowF at h
    split at h
    · cases h; exact List.suffix_refl _
    · split at h
      · cases h
      · rename_i a r1 hat
        have h1 := ha _ _ _ hat
        split at h
        · cases h
        · rename_i lo hi r2 ho
          have h2 := often_suf ho
          split at h
          · cases h
          · rename_i row r3 hr
            have h3 := row_sufF ha hr
            cases h
            exact (h3.trans h2).trans h1
theorem rows_sufF {row : List Nat → Rd} (ha : Suf row) : ∀ {n : Nat} {l : List Nat} {p : Pat} {r : List Nat}, rowsF row n l = some (p, r) → r <:+ l
  | 0, _, _, _, h => by cases h
  | n + 1, l, p, r, h => by
    unfold rowsF at h
    split at h
    · cases h
    · rename_i r1 v hr
      have h1 := ha _ _ _ hr
      split at h
      · cases h
      · rename_i rs r2 h2
        have h3 := rows_sufF ha h2
        cases h
        exact (h3.trans (List.suffix_cons _ _)).trans h1
    · rename_i r1 rest hn hr
      have h1 := ha _ _ _ hr
      cases h
      exact h1
theorem level_suf : ∀ k, Suf (atomD k) ∧ Suf (rowD k) ∧ Suf (rowsD k)
  | 0 => by
    have h1 : Suf (atomD 0) := atom_suf (f := none) (fun g h => by cases h)
    have h2 : Suf (rowD 0) := fun _ _ _ h => row_sufF h1 h
    exact ⟨h1, h2, by rw [rowsD_is]; exact fun _ _ _ h => rows_sufF h2 h⟩
  | k + 1 => by
    have ih := (level_suf k).2.2
    have h1 : Suf (atomD (k + 1)) := atom_suf (f := some (rowsD k)) (fun g h => by cases h; exact ih)
    have h2 : Suf (rowD (k + 1)) := fun _ _ _ h => row_sufF h1 h
    exact ⟨h1, h2, by rw [rowsD_is]; exact fun _ _ _ h => rows_sufF h2 h⟩
/-- The place behind: a number of the whole list. -/
theorem suf_drop {l r : List Nat} {k : Nat} (hk : k ≤ l.length) (h : r <:+ l.drop k) : ∃ n, k ≤ n ∧ n ≤ l.length ∧ r = l.drop n := by
  have e := List.suffix_iff_eq_drop.1 h
  have hl := h.length_le
  rw [List.length_drop] at hl e
  refine ⟨l.length - r.length, by omega, by omega, ?_⟩
  rw [List.drop_drop] at e
  rw [show k + (l.length - k - r.length) = l.length - r.length by omega] at e
  exact e

end Go.Proofs.YtncljgpcloanfaaDoor
