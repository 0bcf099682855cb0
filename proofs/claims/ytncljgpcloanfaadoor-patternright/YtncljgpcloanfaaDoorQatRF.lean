/- The document's oneRow of layer 9: where a row ends, over all places where it may begin; what lay in the world lies there still. Condition: the atoms from the place on are walked already (OnceAt). -/
import Derived.Test.YtncljgpcloanfaaDoorQatRE
namespace Go.Proofs.YtncljgpcloanfaaDoor
open Go.RowKit

def RowAt (g cap : Nat) (l : List Nat) (sv : Value) (ls : List Nat) (a : Nat) : Prop := ∀ (k : Nat) (y : Pat) (r : List Nat) (fr : List Bool) (gf cf : Nat) (w : World), k ≤ 8 → rowD k (l.drop a) = some (y, r) → a ≤ l.length → Here g l sv ls w gf fr →
    Calls Tryd.prog 31 #[rowV g cap l, .int .i64 (a : Int), sv, bolV gf cf fr] w (Tells w (ends ls y fr))
theorem row_open {k a : Nat} {l r : List Nat} {y : Pat} (h : a < l.length) (hs : stopN l[a] = false) (hy : rowD k (l.drop a) = some (y, r)) : ∃ x n lo hi m y', a < n ∧ n ≤ l.length ∧ atomD k (l.drop a) = some (x, l.drop n) ∧ n ≤ m ∧ m ≤ l.length ∧ oftenL (l[a] == 40) (l.drop n) = some (lo, hi, l.drop m) ∧ rowD k (l.drop m) = some (y', r) ∧ y = .piece x lo hi y' := by
  have hd := dropN h
  cases ha : atomD k (l.drop a) with
  | none => rw [hd] at ha hy; rw [row_bad k hs ha] at hy; cases hy
  | some z =>
    obtain ⟨x, r1⟩ := z
    have hsu := (level_suf k).1 _ _ _ ha
    have hle := (level_less k).1 _ _ _ ha
    obtain ⟨n, n1, n2, rfl⟩ := suf_drop (by omega) hsu
    have hn : a < n := by rw [List.length_drop, List.length_drop] at hle; omega
    have ha2 := ha
    rw [hd] at ha2
    cases ho : oftenL (l[a] == 40) (l.drop n) with
    | none => rw [hd, row_often k hs ha2 ho] at hy; cases hy
    | some q =>
      obtain ⟨lo, hi, r2⟩ := q
      obtain ⟨m, m1, m2, rfl⟩ := suf_drop n2 (often_suf ho)
      have e := (row_next k hs ha2 ho).1
      rw [hd, e] at hy
      cases hr : rowD k (l.drop m) with
      | none => rw [hr] at hy; cases hy
      | some t =>
        obtain ⟨y', r3⟩ := t
        rw [hr] at hy
        have h4 := Prod.mk.inj (Option.some.inj hy)
        have h5 : r3 = r := h4.2
        subst h5
        exact ⟨x, n, lo, hi, m, y', hn, n2, rfl, m1, m2, ho, hr, h4.1.symm⟩
theorem often_ok {g : Bool} {l r : List Nat} {lo h : Nat} (e : oftenL g l = some (lo, some h, r)) : lo ≤ h := by
  unfold oftenL at e
  split at e
  · cases e; omega
  · split at e
    · cases e
    · split at e
      · cases e
      · split at e
        · cases e; omega
        · split at e
          · split at e
            · cases e
            · split at e
              · cases e
              · split at e
                · cases e
                · split at e
                  · cases e; omega
                  · split at e
                    · split at e
                      · cases e
                      · split at e
                        · split at e
                          · cases e
                          · split at e
                            · cases e
                            · cases e; omega
                        · cases e
                    · cases e
          · cases e; omega
theorem often_lo {g : Bool} {l r : List Nat} {lo : Nat} {hi : Option Nat} (e : oftenL g l = some (lo, hi, r)) : lo ≤ 99 ∧ ∀ h, hi = some h → h ≤ 99 := by
  have dg : ∀ m : List Nat, (digsL m).1 ≤ 99 := by
    intro m
    unfold digsL
    split
    · show 0 ≤ 99; omega
    · rename_i a t
      split
      · rename_i ha
        have ha := of_decide_eq_true ha
        split
        · show a - 48 ≤ 99; omega
        · rename_i b r
          split
          · rename_i hb
            have hb := of_decide_eq_true hb
            show 10 * (a - 48) + (b - 48) ≤ 99; omega
          · show a - 48 ≤ 99; omega
      · show 0 ≤ 99; omega
  unfold oftenL at e
  split at e
  · cases e; exact ⟨by omega, fun h q => by cases q; omega⟩
  · rename_i c t
    split at e
    · cases e; exact ⟨by omega, fun h q => by cases q⟩
    · split at e
      · cases e; exact ⟨by omega, fun h q => by cases q⟩
      · split at e
        · cases e; exact ⟨by omega, fun h q => by cases q; omega⟩
        · split at e
          · split at e
            · cases e
            · split at e
              · cases e
              · split at e
                · cases e
                · rename_i x v hx
                  split at e
                  · cases e; exact ⟨dg _, fun h q => by cases q; exact dg _⟩
                  · split at e
                    · split at e
                      · cases e
                      · split at e
                        · split at e
                          · cases e; exact ⟨dg _, fun h q => by cases q⟩
                          · split at e
                            · cases e
                            · cases e; exact ⟨dg _, fun h q => by cases q; exact dg _⟩
                        · cases e
                    · cases e
          · cases e; exact ⟨by omega, fun h q => by cases q; omega⟩
theorem iterB_succ (g : List Bool → List Bool) : ∀ (n : Nat) (x : List Bool), iterB g (n + 1) x = g (iterB g n x)
  | 0, _ => rfl
  | n + 1, x => by
    show iterB g (n + 1) (g x) = _
    rw [iterB_succ g n (g x)]; rfl
theorem iterB_fix {g : List Bool → List Bool} {y : List Bool} (h : g y = y) : ∀ n, iterB g n y = y
  | 0 => rfl
  | n + 1 => by
    show iterB g n (g y) = y
    rw [h]; exact iterB_fix h n
theorem iterB_add (g : List Bool → List Bool) (m : Nat) : ∀ (n : Nat) (x : List Bool), iterB g (n + m) x = iterB g m (iterB g n x)
  | 0, x => by rw [Nat.zero_add]; rfl
  | n + 1, x => by
    rw [show n + 1 + m = (n + m) + 1 by omega]
    show iterB g (n + m) (g x) = _
    rw [iterB_add g m n (g x)]; rfl
theorem grow_fix {f : List Bool → List Bool} {x : List Bool} {d N : Nat} (h : orB (growB f d x) (f (growB f d x)) = growB f d x) (hN : d ≤ N) : growB f N x = growB f d x := by
  obtain ⟨e, rfl⟩ : ∃ e, N = d + e := ⟨N - d, by omega⟩
  show iterB _ (d + e) x = _
  rw [iterB_add]
  exact iterB_fix h e
theorem grow_succ (f : List Bool → List Bool) (d : Nat) (x : List Bool) : growB f (d + 1) x = orB (growB f d x) (f (growB f d x)) := iterB_succ _ d x
def trues (x : List Bool) : Nat := x.count true
theorem trues_le (x : List Bool) : trues x ≤ x.length := List.count_le_length
theorem or_trues : ∀ (x y : List Bool), x.length = y.length → trues x ≤ trues (orB x y) ∧ (orB x y ≠ x → trues x < trues (orB x y))
  | [], _, _ => ⟨Nat.zero_le _, fun h => absurd rfl h⟩
  | a :: x, [], h => by simp at h
  | a :: x, b :: y, h => by
    obtain ⟨h1, h2⟩ := or_trues x y (by simpa using h)
    have e : orB (a :: x) (b :: y) = (a || b) :: orB x y := rfl
    rw [e]
    unfold trues at *
    cases a with
    | true =>
      rw [Bool.true_or, List.count_cons_self, List.count_cons_self]
      refine ⟨by omega, fun hne => ?_⟩
      have := h2 (fun q => hne (by rw [q]))
      omega
    | false =>
      cases b with
      | true =>
        rw [Bool.false_or, List.count_cons_self, List.count_cons_of_ne (by simp)]
        exact ⟨by omega, fun _ => by omega⟩
      | false =>
        rw [Bool.false_or, List.count_cons_of_ne (by simp), List.count_cons_of_ne (by simp)]
        refine ⟨h1, fun hne => h2 (fun q => hne (by rw [q]))⟩

end Go.Proofs.YtncljgpcloanfaaDoor
