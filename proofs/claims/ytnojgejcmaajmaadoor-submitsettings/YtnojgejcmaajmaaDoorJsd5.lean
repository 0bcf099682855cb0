/- Ways up that end at all end within as many steps as there are nodes. -/
import Derived.Test.YtnojgejcmaajmaaDoorJsd4

namespace Go.Proofs.YtnojgejcmaajmaaDoor
open Go.RowKit
/-- Different numbers below n are at most n. -/
theorem nodup_len : ∀ (n : Nat) (L : List Int), L.Nodup → (∀ x ∈ L, 0 ≤ x ∧ x < (n : Int)) → L.length ≤ n
  | 0, L, _, h => by
    cases L with
    | nil => exact Nat.le_refl _
    | cons x t => have := h x (List.mem_cons_self ..); omega
  | n + 1, L, hn, h => by
    have ih := nodup_len n (L.erase (n : Int)) (hn.erase _) (fun x hx => by
      have h1 := (hn.mem_erase_iff).1 hx
      have h2 := h x h1.2
      have h3 : x ≠ (n : Int) := h1.1
      omega)
    rw [List.length_erase] at ih
    split at ih <;> omega
theorem climb_add (l : List Nd) : ∀ (n m : Nat) (k : Int), climb l (n + m) k = climb l m (climb l n k)
  | 0, m, k => by rw [Nat.zero_add]; rfl
  | n + 1, m, k => by
    rw [show n + 1 + m = (n + m) + 1 by omega]
    show (if k < 0 then k else climb l (n + m) (parI l k)) = climb l m (if k < 0 then k else climb l n (parI l k))
    by_cases h : k < 0
    · rw [if_pos h, if_pos h]
      cases m with
      | zero => rfl
      | succ m => show k = (if k < 0 then k else _); rw [if_pos h]
    · rw [if_neg h, if_neg h, climb_add l n m]
theorem climb_loop (l : List Nd) {m : Nat} {k : Int} (h : climb l m k = k) : ∀ q, climb l (q * m) k = k
  | 0 => by rw [Nat.zero_mul]; rfl
  | q + 1 => by rw [Nat.succ_mul, climb_add, climb_loop l h q, h]
/-- A number that is met on the way up is so many steps up. -/
theorem anc_steps (l : List Nd) : ∀ (n : Nat) (k x : Int), x ∈ ancF l n k → ∃ m, m < n ∧ climb l m k = x ∧ 0 ≤ x
  | 0, _, _, h => by cases h
  | n + 1, k, x, h => by
    have h : x ∈ (if k < 0 then [] else k :: ancF l n (parI l k)) := h
    by_cases q : k < 0
    · rw [if_pos q] at h; cases h
    · rw [if_neg q] at h
      rcases List.mem_cons.1 h with e | e
      · exact ⟨0, by omega, e.symm, by omega⟩
      · obtain ⟨m, m1, m2, m3⟩ := anc_steps l n (parI l k) x e
        refine ⟨m + 1, by omega, ?_, m3⟩
        show (if k < 0 then k else climb l m (parI l k)) = x
        rw [if_neg q]; exact m2
theorem anc_nodup (l : List Nd) : ∀ (n : Nat) (k : Int), climb l n k < 0 → (ancF l n k).Nodup
  | 0, _, _ => List.nodup_nil
  | n + 1, k, h => by
    show (if k < 0 then [] else k :: ancF l n (parI l k)).Nodup
    by_cases q : k < 0
    · rw [if_pos q]; exact List.nodup_nil
    · rw [if_neg q]
      have h2 : climb l n (parI l k) < 0 := by
        have h : (if k < 0 then k else climb l n (parI l k)) < 0 := h
        rw [if_neg q] at h; exact h
      refine List.nodup_cons.2 ⟨fun hm => ?_, anc_nodup l n _ h2⟩
      obtain ⟨m, m1, m2, _⟩ := anc_steps l n _ _ hm
      have h3 : climb l (m + 1) k = k := by
        show (if k < 0 then k else climb l m (parI l k)) = k
        rw [if_neg q]; exact m2
      have h4 := climb_loop l h3 (n + 1)
      have h5 := climb_more l ((n + 1) * (m + 1) - (n + 1)) h
      rw [show n + 1 + ((n + 1) * (m + 1) - (n + 1)) = (n + 1) * (m + 1) by
        have : n + 1 ≤ (n + 1) * (m + 1) := Nat.le_mul_of_pos_right _ (by omega)
        omega, h4] at h5
      exact q h5
theorem anc_range (l : List Nd) (hp : ∀ i, i < l.length → (nd l i).parent < l.length) : ∀ (n : Nat) (k : Int), k < l.length → ∀ x ∈ ancF l n k, 0 ≤ x ∧ x < (l.length : Int)
  | 0, _, _, x, h => by cases h
  | n + 1, k, hk, x, h => by
    have h : x ∈ (if k < 0 then [] else k :: ancF l n (parI l k)) := h
    by_cases q : k < 0
    · rw [if_pos q] at h; cases h
    · rw [if_neg q] at h
      rcases List.mem_cons.1 h with e | e
      · subst e; exact ⟨by omega, hk⟩
      · exact anc_range l hp n _ (hp k.toNat (by omega)) x e
theorem climb_len (l : List Nd) : ∀ (n : Nat) (k : Int), climb l n k < 0 → climb l (ancF l n k).length k < 0
  | 0, _, h => h
  | n + 1, k, h => by
    have h : (if k < 0 then k else climb l n (parI l k)) < 0 := h
    show climb l (if k < 0 then [] else k :: ancF l n (parI l k)).length k < 0
    by_cases q : k < 0
    · rw [if_pos q]; exact q
    · rw [if_neg q] at h ⊢
      show (if k < 0 then k else climb l (ancF l n (parI l k)).length (parI l k)) < 0
      rw [if_neg q]
      exact climb_len l n _ h
/-- A way up that ends, ends in time. -/
theorem ends_of {l : List Nd} (hp : ∀ i, i < l.length → (nd l i).parent < l.length) {k : Int} (hk : k < l.length) {n : Nat} (h : climb l n k < 0) : Ends l k := by
  have h1 := nodup_len l.length _ (anc_nodup l n k h) (anc_range l hp n k hk)
  have h2 := climb_more l (l.length + 1 - (ancF l n k).length) (climb_len l n k h)
  rw [show (ancF l n k).length + (l.length + 1 - (ancF l n k).length) = l.length + 1 by omega] at h2
  exact h2

end Go.Proofs.YtnojgejcmaajmaaDoor
