/- Documents that are changed stay right: a node is added, taken from its parent, put among children; plain facts of no program. No condition. -/
import Derived.Test.YtkloahpkjbohoaaDocB
namespace Go.Proofs.Ytkloahpkjbohoaa
open Go.RowKit

def upd (l : List Nd) (i : Nat) (f : Nd → Nd) : List Nd := l.set i (f (nd l i))
theorem upd_len (l : List Nd) (i : Nat) (f : Nd → Nd) : (upd l i f).length = l.length := by unfold upd; rw [List.length_set]
theorem nd_upd {l : List Nd} {i : Nat} (f : Nd → Nd) (hi : i < l.length) (j : Nat) : nd (upd l i f) j = if j = i then f (nd l i) else nd l j := by
  unfold upd
  by_cases e : j = i
  · subst e
    rw [if_pos rfl]
    show (l.set j (f (nd l j))).getD j nd0 = _
    simp [List.getD, hi]
  · rw [if_neg e]
    show (l.set i (f (nd l i))).getD j nd0 = l.getD j nd0
    simp only [List.getD]
    rw [List.getElem?_set_ne (fun q => e q.symm)]
theorem alone_kids {n m : Nd} (h1 : m.name = n.name) (h2 : m.text = n.text) (h3 : m.attrs = n.attrs) (h4 : n.name.size = 0 → m.kids = n.kids) : aloneB m = aloneB n := by
  unfold aloneB
  rw [h1, h2, h3]
  by_cases h : n.name.size = 0
  · rw [if_pos h, if_pos h, h4 h]
  · rw [if_neg h, if_neg h]
theorem cnt_pos {l : List Int} {x : Int} : x ∈ l ↔ 0 < cntI l x := List.count_pos_iff.symm
theorem kids_nil {l : List Int} (h : ∀ x, cntI l x = 0) : l = [] := by
  cases l with
  | nil => rfl
  | cons x t =>
    have h1 : 0 < cntI (x :: t) x := cnt_pos.1 (List.mem_cons_self ..)
    have h2 := h x
    omega
/-- A node gets another parent (or none): its document stays right. -/
structure Moved (l l' : List Nd) (c : Nat) (q : Int) : Prop where
  len : l'.length = l.length
  name : ∀ i, i < l.length → (nd l' i).name = (nd l i).name
  text : ∀ i, i < l.length → (nd l' i).text = (nd l i).text
  attrs : ∀ i, i < l.length → (nd l' i).attrs = (nd l i).attrs
  par : ∀ i, i < l.length → (nd l' i).parent = if i = c then q else (nd l i).parent
  other : ∀ i, i < l.length → ∀ x, x ≠ (c : Int) → cntI (nd l' i).kids x = cntI (nd l i).kids x
  this : ∀ i : Nat, i < l.length → cntI (nd l' i).kids c = if (i : Int) = q then 1 else 0
theorem moved_parI {l l' : List Nd} {c : Nat} {q : Int} (m : Moved l l' c q) {k : Int} (h0 : 0 ≤ k) (hk : k < l.length) : parI l' k = if k = (c : Int) then q else parI l k := by
  unfold parI
  rw [m.par k.toNat (by omega)]
  by_cases e : k = (c : Int)
  · rw [if_pos e, if_pos (by omega)]
  · rw [if_neg e, if_neg (by omega)]
theorem right_moved {l l' : List Nd} {c : Nat} {q : Int} (h : Right l) (m : Moved l l' c q) (hc : c < l.length) (h0 : ¬ c = 0) (hq : -1 ≤ q ∧ q < l.length) (hel : 0 ≤ q → ¬ (nd l q.toNat).name.size = 0) (hw : (c : Int) ∉ anc l q) : Right l' := by
  have hpar : ∀ i, i < l'.length → (nd l' i).parent < l'.length := by
    intro i hi
    rw [m.len] at hi ⊢
    rw [m.par i hi]
    split
    · exact hq.2
    · exact (h.par i hi).2
  have kin : ∀ i : Nat, i < l.length → ∀ x ∈ (nd l' i).kids, (x = (c : Int) ∧ (i : Int) = q) ∨ (x ≠ (c : Int) ∧ x ∈ (nd l i).kids) := by
    intro i hi x hx
    have hx := cnt_pos.1 hx
    by_cases e : x = (c : Int)
    · subst e
      rw [m.this i hi] at hx
      by_cases e2 : (i : Int) = q
      · exact .inl ⟨rfl, e2⟩
      · rw [if_neg e2] at hx; omega
    · rw [m.other i hi x e] at hx
      exact .inr ⟨e, cnt_pos.2 hx⟩
  refine ⟨by rw [m.len]; exact h.len, ?_, ?_, fun i hi => ?_, fun i hi => ?_, fun i hi hp => ?_, fun i hi x hx => ?_, fun i hi => ?_⟩
  · rw [m.name 0 (by have := h.len; omega)]; exact h.head
  · rw [m.par 0 (by have := h.len; omega), if_neg (fun e => h0 e.symm)]; exact h.root
  · rw [m.len] at hi
    rw [alone_kids (m.name i hi) (m.text i hi) (m.attrs i hi) (fun hn => ?_)]
    · exact h.alone i hi
    · have ha := h.alone i hi
      unfold aloneB at ha
      rw [if_pos hn, Bool.and_eq_true, Bool.and_eq_true] at ha
      have hk : (nd l i).kids = [] := by simpa using ha.2.1
      rw [hk]
      apply kids_nil
      intro x
      by_cases e : x = (c : Int)
      · subst e
        rw [m.this i hi, if_neg]
        intro e2
        refine hel (by omega) ?_
        rw [← e2, Int.toNat_natCast]; exact hn
      · rw [m.other i hi x e, hk]; rfl
  · rw [m.len] at hi ⊢
    rw [m.par i hi]
    split
    · exact hq
    · exact h.par i hi
  · rw [m.len] at hi
    rw [m.par i hi] at hp ⊢
    by_cases e : i = c
    · subst e
      rw [if_pos rfl] at hp ⊢
      rw [m.this q.toNat (by omega), if_pos (by omega)]
    · rw [if_neg e] at hp ⊢
      have hb := h.par i hi
      rw [m.other _ (by omega) (i : Int) (by omega)]
      exact h.cnt i hi hp
  · rw [m.len] at hi ⊢
    rcases kin i hi x hx with ⟨rfl, e⟩ | ⟨e, hm⟩
    · refine ⟨by omega, by omega, ?_⟩
      rw [moved_parI m (by omega) (by omega), if_pos rfl]
      exact e.symm
    · have hk := h.kid i hi x hm
      refine ⟨hk.1, hk.2.1, ?_⟩
      rw [moved_parI m hk.1 hk.2.1, if_neg e]
      exact hk.2.2
  · rw [m.len] at hi
    -- every way up ends
    have hR : ∀ k : Int, k < l.length → ∀ x ∈ anc l k, 0 ≤ x ∧ x < (l.length : Int) := fun k hk => anc_range l (fun j hj => (h.par j hj).2) _ k hk
    have free : ∀ k : Int, k < l.length → (c : Int) ∉ anc l k → ∃ n, climb l' n k < 0 := by
      intro k hk hf
      refine ⟨l.length + 1, ?_⟩
      rw [climb_same (l := l) (l' := l') (l.length + 1) k (fun x hx => ?_)]
      · exact h.ende hk
      · have hx2 : x ∈ anc l k := hx
        have := hR k hk x hx2
        rw [moved_parI m this.1 this.2, if_neg]
        intro e
        subst e
        exact hf hx2
    obtain ⟨nq, hnq⟩ := free q hq.2 hw
    have cend : ∃ n, climb l' n (c : Int) < 0 := by
      refine ⟨nq + 1, ?_⟩
      show (if (c : Int) < 0 then (c : Int) else climb l' nq (parI l' c)) < 0
      rw [if_neg (by omega), moved_parI m (by omega) (by omega), if_pos rfl]
      exact hnq
    have all : ∀ (d : Nat) (k : Int), k < l.length → hgt l k ≤ d → ∃ n, climb l' n k < 0 := by
      intro d
      induction d with
      | zero =>
        intro k hk hd
        by_cases e : k < 0
        · exact ⟨0, e⟩
        · have := hgt_up (h.ende hk) e
          omega
      | succ d ih =>
        intro k hk hd
        by_cases e : k < 0
        · exact ⟨0, e⟩
        · by_cases e2 : k = (c : Int)
          · rw [e2]; exact cend
          · have hh := hgt_up (h.ende hk) e
            have hu := h.up e hk
            obtain ⟨n, hn⟩ := ih (parI l k) hu.2 (by omega)
            refine ⟨n + 1, ?_⟩
            show (if k < 0 then k else climb l' n (parI l' k)) < 0
            rw [if_neg e, moved_parI m (by omega) hk, if_neg e2]
            exact hn
    obtain ⟨n, hn⟩ := all (hgt l (i : Int)) (i : Int) (by omega) (Nat.le_refl _)
    exact ends_of hpar (by rw [m.len]; omega) hn

end Go.Proofs.Ytkloahpkjbohoaa
