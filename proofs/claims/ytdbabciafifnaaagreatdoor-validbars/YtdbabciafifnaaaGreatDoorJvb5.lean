/- Ways up that end at all end within as many steps as there are nodes. A node and what is within it, in order. The document's Text of layer 10. -/
import Derived.Test.YtdbabciafifnaaaGreatDoorJvb6

namespace Go.Proofs.YtdbabciafifnaaaGreatDoor
open Go.RowKit
/-- Different numbers below n are at most n. -/
theorem nodup_len : ∀ (n : Nat) (L : List Int), L.Nodup → (∀ x ∈ L, 0 ≤ x ∧ x < (n : Int)) → L.length ≤ n
  | 0, L, _, h => by
    cases L with
    | nil => exact Nat.le_refl _
    | cons x t => have := h x (List.mem_cons_self ..); omega
  | n + 1, L, hn, h => by
    have ih := nodup_len n (L.erase (n : Int)) (hn.erase _) (fun x hx => by
      have h1 := (hn.mem_erase_iff).1 hx
      have h2 := h x h1.2
      have h3 : x ≠ (n : Int) := h1.1
      omega)
    rw [List.length_erase] at ih
    split at ih <;> omega
theorem climb_add (l : List Nd) : ∀ (n m : Nat) (k : Int), climb l (n + m) k = climb l m (climb l n k)
  | 0, m, k => by rw [Nat.zero_add]; rfl
  | n + 1, m, k => by
    rw [show n + 1 + m = (n + m) + 1 by omega]
    show (if k < 0 then k else climb l (n + m) (parI l k)) = climb l m (if k < 0 then k else climb l n (parI l k))
    by_cases h : k < 0
    · rw [if_pos h, if_pos h]
      cases m with
      | zero => rfl
      | succ m => show k = (if k < 0 then k else _); rw [if_pos h]
    · rw [if_neg h, if_neg h, climb_add l n m]
theorem climb_loop (l : List Nd) {m : Nat} {k : Int} (h : climb l m k = k) : ∀ q, climb l (q * m) k = k
  | 0 => by rw [Nat.zero_mul]; rfl
  | q + 1 => by rw [Nat.succ_mul, climb_add, climb_loop l h q, h]
/-- A number that is met on the way up is so many steps up. -/
theorem anc_steps (l : List Nd) : ∀ (n : Nat) (k x : Int), x ∈ ancF l n k → ∃ m, m < n ∧ climb l m k = x ∧ 0 ≤ x
  | 0, _, _, h => by cases h
  | n + 1, k, x, h => by
    have h : x ∈ (if k < 0 then [] else k :: ancF l n (parI l k)) := h
    by_cases q : k < 0
    · rw [if_pos q] at h; cases h
    · rw [if_neg q] at h
      rcases List.mem_cons.1 h with e | e
      · exact ⟨0, by omega, e.symm, by omega⟩
      · obtain ⟨m, m1, m2, m3⟩ := anc_steps l n (parI l k) x e
        refine ⟨m + 1, by omega, ?_, m3⟩
        show (if k < 0 then k else climb l m (parI l k)) = x
        rw [if_neg q]; exact m2
theorem anc_nodup (l : List Nd) : ∀ (n : Nat) (k : Int), climb l n k < 0 → (ancF l n k).Nodup
  | 0, _, _ => List.nodup_nil
  | n + 1, k, h => by
    show (if k < 0 then [] else k :: ancF l n (parI l k)).Nodup
    by_cases q : k < 0
    · rw [if_pos q]; exact List.nodup_nil
    · rw [if_neg q]
      have h2 : climb l n (parI l k) < 0 := by
        have h : (if k < 0 then k else climb l n (parI l k)) < 0 := h
        rw [if_neg q] at h; exact h
      refine List.nodup_cons.2 ⟨fun hm => ?_, anc_nodup l n _ h2⟩
      obtain ⟨m, m1, m2, _⟩ := anc_steps l n _ _ hm
      have h3 : climb l (m + 1) k = k := by
        show (if k < 0 then k else climb l m (parI l k)) = k
        rw [if_neg q]; exact m2
      have h4 := climb_loop l h3 (n + 1)
      have h5 := climb_more l ((n + 1) * (m + 1) - (n + 1)) h
      rw [show n + 1 + ((n + 1) * (m + 1) - (n + 1)) = (n + 1) * (m + 1) by
        have : n + 1 ≤ (n + 1) * (m + 1) := Nat.le_mul_of_pos_right _ (by omega)
        omega, h4] at h5
      exact q h5
theorem anc_range (l : List Nd) (hp : ∀ i, i < l.length → (nd l i).parent < l.length) : ∀ (n : Nat) (k : Int), k < l.length → ∀ x ∈ ancF l n k, 0 ≤ x ∧ x < (l.length : Int)
  | 0, _, _, x, h => by cases h
  | n + 1, k, hk, x, h => by
    have h : x ∈ (if k < 0 then [] else k :: ancF l n (parI l k)) := h
    by_cases q : k < 0
    · rw [if_pos q] at h; cases h
    · rw [if_neg q] at h
      rcases List.mem_cons.1 h with e | e
      · subst e; exact ⟨by omega, hk⟩
      · exact anc_range l hp n _ (hp k.toNat (by omega)) x e
theorem climb_len (l : List Nd) : ∀ (n : Nat) (k : Int), climb l n k < 0 → climb l (ancF l n k).length k < 0
  | 0, _, h => h
  | n + 1, k, h => by
    have h : (if k < 0 then k else climb l n (parI l k)) < 0 := h
    show climb l (if k < 0 then [] else k :: ancF l n (parI l k)).length k < 0
    by_cases q : k < 0
    · rw [if_pos q]; exact q
    · rw [if_neg q] at h ⊢
      show (if k < 0 then k else climb l (ancF l n (parI l k)).length (parI l k)) < 0
      rw [if_neg q]
      exact climb_len l n _ h
/-- A way up that ends, ends in time. -/
theorem ends_of {l : List Nd} (hp : ∀ i, i < l.length → (nd l i).parent < l.length) {k : Int} (hk : k < l.length) {n : Nat} (h : climb l n k < 0) : Ends l k := by
  have h1 := nodup_len l.length _ (anc_nodup l n k h) (anc_range l hp n k hk)
  have h2 := climb_more l (l.length + 1 - (ancF l n k).length) (climb_len l n k h)
  rw [show (ancF l n k).length + (l.length + 1 - (ancF l n k).length) = l.length + 1 by omega] at h2
  exact h2
end Go.Proofs.YtdbabciafifnaaaGreatDoor

namespace Go.Proofs.YtdbabciafifnaaaGreatDoor
open Go.RowKit
/-- In order, with a list of those that are to be gone to. -/
def orderF (l : List Nd) : Nat → List Int → List Int
  | 0, _ => []
  | _ + 1, [] => []
  | n + 1, k :: st => k :: orderF l n ((nd l k.toNat).kids ++ st)
def orderP (l : List Nd) (id : Int) : List Int := orderF l (l.length + 1) [id]
theorem anc_self {l : List Nd} (h : Right l) {k : Int} (h0 : 0 ≤ k) (hk : k < l.length) : k ∈ anc l k := by
  rw [anc_up (h.ende hk) (by omega)]; exact List.mem_cons_self ..
theorem anc_hgt {l : List Nd} (h : Right l) : ∀ (d : Nat) {k x : Int}, k < l.length → hgt l k ≤ d → x ∈ anc l k → hgt l x ≤ hgt l k
  | 0, k, x, hk, hd, hm => by
    by_cases e : k < 0
    · rw [anc_neg e] at hm; cases hm
    · have := hgt_up (h.ende hk) e; omega
  | d + 1, k, x, hk, hd, hm => by
    by_cases e : k < 0
    · rw [anc_neg e] at hm; cases hm
    · rw [anc_up (h.ende hk) e] at hm
      rcases List.mem_cons.1 hm with q | q
      · rw [q]; exact Nat.le_refl _
      · have h1 := hgt_up (h.ende hk) e
        have h2 := anc_hgt h d (h.up e hk).2 (by omega) q
        omega
/-- What is gone to so far, what is to be gone to. -/
structure Inv (l : List Nd) (id : Int) (out st : List Int) : Prop where
  once : (out ++ st).Nodup
  rng : ∀ x ∈ out ++ st, 0 ≤ x ∧ x < (l.length : Int) ∧ id ∈ anc l x
  par : ∀ x ∈ out ++ st, x = id ∨ parI l x ∈ out
  kid : ∀ x ∈ out, ∀ c ∈ (nd l x.toNat).kids, c ∈ out ++ st
  first : ∀ X k Y, out = X ++ k :: Y → k = id ∨ parI l k ∈ X
  has : id ∈ out ++ st
theorem inv_zero {l : List Nd} (h : Right l) {id : Int} (h0 : 0 ≤ id) (hi : id < l.length) : Inv l id [] [id] := by
  refine ⟨by simp, fun x hx => ?_, fun x hx => .inl (by simpa using hx), (fun x hx => by cases hx), fun X k Y e => ?_, by simp⟩
  · have : x = id := by simpa using hx
    rw [this]; exact ⟨h0, hi, anc_self h h0 hi⟩
  · cases X <;> cases e
theorem inv_step {l : List Nd} (h : Right l) {id : Int} {out st : List Int} {k : Int} (v : Inv l id out (k :: st)) : Inv l id (out ++ [k]) ((nd l k.toNat).kids ++ st) := by
  have hk := v.rng k (by simp)
  have hkl : k.toNat < l.length := by omega
  have kds : ∀ c ∈ (nd l k.toNat).kids, 0 ≤ c ∧ c < (l.length : Int) ∧ parI l c = k := by
    intro c hc
    have := h.kid k.toNat hkl c hc
    rw [Int.toNat_of_nonneg hk.1] at this
    exact this
  have hno := v.once
  have hkout : k ∉ out := fun m => (List.nodup_append.1 hno).2.2 k m k (List.mem_cons_self ..) rfl
  have fresh : ∀ c ∈ (nd l k.toNat).kids, c ∉ out ++ k :: st := by
    intro c hc hm
    have hcp := kds c hc
    rcases v.par c hm with e | e
    · subst e
      have h1 := hgt_up (h.ende hcp.2.1) (by omega)
      rw [hcp.2.2] at h1
      have h2 := anc_hgt h _ hk.2.1 (Nat.le_refl _) hk.2.2
      omega
    · rw [hcp.2.2] at e
      exact hkout e
  have mem : ∀ x, x ∈ (out ++ [k]) ++ ((nd l k.toNat).kids ++ st) ↔ x ∈ out ++ k :: st ∨ x ∈ (nd l k.toNat).kids := by
    intro x
    simp only [List.mem_append, List.mem_cons, List.not_mem_nil, or_false]
    constructor
    · rintro ((a | a) | a | a)
      · exact .inl (.inl a)
      · exact .inl (.inr (.inl a))
      · exact .inr a
      · exact .inl (.inr (.inr a))
    · rintro ((a | a | a) | a)
      · exact .inl (.inl a)
      · exact .inl (.inr a)
      · exact .inr (.inr a)
      · exact .inr (.inl a)
  refine ⟨?_, fun x hx => ?_, fun x hx => ?_, fun x hx c hc => ?_, fun X y Y e => ?_, ?_⟩
  · have h1 : ((out ++ [k]) ++ st).Nodup := by rw [List.append_assoc]; exact hno
    have h2 := kids_nodup h hkl
    rw [List.nodup_append] at h1 ⊢
    refine ⟨h1.1, ?_, ?_⟩
    · rw [List.nodup_append]
      refine ⟨h2, h1.2.1, fun a ha b hb e => ?_⟩
      subst e
      exact fresh a ha (List.mem_append.2 (.inr (List.mem_cons_of_mem _ hb)))
    · intro a ha b hb e
      subst e
      rcases List.mem_append.1 hb with q | q
      · refine fresh a q ?_
        rcases List.mem_append.1 ha with r | r
        · exact List.mem_append.2 (.inl r)
        · have : a = k := by simpa using r
          rw [this]; exact List.mem_append.2 (.inr (List.mem_cons_self ..))
      · exact h1.2.2 a ha a q rfl
  · rcases (mem x).1 hx with q | q
    · exact v.rng x q
    · have := kds x q
      refine ⟨this.1, this.2.1, ?_⟩
      rw [anc_up (h.ende this.2.1) (by omega), this.2.2]
      exact List.mem_cons_of_mem _ hk.2.2
  · rcases (mem x).1 hx with q | q
    · rcases v.par x q with r | r
      · exact .inl r
      · exact .inr (List.mem_append.2 (.inl r))
    · right
      rw [(kds x q).2.2]; simp
  · rcases List.mem_append.1 hx with q | q
    · exact (mem c).2 (.inl (v.kid x q c hc))
    · have : x = k := by simpa using q
      subst this
      exact (mem c).2 (.inr hc)
  · rcases List.append_eq_append_iff.1 e with ⟨a, e1, e2⟩ | ⟨a, e1, e2⟩
    · -- X = out ++ a, [k] = a ++ y :: Y
      cases a with
      | nil =>
        have e3 : k = y := by
          have := congrArg List.head? e2
          simpa using this
        subst e3
        rcases v.par k (by simp) with r | r
        · exact .inl r
        · right; rw [e1]; simpa using r
      | cons z t =>
        have := congrArg List.length e2
        simp at this
    · -- out = X ++ a, y :: Y = a ++ [k]
      cases a with
      | nil =>
        have e3 : y = k := by
          have := congrArg List.head? e2
          simpa using this
        subst e3
        rcases v.par y (by simp) with r | r
        · exact .inl r
        · right; rw [e1] at r; simpa using r
      | cons z t =>
        have e3 : y = z := by
          have := congrArg List.head? e2
          simpa using this
        subst e3
        exact v.first X y t e1
  · exact (mem id).2 (.inl v.has)
theorem inv_done {l : List Nd} (h : Right l) {id : Int} : ∀ (n : Nat) (out st : List Int), Inv l id out st → l.length + 1 ≤ n + out.length → Inv l id (out ++ orderF l n st) []
  | 0, out, st, v, hn => by
    have h1 := nodup_len l.length out (List.nodup_append.1 v.once).1 (fun x hx => by
      have := v.rng x (List.mem_append.2 (.inl hx))
      exact ⟨this.1, this.2.1⟩)
    omega
  | n + 1, out, [], v, _ => by
    show Inv l id (out ++ []) []
    rw [List.append_nil]; exact v
  | n + 1, out, k :: st, v, hn => by
    have := inv_done h n (out ++ [k]) ((nd l k.toNat).kids ++ st) (inv_step h v) (by simp; omega)
    rw [List.append_assoc] at this
    exact this
theorem order_inv {l : List Nd} (h : Right l) {id : Int} (h0 : 0 ≤ id) (hi : id < l.length) : Inv l id (orderP l id) [] := by
  have := inv_done h (l.length + 1) [] [id] (inv_zero h h0 hi) (by simp)
  exact this
/-- Just what is within it, each once, parents first. -/
theorem order_mem {l : List Nd} (h : Right l) {id : Int} (h0 : 0 ≤ id) (hi : id < l.length) (x : Int) : x ∈ orderP l id ↔ 0 ≤ x ∧ x < (l.length : Int) ∧ id ∈ anc l x := by
  have v := order_inv h h0 hi
  constructor
  · intro hx
    exact v.rng x (by rw [List.append_nil]; exact hx)
  · rintro ⟨x0, x1, x2⟩
    have key : ∀ (d : Nat) (x : Int), 0 ≤ x → x < (l.length : Int) → hgt l x ≤ d → id ∈ anc l x → x ∈ orderP l id := by
      intro d
      induction d with
      | zero =>
        intro x a b c e
        have := hgt_up (h.ende b) (by omega)
        omega
      | succ d ih =>
        intro x a b c e
        have hu := hgt_up (h.ende b) (by omega)
        rw [anc_up (h.ende b) (by omega)] at e
        rcases List.mem_cons.1 e with q | q
        · have := v.has
          rw [List.append_nil] at this
          rw [← q]; exact this
        · have hp := h.up (show ¬ x < 0 by omega) b
          have hp0 : 0 ≤ parI l x := by
            rcases Int.lt_or_le (parI l x) 0 with r | r
            · rw [anc_neg r] at q; cases q
            · exact r
          have hin := ih (parI l x) hp0 hp.2 (by omega) q
          have hcn := h.cnt x.toNat (by omega) (by show ¬ parI l x < 0; omega)
          rw [Int.toNat_of_nonneg a] at hcn
          have hkid : x ∈ (nd l (parI l x).toNat).kids := cnt_pos.2 (by
            have : cntI (nd l (parI l x).toNat).kids x = 1 := hcn
            omega)
          have := v.kid (parI l x) hin x hkid
          rw [List.append_nil] at this
          exact this
    exact key _ x x0 x1 (Nat.le_refl _) x2
theorem order_nodup {l : List Nd} (h : Right l) {id : Int} (h0 : 0 ≤ id) (hi : id < l.length) : (orderP l id).Nodup := by
  have := (order_inv h h0 hi).once
  rw [List.append_nil] at this
  exact this
end Go.Proofs.YtdbabciafifnaaaGreatDoor

namespace Go.Proofs.YtdbabciafifnaaaGreatDoor
open Go.RowKit
set_option maxRecDepth 100000
/-- A text, and behind it the texts of nodes. -/
def textF (l : List Nd) : ByteArray → List Int → ByteArray
  | s, [] => s
  | s, c :: t => textF l (s ++ (nd l c.toNat).text) t
def textP (l : List Nd) (id : Int) : ByteArray := textF l (nd l id.toNat).text (nd l id.toNat).kids
theorem text_small {l : List Nd} (h : Right l) {i : Nat} (hi : i < l.length) : (nd l i).text.size ≤ 4000 := by
  have ha := h.alone i hi
  unfold aloneB at ha
  split at ha
  · rw [Bool.and_eq_true, Bool.and_eq_true, decide_eq_true_eq] at ha
    exact ha.2.2
  · rw [Bool.and_eq_true, Bool.and_eq_true, beq_iff_eq] at ha
    omega
theorem kids_few {l : List Nd} (h : Right l) {i : Nat} (hi : i < l.length) : (nd l i).kids.length ≤ 400 := by
  have h1 := nodup_len l.length _ (kids_nodup h hi) (fun x hx => by
    have := h.kid i hi x hx
    exact ⟨this.1, this.2.1⟩)
  have := h.len
  omega

end Go.Proofs.YtdbabciafifnaaaGreatDoor
