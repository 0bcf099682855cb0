/- Ways up that end at all end within as many steps as there are nodes. A node and what is within it, in order. The way down in a document. -/
import Derived.Test.YtldbaoolddlacaaGreatDoorJgz6

namespace Go.Proofs.YtldbaoolddlacaaGreatDoor
open Go.RowKit
/-- Different numbers below n are at most n. -/
theorem nodup_len : ∀ (n : Nat) (L : List Int), L.Nodup → (∀ x ∈ L, 0 ≤ x ∧ x < (n : Int)) → L.length ≤ n
  | 0, L, _, h => by
    cases L with
    | nil => exact Nat.le_refl _
    | cons x t => have := h x (List.mem_cons_self ..); omega
  | n + 1, L, hn, h => by
    have ih := nodup_len n (L.erase (n : Int)) (hn.erase _) (fun x hx => by
      have h1 := (hn.mem_erase_iff).1 hx
      have h2 := h x h1.2
      have h3 : x ≠ (n : Int) := h1.1
      omega)
    rw [List.length_erase] at ih
    split at ih <;> omega
theorem climb_add (l : List Nd) : ∀ (n m : Nat) (k : Int), climb l (n + m) k = climb l m (climb l n k)
  | 0, m, k => by rw [Nat.zero_add]; rfl
  | n + 1, m, k => by
    rw [show n + 1 + m = (n + m) + 1 by omega]
    show (if k < 0 then k else climb l (n + m) (parI l k)) = climb l m (if k < 0 then k else climb l n (parI l k))
    by_cases h : k < 0
    · rw [if_pos h, if_pos h]
      cases m with
      | zero => rfl
      | succ m => show k = (if k < 0 then k else _); rw [if_pos h]
    · rw [if_neg h, if_neg h, climb_add l n m]
theorem climb_loop (l : List Nd) {m : Nat} {k : Int} (h : climb l m k = k) : ∀ q, climb l (q * m) k = k
  | 0 => by rw [Nat.zero_mul]; rfl
  | q + 1 => by rw [Nat.succ_mul, climb_add, climb_loop l h q, h]
/-- A number that is met on the way up is so many steps up. -/
theorem anc_steps (l : List Nd) : ∀ (n : Nat) (k x : Int), x ∈ ancF l n k → ∃ m, m < n ∧ climb l m k = x ∧ 0 ≤ x
  | 0, _, _, h => by cases h
  | n + 1, k, x, h => by
    have h : x ∈ (if k < 0 then [] else k :: ancF l n (parI l k)) := h
    by_cases q : k < 0
    · rw [if_pos q] at h; cases h
    · rw [if_neg q] at h
      rcases List.mem_cons.1 h with e | e
      · exact ⟨0, by omega, e.symm, by omega⟩
      · obtain ⟨m, m1, m2, m3⟩ := anc_steps l n (parI l k) x e
        refine ⟨m + 1, by omega, ?_, m3⟩
        show (if k < 0 then k else climb l m (parI l k)) = x
        rw [if_neg q]; exact m2
theorem anc_nodup (l : List Nd) : ∀ (n : Nat) (k : Int), climb l n k < 0 → (ancF l n k).Nodup
  | 0, _, _ => List.nodup_nil
  | n + 1, k, h => by
    show (if k < 0 then [] else k :: ancF l n (parI l k)).Nodup
    by_cases q : k < 0
    · rw [if_pos q]; exact List.nodup_nil
    · rw [if_neg q]
      have h2 : climb l n (parI l k) < 0 := by
        have h : (if k < 0 then k else climb l n (parI l k)) < 0 := h
        rw [if_neg q] at h; exact h
      refine List.nodup_cons.2 ⟨fun hm => ?_, anc_nodup l n _ h2⟩
      obtain ⟨m, m1, m2, _⟩ := anc_steps l n _ _ hm
      have h3 : climb l (m + 1) k = k := by
        show (if k < 0 then k else climb l m (parI l k)) = k
        rw [if_neg q]; exact m2
      have h4 := climb_loop l h3 (n + 1)
      have h5 := climb_more l ((n + 1) * (m + 1) - (n + 1)) h
      rw [show n + 1 + ((n + 1) * (m + 1) - (n + 1)) = (n + 1) * (m + 1) by
        have : n + 1 ≤ (n + 1) * (m + 1) := Nat.le_mul_of_pos_right _ (by omega)
        omega, h4] at h5
      exact q h5
theorem anc_range (l : List Nd) (hp : ∀ i, i < l.length → (nd l i).parent < l.length) : ∀ (n : Nat) (k : Int), k < l.length → ∀ x ∈ ancF l n k, 0 ≤ x ∧ x < (l.length : Int)
  | 0, _, _, x, h => by cases h
  | n + 1, k, hk, x, h => by
    have h : x ∈ (if k < 0 then [] else k :: ancF l n (parI l k)) := h
    by_cases q : k < 0
    · rw [if_pos q] at h; cases h
    · rw [if_neg q] at h
      rcases List.mem_cons.1 h with e | e
      · subst e; exact ⟨by omega, hk⟩
      · exact anc_range l hp n _ (hp k.toNat (by omega)) x e
theorem climb_len (l : List Nd) : ∀ (n : Nat) (k : Int), climb l n k < 0 → climb l (ancF l n k).length k < 0
  | 0, _, h => h
  | n + 1, k, h => by
    have h : (if k < 0 then k else climb l n (parI l k)) < 0 := h
    show climb l (if k < 0 then [] else k :: ancF l n (parI l k)).length k < 0
    by_cases q : k < 0
    · rw [if_pos q]; exact q
    · rw [if_neg q] at h ⊢
      show (if k < 0 then k else climb l (ancF l n (parI l k)).length (parI l k)) < 0
      rw [if_neg q]
      exact climb_len l n _ h
/-- A way up that ends, ends in time. -/
theorem ends_of {l : List Nd} (hp : ∀ i, i < l.length → (nd l i).parent < l.length) {k : Int} (hk : k < l.length) {n : Nat} (h : climb l n k < 0) : Ends l k := by
  have h1 := nodup_len l.length _ (anc_nodup l n k h) (anc_range l hp n k hk)
  have h2 := climb_more l (l.length + 1 - (ancF l n k).length) (climb_len l n k h)
  rw [show (ancF l n k).length + (l.length + 1 - (ancF l n k).length) = l.length + 1 by omega] at h2
  exact h2
end Go.Proofs.YtldbaoolddlacaaGreatDoor

namespace Go.Proofs.YtldbaoolddlacaaGreatDoor
open Go.RowKit
/-- In order, with a list of those that are to be gone to. -/
def orderF (l : List Nd) : Nat → List Int → List Int
  | 0, _ => []
  | _ + 1, [] => []
  | n + 1, k :: st => k :: orderF l n ((nd l k.toNat).kids ++ st)
def orderP (l : List Nd) (id : Int) : List Int := orderF l (l.length + 1) [id]
theorem anc_self {l : List Nd} (h : Right l) {k : Int} (h0 : 0 ≤ k) (hk : k < l.length) : k ∈ anc l k := by
  rw [anc_up (h.ende hk) (by omega)]; exact List.mem_cons_self ..
theorem anc_hgt {l : List Nd} (h : Right l) : ∀ (d : Nat) {k x : Int}, k < l.length → hgt l k ≤ d → x ∈ anc l k → hgt l x ≤ hgt l k
  | 0, k, x, hk, hd, hm => by
    by_cases e : k < 0
    · rw [anc_neg e] at hm; cases hm
    · have := hgt_up (h.ende hk) e; omega
  | d + 1, k, x, hk, hd, hm => by
    by_cases e : k < 0
    · rw [anc_neg e] at hm; cases hm
    · rw [anc_up (h.ende hk) e] at hm
      rcases List.mem_cons.1 hm with q | q
      · rw [q]; exact Nat.le_refl _
      · have h1 := hgt_up (h.ende hk) e
        have h2 := anc_hgt h d (h.up e hk).2 (by omega) q
        omega
/-- What is gone to so far, what is to be gone to. -/
structure Inv (l : List Nd) (id : Int) (out st : List Int) : Prop where
  once : (out ++ st).Nodup
  rng : ∀ x ∈ out ++ st, 0 ≤ x ∧ x < (l.length : Int) ∧ id ∈ anc l x
  par : ∀ x ∈ out ++ st, x = id ∨ parI l x ∈ out
  kid : ∀ x ∈ out, ∀ c ∈ (nd l x.toNat).kids, c ∈ out ++ st
  first : ∀ X k Y, out = X ++ k :: Y → k = id ∨ parI l k ∈ X
  has : id ∈ out ++ st
theorem inv_zero {l : List Nd} (h : Right l) {id : Int} (h0 : 0 ≤ id) (hi : id < l.length) : Inv l id [] [id] := by
  refine ⟨by simp, fun x hx => ?_, fun x hx => .inl (by simpa using hx), (fun x hx => by cases hx), fun X k Y e => ?_, by simp⟩
  · have : x = id := by simpa using hx
    rw [this]; exact ⟨h0, hi, anc_self h h0 hi⟩
  · cases X <;> cases e
theorem inv_step {l : List Nd} (h : Right l) {id : Int} {out st : List Int} {k : Int} (v : Inv l id out (k :: st)) : Inv l id (out ++ [k]) ((nd l k.toNat).kids ++ st) := by
  have hk := v.rng k (by simp)
  have hkl : k.toNat < l.length := by omega
  have kds : ∀ c ∈ (nd l k.toNat).kids, 0 ≤ c ∧ c < (l.length : Int) ∧ parI l c = k := by
    intro c hc
    have := h.kid k.toNat hkl c hc
    rw [Int.toNat_of_nonneg hk.1] at this
    exact this
  have hno := v.once
  have hkout : k ∉ out := fun m => (List.nodup_append.1 hno).2.2 k m k (List.mem_cons_self ..) rfl
  have fresh : ∀ c ∈ (nd l k.toNat).kids, c ∉ out ++ k :: st := by
    intro c hc hm
    have hcp := kds c hc
    rcases v.par c hm with e | e
    · subst e
      have h1 := hgt_up (h.ende hcp.2.1) (by omega)
      rw [hcp.2.2] at h1
      have h2 := anc_hgt h _ hk.2.1 (Nat.le_refl _) hk.2.2
      omega
    · rw [hcp.2.2] at e
      exact hkout e
  have mem : ∀ x, x ∈ (out ++ [k]) ++ ((nd l k.toNat).kids ++ st) ↔ x ∈ out ++ k :: st ∨ x ∈ (nd l k.toNat).kids := by
    intro x
    simp only [List.mem_append, List.mem_cons, List.not_mem_nil, or_false]
    constructor
    · rintro ((a | a) | a | a)
      · exact .inl (.inl a)
      · exact .inl (.inr (.inl a))
      · exact .inr a
      · exact .inl (.inr (.inr a))
    · rintro ((a | a | a) | a)
      · exact .inl (.inl a)
      · exact .inl (.inr a)
      · exact .inr (.inr a)
      · exact .inr (.inl a)
  refine ⟨?_, fun x hx => ?_, fun x hx => ?_, fun x hx c hc => ?_, fun X y Y e => ?_, ?_⟩
  · have h1 : ((out ++ [k]) ++ st).Nodup := by rw [List.append_assoc]; exact hno
    have h2 := kids_nodup h hkl
    rw [List.nodup_append] at h1 ⊢
    refine ⟨h1.1, ?_, ?_⟩
    · rw [List.nodup_append]
      refine ⟨h2, h1.2.1, fun a ha b hb e => ?_⟩
      subst e
      exact fresh a ha (List.mem_append.2 (.inr (List.mem_cons_of_mem _ hb)))
    · intro a ha b hb e
      subst e
      rcases List.mem_append.1 hb with q | q
      · refine fresh a q ?_
        rcases List.mem_append.1 ha with r | r
        · exact List.mem_append.2 (.inl r)
        · have : a = k := by simpa using r
          rw [this]; exact List.mem_append.2 (.inr (List.mem_cons_self ..))
      · exact h1.2.2 a ha a q rfl
  · rcases (mem x).1 hx with q | q
    · exact v.rng x q
    · have := kds x q
      refine ⟨this.1, this.2.1, ?_⟩
      rw [anc_up (h.ende this.2.1) (by omega), this.2.2]
      exact List.mem_cons_of_mem _ hk.2.2
  · rcases (mem x).1 hx with q | q
    · rcases v.par x q with r | r
      · exact .inl r
      · exact .inr (List.mem_append.2 (.inl r))
    · right
      rw [(kds x q).2.2]; simp
  · rcases List.mem_append.1 hx with q | q
    · exact (mem c).2 (.inl (v.kid x q c hc))
    · have : x = k := by simpa using q
      subst this
      exact (mem c).2 (.inr hc)
  · rcases List.append_eq_append_iff.1 e with ⟨a, e1, e2⟩ | ⟨a, e1, e2⟩
    · -- X = out ++ a, [k] = a ++ y :: Y
      cases a with
      | nil =>
        have e3 : k = y := by
          have := congrArg List.head? e2
          simpa using this
        subst e3
        rcases v.par k (by simp) with r | r
        · exact .inl r
        · right; rw [e1]; simpa using r
      | cons z t =>
        have := congrArg List.length e2
        simp at this
    · -- out = X ++ a, y :: Y = a ++ [k]
      cases a with
      | nil =>
        have e3 : y = k := by
          have := congrArg List.head? e2
          simpa using this
        subst e3
        rcases v.par y (by simp) with r | r
        · exact .inl r
        · right; rw [e1] at r; simpa using r
      | cons z t =>
        have e3 : y = z := by
          have := congrArg List.head? e2
          simpa using this
        subst e3
        exact v.first X y t e1
  · exact (mem id).2 (.inl v.has)
theorem inv_done {l : List Nd} (h : Right l) {id : Int} : ∀ (n : Nat) (out st : List Int), Inv l id out st → l.length + 1 ≤ n + out.length → Inv l id (out ++ orderF l n st) []
  | 0, out, st, v, hn => by
    have h1 := nodup_len l.length out (List.nodup_append.1 v.once).1 (fun x hx => by
      have := v.rng x (List.mem_append.2 (.inl hx))
      exact ⟨this.1, this.2.1⟩)
    omega
  | n + 1, out, [], v, _ => by
    show Inv l id (out ++ []) []
    rw [List.append_nil]; exact v
  | n + 1, out, k :: st, v, hn => by
    have := inv_done h n (out ++ [k]) ((nd l k.toNat).kids ++ st) (inv_step h v) (by simp; omega)
    rw [List.append_assoc] at this
    exact this
theorem order_inv {l : List Nd} (h : Right l) {id : Int} (h0 : 0 ≤ id) (hi : id < l.length) : Inv l id (orderP l id) [] := by
  have := inv_done h (l.length + 1) [] [id] (inv_zero h h0 hi) (by simp)
  exact this
/-- Just what is within it, each once, parents first. -/
theorem order_mem {l : List Nd} (h : Right l) {id : Int} (h0 : 0 ≤ id) (hi : id < l.length) (x : Int) : x ∈ orderP l id ↔ 0 ≤ x ∧ x < (l.length : Int) ∧ id ∈ anc l x := by
  have v := order_inv h h0 hi
  constructor
  · intro hx
    exact v.rng x (by rw [List.append_nil]; exact hx)
  · rintro ⟨x0, x1, x2⟩
    have key : ∀ (d : Nat) (x : Int), 0 ≤ x → x < (l.length : Int) → hgt l x ≤ d → id ∈ anc l x → x ∈ orderP l id := by
      intro d
      induction d with
      | zero =>
        intro x a b c e
        have := hgt_up (h.ende b) (by omega)
        omega
      | succ d ih =>
        intro x a b c e
        have hu := hgt_up (h.ende b) (by omega)
        rw [anc_up (h.ende b) (by omega)] at e
        rcases List.mem_cons.1 e with q | q
        · have := v.has
          rw [List.append_nil] at this
          rw [← q]; exact this
        · have hp := h.up (show ¬ x < 0 by omega) b
          have hp0 : 0 ≤ parI l x := by
            rcases Int.lt_or_le (parI l x) 0 with r | r
            · rw [anc_neg r] at q; cases q
            · exact r
          have hin := ih (parI l x) hp0 hp.2 (by omega) q
          have hcn := h.cnt x.toNat (by omega) (by show ¬ parI l x < 0; omega)
          rw [Int.toNat_of_nonneg a] at hcn
          have hkid : x ∈ (nd l (parI l x).toNat).kids := cnt_pos.2 (by
            have : cntI (nd l (parI l x).toNat).kids x = 1 := hcn
            omega)
          have := v.kid (parI l x) hin x hkid
          rw [List.append_nil] at this
          exact this
    exact key _ x x0 x1 (Nat.le_refl _) x2
theorem order_nodup {l : List Nd} (h : Right l) {id : Int} (h0 : 0 ≤ id) (hi : id < l.length) : (orderP l id).Nodup := by
  have := (order_inv h h0 hi).once
  rw [List.append_nil] at this
  exact this
/-- The one node without a parent on the way up. -/
theorem root_one {l : List Nd} (h : Right l) : ∀ (d : Nat) {k a b : Int}, k < l.length → hgt l k ≤ d → a ∈ anc l k → b ∈ anc l k → parI l a < 0 → parI l b < 0 → a = b
  | 0, k, a, b, hk, hd, ha, _, _, _ => by
    by_cases e : k < 0
    · rw [anc_neg e] at ha; cases ha
    · have := hgt_up (h.ende hk) e; omega
  | d + 1, k, a, b, hk, hd, ha, hb, pa, pb => by
    by_cases e : k < 0
    · rw [anc_neg e] at ha; cases ha
    · have hu := hgt_up (h.ende hk) e
      rw [anc_up (h.ende hk) e] at ha hb
      rcases List.mem_cons.1 ha with q | q
      · rcases List.mem_cons.1 hb with r | r
        · rw [q, r]
        · rw [q] at pa; rw [anc_neg pa] at r; cases r
      · rcases List.mem_cons.1 hb with r | r
        · rw [r] at pb; rw [anc_neg pb] at q; cases q
        · exact root_one h d (h.up e hk).2 (by omega) q r pa pb
end Go.Proofs.YtldbaoolddlacaaGreatDoor

namespace Go.Proofs.YtldbaoolddlacaaGreatDoor
open Go.RowKit
def inR (l : List Nd) (k : Int) : Prop := 0 ≤ k ∧ k < (l.length : Int)
def kidsI (l : List Nd) (k : Int) : List Int := (nd l k.toNat).kids
/-- A node and what is within it. -/
def downF (l : List Nd) : Nat → Int → List Int
  | 0, _ => []
  | n + 1, k => k :: (kidsI l k).flatMap (downF l n)
/-- So much fuel is enough. -/
def Sub (l : List Nd) : Nat → Int → Prop
  | 0, _ => False
  | n + 1, k => inR l k ∧ ∀ c ∈ kidsI l k, Sub l n c
/-- So many steps below a node without a parent. -/
def Dep (l : List Nd) : Nat → Int → Prop
  | 0, k => inR l k ∧ parI l k = -1
  | n + 1, k => inR l k ∧ Dep l n (parI l k)
theorem Dep.rng {l : List Nd} : ∀ {d : Nat} {k : Int}, Dep l d k → inR l k
  | 0, _, h => h.1
  | _ + 1, _, h => h.1
theorem Dep.one {l : List Nd} : ∀ {d e : Nat} {k : Int}, Dep l d k → Dep l e k → d = e
  | 0, 0, _, _, _ => rfl
  | 0, e + 1, k, h, g => by have := g.2.rng; rw [h.2] at this; exact absurd this.1 (by omega)
  | d + 1, 0, k, h, g => by have := h.2.rng; rw [g.2] at this; exact absurd this.1 (by omega)
  | d + 1, e + 1, k, h, g => by rw [Dep.one h.2 g.2]
/-- The nodes on the way up. -/
def upL (l : List Nd) : Nat → Int → List Int
  | 0, k => [k]
  | n + 1, k => k :: upL l n (parI l k)
theorem upL_len (l : List Nd) : ∀ (d : Nat) (k : Int), (upL l d k).length = d + 1
  | 0, _ => rfl
  | d + 1, k => by show (upL l d (parI l k)).length + 1 = _; rw [upL_len l d]
theorem upL_dep {l : List Nd} : ∀ {d : Nat} {k x : Int}, Dep l d k → x ∈ upL l d k → ∃ e, e ≤ d ∧ Dep l e x
  | 0, k, x, h, hx => by
    have : x = k := by simpa [upL] using hx
    rw [this]; exact ⟨0, Nat.le_refl _, h⟩
  | d + 1, k, x, h, hx => by
    rcases List.mem_cons.1 hx with q | q
    · rw [q]; exact ⟨d + 1, Nat.le_refl _, h⟩
    · obtain ⟨e, h1, h2⟩ := upL_dep h.2 q
      exact ⟨e, by omega, h2⟩
theorem upL_nodup {l : List Nd} : ∀ {d : Nat} {k : Int}, Dep l d k → (upL l d k).Nodup
  | 0, k, _ => by simp [upL]
  | d + 1, k, h => by
    refine List.nodup_cons.2 ⟨fun q => ?_, upL_nodup h.2⟩
    obtain ⟨e, h1, h2⟩ := upL_dep h.2 q
    have := Dep.one h2 h
    omega
theorem Dep.lt {l : List Nd} {d : Nat} {k : Int} (h : Dep l d k) : d < l.length := by
  have := nodup_len l.length (upL l d k) (upL_nodup h) (fun x hx => by
    obtain ⟨e, _, h2⟩ := upL_dep h hx
    exact h2.rng)
  rw [upL_len] at this
  omega
/-- Each child is there, tells its parent, and stands once. -/
structure Linked (l : List Nd) : Prop where
  kid : ∀ i, i < l.length → ∀ c ∈ (nd l i).kids, inR l c ∧ parI l c = (i : Int)
  once : ∀ i, i < l.length → (nd l i).kids.Nodup
theorem Linked.kidI {l : List Nd} (h : Linked l) {k c : Int} (hk : inR l k) (hc : c ∈ kidsI l k) : inR l c ∧ parI l c = k := by
  have := h.kid k.toNat (by have := hk.1; have := hk.2; omega) c hc
  rw [Int.toNat_of_nonneg hk.1] at this
  exact this
theorem Linked.onceI {l : List Nd} (h : Linked l) {k : Int} (hk : inR l k) : (kidsI l k).Nodup := h.once k.toNat (by have := hk.1; have := hk.2; omega)
theorem dep_sub {l : List Nd} (h : Linked l) : ∀ (f : Nat) {d : Nat} {k : Int}, Dep l d k → l.length ≤ d + f → Sub l f k
  | 0, d, k, hd, hf => by have := hd.lt; omega
  | f + 1, d, k, hd, hf => ⟨hd.rng, fun c hc => by
    have q := h.kidI hd.rng hc
    exact dep_sub h f (d := d + 1) (show inR l c ∧ Dep l d (parI l c) from ⟨q.1, by rw [q.2]; exact hd⟩) (by omega)⟩
theorem Sub.rng {l : List Nd} : ∀ {f : Nat} {k : Int}, Sub l f k → inR l k
  | 0, _, h => h.elim
  | _ + 1, _, h => h.1
theorem Sub.mono {l : List Nd} : ∀ {f : Nat} {k : Int}, Sub l f k → Sub l (f + 1) k
  | 0, _, h => h.elim
  | _ + 1, _, h => ⟨h.1, fun c hc => (h.2 c hc).mono⟩
theorem down_range {l : List Nd} : ∀ {f : Nat} {k x : Int}, Sub l f k → x ∈ downF l f k → inR l x
  | 0, _, _, h, _ => h.elim
  | f + 1, k, x, h, hx => by
    rcases List.mem_cons.1 hx with q | q
    · rw [q]; exact h.1
    · obtain ⟨c, h1, h2⟩ := List.mem_flatMap.1 q
      exact down_range (h.2 c h1) h2
theorem down_self {l : List Nd} {f : Nat} {k : Int} (h : Sub l f k) : k ∈ downF l f k := by
  cases f with
  | zero => exact h.elim
  | succ f => exact List.mem_cons_self ..
/-- Who is gone to is the first, or a child of one that is gone to. -/
theorem down_from {l : List Nd} : ∀ {f : Nat} {k x : Int}, Sub l f k → x ∈ downF l f k → x = k ∨ ∃ p, inR l p ∧ x ∈ kidsI l p
  | 0, _, _, h, _ => h.elim
  | f + 1, k, x, h, hx => by
    rcases List.mem_cons.1 hx with q | q
    · exact .inl q
    · obtain ⟨c, h1, h2⟩ := List.mem_flatMap.1 q
      rcases down_from (h.2 c h1) h2 with r | r
      · rw [r]; exact .inr ⟨k, h.1, h1⟩
      · exact .inr r
theorem down_kids {l : List Nd} : ∀ {f : Nat} {k p c : Int}, Sub l f k → p ∈ downF l f k → c ∈ kidsI l p → c ∈ downF l f k
  | 0, _, _, _, h, _, _ => h.elim
  | f + 1, k, p, c, h, hp, hc => by
    rcases List.mem_cons.1 hp with q | q
    · rw [q] at hc
      exact List.mem_cons_of_mem _ (List.mem_flatMap.2 ⟨c, hc, down_self (h.2 c hc)⟩)
    · obtain ⟨d, h1, h2⟩ := List.mem_flatMap.1 q
      exact List.mem_cons_of_mem _ (List.mem_flatMap.2 ⟨d, h1, down_kids (h.2 d h1) h2 hc⟩)
/-- So many steps up. -/
def upN (l : List Nd) : Nat → Int → Int
  | 0, k => k
  | n + 1, k => upN l n (parI l k)
theorem upN_succ (l : List Nd) : ∀ (n : Nat) (k : Int), upN l (n + 1) k = parI l (upN l n k)
  | 0, _ => rfl
  | n + 1, k => by show upN l (n + 1) (parI l k) = _; rw [upN_succ l n]; rfl
theorem down_dep {l : List Nd} (h : Linked l) : ∀ {f d : Nat} {k x : Int}, Dep l d k → x ∈ downF l f k → ∃ e, Dep l (d + e) x ∧ upN l e x = k
  | 0, _, _, _, _, hx => by cases hx
  | f + 1, d, k, x, hd, hx => by
    rcases List.mem_cons.1 hx with q | q
    · rw [q]; exact ⟨0, hd, rfl⟩
    · obtain ⟨c, h1, h2⟩ := List.mem_flatMap.1 q
      have r := h.kidI hd.rng h1
      obtain ⟨e, g1, g2⟩ := down_dep h (d := d + 1) (show inR l c ∧ Dep l d (parI l c) from ⟨r.1, by rw [r.2]; exact hd⟩) h2
      refine ⟨e + 1, by rw [show d + (e + 1) = d + 1 + e by omega]; exact g1, ?_⟩
      rw [upN_succ, g2, r.2]
theorem nodup_flat {α β : Type} {g : α → List β} : ∀ {L : List α}, L.Nodup → (∀ x ∈ L, (g x).Nodup) → (∀ x ∈ L, ∀ y ∈ L, ∀ z, z ∈ g x → z ∈ g y → x = y) → (L.flatMap g).Nodup
  | [], _, _, _ => by simp
  | a :: L, hn, h1, h2 => by
    have hn := List.nodup_cons.1 hn
    rw [List.flatMap_cons, List.nodup_append]
    refine ⟨h1 a (List.mem_cons_self ..), nodup_flat hn.2 (fun x hx => h1 x (List.mem_cons_of_mem _ hx)) (fun x hx y hy => h2 x (List.mem_cons_of_mem _ hx) y (List.mem_cons_of_mem _ hy)), fun x hx y hy e => ?_⟩
    obtain ⟨b, h3, h4⟩ := List.mem_flatMap.1 hy
    rw [← e] at h4
    have := h2 a (List.mem_cons_self ..) b (List.mem_cons_of_mem _ h3) x hx h4
    rw [this] at hn
    exact hn.1 h3
theorem down_nodup {l : List Nd} (h : Linked l) : ∀ {f d : Nat} {k : Int}, Dep l d k → (downF l f k).Nodup
  | 0, _, _, _ => by simp [downF]
  | f + 1, d, k, hd => by
    have D : ∀ c ∈ kidsI l k, Dep l (d + 1) c := fun c hc => by
      have r := h.kidI hd.rng hc
      exact show inR l c ∧ Dep l d (parI l c) from ⟨r.1, by rw [r.2]; exact hd⟩
    refine List.nodup_cons.2 ⟨fun q => ?_, nodup_flat (h.onceI hd.rng) (fun c hc => down_nodup h (D c hc)) (fun x hx y hy z h1 h2 => ?_)⟩
    · obtain ⟨c, h1, h2⟩ := List.mem_flatMap.1 q
      obtain ⟨e, g1, _⟩ := down_dep h (D c h1) h2
      have := Dep.one g1 hd
      omega
    · obtain ⟨e1, g1, g2⟩ := down_dep h (D x hx) h1
      obtain ⟨e2, g3, g4⟩ := down_dep h (D y hy) h2
      have := Dep.one g1 g3
      obtain rfl : e1 = e2 := by omega
      rw [← g2, ← g4]
/-- The nodes without a parent, in order of their numbers; all that they lead to. -/
def rootsL (l : List Nd) : List Int := ((List.range l.length).filter fun i => (nd l i).parent == -1).map fun i : Nat => (i : Int)
theorem mem_roots {l : List Nd} {r : Int} : r ∈ rootsL l ↔ inR l r ∧ parI l r = -1 := by
  unfold rootsL
  rw [List.mem_map]
  constructor
  · rintro ⟨i, hi, rfl⟩
    rw [List.mem_filter, List.mem_range, beq_iff_eq] at hi
    exact ⟨⟨by omega, by omega⟩, by unfold parI; rw [Int.toNat_natCast]; exact hi.2⟩
  · rintro ⟨⟨h1, h2⟩, h3⟩
    refine ⟨r.toNat, ?_, Int.toNat_of_nonneg h1⟩
    rw [List.mem_filter, List.mem_range, beq_iff_eq]
    exact ⟨by omega, h3⟩
theorem nodup_cast {L : List Nat} (h : L.Nodup) : (L.map fun i : Nat => (i : Int)).Nodup := List.pairwise_map.2 (h.imp fun {a b} hab e => hab (by omega))
theorem count_one {L : List Int} {x : Int} (h : L.Nodup) (hx : x ∈ L) : List.count x L = 1 := by
  have h1 := List.nodup_iff_count.1 h x
  have h2 := List.count_pos_iff.2 hx
  omega
theorem roots_nodup (l : List Nd) : (rootsL l).Nodup := by
  unfold rootsL
  refine nodup_cast ?_
  exact List.nodup_range.filter _
def allL (l : List Nd) : List Int := (rootsL l).flatMap (downF l l.length)
theorem root_dep {l : List Nd} {r : Int} (h : r ∈ rootsL l) : Dep l 0 r := mem_roots.1 h
theorem root_sub {l : List Nd} (h : Linked l) {r : Int} (hr : r ∈ rootsL l) : Sub l l.length r := dep_sub h _ (root_dep hr) (by omega)
theorem all_nodup {l : List Nd} (h : Linked l) : (allL l).Nodup := by
  refine nodup_flat (roots_nodup l) (fun r hr => down_nodup h (root_dep hr)) (fun x hx y hy z h1 h2 => ?_)
  obtain ⟨e1, g1, g2⟩ := down_dep h (root_dep hx) h1
  obtain ⟨e2, g3, g4⟩ := down_dep h (root_dep hy) h2
  have := Dep.one g1 g3
  obtain rfl : e1 = e2 := by omega
  rw [← g2, ← g4]
theorem all_range {l : List Nd} (h : Linked l) {x : Int} (hx : x ∈ allL l) : inR l x := by
  obtain ⟨r, h1, h2⟩ := List.mem_flatMap.1 hx
  exact down_range (root_sub h h1) h2
theorem all_full {l : List Nd} (h : Linked l) (hl : (allL l).length = l.length) {x : Int} (hx : inR l x) : x ∈ allL l := by
  by_cases q : x ∈ allL l
  · exact q
  · have := nodup_len l.length (x :: allL l) (List.nodup_cons.2 ⟨q, all_nodup h⟩) (fun y hy => by
      rcases List.mem_cons.1 hy with r | r
      · rw [r]; exact hx
      · exact all_range h r)
    rw [List.length_cons, hl] at this
    omega
theorem dep_climb {l : List Nd} : ∀ {d : Nat} {k : Int}, Dep l d k → climb l (d + 1) k < 0
  | 0, k, h => by
    show (if k < 0 then k else parI l k) < 0
    rw [if_neg (by have := h.1.1; omega), h.2]; omega
  | d + 1, k, h => by
    show (if k < 0 then k else climb l (d + 1) (parI l k)) < 0
    rw [if_neg (by have := h.1.1; omega)]
    exact dep_climb h.2
/-- What the program asks is what the document asks. -/
theorem right_of {l : List Nd} (h1 : 1 ≤ l.length ∧ l.length ≤ 400) (h2 : ¬ (nd l 0).name.size = 0) (h3 : (nd l 0).parent = -1) (h4 : ∀ i, i < l.length → aloneB (nd l i) = true) (h5 : Linked l) (h6 : (allL l).length = l.length) : Right l := by
  have A : ∀ i : Nat, i < l.length → ∃ d, Dep l d (i : Int) ∧ (parI l (i : Int) = -1 ∨ ∃ p, inR l p ∧ (i : Int) ∈ kidsI l p) := by
    intro i hi
    have := all_full h5 h6 (x := (i : Int)) ⟨by omega, by omega⟩
    obtain ⟨r, g1, g2⟩ := List.mem_flatMap.1 this
    obtain ⟨e, g3, _⟩ := down_dep h5 (root_dep g1) g2
    refine ⟨_, g3, ?_⟩
    rcases down_from (root_sub h5 g1) g2 with q | q
    · rw [q]; exact .inl (root_dep g1).2
    · exact .inr q
  have PI : ∀ i : Nat, parI l (i : Int) = (nd l i).parent := fun i => by unfold parI; rw [Int.toNat_natCast]
  have hp : ∀ i, i < l.length → -1 ≤ (nd l i).parent ∧ (nd l i).parent < l.length := by
    intro i hi
    obtain ⟨d, g1, g2⟩ := A i hi
    rw [← PI i]
    rcases g2 with q | ⟨p, q1, q2⟩
    · rw [q]; omega
    · rw [(h5.kidI q1 q2).2]
      have := q1.1; have := q1.2; omega
  refine ⟨h1, h2, h3, h4, hp, fun i hi q => ?_, fun i hi c hc => ?_, fun i hi => ?_⟩
  · obtain ⟨d, g1, g2⟩ := A i hi
    rcases g2 with r | ⟨p, q1, q2⟩
    · rw [PI i] at r; omega
    · have e := (h5.kidI q1 q2).2
      rw [PI i] at e
      rw [e]
      exact count_one (h5.onceI q1) q2
  · have := h5.kid i hi c hc
    exact ⟨this.1.1, this.1.2, this.2⟩
  · obtain ⟨d, g1, g2⟩ := A i hi
    exact ends_of (fun i hi => (hp i hi).2) (by omega) (dep_climb g1)
theorem right_linked {l : List Nd} (h : Right l) : Linked l := ⟨fun i hi c hc => by have := h.kid i hi c hc; exact ⟨⟨this.1, this.2.1⟩, this.2.2⟩, fun i hi => kids_nodup h hi⟩
theorem right_all {l : List Nd} (h : Right l) : ∀ (d : Nat) {k : Int}, inR l k → hgt l k ≤ d → k ∈ allL l
  | 0, k, hk, hd => by
    have := hgt_up (h.ende hk.2) (by have := hk.1; omega); omega
  | d + 1, k, hk, hd => by
    have n0 : ¬ k < 0 := by have := hk.1; omega
    have e := hgt_up (h.ende hk.2) n0
    have u := h.up n0 hk.2
    by_cases q : parI l k < 0
    · have r : k ∈ rootsL l := mem_roots.2 ⟨hk, by omega⟩
      exact List.mem_flatMap.2 ⟨k, r, down_self (root_sub (right_linked h) r)⟩
    · have ih := right_all h d (k := parI l k) ⟨by omega, u.2⟩ (by omega)
      obtain ⟨r, g1, g2⟩ := List.mem_flatMap.1 ih
      refine List.mem_flatMap.2 ⟨r, g1, down_kids (root_sub (right_linked h) g1) g2 ?_⟩
      have hk0 : k.toNat < l.length := by have := hk.2; omega
      have c := h.cnt k.toNat hk0 q
      rw [Int.toNat_of_nonneg hk.1] at c
      exact List.count_pos_iff.1 (by have c : List.count k (kidsI l (parI l k)) = 1 := c; omega)
theorem nodup_sub : ∀ {A B : List Int}, A.Nodup → (∀ x ∈ A, x ∈ B) → A.length ≤ B.length
  | [], _, _, _ => Nat.zero_le _
  | a :: A, B, hn, h => by
    have hn := List.nodup_cons.1 hn
    have ha := h a (List.mem_cons_self ..)
    have := nodup_sub (A := A) (B := B.erase a) hn.2 (fun x hx => by
      have := h x (List.mem_cons_of_mem _ hx)
      exact (List.mem_erase_of_ne (fun e => hn.1 (by rw [← e]; exact hx))).2 this)
    rw [List.length_erase_of_mem ha] at this
    have := List.length_pos_of_mem ha
    rw [List.length_cons]
    omega
theorem right_reached {l : List Nd} (h : Right l) : (allL l).length = l.length := by
  have h1 := nodup_len l.length (allL l) (all_nodup (right_linked h)) (fun x hx => all_range (right_linked h) hx)
  have h2 := nodup_sub (A := (List.range l.length).map fun i : Nat => (i : Int)) (B := allL l) (nodup_cast List.nodup_range) (fun x hx => by
    obtain ⟨i, g1, rfl⟩ := List.mem_map.1 hx
    have := List.mem_range.1 g1
    exact right_all h _ ⟨by omega, by omega⟩ (Nat.le_refl _))
  rw [List.length_map, List.length_range] at h2
  omega
/-- A node of a right document is so many steps below one without a parent. -/
theorem right_dep {l : List Nd} (h : Right l) {k : Int} (hk : inR l k) : ∃ d, Dep l d k := by
  obtain ⟨r, g1, g2⟩ := List.mem_flatMap.1 (right_all h _ hk (Nat.le_refl _))
  obtain ⟨e, g3, _⟩ := down_dep (right_linked h) (root_dep g1) g2
  exact ⟨_, g3⟩
theorem right_sub {l : List Nd} (h : Right l) {k : Int} (hk : inR l k) : Sub l l.length k := by
  obtain ⟨d, g⟩ := right_dep h hk
  exact dep_sub (right_linked h) _ g (by omega)
/-- The way by a list of those that are to be gone to is the same. -/
theorem order_row {l : List Nd} : ∀ (f : Nat) (ks : List Int) (N : Nat) (st : List Int), (∀ c ∈ ks, Sub l f c) → (ks.flatMap (downF l f)).length ≤ N → orderF l N (ks ++ st) = ks.flatMap (downF l f) ++ orderF l (N - (ks.flatMap (downF l f)).length) st := by
  intro f
  induction f with
  | zero =>
    intro ks N st h _
    cases ks with
    | nil => simp
    | cons c ks => exact (h c (List.mem_cons_self ..)).elim
  | succ f ihf =>
    intro ks
    induction ks with
    | nil => intro N st _ _; simp
    | cons c ks ihk =>
      intro N st h hN
      have hc := h c (List.mem_cons_self ..)
      have hf : (c :: ks).flatMap (downF l (f + 1)) = c :: ((kidsI l c).flatMap (downF l f) ++ ks.flatMap (downF l (f + 1))) := by
        rw [List.flatMap_cons]; rfl
      rw [hf] at hN ⊢
      rw [List.length_cons, List.length_append] at hN
      obtain ⟨M, rfl⟩ : ∃ M, N = M + 1 := ⟨N - 1, by omega⟩
      have e1 : orderF l (M + 1) (c :: ks ++ st) = c :: orderF l M (kidsI l c ++ (ks ++ st)) := rfl
      rw [e1, ihf (kidsI l c) M (ks ++ st) hc.2 (by omega), ihk _ st (fun x hx => h x (List.mem_cons_of_mem _ hx)) (by omega)]
      rw [List.cons_append, List.append_assoc, List.length_cons, List.length_append]
      congr 3
      congr 1
      omega
theorem order_down {l : List Nd} (h : Right l) {k : Int} (hk : inR l k) : orderP l k = downF l l.length k := by
  obtain ⟨d, g⟩ := right_dep h hk
  have hs := right_sub h hk
  have hn := nodup_len l.length (downF l l.length k) (down_nodup (right_linked h) g) (fun x hx => down_range hs hx)
  have := order_row (l := l) l.length [k] (l.length + 1) [] (fun c hc => by rw [List.mem_singleton.1 hc]; exact hs) (by simpa using (by omega : (downF l l.length k).length ≤ l.length + 1))
  rw [List.append_nil, List.flatMap_singleton] at this
  unfold orderP
  rw [this]
  have e : orderF l (l.length + 1 - (downF l l.length k).length) [] = [] := by
    cases l.length + 1 - (downF l l.length k).length <;> rfl
  rw [e, List.append_nil]

end Go.Proofs.YtldbaoolddlacaaGreatDoor
