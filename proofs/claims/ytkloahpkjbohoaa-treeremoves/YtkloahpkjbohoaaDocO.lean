/- A node and what is within it, in order: each once, parents first; of all nodes without a parent together: each node once; plain facts of no program. No condition. -/
import Derived.Test.YtkloahpkjbohoaaDocK
namespace Go.Proofs.Ytkloahpkjbohoaa
open Go.RowKit

/-- In order, with a list of those that are to be gone to. -/
def orderF (l : List Nd) : Nat → List Int → List Int
  | 0, _ => []
  | _ + 1, [] => []
  | n + 1, k :: st => k :: orderF l n ((nd l k.toNat).kids ++ st)
def orderP (l : List Nd) (id : Int) : List Int := orderF l (l.length + 1) [id]
theorem anc_self {l : List Nd} (h : Right l) {k : Int} (h0 : 0 ≤ k) (hk : k < l.length) : k ∈ anc l k := by
  rw [anc_up (h.ende hk) (by omega)]; exact List.mem_cons_self ..
theorem anc_hgt {l : List Nd} (h : Right l) : ∀ (d : Nat) {k x : Int}, k < l.length → hgt l k ≤ d → x ∈ anc l k → hgt l x ≤ hgt l k
  | 0, k, x, hk, hd, hm => by
    by_cases e : k < 0
    · rw [anc_neg e] at hm; cases hm
    · have := hgt_up (h.ende hk) e; omega
  | d + 1, k, x, hk, hd, hm => by
    by_cases e : k < 0
    · rw [anc_neg e] at hm; cases hm
    · rw [anc_up (h.ende hk) e] at hm
      rcases List.mem_cons.1 hm with q | q
      · rw [q]; exact Nat.le_refl _
      · have h1 := hgt_up (h.ende hk) e
        have h2 := anc_hgt h d (h.up e hk).2 (by omega) q
        omega
/-- What is gone to so far, what is to be gone to. -/
structure Inv (l : List Nd) (id : Int) (out st : List Int) : Prop where
  once : (out ++ st).Nodup
  rng : ∀ x ∈ out ++ st, 0 ≤ x ∧ x < (l.length : Int) ∧ id ∈ anc l x
  par : ∀ x ∈ out ++ st, x = id ∨ parI l x ∈ out
  kid : ∀ x ∈ out, ∀ c ∈ (nd l x.toNat).kids, c ∈ out ++ st
  first : ∀ X k Y, out = X ++ k :: Y → k = id ∨ parI l k ∈ X
  has : id ∈ out ++ st
theorem inv_zero {l : List Nd} (h : Right l) {id : Int} (h0 : 0 ≤ id) (hi : id < l.length) : Inv l id [] [id] := by
  refine ⟨by simp, fun x hx => ?_, fun x hx => .inl (by simpa using hx), (fun x hx => by cases hx), fun X k Y e => ?_, by simp⟩
  · have : x = id := by simpa using hx
    rw [this]; exact ⟨h0, hi, anc_self h h0 hi⟩
  · cases X <;> cases e
theorem inv_step {l : List Nd} (h : Right l) {id : Int} {out st : List Int} {k : Int} (v : Inv l id out (k :: st)) : Inv l id (out ++ [k]) ((nd l k.toNat).kids ++ st) := by
  have hk := v.rng k (by simp)
  have hkl : k.toNat < l.length := by omega
  have kds : ∀ c ∈ (nd l k.toNat).kids, 0 ≤ c ∧ c < (l.length : Int) ∧ parI l c = k := by
    intro c hc
    have := h.kid k.toNat hkl c hc
    rw [Int.toNat_of_nonneg hk.1] at this
    exact this
  have hno := v.once
  have hkout : k ∉ out := fun m => (List.nodup_append.1 hno).2.2 k m k (List.mem_cons_self ..) rfl
  have fresh : ∀ c ∈ (nd l k.toNat).kids, c ∉ out ++ k :: st := by
    intro c hc hm
    have hcp := kds c hc
    rcases v.par c hm with e | e
    · subst e
      have h1 := hgt_up (h.ende hcp.2.1) (by omega)
      rw [hcp.2.2] at h1
      have h2 := anc_hgt h _ hk.2.1 (Nat.le_refl _) hk.2.2
      omega
    · rw [hcp.2.2] at e
      exact hkout e
  have mem : ∀ x, x ∈ (out ++ [k]) ++ ((nd l k.toNat).kids ++ st) ↔ x ∈ out ++ k :: st ∨ x ∈ (nd l k.toNat).kids := by
    intro x
    simp only [List.mem_append, List.mem_cons, List.not_mem_nil, or_false]
    constructor
    · rintro ((a | a) | a | a)
      · exact .inl (.inl a)
      · exact .inl (.inr (.inl a))
      · exact .inr a
      · exact .inl (.inr (.inr a))
    · rintro ((a | a | a) | a)
      · exact .inl (.inl a)
      · exact .inl (.inr a)
      · exact .inr (.inr a)
      · exact .inr (.inl a)
  refine ⟨?_, fun x hx => ?_, fun x hx => ?_, fun x hx c hc => ?_, fun X y Y e => ?_, ?_⟩
  · have h1 : ((out ++ [k]) ++ st).Nodup := by rw [List.append_assoc]; exact hno
    have h2 := kids_nodup h hkl
    rw [List.nodup_append] at h1 ⊢
    refine ⟨h1.1, ?_, ?_⟩
    · rw [List.nodup_append]
      refine ⟨h2, h1.2.1, fun a ha b hb e => ?_⟩
      subst e
      exact fresh a ha (List.mem_append.2 (.inr (List.mem_cons_of_mem _ hb)))
    · intro a ha b hb e
      subst e
      rcases List.mem_append.1 hb with q | q
      · refine fresh a q ?_
        rcases List.mem_append.1 ha with r | r
        · exact List.mem_append.2 (.inl r)
        · have : a = k := by simpa using r
          rw [this]; exact List.mem_append.2 (.inr (List.mem_cons_self ..))
      · exact h1.2.2 a ha a q rfl
  · rcases (mem x).1 hx with q | q
    · exact v.rng x q
    · have := kds x q
      refine ⟨this.1, this.2.1, ?_⟩
      rw [anc_up (h.ende this.2.1) (by omega), this.2.2]
      exact List.mem_cons_of_mem _ hk.2.2
  · rcases (mem x).1 hx with q | q
    · rcases v.par x q with r | r
      · exact .inl r
      · exact .inr (List.mem_append.2 (.inl r))
    · right
      rw [(kds x q).2.2]; simp
  · rcases List.mem_append.1 hx with q | q
    · exact (mem c).2 (.inl (v.kid x q c hc))
    · have : x = k := by simpa using q
      subst this
      exact (mem c).2 (.inr hc)
  · rcases List.append_eq_append_iff.1 e with ⟨a, e1, e2⟩ | ⟨a, e1, e2⟩
    · -- X = out ++ a, [k] = a ++ y :: Y
      cases a with
      | nil =>
        have e3 : k = y := by
          have := congrArg List.head? e2
          simpa using this
        subst e3
        rcases v.par k (by simp) with r | r
        · exact .inl r
        · right; rw [e1]; simpa using r
      | cons z t =>
        have := congrArg List.length e2
        simp at this
    · -- out = X ++ a, y :: Y = a ++ [k]
      cases a with
      | nil =>
        have e3 : y = k := by
          have := congrArg List.head? e2
          simpa using this
        subst e3
        rcases v.par y (by simp) with r | r
        · exact .inl r
        · right; rw [e1] at r; simpa using r
      | cons z t =>
        have e3 : y = z := by
          have := congrArg List.head? e2
          simpa using this
        subst e3
        exact v.first X y t e1
  · exact (mem id).2 (.inl v.has)
theorem inv_done {l : List Nd} (h : Right l) {id : Int} : ∀ (n : Nat) (out st : List Int), Inv l id out st → l.length + 1 ≤ n + out.length → Inv l id (out ++ orderF l n st) []
  | 0, out, st, v, hn => by
    have h1 := nodup_len l.length out (List.nodup_append.1 v.once).1 (fun x hx => by
      have := v.rng x (List.mem_append.2 (.inl hx))
      exact ⟨this.1, this.2.1⟩)
    omega
  | n + 1, out, [], v, _ => by
    show Inv l id (out ++ []) []
    rw [List.append_nil]; exact v
  | n + 1, out, k :: st, v, hn => by
    have := inv_done h n (out ++ [k]) ((nd l k.toNat).kids ++ st) (inv_step h v) (by simp; omega)
    rw [List.append_assoc] at this
    exact this
theorem order_inv {l : List Nd} (h : Right l) {id : Int} (h0 : 0 ≤ id) (hi : id < l.length) : Inv l id (orderP l id) [] := by
  have := inv_done h (l.length + 1) [] [id] (inv_zero h h0 hi) (by simp)
  exact this
/-- Just what is within it, each once, parents first. -/
theorem order_mem {l : List Nd} (h : Right l) {id : Int} (h0 : 0 ≤ id) (hi : id < l.length) (x : Int) : x ∈ orderP l id ↔ 0 ≤ x ∧ x < (l.length : Int) ∧ id ∈ anc l x := by
  have v := order_inv h h0 hi
  constructor
  · intro hx
    exact v.rng x (by rw [List.append_nil]; exact hx)
  · rintro ⟨x0, x1, x2⟩
    have key : ∀ (d : Nat) (x : Int), 0 ≤ x → x < (l.length : Int) → hgt l x ≤ d → id ∈ anc l x → x ∈ orderP l id := by
      intro d
      induction d with
      | zero =>
        intro x a b c e
        have := hgt_up (h.ende b) (by omega)
        omega
      | succ d ih =>
        intro x a b c e
        have hu := hgt_up (h.ende b) (by omega)
        rw [anc_up (h.ende b) (by omega)] at e
        rcases List.mem_cons.1 e with q | q
        · have := v.has
          rw [List.append_nil] at this
          rw [← q]; exact this
        · have hp := h.up (show ¬ x < 0 by omega) b
          have hp0 : 0 ≤ parI l x := by
            rcases Int.lt_or_le (parI l x) 0 with r | r
            · rw [anc_neg r] at q; cases q
            · exact r
          have hin := ih (parI l x) hp0 hp.2 (by omega) q
          have hcn := h.cnt x.toNat (by omega) (by show ¬ parI l x < 0; omega)
          rw [Int.toNat_of_nonneg a] at hcn
          have hkid : x ∈ (nd l (parI l x).toNat).kids := cnt_pos.2 (by
            have : cntI (nd l (parI l x).toNat).kids x = 1 := hcn
            omega)
          have := v.kid (parI l x) hin x hkid
          rw [List.append_nil] at this
          exact this
    exact key _ x x0 x1 (Nat.le_refl _) x2
theorem order_nodup {l : List Nd} (h : Right l) {id : Int} (h0 : 0 ≤ id) (hi : id < l.length) : (orderP l id).Nodup := by
  have := (order_inv h h0 hi).once
  rw [List.append_nil] at this
  exact this
/-- The one node without a parent on the way up. -/
theorem root_one {l : List Nd} (h : Right l) : ∀ (d : Nat) {k a b : Int}, k < l.length → hgt l k ≤ d → a ∈ anc l k → b ∈ anc l k → parI l a < 0 → parI l b < 0 → a = b
  | 0, k, a, b, hk, hd, ha, _, _, _ => by
    by_cases e : k < 0
    · rw [anc_neg e] at ha; cases ha
    · have := hgt_up (h.ende hk) e; omega
  | d + 1, k, a, b, hk, hd, ha, hb, pa, pb => by
    by_cases e : k < 0
    · rw [anc_neg e] at ha; cases ha
    · have hu := hgt_up (h.ende hk) e
      rw [anc_up (h.ende hk) e] at ha hb
      rcases List.mem_cons.1 ha with q | q
      · rcases List.mem_cons.1 hb with r | r
        · rw [q, r]
        · rw [q] at pa; rw [anc_neg pa] at r; cases r
      · rcases List.mem_cons.1 hb with r | r
        · rw [r] at pb; rw [anc_neg pb] at q; cases q
        · exact root_one h d (h.up e hk).2 (by omega) q r pa pb
theorem root_has {l : List Nd} (h : Right l) : ∀ (d : Nat) {k : Int}, 0 ≤ k → k < l.length → hgt l k ≤ d → ∃ r, r ∈ anc l k ∧ 0 ≤ r ∧ r < (l.length : Int) ∧ parI l r < 0
  | 0, k, h0, hk, hd => by have := hgt_up (h.ende hk) (by omega); omega
  | d + 1, k, h0, hk, hd => by
    have hu := hgt_up (h.ende hk) (by omega)
    by_cases e : parI l k < 0
    · exact ⟨k, anc_self h h0 hk, h0, hk, e⟩
    · obtain ⟨r, r1, r2⟩ := root_has h d (by omega) (h.up (by omega) hk).2 (by omega)
      exact ⟨r, by rw [anc_up (h.ende hk) (by omega)]; exact List.mem_cons_of_mem _ r1, r2⟩

end Go.Proofs.Ytkloahpkjbohoaa
