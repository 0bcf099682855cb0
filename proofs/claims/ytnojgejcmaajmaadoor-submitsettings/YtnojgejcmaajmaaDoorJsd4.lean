/- Ways up in a right document. -/
import Derived.Test.YtnojgejcmaajmaaDoorJsd2

namespace Go.Proofs.YtnojgejcmaajmaaDoor
open Go.RowKit
/-- The nodes on the way up from a number, and how many they are. -/
def ancF (l : List Nd) : Nat → Int → List Int
  | 0, _ => []
  | n + 1, k => if k < 0 then [] else k :: ancF l n (parI l k)
def anc (l : List Nd) (k : Int) : List Int := ancF l (l.length + 1) k
def hgt (l : List Nd) (k : Int) : Nat := (anc l k).length
def Ends (l : List Nd) (k : Int) : Prop := climb l (l.length + 1) k < 0
theorem climb_more (l : List Nd) : ∀ {n : Nat} {k : Int} (m : Nat), climb l n k < 0 → climb l (n + m) k < 0
  | 0, k, m, h => by
    have h : k < 0 := h
    cases m with
    | zero => exact h
    | succ m =>
      rw [Nat.zero_add]
      show (if k < 0 then k else _) < 0
      rw [if_pos h]; exact h
  | n + 1, k, m, h => by
    rw [show n + 1 + m = (n + m) + 1 by omega]
    show (if k < 0 then k else climb l (n + m) (parI l k)) < 0
    have h : (if k < 0 then k else climb l n (parI l k)) < 0 := h
    split
    · assumption
    · rename_i q
      rw [if_neg q] at h
      exact climb_more l m h
theorem ancF_more (l : List Nd) : ∀ {n : Nat} {k : Int} (m : Nat), climb l n k < 0 → ancF l (n + m) k = ancF l n k
  | 0, k, m, h => by
    have h : k < 0 := h
    cases m with
    | zero => rfl
    | succ m =>
      rw [Nat.zero_add]
      show (if k < 0 then [] else _) = []
      rw [if_pos h]
  | n + 1, k, m, h => by
    rw [show n + 1 + m = (n + m) + 1 by omega]
    show (if k < 0 then [] else k :: ancF l (n + m) (parI l k)) = (if k < 0 then [] else k :: ancF l n (parI l k))
    have h : (if k < 0 then k else climb l n (parI l k)) < 0 := h
    split
    · rfl
    · rename_i q
      rw [if_neg q] at h
      rw [ancF_more l m h]
theorem ends_neg {l : List Nd} {k : Int} (h : k < 0) : Ends l k := by
  show (if k < 0 then k else _) < 0
  rw [if_pos h]; exact h
theorem anc_up {l : List Nd} {k : Int} (h : Ends l k) (hk : ¬ k < 0) : anc l k = k :: anc l (parI l k) := by
  have h : (if k < 0 then k else climb l l.length (parI l k)) < 0 := h
  rw [if_neg hk] at h
  show (if k < 0 then [] else k :: ancF l l.length (parI l k)) = k :: ancF l (l.length + 1) (parI l k)
  rw [if_neg hk, ancF_more l 1 h]
theorem hgt_up {l : List Nd} {k : Int} (h : Ends l k) (hk : ¬ k < 0) : hgt l k = hgt l (parI l k) + 1 := by
  unfold hgt
  rw [anc_up h hk]; rfl
/-- What a right document has. -/
structure Right (l : List Nd) : Prop where
  len : 1 ≤ l.length ∧ l.length ≤ 400
  head : ¬ (nd l 0).name.size = 0
  root : (nd l 0).parent = -1
  alone : ∀ i, i < l.length → aloneB (nd l i) = true
  par : ∀ i, i < l.length → -1 ≤ (nd l i).parent ∧ (nd l i).parent < l.length
  cnt : ∀ i, i < l.length → ¬ (nd l i).parent < 0 → cntI (nd l (nd l i).parent.toNat).kids i = 1
  kid : ∀ i, i < l.length → ∀ c ∈ (nd l i).kids, 0 ≤ c ∧ c < l.length ∧ parI l c = (i : Int)
  ends : ∀ i : Nat, i < l.length → Ends l (i : Int)
theorem right_is {l : List Nd} : rightB l = true ↔ Right l := by
  unfold rightB
  rw [Bool.and_eq_true, Bool.and_eq_true, Bool.and_eq_true, Bool.and_eq_true, decide_eq_true_eq, List.all_eq_true, List.all_eq_true]
  constructor
  · rintro ⟨h1, h2, h3, h4, h5⟩
    have N : ∀ i, i < l.length → nodeOk l i = true := fun i hi => h4 i (List.mem_range.2 hi)
    have P : ∀ i, i < l.length → aloneB (nd l i) = true ∧ (-1 ≤ (nd l i).parent ∧ (nd l i).parent < l.length) ∧ ((nd l i).parent < 0 ∨ cntI (nd l (nd l i).parent.toNat).kids i = 1) ∧ ∀ c ∈ (nd l i).kids, kidOk l i c = true := by
      intro i hi
      have := N i hi
      unfold nodeOk at this
      rw [Bool.and_eq_true, Bool.and_eq_true, Bool.and_eq_true, decide_eq_true_eq, Bool.or_eq_true, decide_eq_true_eq, beq_iff_eq, List.all_eq_true] at this
      exact this
    refine ⟨h1, by simpa using h2, by simpa using h3, fun i hi => (P i hi).1, fun i hi => (P i hi).2.1, fun i hi q => ?_, fun i hi c hc => ?_, fun i hi => show climb l (l.length + 1) (i : Int) < 0 from of_decide_eq_true (h5 i (List.mem_range.2 hi))⟩
    · rcases (P i hi).2.2.1 with r | r
      · exact absurd r q
      · exact r
    · have := (P i hi).2.2.2 c hc
      unfold kidOk at this
      rw [Bool.and_eq_true, decide_eq_true_eq, beq_iff_eq] at this
      exact ⟨this.1.1, this.1.2, this.2⟩
  · intro h
    refine ⟨h.len, by simpa using h.head, by rw [h.root]; rfl, fun i hi => ?_, fun i hi => decide_eq_true (show climb l (l.length + 1) (i : Int) < 0 from h.ends i (List.mem_range.1 hi))⟩
    have hi := List.mem_range.1 hi
    unfold nodeOk
    rw [Bool.and_eq_true, Bool.and_eq_true, Bool.and_eq_true, decide_eq_true_eq, Bool.or_eq_true, decide_eq_true_eq, beq_iff_eq, List.all_eq_true]
    refine ⟨h.alone i hi, h.par i hi, ?_, fun c hc => ?_⟩
    · by_cases q : (nd l i).parent < 0
      · exact .inl q
      · exact .inr (h.cnt i hi q)
    · have := h.kid i hi c hc
      unfold kidOk
      rw [Bool.and_eq_true, decide_eq_true_eq, beq_iff_eq]
      exact ⟨⟨this.1, this.2.1⟩, this.2.2⟩
theorem Right.up {l : List Nd} (h : Right l) {k : Int} (h0 : ¬ k < 0) (hk : k < l.length) : -1 ≤ parI l k ∧ parI l k < l.length := h.par k.toNat (by omega)
theorem Right.ende {l : List Nd} (h : Right l) {k : Int} (hk : k < l.length) : Ends l k := by
  by_cases q : k < 0
  · exact ends_neg q
  · have := h.ends k.toNat (by omega)
    rw [Int.toNat_of_nonneg (by omega)] at this
    exact this
/-- Is there a node, in a right document? -/
def hasN (l : List Nd) (id : Int) : Bool := decide (0 ≤ id ∧ id < l.length) && rightB l

end Go.Proofs.YtnojgejcmaajmaaDoor
