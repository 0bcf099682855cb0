/- A node that was taken away can be put back where it was; plain facts of no program. No condition. -/
import Derived.Test.YtkloahpkjbohoaaDocQ
import Derived.Test.YtkloahpkjbohoaaDocO
import Derived.Test.YtkloahpkjbohoaaDocS9
namespace Go.Proofs.Ytkloahpkjbohoaa
open Go.RowKit

theorem ancF_same {l l' : List Nd} : ∀ (n : Nat) (k : Int), (∀ x ∈ ancF l n k, parI l' x = parI l x) → ancF l' n k = ancF l n k
  | 0, _, _ => rfl
  | n + 1, k, h => by
    show (if k < 0 then [] else k :: ancF l' n (parI l' k)) = (if k < 0 then [] else k :: ancF l n (parI l k))
    split
    · rfl
    · rename_i q
      have hk : k ∈ ancF l (n + 1) k := by
        show k ∈ (if k < 0 then [] else k :: ancF l n (parI l k))
        rw [if_neg q]; exact List.mem_cons_self ..
      rw [h k hk, ancF_same n _ (fun x hx => h x (by
        show x ∈ (if k < 0 then [] else k :: ancF l n (parI l k))
        rw [if_neg q]; exact List.mem_cons_of_mem _ hx))]
theorem rem_len (l : List Nd) (c : Nat) : (remP l c).length = l.length := by unfold remP; rw [upd_len, cutK_len]
/-- What is left when a node is gone, and what is wanted to put it back. -/
structure Gap (l : List Nd) (m p : Nat) (a : Nat) (bq : Int) : Prop where
  par : (nd l m).parent = (p : Int)
  lt : p < l.length
  right : Right (remP l m)
  name : noName (nd (remP l m) p).name = false
  zero : ¬ m = 0
  way : (m : Int) ∉ anc (remP l m) (p : Int)
  bef : bq = -1 ∨ (¬ bq = (m : Int) ∧ bq ∈ (nd (remP l m) p).kids)
  back : insP (remP l m) p m bq = l
  at_ : a < (nd l p).kids.length
  this : ∀ k (h : k < (nd l p).kids.length), (nd l p).kids[k] = (m : Int) ↔ k = a
  next : ∀ h : a + 1 < (nd l p).kids.length, (nd l p).kids[a + 1] = bq
  last : ¬ a + 1 < (nd l p).kids.length → bq = -1
theorem gap_of {l : List Nd} (h : Right l) {m : Nat} (hm : m < l.length) (h1 : ¬ (nd l m).parent = -1) : ∃ p a bq, Gap l m p a bq := by
  have pr := h.par m hm
  obtain ⟨p, hp⟩ : ∃ p : Nat, (nd l m).parent = (p : Int) := ⟨(nd l m).parent.toNat, by omega⟩
  have hpl : p < l.length := by omega
  have hne := par_ne h hm hp
  have h0 : ¬ m = 0 := fun e => h1 (by rw [e]; exact h.root)
  have hcn := h.cnt m hm (by omega)
  rw [hp, Int.toNat_natCast] at hcn
  have hmk : (m : Int) ∈ (nd l p).kids := cnt_pos.2 (by omega)
  obtain ⟨A, B, hk⟩ := List.append_of_mem hmk
  have hnd := kids_nodup h hpl
  rw [hk] at hnd
  have hcA : (m : Int) ∉ A := fun q => (List.nodup_append.1 hnd).2.2 _ q _ (List.mem_cons_self ..) rfl
  have hcB : (m : Int) ∉ B := (List.nodup_cons.1 (List.nodup_append.1 hnd).2.1).1
  have M := rem_moved h hm
  have RR := right_rem h hm h0
  have nk : (nd (remP l m) p).kids = (nd l p).kids.filter fun x => decide (x ≠ (m : Int)) := by
    unfold remP
    rw [nd_upd _ (by rw [cutK_len]; exact hm), if_neg hne]
    unfold cutK
    rw [if_neg (by omega), hp, Int.toNat_natCast, nd_upd _ hpl, if_pos rfl]
  refine ⟨p, A.length, B.headD (-1), hp, hpl, RR, ?_, h0, ?_, ?_, ins_rem h hm hp hk, ?_, ?_, ?_, ?_⟩
  · rw [M.name p hpl]
    unfold noName
    rw [beq_eq_false_iff_ne]
    intro e
    have := h.alone p hpl
    unfold aloneB at this
    rw [if_pos e, hk] at this
    simp at this
  · have E : anc (remP l m) (p : Int) = anc l (p : Int) := by
      have na : (m : Int) ∉ anc l (p : Int) := fun q => by
        have t := anc_hgt h (hgt l (p : Int)) (by omega) (Nat.le_refl _) q
        have u := hgt_up (h.ends m hm) (by omega)
        unfold parI at u
        rw [Int.toNat_natCast, hp] at u
        omega
      unfold anc
      rw [rem_len]
      refine ancF_same _ _ fun x hx => ?_
      have r := anc_range l (fun j hj => (h.par j hj).2) _ (p : Int) (by omega) x hx
      rw [moved_parI M r.1 r.2, if_neg (fun e => na (by rw [← e]; exact hx))]
    rw [E]
    intro q
    have t := anc_hgt h (hgt l (p : Int)) (by omega) (Nat.le_refl _) q
    have u := hgt_up (h.ends m hm) (by omega)
    unfold parI at u
    rw [Int.toNat_natCast, hp] at u
    omega
  · cases B with
    | nil => exact .inl rfl
    | cons b t =>
      refine .inr ⟨fun e => hcB (by rw [← e]; exact List.mem_cons_self ..), ?_⟩
      rw [nk, hk]
      refine List.mem_filter.2 ⟨List.mem_append_right _ (List.mem_cons_of_mem _ (List.mem_cons_self ..)), ?_⟩
      have : ¬ b = (m : Int) := fun e => hcB (by rw [← e]; exact List.mem_cons_self ..)
      simpa using this
  · rw [hk]; simp
  · intro k hkl
    constructor
    · intro e
      have hd := hnd
      rw [← hk] at hd
      have e2 : (nd l p).kids[A.length]'(by rw [hk]; simp) = (m : Int) := by simp [hk]
      exact (List.getElem_inj hd).1 (e.trans e2.symm)
    · intro e
      subst e
      simp [hk]
  · intro hkl
    have hl2 : A.length + 1 < A.length + (B.length + 1) := by simpa [hk] using hkl
    simp only [hk]
    rw [List.getElem_append_right (by omega)]
    cases B with
    | nil => simp at hl2
    | cons b t => simp
  · intro hkl
    cases B with
    | nil => rfl
    | cons b t => exact absurd (by rw [hk]; simp) hkl

end Go.Proofs.Ytkloahpkjbohoaa
