/- What Add, Remove, Insert, Set, Unset answer, as documents; they stay right; a node that was taken away and put back where it was leaves the document as it was; plain facts of no program. No condition. -/
import Derived.Test.YtkloahpkjbohoaaDocI
namespace Go.Proofs.Ytkloahpkjbohoaa
open Go.RowKit

def newN (name text : ByteArray) : Nd := ⟨name, text, [], -1, []⟩
def addP (l : List Nd) (name text : ByteArray) : List Nd := l ++ [newN name text]
theorem nd_old {l : List Nd} {x : Nd} {i : Nat} (h : i < l.length) : nd (l ++ [x]) i = nd l i := by
  unfold nd
  simp only [List.getD]
  rw [List.getElem?_append_left h]
theorem nd_new (l : List Nd) (x : Nd) : nd (l ++ [x]) l.length = x := by
  unfold nd
  simp [List.getD]
theorem right_add {l : List Nd} {name text : ByteArray} (h : Right l) (hl : l.length < 400) (ha : aloneB (newN name text) = true) : Right (addP l name text) := by
  unfold addP
  have hlen : (l ++ [newN name text]).length = l.length + 1 := by simp
  have key : ∀ i, i < l.length + 1 → (i < l.length ∧ nd (l ++ [newN name text]) i = nd l i) ∨ (i = l.length ∧ nd (l ++ [newN name text]) i = newN name text) := by
    intro i hi
    rcases Nat.lt_or_ge i l.length with q | q
    · exact .inl ⟨q, nd_old q⟩
    · obtain rfl : i = l.length := by omega
      exact .inr ⟨rfl, nd_new l _⟩
  have hp : ∀ x : Int, 0 ≤ x → x < l.length → parI (l ++ [newN name text]) x = parI l x := by
    intro x h0 hx
    unfold parI
    rw [nd_old (by omega)]
  have h1 := h.len
  refine ⟨by omega, by rw [nd_old (by omega)]; exact h.head, by rw [nd_old (by omega)]; exact h.root, fun i hi => ?_, fun i hi => ?_, fun i hi hn => ?_, fun i hi c hc => ?_, fun i hi => ?_⟩
  · rw [hlen] at hi
    rcases key i hi with ⟨q, e⟩ | ⟨q, e⟩
    · rw [e]; exact h.alone i q
    · rw [e]; exact ha
  · rw [hlen] at hi ⊢
    rcases key i hi with ⟨q, e⟩ | ⟨q, e⟩
    · rw [e]; have := h.par i q; omega
    · rw [e]; show -1 ≤ (-1 : Int) ∧ (-1 : Int) < _; omega
  · rw [hlen] at hi
    rcases key i hi with ⟨q, e⟩ | ⟨q, e⟩
    · rw [e] at hn ⊢
      have hb := h.par i q
      rw [nd_old (by omega)]
      exact h.cnt i q hn
    · rw [e] at hn
      exact absurd (show (-1 : Int) < 0 by omega) hn
  · rw [hlen] at hi ⊢
    rcases key i hi with ⟨q, e⟩ | ⟨q, e⟩
    · rw [e] at hc
      have := h.kid i q c hc
      exact ⟨this.1, by omega, by rw [hp c this.1 this.2.1]; exact this.2.2⟩
    · rw [e] at hc; cases hc
  · rw [hlen] at hi
    have hpar : ∀ j, j < (l ++ [newN name text]).length → (nd (l ++ [newN name text]) j).parent < (l ++ [newN name text]).length := by
      intro j hj
      rw [hlen] at hj ⊢
      rcases key j hj with ⟨q, e⟩ | ⟨q, e⟩
      · rw [e]; have := h.par j q; omega
      · rw [e]; show (-1 : Int) < _; omega
    rcases key i hi with ⟨q, e⟩ | ⟨q, e⟩
    · refine ends_of hpar (by rw [hlen]; omega) (n := l.length + 1) ?_
      rw [climb_same (l := l) (l.length + 1) (i : Int) (fun x hx => ?_)]
      · exact h.ends i q
      · have := anc_range l (fun j hj => (h.par j hj).2) _ (i : Int) (by omega) x hx
        exact hp x this.1 this.2
    · refine ends_of hpar (by rw [hlen]; omega) (n := 1) ?_
      show (if (i : Int) < 0 then (i : Int) else parI (l ++ [newN name text]) i) < 0
      rw [if_neg (by omega)]
      unfold parI
      rw [Int.toNat_natCast, e]
      show (-1 : Int) < 0
      omega

/-- A node without its place among children. -/
def cutK (l : List Nd) (c : Nat) : List Nd := if (nd l c).parent < 0 then l else upd l (nd l c).parent.toNat fun n => { n with kids := n.kids.filter fun x => decide (x ≠ (c : Int)) }
theorem cnt_filter {ks : List Int} {c x : Int} (h : x ≠ c) : cntI (ks.filter fun y => decide (y ≠ c)) x = cntI ks x := by
  unfold cntI
  rw [List.count_filter (by simpa using h)]
theorem cnt_gone (ks : List Int) (c : Int) : cntI (ks.filter fun y => decide (y ≠ c)) c = 0 := by
  unfold cntI
  rw [List.count_eq_zero]
  simp
theorem cutK_len (l : List Nd) (c : Nat) : (cutK l c).length = l.length := by
  unfold cutK
  split
  · rfl
  · rw [upd_len]
structure CutAt (l l' : List Nd) (c : Nat) : Prop where
  len : l'.length = l.length
  name : ∀ i, i < l.length → (nd l' i).name = (nd l i).name
  text : ∀ i, i < l.length → (nd l' i).text = (nd l i).text
  attrs : ∀ i, i < l.length → (nd l' i).attrs = (nd l i).attrs
  par : ∀ i, i < l.length → (nd l' i).parent = (nd l i).parent
  other : ∀ i, i < l.length → ∀ x, x ≠ (c : Int) → cntI (nd l' i).kids x = cntI (nd l i).kids x
  this : ∀ i : Nat, i < l.length → cntI (nd l' i).kids c = 0
theorem kid_only {l : List Nd} (h : Right l) {c i : Nat} (hi : i < l.length) (hp : ¬ (nd l c).parent = (i : Int)) : cntI (nd l i).kids c = 0 := by
  have : ¬ 0 < cntI (nd l i).kids c := fun q => by
    have := (h.kid i hi (c : Int) (cnt_pos.2 q)).2.2
    unfold parI at this
    rw [Int.toNat_natCast] at this
    exact hp this
  omega
theorem cut_at {l : List Nd} (h : Right l) {c : Nat} (hc : c < l.length) : CutAt l (cutK l c) c := by
  unfold cutK
  have hb := h.par c hc
  by_cases q : (nd l c).parent < 0
  · rw [if_pos q]
    exact ⟨rfl, fun _ _ => rfl, fun _ _ => rfl, fun _ _ => rfl, fun _ _ => rfl, fun _ _ _ _ => rfl, fun i hi => kid_only h hi (by omega)⟩
  · rw [if_neg q]
    obtain ⟨p, ep⟩ : ∃ p : Nat, (nd l c).parent = (p : Int) := ⟨(nd l c).parent.toNat, by omega⟩
    rw [ep, Int.toNat_natCast]
    have hp : p < l.length := by omega
    refine ⟨upd_len .., fun i _ => ?_, fun i _ => ?_, fun i _ => ?_, fun i _ => ?_, fun i _ x hx => ?_, fun i hi => ?_⟩
    · rw [nd_upd _ hp]; split
      · rename_i e; rw [e]
      · rfl
    · rw [nd_upd _ hp]; split
      · rename_i e; rw [e]
      · rfl
    · rw [nd_upd _ hp]; split
      · rename_i e; rw [e]
      · rfl
    · rw [nd_upd _ hp]; split
      · rename_i e; rw [e]
      · rfl
    · rw [nd_upd _ hp]; split
      · rename_i e
        rw [e]
        exact cnt_filter hx
      · rfl
    · rw [nd_upd _ hp]; split
      · exact cnt_gone _ _
      · rename_i e
        exact kid_only h hi (by rw [ep]; omega)
/-- A node is taken from its parent. -/
def remP (l : List Nd) (c : Nat) : List Nd := upd (cutK l c) c fun n => { n with parent := -1 }
theorem rem_moved {l : List Nd} (h : Right l) {c : Nat} (hc : c < l.length) : Moved l (remP l c) c (-1) := by
  have k := cut_at h hc
  unfold remP
  have hc2 : c < (cutK l c).length := by rw [k.len]; exact hc
  refine ⟨by rw [upd_len, k.len], fun i hi => ?_, fun i hi => ?_, fun i hi => ?_, fun i hi => ?_, fun i hi x hx => ?_, fun i hi => ?_⟩
  · rw [nd_upd _ hc2]; split
    · rename_i e; subst e; exact k.name _ hi
    · exact k.name i hi
  · rw [nd_upd _ hc2]; split
    · rename_i e; subst e; exact k.text _ hi
    · exact k.text i hi
  · rw [nd_upd _ hc2]; split
    · rename_i e; subst e; exact k.attrs _ hi
    · exact k.attrs i hi
  · rw [nd_upd _ hc2]
    by_cases e : i = c
    · rw [if_pos e, if_pos e]
    · rw [if_neg e, if_neg e]; exact k.par i hi
  · rw [nd_upd _ hc2]; split
    · rename_i e; subst e; exact k.other _ hi x hx
    · exact k.other i hi x hx
  · rw [nd_upd _ hc2, if_neg (show ¬ (i : Int) = -1 by omega)]; split
    · rename_i e; subst e; exact k.this _ hi
    · exact k.this i hi
theorem right_rem {l : List Nd} (h : Right l) {c : Nat} (hc : c < l.length) (h0 : ¬ c = 0) : Right (remP l c) :=
  right_moved h (rem_moved h hc) hc h0 ⟨by omega, by have := h.len; omega⟩ (fun q => by omega) (by rw [anc_neg (by omega)]; simp)
/-- A child is put among children, ahead of one, or behind all. -/
def putK (ks : List Int) (c b : Int) : List Int := (ks.flatMap fun k => if k = b then [c, k] else [k]) ++ (if b = -1 then [c] else [])
theorem put_other {c b x : Int} (h : x ≠ c) : ∀ ks : List Int, cntI (ks.flatMap fun k => if k = b then [c, k] else [k]) x = cntI ks x
  | [] => rfl
  | k :: t => by
    have ih := put_other (b := b) h t
    unfold cntI at ih ⊢
    rw [List.flatMap_cons, List.count_append, ih]
    have hc : (c == x) = false := by rw [beq_eq_false_iff_ne]; exact fun q => h q.symm
    by_cases e : k = b
    · rw [if_pos e]
      simp only [List.count_cons, List.count_nil, hc, Bool.false_eq_true, if_false]
      omega
    · rw [if_neg e]
      simp only [List.count_cons, List.count_nil]
      omega
theorem put_this {c b : Int} (hb : ¬ b = c) : ∀ ks : List Int, cntI ks c = 0 → cntI (ks.flatMap fun k => if k = b then [c, k] else [k]) c = cntI ks b
  | [], _ => rfl
  | k :: t, h => by
    have hk : ¬ k = c := fun e => by
      subst e
      have := cnt_pos.1 (List.mem_cons_self (a := k) (l := t))
      omega
    have ht : cntI t c = 0 := by
      unfold cntI at h ⊢
      rw [List.count_cons] at h; omega
    have ih := put_this hb t ht
    unfold cntI at ih ⊢
    rw [List.flatMap_cons, List.count_append, ih]
    have hk2 : (k == c) = false := by rw [beq_eq_false_iff_ne]; exact hk
    by_cases e : k = b
    · subst e
      rw [if_pos rfl, List.count_cons, List.count_cons, List.count_cons, hk2]
      simp; omega
    · rw [if_neg e, List.count_cons, List.count_cons, hk2]
      have : (k == b) = false := by rw [beq_eq_false_iff_ne]; exact e
      rw [this]; simp
def insP (l : List Nd) (p c : Nat) (b : Int) : List Nd := upd (upd (cutK l c) p fun n => { n with kids := putK n.kids c b }) c fun n => { n with parent := (p : Int) }
theorem ins_moved {l : List Nd} (h : Right l) {p c : Nat} {b : Int} (hp : p < l.length) (hc : c < l.length) (hb : b = -1 ∨ (¬ b = (c : Int) ∧ cntI (nd l p).kids b ≠ 0)) : Moved l (insP l p c b) c (p : Int) := by
  have k := cut_at h hc
  have hp2 : p < (cutK l c).length := by rw [k.len]; exact hp
  have hc3 : c < (upd (cutK l c) p fun n => { n with kids := putK n.kids c b }).length := by rw [upd_len, k.len]; exact hc
  have hput : ∀ x, x ≠ (c : Int) → cntI (putK (nd (cutK l c) p).kids c b) x = cntI (nd l p).kids x := by
    intro x hx
    unfold putK
    have h1 := put_other (c := (c : Int)) (b := b) hx (nd (cutK l c) p).kids
    rw [k.other p hp x hx] at h1
    unfold cntI at h1 ⊢
    rw [List.count_append, h1]
    split
    · rw [List.count_cons]
      have : ((c : Int) == x) = false := by rw [beq_eq_false_iff_ne]; exact fun q => hx q.symm
      rw [this]; simp
    · simp
  have hone : cntI (putK (nd (cutK l c) p).kids c b) c = 1 := by
    unfold putK
    have hbc : ¬ b = (c : Int) := by
      rcases hb with rfl | hb
      · omega
      · exact hb.1
    have h1 := put_this hbc (nd (cutK l c) p).kids (k.this p hp)
    rw [k.other p hp b hbc] at h1
    unfold cntI at h1 ⊢
    rw [List.count_append, h1]
    rcases hb with rfl | ⟨_, hb⟩
    · rw [if_pos rfl]
      have : cntI (nd l p).kids (-1) = 0 := by
        have : ¬ 0 < cntI (nd l p).kids (-1) := fun q => by
          have := (h.kid p hp (-1) (cnt_pos.2 q)).1
          omega
        omega
      unfold cntI at this
      rw [this]; simp
    · have hm : b ∈ (nd l p).kids := cnt_pos.2 (by omega)
      have hk := h.kid p hp b hm
      have hcn := h.cnt b.toNat (by omega) (by
        have := hk.2.2
        unfold parI at this
        rw [this]; omega)
      have hpb : (nd l b.toNat).parent = (p : Int) := hk.2.2
      rw [hpb, Int.toNat_natCast, Int.toNat_of_nonneg hk.1] at hcn
      unfold cntI at hcn
      rw [hcn, if_neg (by omega)]; rfl
  unfold insP
  refine ⟨by rw [upd_len, upd_len, k.len], fun i hi => ?_, fun i hi => ?_, fun i hi => ?_, fun i hi => ?_, fun i hi x hx => ?_, fun i hi => ?_⟩
  · rw [nd_upd _ hc3, nd_upd _ hp2, nd_upd _ hp2]
    split
    · rename_i e; subst e; split
      · rename_i e2; subst e2; exact k.name _ hi
      · exact k.name _ hi
    · split
      · rename_i e2; subst e2; exact k.name _ hi
      · exact k.name _ hi
  · rw [nd_upd _ hc3, nd_upd _ hp2, nd_upd _ hp2]
    split
    · rename_i e; subst e; split
      · rename_i e2; subst e2; exact k.text _ hi
      · exact k.text _ hi
    · split
      · rename_i e2; subst e2; exact k.text _ hi
      · exact k.text _ hi
  · rw [nd_upd _ hc3, nd_upd _ hp2, nd_upd _ hp2]
    split
    · rename_i e; subst e; split
      · rename_i e2; subst e2; exact k.attrs _ hi
      · exact k.attrs _ hi
    · split
      · rename_i e2; subst e2; exact k.attrs _ hi
      · exact k.attrs _ hi
  · rw [nd_upd _ hc3, nd_upd _ hp2, nd_upd _ hp2]
    by_cases e : i = c
    · rw [if_pos e, if_pos e]
    · rw [if_neg e, if_neg e]
      split
      · rename_i e2; subst e2; exact k.par _ hi
      · exact k.par _ hi
  · rw [nd_upd _ hc3, nd_upd _ hp2, nd_upd _ hp2]
    split
    · rename_i e; subst e; split
      · rename_i e2; subst e2; exact hput x hx
      · exact k.other _ hi x hx
    · split
      · rename_i e2; subst e2; exact hput x hx
      · exact k.other _ hi x hx
  · rw [nd_upd _ hc3, nd_upd _ hp2, nd_upd _ hp2]
    split
    · rename_i e; subst e; split
      · rename_i e2; subst e2; rw [if_pos rfl]; exact hone
      · rename_i e2; rw [if_neg (by omega)]; exact k.this _ hi
    · split
      · rename_i e2; subst e2; rw [if_pos rfl]; exact hone
      · rename_i e2; rw [if_neg (by omega)]; exact k.this _ hi
/-- The core of the stage: a document into which a node is put stays right. -/
theorem right_ins {l : List Nd} (h : Right l) {p c : Nat} {b : Int} (hp : p < l.length) (hc : c < l.length) (h0 : ¬ c = 0) (hne : ¬ c = p) (hel : ¬ (nd l p).name.size = 0) (hw : withinB l p c = false) (hb : b = -1 ∨ (¬ b = (c : Int) ∧ cntI (nd l p).kids b ≠ 0)) : Right (insP l p c b) := by
  refine right_moved h (ins_moved h hp hc hb) hc h0 ⟨by omega, by omega⟩ (fun _ => by rw [Int.toNat_natCast]; exact hel) ?_
  rw [anc_up (h.ends p hp) (by omega)]
  intro m
  rcases List.mem_cons.1 m with e | e
  · omega
  · unfold withinB at hw
    have : (anc l (parI l p)).contains (c : Int) = true := by simpa using e
    rw [this] at hw; cases hw

end Go.Proofs.Ytkloahpkjbohoaa
