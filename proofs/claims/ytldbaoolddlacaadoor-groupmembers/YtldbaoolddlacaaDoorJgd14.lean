/- Each control that is listed and has a form is an element of just that one. Radio buttons that stand together. The program's way of asking for forms, elements, labels and what is disabled, told by the document's functions. The program's way to groups of radio buttons. The program's Of of layer 11. -/
import Derived.Test.YtldbaoolddlacaaDoorJgd3
import Derived.Test.YtldbaoolddlacaaDoorJgd15
import Derived.Test.YtldbaoolddlacaaDoorJgd18

namespace Go.Proofs.YtldbaoolddlacaaDoor
open Go.RowKit
/-- The top of a node is a root, and what the node is within. -/
theorem top_root {l : List Nd} (h : Right l) : ∀ (d : Nat) {k : Int}, 0 ≤ k → k < (l.length : Int) → hgt l k ≤ d → topP l k ∈ anc l k ∧ parI l (topP l k) < 0
  | 0, k, h0, hk, hd => by
    have := hgt_up (h.ende hk) (by omega)
    omega
  | d + 1, k, h0, hk, hd => by
    have hu := anc_up (h.ende hk) (by omega)
    have hh := hgt_up (h.ende hk) (by omega)
    have pr := h.up (by omega) hk
    by_cases q : parI l k < 0
    · have e : topP l k = k := by unfold topP; rw [hu, anc_neg q]; rfl
      rw [e]
      exact ⟨by rw [hu]; exact List.mem_cons_self, q⟩
    · have hu2 := anc_up (h.ende pr.2) q
      have e : topP l k = topP l (parI l k) := by unfold topP; rw [hu, hu2]; rfl
      have ih := top_root h d (k := parI l k) (by omega) pr.2 (by omega)
      rw [e]
      exact ⟨by rw [hu]; exact List.mem_cons_of_mem _ ih.1, ih.2⟩
theorem top_rng {l : List Nd} (h : Right l) {k : Int} (h0 : 0 ≤ k) (hk : k < (l.length : Int)) : 0 ≤ topP l k ∧ topP l k < (l.length : Int) :=
  anc_range l (fun i hi => (h.par i hi).2) _ _ hk _ (top_root h _ h0 hk (Nat.le_refl _)).1
theorem top_same {l : List Nd} (h : Right l) {k f : Int} (h0 : 0 ≤ k) (hk : k < (l.length : Int)) (f0 : 0 ≤ f) (hf : f < (l.length : Int)) : topP l f ∈ anc l k ↔ topP l k = topP l f := by
  have a := top_root h _ h0 hk (Nat.le_refl _)
  have b := top_root h _ f0 hf (Nat.le_refl _)
  constructor
  · intro q
    exact root_one h _ hk (Nat.le_refl _) a.1 q a.2 b.2
  · intro q
    rw [← q]; exact a.1
theorem kOf_form {o : Option ByteArray} : kOf oForm o = 30 := rfl
theorem isK_form {l : List Nd} (h : Right l) {f : Int} (f0 : 0 ≤ f) (hf : f < (l.length : Int)) (hn : nmI l f = oForm) : isK l f 30 = true := by
  unfold isK hasN kN
  rw [decide_eq_true (⟨f0, hf⟩ : 0 ≤ f ∧ f < (l.length : Int)), right_is.2 h, Bool.true_and, Bool.true_and]
  have e : (nd l f.toNat).name = oForm := hn
  rw [e]
  exact decide_eq_true kOf_form
/-- What is a control's form is a form. -/
theorem form_in {l : List Nd} (h : Right l) {k : Int} (hf : 0 ≤ formP l k) : formP l k < (l.length : Int) ∧ isK l (formP l k) 30 = true := by
  unfold formP at hf ⊢
  by_cases q : hasN l k = true ∧ belongs l k = true
  · rw [if_pos q] at hf ⊢
    have hk : 0 ≤ k ∧ k < (l.length : Int) := by
      have := q.1
      unfold hasN at this
      rw [Bool.and_eq_true, decide_eq_true_eq] at this
      exact this.1
    unfold formC at hf ⊢
    by_cases g : hasA (nd l k.toNat) oForm = true ∧ topP l k = 0
    · rw [if_pos g] at hf ⊢
      unfold saidF at hf ⊢
      by_cases t : 0 ≤ namedP l (fndS (nd l k.toNat).attrs oForm) ∧ nmI l (namedP l (fndS (nd l k.toNat).attrs oForm)) = oForm
      · rw [if_pos t]
        have r : namedP l (fndS (nd l k.toNat).attrs oForm) < (l.length : Int) := by
          have t0 := t.1
          unfold namedP at t0 ⊢
          split at t0
          · omega
          · rename_i e
            rw [if_neg e]
            cases e2 : (orderP l 0).find? (hasId l (fndS (nd l k.toNat).attrs oForm)) with
            | none => rw [e2] at t0; simp at t0
            | some x =>
              have := (order_mem h (by omega) (by have := h.len.1; omega) x).1 (List.mem_of_find?_eq_some e2)
              exact this.2.1
        exact ⟨r, isK_form h t.1 r t.2⟩
      · rw [if_neg t] at hf
        omega
    · rw [if_neg g] at hf ⊢
      unfold upP at hf ⊢
      cases e2 : (anc l (parI l k)).find? (fun k => decide ((nd l k.toNat).name = oForm)) with
      | none => rw [e2] at hf; simp at hf
      | some x =>
        have m := List.mem_of_find?_eq_some e2
        have n := List.find?_some e2
        have pr := h.up (k := k) (by omega) hk.2
        have r := anc_range l (fun i hi => (h.par i hi).2) _ _ pr.2 x m
        exact ⟨r.2, isK_form h r.1 r.2 (of_decide_eq_true n)⟩
  · rw [if_neg q] at hf
    omega
theorem mem_el {l : List Nd} (h : Right l) {f k : Int} : k ∈ elementsP l f ↔ isK l f 30 = true ∧ (0 ≤ k ∧ k < (l.length : Int)) ∧ topP l k = topP l f ∧ listB (kI l k) = true ∧ formP l k = f := by
  unfold elementsP
  by_cases q : isK l f 30 = true
  · rw [if_pos q, List.mem_filter]
    have hf : 0 ≤ f ∧ f < (l.length : Int) := by
      unfold isK hasN at q
      rw [Bool.and_eq_true, Bool.and_eq_true, decide_eq_true_eq] at q
      exact q.1.1
    have ht := top_rng h hf.1 hf.2
    rw [order_mem h ht.1 ht.2]
    unfold elB
    rw [Bool.and_eq_true, decide_eq_true_eq]
    constructor
    · rintro ⟨⟨a, b, c⟩, d, e⟩
      exact ⟨q, ⟨a, b⟩, (top_same h a b hf.1 hf.2).1 c, d, e⟩
    · rintro ⟨_, ⟨a, b⟩, c, d, e⟩
      exact ⟨⟨a, b, (top_same h a b hf.1 hf.2).2 c⟩, d, e⟩
  · rw [if_neg q]
    constructor
    · intro t; cases t
    · intro t; exact absurd t.1 q
theorem el_nodup {l : List Nd} (h : Right l) {f : Int} : (elementsP l f).Nodup := by
  unfold elementsP
  split
  · rename_i q
    have hf : 0 ≤ f ∧ f < (l.length : Int) := by
      unfold isK hasN at q
      rw [Bool.and_eq_true, Bool.and_eq_true, decide_eq_true_eq] at q
      exact q.1.1
    have ht := top_rng h hf.1 hf.2
    exact (order_nodup h ht.1 ht.2).filter _
  · exact List.nodup_nil
end Go.Proofs.YtldbaoolddlacaaDoor

namespace Go.Proofs.YtldbaoolddlacaaDoor
open Go.RowKit
def oNam : ByteArray := ⟨#[110, 97, 109, 101]⟩
/-- A node's name as told by its attribute; are two of one group? Is one a radio button? -/
def nmA (l : List Nd) (i : Int) : ByteArray := fndS (nd l i.toNat).attrs oNam
def togC (l : List Nd) (a b : Int) : Bool := !decide ((nmA l a).size = 0) && (decide (nmA l a = nmA l b) && (decide (formP l a = formP l b) && decide (topP l a = topP l b)))
def togB (l : List Nd) (a b : Int) : Bool := decide (a = b) || togC l a b
def radB (l : List Nd) (i : Int) : Bool := decide (kI l i = 17)
def memB (l : List Nd) (id i : Int) : Bool := radB l i && togB l id i
def membersP (l : List Nd) (id : Int) : List Int := if isK l id 17 = true then (orderP l (topP l id)).filter (memB l id) else []
def offF (_ : Int) (c : Ct) : Ct := { c with chk := false }
/-- What checking makes of states. -/
def radsP (l : List Nd) (id : Int) : List Int := ((List.range l.length).map fun i : Nat => (i : Int)).filter (memB l id)
def chkU (l : List Nd) (C : List Ct) (id : Int) (on : Bool) : List Ct := if on = true ∧ kI l id = 17 then updP offF (radsP l id) C else C
def checkC (l : List Nd) (C : List Ct) (id : Int) (on : Bool) : List Ct := setC (chkU l C id on) id { st (chkU l C id on) id with chk := on, dchk := true }
def checkO (l : List Nd) (C : List Ct) (id : Int) (on : Bool) : List Ct × Int := if rightD l C = true ∧ hasN l id = true then (if kI l id = 17 ∨ kI l id = 16 then (checkC l C id on, 0) else ([], 3)) else ([], 4)
theorem mem_mem {l : List Nd} (h : Right l) {id k : Int} : k ∈ membersP l id ↔ isK l id 17 = true ∧ (0 ≤ k ∧ k < (l.length : Int)) ∧ topP l k = topP l id ∧ radB l k = true ∧ togB l id k = true := by
  unfold membersP
  by_cases q : isK l id 17 = true
  · rw [if_pos q, List.mem_filter]
    have hf : 0 ≤ id ∧ id < (l.length : Int) := by
      unfold isK hasN at q
      rw [Bool.and_eq_true, Bool.and_eq_true, decide_eq_true_eq] at q
      exact q.1.1
    have ht := top_rng h hf.1 hf.2
    rw [order_mem h ht.1 ht.2]
    unfold memB
    rw [Bool.and_eq_true]
    constructor
    · rintro ⟨⟨a, b, c⟩, d, e⟩
      exact ⟨q, ⟨a, b⟩, (top_same h a b hf.1 hf.2).1 c, d, e⟩
    · rintro ⟨_, ⟨a, b⟩, c, d, e⟩
      exact ⟨⟨a, b, (top_same h a b hf.1 hf.2).2 c⟩, d, e⟩
  · rw [if_neg q]
    constructor
    · intro t; cases t
    · intro t; exact absurd t.1 q
theorem mem_nodup {l : List Nd} (h : Right l) {id : Int} : (membersP l id).Nodup := by
  unfold membersP
  split
  · rename_i q
    have hf : 0 ≤ id ∧ id < (l.length : Int) := by
      unfold isK hasN at q
      rw [Bool.and_eq_true, Bool.and_eq_true, decide_eq_true_eq] at q
      exact q.1.1
    have ht := top_rng h hf.1 hf.2
    exact (order_nodup h ht.1 ht.2).filter _
  · exact List.nodup_nil
theorem isK_rad {l : List Nd} (h : Right l) {k : Int} (hk : 0 ≤ k ∧ k < (l.length : Int)) (hr : radB l k = true) : isK l k 17 = true := by
  unfold isK hasN
  rw [decide_eq_true hk, right_is.2 h, Bool.true_and, Bool.true_and]
  exact hr
theorem tog_parts {l : List Nd} {a b : Int} (h : togC l a b = true) : ¬ (nmA l a).size = 0 ∧ nmA l a = nmA l b ∧ formP l a = formP l b ∧ topP l a = topP l b := by
  unfold togC at h
  rw [Bool.and_eq_true, Bool.and_eq_true, Bool.and_eq_true, decide_eq_true_eq, decide_eq_true_eq, decide_eq_true_eq] at h
  obtain ⟨h1, h2, h3, h4⟩ := h
  refine ⟨fun t => ?_, h2, h3, h4⟩
  rw [decide_eq_true t] at h1
  cases h1
theorem tog_of {l : List Nd} {a b : Int} (h : ¬ (nmA l a).size = 0 ∧ nmA l a = nmA l b ∧ formP l a = formP l b ∧ topP l a = topP l b) : togC l a b = true := by
  unfold togC
  rw [decide_eq_false h.1, decide_eq_true h.2.1, decide_eq_true h.2.2.1, decide_eq_true h.2.2.2]
  rfl
theorem tog_symm {l : List Nd} {a b : Int} (h : togB l a b = true) : togB l b a = true := by
  unfold togB at h ⊢
  rw [Bool.or_eq_true, decide_eq_true_eq] at h ⊢
  rcases h with h | h
  · exact .inl h.symm
  · have p := tog_parts h
    exact .inr (tog_of ⟨by rw [← p.2.1]; exact p.1, p.2.1.symm, p.2.2.1.symm, p.2.2.2.symm⟩)
theorem tog_trans {l : List Nd} {a b c : Int} (h : togB l a b = true) (g : togB l b c = true) : togB l a c = true := by
  unfold togB at h g ⊢
  rw [Bool.or_eq_true, decide_eq_true_eq] at h g ⊢
  rcases h with rfl | h
  · exact g
  · rcases g with rfl | g
    · exact .inr h
    · have p := tog_parts h
      have q := tog_parts g
      exact .inr (tog_of ⟨p.1, p.2.1.trans q.2.1, p.2.2.1.trans q.2.2.1, p.2.2.2.trans q.2.2.2⟩)
theorem tog_self (l : List Nd) (a : Int) : togB l a a = true := by unfold togB; rw [decide_eq_true rfl]; rfl
/-- Each of a group has the same group. -/
theorem mem_same {l : List Nd} (h : Right l) {id k : Int} (hk : k ∈ membersP l id) : membersP l k = membersP l id := by
  have m := (mem_mem h).1 hk
  have ik := isK_rad h m.2.1 m.2.2.2.1
  have hp : ∀ x, memB l k x = memB l id x := fun x => by
    unfold memB
    congr 1
    rw [Bool.eq_iff_iff]
    exact ⟨fun t => tog_trans m.2.2.2.2 t, fun t => tog_trans (tog_symm m.2.2.2.2) t⟩
  unfold membersP
  rw [if_pos ik, if_pos m.1, m.2.2.1]
  exact List.filter_congr (fun x _ => hp x)
theorem mem_self {l : List Nd} (h : Right l) {k : Int} (hk : isK l k 17 = true) : k ∈ membersP l k := by
  have hf : 0 ≤ k ∧ k < (l.length : Int) := by
    have q := hk
    unfold isK hasN at q
    rw [Bool.and_eq_true, Bool.and_eq_true, decide_eq_true_eq] at q
    exact q.1.1
  refine (mem_mem h).2 ⟨hk, hf, rfl, ?_, tog_self l k⟩
  unfold isK at hk
  rw [Bool.and_eq_true] at hk
  exact hk.2
/-- The nodes of a group, by number, are its members. -/
theorem rads_mem {l : List Nd} (h : Right l) {id x : Int} (hid : isK l id 17 = true) : x ∈ radsP l id ↔ x ∈ membersP l id := by
  rw [mem_mem h]
  unfold radsP
  rw [List.mem_filter, List.mem_map]
  constructor
  · rintro ⟨⟨i, hi, rfl⟩, hm⟩
    unfold memB at hm
    rw [Bool.and_eq_true] at hm
    have hi := List.mem_range.1 hi
    refine ⟨hid, ⟨by omega, by omega⟩, ?_, hm.1, hm.2⟩
    have t := hm.2
    unfold togB at t
    rw [Bool.or_eq_true, decide_eq_true_eq] at t
    rcases t with t | t
    · rw [t]
    · exact (tog_parts t).2.2.2.symm
  · rintro ⟨_, hx, _, h1, h2⟩
    refine ⟨⟨x.toNat, List.mem_range.2 (by omega), by omega⟩, ?_⟩
    unfold memB
    rw [h1, h2]; rfl
theorem chkU_len (l : List Nd) (C : List Ct) (id : Int) (on : Bool) : (chkU l C id on).length = C.length := by
  unfold chkU
  split
  · exact updC_len ..
  · rfl
theorem check_len (l : List Nd) (C : List Ct) (id : Int) (on : Bool) : (checkC l C id on).length = C.length := by
  unfold checkC setC
  rw [List.length_set, chkU_len]
end Go.Proofs.YtldbaoolddlacaaDoor

namespace Go.Proofs.YtldbaoolddlacaaDoor
open Go.RowKit
theorem kOf_frm {name : ByteArray} {o : Option ByteArray} : kOf name o = 30 ↔ name = oForm :=
  ⟨fun h => by have := kOf_last (i := 2) (o := o) (name := name) (by rw [h]; rfl); rw [← this]; rfl, fun h => by subst h; rfl⟩
/-- Is there a node of that number, of a kind that q takes? -/
def okB (l : List Nd) (q : Int → Bool) (id : Int) : Bool := decide (0 ≤ id ∧ id < (l.length : Int)) && q (kI l id)
theorem ok_out {l : List Nd} {q : Int → Bool} {id : Int} (h : ¬ (0 ≤ id ∧ id < (l.length : Int))) : okB l q id = false := by unfold okB; rw [decide_eq_false h]; rfl
theorem ok_at {l : List Nd} {q : Int → Bool} {m : Nat} (h : m < l.length) : okB l q (m : Int) = q (kN l[m]) := by
  unfold okB kI; rw [decide_eq_true (by omega), Int.toNat_natCast, nd_at h, Bool.true_and]
theorem ok_in {l : List Nd} {q : Int → Bool} {id : Int} (h : 0 ≤ id ∧ id < (l.length : Int)) : okB l q id = q (kI l id) := by unfold okB; rw [decide_eq_true h, Bool.true_and]
def is30 (k : Int) : Bool := k == 30
def belK (k : Int) : Bool := listB k || k == 20
def firB (l : List Nd) (q : Int → Bool) (xs : List Int) : Int := (xs.find? (okB l q)).getD (-1)
theorem dec_beq (a b : Int) : decide (a = b) = (a == b) := by
  cases h : (a == b) with
  | true => exact decide_eq_true (by simpa using h)
  | false => exact decide_eq_false (by simpa using h)
theorem ok_right {l : List Nd} {k id : Int} : (okB l (fun x => x == k) id && rightB l) = isK l id k := by
  unfold okB isK hasN kI
  rw [dec_beq (kN (nd l id.toNat)) k]
  show (decide (0 ≤ id ∧ id < (l.length : Int)) && (kN (nd l id.toNat) == k) && rightB l) = _
  cases decide (0 ≤ id ∧ id < (l.length : Int)) <;> cases rightB l <;> cases (kN (nd l id.toNat) == k) <;> rfl
/-- What is above a node, of such a kind, and holds the child that leads to it. -/
def abvP (l : List Nd) (q : Int → Bool) (h : Int → Int → Bool) (k : Int) : Int := (((anc l k).find? (fun x => okB l q (parI l x) && h (parI l x) x)).map (parI l)).getD (-1)
theorem abv_hit {l : List Nd} {q : Int → Bool} {h : Int → Int → Bool} {k : Int} (hE : Ends l k) (hk : ¬ k < 0) (g : okB l q (parI l k) = true) (g2 : h (parI l k) k = true) : abvP l q h k = parI l k := by
  unfold abvP
  rw [anc_up hE hk, List.find?_cons_of_pos (by rw [g, g2]; rfl)]; rfl
theorem abv_top {l : List Nd} {q : Int → Bool} {h : Int → Int → Bool} {k : Int} (hE : Ends l k) (hk : ¬ k < 0) (g : parI l k < 0) : abvP l q h k = -1 := by
  unfold abvP
  rw [anc_up hE hk, List.find?_cons_of_neg (by rw [ok_out (by omega)]; simp), anc_neg g]; rfl
theorem abv_up {l : List Nd} {q : Int → Bool} {h : Int → Int → Bool} {k : Int} (hE : Ends l k) (hk : ¬ k < 0) (g : (okB l q (parI l k) && h (parI l k) k) = false) : abvP l q h (parI l k) = abvP l q h k := by
  unfold abvP
  rw [anc_up hE hk, List.find?_cons_of_neg (by rw [g]; simp)]
theorem abv_form {l : List Nd} (hR : Right l) : ∀ (d : Nat) {k : Int}, 0 ≤ k → k < (l.length : Int) → hgt l k ≤ d → abvP l is30 (fun _ _ => true) k = upP l k oForm
  | 0, k, h0, hk, hd => by
    have := hgt_up (hR.ende hk) (by omega)
    omega
  | d + 1, k, h0, hk, hd => by
    have hE := hR.ende hk
    have hh := hgt_up hE (by omega)
    have pr := hR.up (by omega) hk
    by_cases q : parI l k < 0
    · rw [abv_top hE (by omega) q]
      unfold upP
      rw [anc_neg q]; rfl
    · have hE2 := hR.ende pr.2
      have hok : okB l is30 (parI l k) = decide ((nd l (parI l k).toNat).name = oForm) := by
        rw [ok_in ⟨by omega, pr.2⟩]
        unfold is30 kI kN
        rw [← dec_beq, Bool.eq_iff_iff, decide_eq_true_iff, decide_eq_true_iff]
        exact kOf_frm
      by_cases g : (nd l (parI l k).toNat).name = oForm
      · rw [abv_hit hE (by omega) (by rw [hok, decide_eq_true g]) rfl]
        unfold upP
        rw [anc_up hE2 q, List.find?_cons_of_pos (by rw [decide_eq_true g])]; rfl
      · rw [← abv_up hE (by omega) (by rw [hok, decide_eq_false g]; rfl), abv_form hR d (by omega) pr.2 (by omega)]
        unfold upP
        rw [anc_up hE2 q, List.find?_cons_of_neg (by rw [decide_eq_false g]; simp)]
/-- A form that is named. -/
theorem said_is {l : List Nd} (hR : Right l) (s : ByteArray) : firB l is30 [namedP l s] = saidF l s := by
  unfold firB saidF
  have hn : 0 ≤ namedP l s → namedP l s < (l.length : Int) := by
    intro h
    have h0 : 0 < l.length := by have := hR.len.1; omega
    unfold namedP at h ⊢
    split at h
    · omega
    · rename_i q
      rw [if_neg q]
      cases e : (orderP l 0).find? (hasId l s) with
      | none => rw [e] at h; have h : (0 : Int) ≤ -1 := h; omega
      | some x => exact ((order_mem hR (by omega) (by omega) x).1 (List.mem_of_find?_eq_some e)).2.1
  generalize namedP l s = f at *
  by_cases h0 : 0 ≤ f
  · have hok : okB l is30 f = decide (nmI l f = oForm) := by
      rw [ok_in ⟨h0, hn h0⟩]
      unfold is30 kI kN nmI
      rw [← dec_beq, Bool.eq_iff_iff, decide_eq_true_iff, decide_eq_true_iff]
      exact kOf_frm
    by_cases g : nmI l f = oForm
    · rw [if_pos ⟨h0, g⟩, List.find?_cons_of_pos (by rw [hok, decide_eq_true g])]; rfl
    · rw [if_neg (fun t => g t.2), List.find?_cons_of_neg (by rw [hok, decide_eq_false g]; simp)]; rfl
  · rw [if_neg (fun t => h0 t.1), List.find?_cons_of_neg (by rw [ok_out (fun t => h0 t.1)]; simp)]; rfl
/-- A control's form, as the program asks: by any function of names. -/
def frmP (l : List Nd) (f : ByteArray → Int) (k : Int) : Int := if hasA (nd l k.toNat) oForm = true ∧ topP l k = 0 then firB l is30 [f (fndS (nd l k.toNat).attrs oForm)] else abvP l is30 (fun _ _ => true) k
theorem frm_is {l : List Nd} (hR : Right l) {k : Int} (h0 : 0 ≤ k) (hk : k < (l.length : Int)) : frmP l (namedP l) k = formC l k := by
  unfold frmP formC
  rw [said_is hR, abv_form hR _ h0 hk (Nat.le_refl _)]
theorem form_pos {l : List Nd} (hR : Right l) {k : Int} (h0 : 0 ≤ k) (hk : k < (l.length : Int)) (hb : belK (kI l k) = true) : formP l k = formC l k := by
  unfold formP
  rw [if_pos]
  refine ⟨?_, ?_⟩
  · unfold hasN; rw [decide_eq_true ⟨h0, hk⟩, right_is.2 hR]; rfl
  · unfold belongs; rw [dec_beq]; exact hb
/-- What the form's own id tells, and no other one. -/
def ownId (l : List Nd) (f : Int) : ByteArray := fndS (nd l f.toNat).attrs idT
def nmdP (l : List Nd) (f : Int) (s : ByteArray) : Int := if s = ownId l f then namedP l (ownId l f) else -1
theorem named_id {l : List Nd} {s : ByteArray} {f : Int} (e : namedP l s = f) (h : 0 ≤ f) : ownId l f = s := by
  unfold namedP at e
  split at e
  · omega
  · cases q : (orderP l 0).find? (hasId l s) with
    | none => rw [q] at e; have e : (-1 : Int) = f := e; omega
    | some x =>
      rw [q] at e
      have e : x = f := e
      subst e
      have := List.find?_some q
      unfold hasId at this
      have := of_decide_eq_true this
      unfold attrP at this
      unfold ownId fndS
      cases g : findA (nd l x.toNat).attrs idT with
      | none => rw [g] at this; cases this
      | some i => rw [g] at this; exact Option.some.inj this
theorem frm_own {l : List Nd} (hR : Right l) {f k : Int} (hf : 0 ≤ f) (h0 : 0 ≤ k) (hk : k < (l.length : Int)) : (frmP l (nmdP l f) k = f) ↔ formC l k = f := by
  rw [← frm_is hR h0 hk]
  unfold frmP
  by_cases g : hasA (nd l k.toNat) oForm = true ∧ topP l k = 0
  · rw [if_pos g, if_pos g]
    generalize fndS (nd l k.toNat).attrs oForm = s
    unfold nmdP
    by_cases e : s = ownId l f
    · rw [if_pos e, ← e]
    · rw [if_neg e]
      constructor
      · intro t
        have : firB l is30 [-1] = -1 := by unfold firB; rw [List.find?_cons_of_neg (by rw [ok_out (by omega)]; simp)]; rfl
        omega
      · intro t
        exfalso
        apply e
        unfold firB at t
        by_cases q : okB l is30 (namedP l s) = true
        · rw [List.find?_cons_of_pos q] at t
          have t : namedP l s = f := t
          exact (named_id t hf).symm
        · rw [List.find?_cons_of_neg q] at t
          have t : (-1 : Int) = f := t
          omega
  · rw [if_neg g, if_neg g]
/-- Which nodes the program takes away from a form's. -/
def goneB (l : List Nd) (q : Int → Bool) (f k : Int) : Bool := !okB l q k || (frmP l (nmdP l f) k != f)
def ownedP (l : List Nd) (q : Int → Bool) (f : Int) : List Int := (orderP l (topP l f)).filter fun k => !goneB l q f k
theorem gone_is {l : List Nd} (hR : Right l) {q : Int → Bool} {f k : Int} (hf : 0 ≤ f) (h0 : 0 ≤ k) (hk : k < (l.length : Int)) (hq : ∀ k, q k = true → belK k = true) : (!goneB l q f k) = (q (kI l k) && decide (formP l k = f)) := by
  unfold goneB
  rw [ok_in ⟨h0, hk⟩]
  cases e : q (kI l k) with
  | false => rfl
  | true =>
    rw [form_pos hR h0 hk (hq _ e)]
    have := frm_own hR hf h0 hk
    by_cases g : formC l k = f
    · rw [decide_eq_true g, this.2 g]; simp
    · rw [decide_eq_false g]
      have h2 : ¬ frmP l (nmdP l f) k = f := fun t => g (this.1 t)
      have h3 : (frmP l (nmdP l f) k != f) = true := by rw [bne_iff_ne]; exact h2
      rw [h3]; rfl
theorem filter_in {α : Type} {p q : α → Bool} : ∀ {xs : List α}, (∀ x ∈ xs, p x = q x) → xs.filter p = xs.filter q
  | [], _ => rfl
  | x :: xs, h => by
    rw [List.filter_cons, List.filter_cons, h x List.mem_cons_self, filter_in (fun y hy => h y (List.mem_cons_of_mem _ hy))]
theorem isK_in {l : List Nd} {f k : Int} (h : isK l f k = true) : Right l ∧ 0 ≤ f ∧ f < (l.length : Int) := by
  unfold isK at h
  rw [Bool.and_eq_true] at h
  have h := h.1
  unfold hasN at h
  rw [Bool.and_eq_true, decide_eq_true_eq] at h
  exact ⟨right_is.1 h.2, h.1⟩
theorem owned_in {l : List Nd} {q : Int → Bool} {f : Int} (h : isK l f 30 = true) (hq : ∀ k, q k = true → belK k = true) : ownedP l q f = (orderP l (topP l f)).filter fun k => q (kI l k) && decide (formP l k = f) := by
  obtain ⟨hR, f0, f1⟩ := isK_in h
  have tr := top_rng hR f0 f1
  exact filter_in (fun x hx => by
    have := (order_mem hR tr.1 tr.2 x).1 hx
    exact gone_is hR f0 this.1 this.2.1 hq)
theorem list_bel {k : Int} (h : listB k = true) : belK k = true := by unfold belK; rw [h]; rfl
theorem elements_is {l : List Nd} {f : Int} : elementsP l f = if isK l f 30 = true then ownedP l listB f else [] := by
  unfold elementsP
  by_cases h : isK l f 30 = true
  · rw [if_pos h, if_pos h, owned_in h (fun k => list_bel)]; rfl
  · rw [if_neg h, if_neg h]
end Go.Proofs.YtldbaoolddlacaaDoor

namespace Go.Proofs.YtldbaoolddlacaaDoor
open Go.RowKit
abbrev GKey := ByteArray × Int × Int × Int
/-- What the buttons of one group have alike. -/
def keyG (l : List Nd) (i : Int) : GKey := if (nmA l i).size = 0 then (⟨#[]⟩, 0, 0, i) else (nmA l i, formP l i, topP l i, 0)
theorem key_tog {l : List Nd} {a b : Int} : keyG l a = keyG l b ↔ togB l a b = true := by
  unfold togB
  rw [Bool.or_eq_true, decide_eq_true_eq]
  constructor
  · intro h
    unfold keyG at h
    by_cases qa : (nmA l a).size = 0
    · rw [if_pos qa] at h
      by_cases qb : (nmA l b).size = 0
      · rw [if_pos qb] at h
        exact .inl (congrArg (fun x : GKey => x.2.2.2) h)
      · rw [if_neg qb] at h
        have e : (⟨#[]⟩ : ByteArray) = nmA l b := congrArg (fun x : GKey => x.1) h
        rw [← e] at qb
        exact absurd rfl qb
    · rw [if_neg qa] at h
      by_cases qb : (nmA l b).size = 0
      · rw [if_pos qb] at h
        have e : nmA l a = (⟨#[]⟩ : ByteArray) := congrArg (fun x : GKey => x.1) h
        rw [e] at qa
        exact absurd rfl qa
      · rw [if_neg qb] at h
        exact .inr (tog_of ⟨qa, congrArg (fun x : GKey => x.1) h, congrArg (fun x : GKey => x.2.1) h, congrArg (fun x : GKey => x.2.2.1) h⟩)
  · rintro (rfl | h)
    · rfl
    · have p := tog_parts h
      unfold keyG
      rw [if_neg p.1, if_neg (by rw [← p.2.1]; exact p.1), p.2.1, p.2.2.1, p.2.2.2]
/-- Keys as they come; what is put together by them. -/
def memK (k : GKey) (K : List GKey) : Bool := K.any fun x => decide (x = k)
theorem memK_iff {k : GKey} {K : List GKey} : memK k K = true ↔ k ∈ K := by
  unfold memK
  rw [List.any_eq_true]
  constructor
  · rintro ⟨x, hx, e⟩
    rw [← of_decide_eq_true e]; exact hx
  · intro h
    exact ⟨k, h, decide_eq_true rfl⟩
def stepK (K : List GKey) (k : GKey) : List GKey := if memK k K = true then K else K ++ [k]
def keysG (l : List Nd) (ys : List Int) : List GKey := ys.foldl (fun K y => stepK K (keyG l y)) []
def grpG (l : List Nd) (ys : List Int) : List (List Int) := (keysG l ys).map fun k => ys.filter fun y => decide (keyG l y = k)
theorem keys_snoc {l : List Nd} {ys : List Int} {y : Int} : keysG l (ys ++ [y]) = stepK (keysG l ys) (keyG l y) := by unfold keysG; rw [List.foldl_append]; rfl
theorem keys_foldM {l : List Nd} {k : GKey} : ∀ (ys : List Int) (K : List GKey), k ∈ ys.foldl (fun K y => stepK K (keyG l y)) K ↔ k ∈ K ∨ ∃ y ∈ ys, keyG l y = k
  | [], K => by simp
  | y :: ys, K => by
    rw [List.foldl_cons, keys_foldM ys]
    have e : k ∈ stepK K (keyG l y) ↔ k ∈ K ∨ keyG l y = k := by
      unfold stepK
      split
      · rename_i q
        exact ⟨.inl, fun t => t.elim id (fun t => t ▸ memK_iff.1 q)⟩
      · rw [List.mem_append, List.mem_singleton]
        exact ⟨fun t => t.imp id Eq.symm, fun t => t.imp id Eq.symm⟩
    rw [e]
    constructor
    · rintro ((t | t) | ⟨x, hx, t⟩)
      · exact .inl t
      · exact .inr ⟨y, List.mem_cons_self, t⟩
      · exact .inr ⟨x, List.mem_cons_of_mem _ hx, t⟩
    · rintro (t | ⟨x, hx, t⟩)
      · exact .inl (.inl t)
      · rcases List.mem_cons.1 hx with rfl | hx
        · exact .inl (.inr t)
        · exact .inr ⟨x, hx, t⟩
theorem keys_mem {l : List Nd} {k : GKey} {ys : List Int} : k ∈ keysG l ys ↔ ∃ y ∈ ys, keyG l y = k := by
  unfold keysG
  rw [keys_foldM]
  exact ⟨fun t => t.elim (fun t => by cases t) id, .inr⟩
theorem keys_foldN {l : List Nd} : ∀ (ys : List Int) (K : List GKey), K.Nodup → (ys.foldl (fun K y => stepK K (keyG l y)) K).Nodup
  | [], _, h => h
  | y :: ys, K, h => by
    rw [List.foldl_cons]
    refine keys_foldN ys _ ?_
    unfold stepK
    split
    · exact h
    · rename_i q
      rw [List.nodup_append]
      exact ⟨h, by simp, fun a ha b hb e => q (by rw [List.mem_singleton] at hb; rw [memK_iff, ← hb, ← e]; exact ha)⟩
theorem keys_nodup {l : List Nd} {ys : List Int} : (keysG l ys).Nodup := keys_foldN ys [] List.nodup_nil
theorem grp_len {l : List Nd} {ys : List Int} : (grpG l ys).length = (keysG l ys).length := List.length_map ..
theorem gat_at {l : List Nd} {ys : List Int} {p : Nat} (h : p < (keysG l ys).length) : (grpG l ys)[p]'(by rw [grp_len]; exact h) = ys.filter fun y => decide (keyG l y = (keysG l ys)[p]) := by
  unfold grpG
  rw [List.getElem_map]
theorem filt_one {p : Int → Bool} {y : Int} : [y].filter p = if p y = true then [y] else [] := by
  cases h : p y <;> simp [h]
theorem grp_new {l : List Nd} {ys : List Int} {y : Int} (h : keyG l y ∉ keysG l ys) : grpG l (ys ++ [y]) = grpG l ys ++ [[y]] := by
  unfold grpG
  rw [keys_snoc, stepK, if_neg (fun t => h (memK_iff.1 t)), List.map_append]
  congr 1
  · refine List.map_congr_left fun k hk => ?_
    rw [List.filter_append, filt_one, if_neg (by rw [decide_eq_true_eq]; exact fun e => h (e ▸ hk)), List.append_nil]
  · show [(ys ++ [y]).filter _] = [[y]]
    rw [List.filter_append, filt_one, if_pos (decide_eq_true rfl), List.filter_eq_nil_iff.2, List.nil_append]
    intro x hx q
    rw [decide_eq_true_eq] at q
    exact h (keys_mem.2 ⟨x, hx, q⟩)
theorem grp_old {l : List Nd} {ys : List Int} {y : Int} {p : Nat} (hp : p < (keysG l ys).length) (h : (keysG l ys)[p] = keyG l y) : grpG l (ys ++ [y]) = (grpG l ys).set p ((grpG l ys)[p]'(by rw [grp_len]; exact hp) ++ [y]) := by
  have hm : keyG l y ∈ keysG l ys := h ▸ List.getElem_mem hp
  have ek : keysG l (ys ++ [y]) = keysG l ys := by rw [keys_snoc, stepK, if_pos (memK_iff.2 hm)]
  refine List.ext_getElem (by rw [List.length_set, grp_len, grp_len, ek]) fun i h1 h2 => ?_
  have hi : i < (keysG l ys).length := by rw [grp_len, ek] at h1; exact h1
  have ei : (keysG l (ys ++ [y]))[i]'(by rw [ek]; exact hi) = (keysG l ys)[i] := by congr 1
  rw [gat_at (by rw [ek]; exact hi), List.getElem_set, ei, List.filter_append, filt_one]
  by_cases e : p = i
  · subst e
    rw [if_pos rfl, if_pos (decide_eq_true h.symm), gat_at hp]
  · rw [if_neg e, gat_at hi, if_neg, List.append_nil]
    rw [decide_eq_true_eq, ← h]
    intro q
    exact e ((List.getElem_inj keys_nodup).1 q)
theorem grp_key {l : List Nd} {ys : List Int} {p : Nat} (h : p < (keysG l ys).length) {x : Int} : x ∈ (grpG l ys)[p]'(by rw [grp_len]; exact h) ↔ x ∈ ys ∧ keyG l x = (keysG l ys)[p] := by
  rw [gat_at h, List.mem_filter, decide_eq_true_eq]
/-- The radio buttons of a tree; of all trees, in order. -/
def radG (l : List Nd) (t : Nat) : List Int := if (nd l t).parent = -1 then (orderP l (t : Int)).filter (radB l) else []
def idsG (l : List Nd) : Nat → List Int
  | 0 => []
  | k + 1 => idsG l k ++ radG l k
theorem anc_trans {l : List Nd} (h : Right l) : ∀ (d : Nat) {k x y : Int}, k < (l.length : Int) → hgt l k ≤ d → x ∈ anc l k → y ∈ anc l x → y ∈ anc l k
  | 0, k, x, y, hk, hd, hx, hy => by
    by_cases k0 : k < 0
    · rw [anc_neg k0] at hx; cases hx
    · have := hgt_up (h.ende hk) k0
      omega
  | d + 1, k, x, y, hk, hd, hx, hy => by
    by_cases k0 : k < 0
    · rw [anc_neg k0] at hx; cases hx
    · have hu := anc_up (h.ende hk) k0
      have hh := hgt_up (h.ende hk) k0
      have pr := h.up (k := k) (by omega) hk
      rw [hu] at hx ⊢
      rcases List.mem_cons.1 hx with rfl | hx
      · rw [← hu]; exact hy
      · exact List.mem_cons_of_mem _ (anc_trans h d pr.2 (by omega) hx hy)
theorem top_anc {l : List Nd} (h : Right l) {k x : Int} (h0 : 0 ≤ k) (hk : k < (l.length : Int)) (hx : x ∈ anc l k) : topP l k = topP l x := by
  have r := anc_range l (fun i hi => (h.par i hi).2) _ _ hk x hx
  have a := top_root h _ h0 hk (Nat.le_refl _)
  have b := top_root h _ r.1 r.2 (Nat.le_refl _)
  exact root_one h _ hk (Nat.le_refl _) a.1 (anc_trans h _ hk (Nat.le_refl _) hx b.1) a.2 b.2
theorem par_root {l : List Nd} (h : Right l) {t : Nat} (ht : t < l.length) : parI l (t : Int) < 0 ↔ (nd l t).parent = -1 := by
  have p := h.par t ht
  rw [nd_at ht] at p ⊢
  have e : parI l (t : Int) = l[t].parent := by unfold parI; rw [Int.toNat_natCast, nd_at ht]
  rw [e]
  omega
theorem top_self {l : List Nd} (h : Right l) {t : Nat} (ht : t < l.length) (hp : (nd l t).parent = -1) : topP l (t : Int) = (t : Int) := by
  have a := top_root h _ (k := (t : Int)) (by omega) (by omega) (Nat.le_refl _)
  exact root_one h _ (k := (t : Int)) (by omega) (Nat.le_refl _) a.1 (anc_self h (by omega) (by omega)) a.2 ((par_root h ht).2 hp)
theorem order_top {l : List Nd} (h : Right l) {t : Nat} (ht : t < l.length) (hp : (nd l t).parent = -1) {x : Int} : x ∈ orderP l (t : Int) ↔ 0 ≤ x ∧ x < (l.length : Int) ∧ topP l x = (t : Int) := by
  rw [order_mem h (by omega) (by omega)]
  constructor
  · rintro ⟨a, b, c⟩
    exact ⟨a, b, (top_anc h a b c).trans (top_self h ht hp)⟩
  · rintro ⟨a, b, c⟩
    exact ⟨a, b, c ▸ (top_root h _ a b (Nat.le_refl _)).1⟩
theorem rad_mem {l : List Nd} (h : Right l) {t : Nat} (ht : t < l.length) {x : Int} (hx : x ∈ radG l t) : (0 ≤ x ∧ x < (l.length : Int)) ∧ topP l x = (t : Int) ∧ radB l x = true := by
  unfold radG at hx
  split at hx
  · rename_i q
    obtain ⟨a, b⟩ := List.mem_filter.1 hx
    have c := (order_top h ht q).1 a
    exact ⟨⟨c.1, c.2.1⟩, c.2.2, b⟩
  · cases hx
theorem key_top {l : List Nd} {a b : Int} (h : keyG l a = keyG l b) : topP l a = topP l b := by
  have t := key_tog.1 h
  unfold togB at t
  rw [Bool.or_eq_true, decide_eq_true_eq] at t
  rcases t with rfl | t
  · rfl
  · exact (tog_parts t).2.2.2
theorem ids_filt {l : List Nd} (h : Right l) {x : Int} (h0 : 0 ≤ x) (hx : x < (l.length : Int)) {t : Nat} (ht : topP l x = (t : Int)) : ∀ n, n ≤ l.length →
    (idsG l n).filter (fun y => decide (keyG l y = keyG l x)) = if t < n then (radG l t).filter (fun y => decide (keyG l y = keyG l x)) else []
  | 0, _ => rfl
  | n + 1, hn => by
    show (idsG l n ++ radG l n).filter _ = _
    rw [List.filter_append, ids_filt h h0 hx ht n (by omega)]
    by_cases e : n = t
    · subst e
      rw [if_neg (by omega), if_pos (by omega), List.nil_append]
    · have z : (radG l n).filter (fun y => decide (keyG l y = keyG l x)) = [] := by
        rw [List.filter_eq_nil_iff]
        intro y hy q
        rw [decide_eq_true_eq] at q
        have a := (rad_mem h (by omega) hy).2.1
        have b := key_top q
        rw [a, ht] at b
        omega
      rw [z, List.append_nil]
      by_cases g : t < n
      · rw [if_pos g, if_pos (by omega)]
      · rw [if_neg g, if_neg (by omega)]
theorem grp_is {l : List Nd} {x : Int} (hk : isK l x 17 = true) : (idsG l l.length).filter (fun y => decide (keyG l y = keyG l x)) = membersP l x := by
  obtain ⟨h, h0, hx⟩ := isK_in hk
  have r := top_rng h h0 hx
  obtain ⟨t, ht⟩ : ∃ t : Nat, topP l x = (t : Int) := ⟨(topP l x).toNat, by omega⟩
  have htl : t < l.length := by omega
  have rp := (top_root h _ h0 hx (Nat.le_refl _)).2
  rw [ht] at rp
  have rp := (par_root h htl).1 rp
  rw [ids_filt h h0 hx ht _ (Nat.le_refl _), if_pos htl]
  unfold membersP radG
  rw [if_pos hk, if_pos rp, ht, List.filter_filter]
  refine List.filter_congr fun y _ => ?_
  unfold memB
  rw [Bool.and_comm]
  congr 1
  rw [Bool.eq_iff_iff, decide_eq_true_eq, key_tog]
  exact ⟨tog_symm, tog_symm⟩
theorem ids_mem {l : List Nd} (h : Right l) {x : Int} : ∀ n, n ≤ l.length → x ∈ idsG l n → isK l x 17 = true
  | 0, _, hx => by cases hx
  | n + 1, hn, hx => by
    rcases List.mem_append.1 hx with hx | hx
    · exact ids_mem h n (by omega) hx
    · have m := rad_mem h (by omega) hx
      exact isK_rad h m.1 m.2.2
/-- All groups of a document. -/
def allG (l : List Nd) : List (List Int) := grpG l (idsG l l.length)
theorem all_mem {l : List Nd} (h : Right l) {g : List Int} (hg : g ∈ allG l) : ∃ x, isK l x 17 = true ∧ x ∈ g ∧ g = membersP l x := by
  obtain ⟨p, hp, rfl⟩ := List.getElem_of_mem hg
  have hp' : p < (keysG l (idsG l l.length)).length := by unfold allG at hp; rw [← grp_len]; exact hp
  obtain ⟨x, hx, ex⟩ := keys_mem.1 (List.getElem_mem hp')
  have k := ids_mem h _ (Nat.le_refl _) hx
  refine ⟨x, k, (grp_key hp').2 ⟨hx, ex⟩, ?_⟩
  exact (gat_at hp').trans (by rw [← ex, grp_is k])
theorem all_of {l : List Nd} (h : Right l) {g : List Int} (hg : g ∈ allG l) {x : Int} (hx : x ∈ g) : isK l x 17 = true ∧ g = membersP l x := by
  obtain ⟨y, ky, _, rfl⟩ := all_mem h hg
  have m := (mem_mem h).1 hx
  exact ⟨isK_rad h m.2.1 m.2.2.2.1, (mem_same h hx).symm⟩
theorem all_has {l : List Nd} {x : Int} (hk : isK l x 17 = true) : membersP l x ∈ allG l := by
  have h := (isK_in hk).1
  have hx : x ∈ idsG l l.length := by
    have m := mem_self h hk
    rw [← grp_is hk] at m
    exact (List.mem_filter.1 m).1
  obtain ⟨p, hp, e⟩ := List.getElem_of_mem (keys_mem.2 ⟨x, hx, rfl⟩)
  have q : (grpG l (idsG l l.length))[p]'(by rw [grp_len]; exact hp) = membersP l x := by rw [gat_at hp, e, grp_is hk]
  rw [← q]
  exact List.getElem_mem _
theorem all_rng {l : List Nd} (h : Right l) {g : List Int} (hg : g ∈ allG l) {x : Int} (hx : x ∈ g) : 0 ≤ x ∧ x < (l.length : Int) := (isK_in (all_of h hg hx).1).2
theorem allG_nodup {l : List Nd} (h : Right l) {g : List Int} (hg : g ∈ allG l) : g.Nodup := by
  obtain ⟨x, _, _, rfl⟩ := all_mem h hg
  exact mem_nodup h
theorem all_find {l : List Nd} (h : Right l) {k : Nat} (hk : k < (allG l).length) {x : Int} (hx : x ∈ (allG l)[k]) : membersP l x = (allG l)[k] := ((all_of h (List.getElem_mem hk) hx).2).symm
/-- Forms by the elements of each: what the last form of which a node is an element says. -/
def ownF (l : List Nd) (x : Int) : Nat → Int
  | 0 => -1
  | n + 1 => if x ∈ elementsP l (n : Int) then (n : Int) else ownF l x n
theorem form_top {l : List Nd} (h : Right l) {k : Int} (hf : 0 ≤ formP l k) : topP l k = topP l (formP l k) := by
  have r := (form_in h hf).1
  unfold formP at hf r ⊢
  by_cases q : hasN l k = true ∧ belongs l k = true
  · rw [if_pos q] at hf r ⊢
    have hk : 0 ≤ k ∧ k < (l.length : Int) := by
      have := q.1
      unfold hasN at this
      rw [Bool.and_eq_true, decide_eq_true_eq] at this
      exact this.1
    unfold formC at hf r ⊢
    by_cases g : hasA (nd l k.toNat) oForm = true ∧ topP l k = 0
    · rw [if_pos g] at hf r ⊢
      unfold saidF at hf r ⊢
      by_cases t : 0 ≤ namedP l (fndS (nd l k.toNat).attrs oForm) ∧ nmI l (namedP l (fndS (nd l k.toNat).attrs oForm)) = oForm
      · rw [if_pos t] at hf r ⊢
        have t0 := t.1
        unfold namedP at t0 hf r ⊢
        split at t0
        · omega
        · rename_i e
          rw [if_neg e] at hf r ⊢
          cases e2 : (orderP l 0).find? (hasId l (fndS (nd l k.toNat).attrs oForm)) with
          | none => rw [e2] at t0; simp at t0
          | some x =>
            rw [e2, Option.getD_some] at hf r
            rw [Option.getD_some]
            have m := (order_mem h (by omega) (by have := h.len.1; omega) x).1 (List.mem_of_find?_eq_some e2)
            rw [top_anc h m.1 m.2.1 m.2.2]
            have z := top_root h _ hk.1 hk.2 (Nat.le_refl _)
            rw [g.2] at z
            rw [g.2]
            have l0 : 0 < l.length := by omega
            have a := top_self h (t := 0) l0 ((par_root h l0).1 z.2)
            exact a.symm
      · rw [if_neg t] at hf
        omega
    · rw [if_neg g] at hf r ⊢
      unfold upP at hf r ⊢
      cases e2 : (anc l (parI l k)).find? (fun k => decide ((nd l k.toNat).name = oForm)) with
      | none => rw [e2] at hf; simp at hf
      | some x =>
        rw [Option.getD_some]
        have m := List.mem_of_find?_eq_some e2
        refine top_anc h hk.1 hk.2 ?_
        rw [anc_up (h.ende hk.2) (by omega)]
        exact List.mem_cons_of_mem _ m
  · rw [if_neg q] at hf
    omega
theorem ownF_no {l : List Nd} {x : Int} : ∀ n : Nat, (∀ i, i < n → x ∉ elementsP l (i : Int)) → ownF l x n = -1
  | 0, _ => rfl
  | n + 1, hn => by
    show (if _ then _ else _) = _
    rw [if_neg (hn n (by omega)), ownF_no n (fun i hi => hn i (by omega))]
theorem ownF_yes {l : List Nd} (h : Right l) {x : Int} {f : Nat} (hf : x ∈ elementsP l (f : Int)) : ∀ n, f < n → ownF l x n = (f : Int)
  | 0, q => by omega
  | n + 1, q => by
    show (if _ then _ else _) = _
    by_cases e : n = f
    · subst e
      rw [if_pos hf]
    · have : x ∉ elementsP l (n : Int) := fun t => by
        have a := ((mem_el h).1 t).2.2.2.2
        have b := ((mem_el h).1 hf).2.2.2.2
        rw [a] at b
        omega
      rw [if_neg this, ownF_yes h hf n (by omega)]
theorem ownF_is {l : List Nd} {x : Int} (hk : isK l x 17 = true) : ownF l x l.length = formP l x := by
  obtain ⟨h, h0, hx⟩ := isK_in hk
  have hl : listB (kI l x) = true := by
    have e : kI l x = 17 := by
      unfold isK at hk
      rw [Bool.and_eq_true, decide_eq_true_eq] at hk
      exact hk.2
    rw [e]; rfl
  by_cases q : 0 ≤ formP l x
  · have r := form_in h q
    obtain ⟨f, ef⟩ : ∃ f : Nat, formP l x = (f : Int) := ⟨(formP l x).toNat, by omega⟩
    have m : x ∈ elementsP l (f : Int) := (mem_el h).2 ⟨by rw [← ef]; exact r.2, ⟨h0, hx⟩, by rw [← ef]; exact form_top h q, hl, ef⟩
    rw [ownF_yes h m _ (by have := r.1; omega), ef]
  · rw [ownF_no]
    · have : formP l x = -1 ∨ 0 ≤ formP l x := by
        unfold formP formC saidF upP
        split
        · split
          · split
            · rename_i t; exact .inr t.1
            · exact .inl rfl
          · cases e2 : (anc l (parI l x)).find? (fun k => decide ((nd l k.toNat).name = oForm)) with
            | none => exact .inl rfl
            | some y =>
              rw [Option.getD_some]
              exact .inr (anc_range l (fun i hi => (h.par i hi).2) _ _ (h.up (k := x) (by omega) hx).2 y (List.mem_of_find?_eq_some e2)).1
        · exact .inl rfl
      omega
    · intro i hi t
      have := ((mem_el h).1 t).2.2.2.2
      omega
/-- States of which, of a list, one alone is checked; what settling does, group by group. -/
def chkF (p i : Int) (c : Ct) : Ct := { c with chk := decide (i = p) }
/-- What checking does, by the group itself. -/
theorem check_is {l : List Nd} {C : List Ct} {id : Nat} (h : Right l) (_hl : C.length = l.length) (hid : id < l.length) (on : Bool) (c : Ct)
    (hc : c = { st (if on = true then updP (chkF (id : Int)) (membersP l (id : Int)) C else C) (id : Int) with chk := on, dchk := true }) :
    (if on = true then updP (chkF (id : Int)) (membersP l (id : Int)) C else C).set id c = checkC l C (id : Int) on := by
  unfold checkC setC chkU
  rw [Int.toNat_natCast]
  cases on with
  | false =>
    rw [if_neg (by decide), if_neg (by rintro ⟨t, _⟩; cases t)]
    rw [if_neg (by decide)] at hc
    rw [hc]
  | true =>
    rw [if_pos rfl] at hc ⊢
    by_cases k : isK l (id : Int) 17 = true
    · have k17 : kI l (id : Int) = 17 := by
        unfold isK at k
        rw [Bool.and_eq_true, decide_eq_true_eq] at k
        exact k.2
      rw [if_pos ⟨rfl, k17⟩]
      refine List.ext_getElem (by rw [List.length_set, List.length_set, updC_len, updC_len]) fun i h1 h2 => ?_
      have hi : i < C.length := by rw [List.length_set, updC_len] at h1; exact h1
      rw [List.getElem_set, List.getElem_set, upd_at hi, upd_at hi]
      by_cases e : id = i
      · subst e
        rw [if_pos rfl, if_pos rfl, hc, st_upd (by omega) (by omega), st_upd (by omega) (by omega)]
        split <;> split <;> rfl
      · rw [if_neg e, if_neg e]
        by_cases m : (i : Int) ∈ membersP l (id : Int)
        · rw [if_pos m, if_pos ((rads_mem h k).2 m)]
          unfold chkF offF
          rw [decide_eq_false (by omega)]
        · rw [if_neg m, if_neg (fun t => m ((rads_mem h k).1 t))]
    · have k17 : ¬ kI l (id : Int) = 17 := fun t => k (by
        unfold isK hasN
        rw [decide_eq_true (by omega), right_is.2 h]
        exact decide_eq_true t)
      rw [if_neg (fun t => k17 t.2)]
      have em : membersP l (id : Int) = [] := if_neg k
      rw [em, upd_nil] at hc ⊢
      rw [hc]
end Go.Proofs.YtldbaoolddlacaaDoor

namespace Go.Proofs.YtldbaoolddlacaaDoor
open Go.RowKit
set_option maxHeartbeats 4000000 in
set_option maxRecDepth 100000 in
theorem of_input (n : Nd) (va vk : Value) (w : World) (hT : KTabs w) (ha : AttrsV w va n.attrs) (hl : n.attrs.length ≤ 4398046511104) (hs : ∀ a ∈ n.attrs, a.2.size ≤ 140737488351232) (h : n.name = ⟨#[105, 110, 112, 117, 116]⟩) :
    Calls Tryd.prog 30 #[.agg #[.string n.name, .string n.text, va, .int .i64 n.parent, vk]] w fun e w' => e = .returned (.int .i64 (byT (tyOf n.attrs) 1 22 2)) ∧ Below w.heap.size w w' := by
  have t0 : (n.name.toList == [105, 110, 112, 117, 116]) = true := lit_yes h
  have t1 : (n.name.toList == [115, 101, 108, 101, 99, 116]) = false := by rw [h, ByteArray.toList_eq]; rfl
  have t2 : (n.name.toList == [116, 101, 120, 116, 97, 114, 101, 97]) = false := by rw [h, ByteArray.toList_eq]; rfl
  have t3 : (n.name.toList == [98, 117, 116, 116, 111, 110]) = false := by rw [h, ByteArray.toList_eq]; rfl
  clear h
  have B0 : Hid (Below w.heap.size w (w.alloc (.cells #[.string n.name, .string n.text, va, .int .i64 n.parent, vk] 44))) := (Below.refl _ w).alloc (Nat.le_refl _) _
  have k0 : (w.alloc (.cells #[.string n.name, .string n.text, va, .int .i64 n.parent, vk] 44)).cell? ⟨w.heap.size, 0, none⟩ = some (.string n.name) := by simp
  have k1 : (w.alloc (.cells #[.string n.name, .string n.text, va, .int .i64 n.parent, vk] 44)).cell? ⟨w.heap.size, 1, none⟩ = some (.string n.text) := by simp
  have k2 : (w.alloc (.cells #[.string n.name, .string n.text, va, .int .i64 n.parent, vk] 44)).cell? ⟨w.heap.size, 2, none⟩ = some (va) := by simp
  have k3 : (w.alloc (.cells #[.string n.name, .string n.text, va, .int .i64 n.parent, vk] 44)).cell? ⟨w.heap.size, 3, none⟩ = some (.int .i64 n.parent) := by simp
  have k4 : (w.alloc (.cells #[.string n.name, .string n.text, va, .int .i64 n.parent, vk] 44)).cell? ⟨w.heap.size, 4, none⟩ = some (vk) := by simp
  have HBy := hide (byType_any n va vk 1 22 2 (w.alloc (.cells #[.string n.name, .string n.text, va, .int .i64 n.parent, vk] 44)) (hT.below B0.out) (ha.below B0.out) hl hs)
  clear hT ha hl hs
  go_enter Tryd.func30, Tryd.ntmps30
  go_wp2_with fail
  generalize w.alloc (.cells #[.string n.name, .string n.text, va, .int .i64 n.parent, vk] 44) = w0 at *
  refine HBy.out.mono ?_
  rintro e w1 ⟨rfl, b1⟩
  go_wp2_with fail
  go_ret
  exact ⟨rfl, chain B0.out b1⟩
set_option maxHeartbeats 4000000 in
set_option maxRecDepth 100000 in
theorem of_select (n : Nd) (va vk : Value) (w : World) (h : n.name = ⟨#[115, 101, 108, 101, 99, 116]⟩) :
    Calls Tryd.prog 30 #[.agg #[.string n.name, .string n.text, va, .int .i64 n.parent, vk]] w fun e w' => e = .returned (.int .i64 (23)) ∧ Below w.heap.size w w' := by
  have t0 : (n.name.toList == [105, 110, 112, 117, 116]) = false := by rw [h, ByteArray.toList_eq]; rfl
  have t1 : (n.name.toList == [115, 101, 108, 101, 99, 116]) = true := lit_yes h
  have t2 : (n.name.toList == [116, 101, 120, 116, 97, 114, 101, 97]) = false := by rw [h, ByteArray.toList_eq]; rfl
  have t3 : (n.name.toList == [98, 117, 116, 116, 111, 110]) = false := by rw [h, ByteArray.toList_eq]; rfl
  clear h
  have B0 : Hid (Below w.heap.size w (w.alloc (.cells #[.string n.name, .string n.text, va, .int .i64 n.parent, vk] 44))) := (Below.refl _ w).alloc (Nat.le_refl _) _
  have k0 : (w.alloc (.cells #[.string n.name, .string n.text, va, .int .i64 n.parent, vk] 44)).cell? ⟨w.heap.size, 0, none⟩ = some (.string n.name) := by simp
  have k1 : (w.alloc (.cells #[.string n.name, .string n.text, va, .int .i64 n.parent, vk] 44)).cell? ⟨w.heap.size, 1, none⟩ = some (.string n.text) := by simp
  have k2 : (w.alloc (.cells #[.string n.name, .string n.text, va, .int .i64 n.parent, vk] 44)).cell? ⟨w.heap.size, 2, none⟩ = some (va) := by simp
  have k3 : (w.alloc (.cells #[.string n.name, .string n.text, va, .int .i64 n.parent, vk] 44)).cell? ⟨w.heap.size, 3, none⟩ = some (.int .i64 n.parent) := by simp
  have k4 : (w.alloc (.cells #[.string n.name, .string n.text, va, .int .i64 n.parent, vk] 44)).cell? ⟨w.heap.size, 4, none⟩ = some (vk) := by simp
  go_enter Tryd.func30, Tryd.ntmps30
  go_wp2_with fail
  go_ret
  exact ⟨rfl, B0.out⟩
set_option maxHeartbeats 4000000 in
set_option maxRecDepth 100000 in
theorem of_textarea (n : Nd) (va vk : Value) (w : World) (h : n.name = ⟨#[116, 101, 120, 116, 97, 114, 101, 97]⟩) :
    Calls Tryd.prog 30 #[.agg #[.string n.name, .string n.text, va, .int .i64 n.parent, vk]] w fun e w' => e = .returned (.int .i64 (24)) ∧ Below w.heap.size w w' := by
  have t0 : (n.name.toList == [105, 110, 112, 117, 116]) = false := by rw [h, ByteArray.toList_eq]; rfl
  have t1 : (n.name.toList == [115, 101, 108, 101, 99, 116]) = false := by rw [h, ByteArray.toList_eq]; rfl
  have t2 : (n.name.toList == [116, 101, 120, 116, 97, 114, 101, 97]) = true := lit_yes h
  have t3 : (n.name.toList == [98, 117, 116, 116, 111, 110]) = false := by rw [h, ByteArray.toList_eq]; rfl
  clear h
  have B0 : Hid (Below w.heap.size w (w.alloc (.cells #[.string n.name, .string n.text, va, .int .i64 n.parent, vk] 44))) := (Below.refl _ w).alloc (Nat.le_refl _) _
  have k0 : (w.alloc (.cells #[.string n.name, .string n.text, va, .int .i64 n.parent, vk] 44)).cell? ⟨w.heap.size, 0, none⟩ = some (.string n.name) := by simp
  have k1 : (w.alloc (.cells #[.string n.name, .string n.text, va, .int .i64 n.parent, vk] 44)).cell? ⟨w.heap.size, 1, none⟩ = some (.string n.text) := by simp
  have k2 : (w.alloc (.cells #[.string n.name, .string n.text, va, .int .i64 n.parent, vk] 44)).cell? ⟨w.heap.size, 2, none⟩ = some (va) := by simp
  have k3 : (w.alloc (.cells #[.string n.name, .string n.text, va, .int .i64 n.parent, vk] 44)).cell? ⟨w.heap.size, 3, none⟩ = some (.int .i64 n.parent) := by simp
  have k4 : (w.alloc (.cells #[.string n.name, .string n.text, va, .int .i64 n.parent, vk] 44)).cell? ⟨w.heap.size, 4, none⟩ = some (vk) := by simp
  go_enter Tryd.func30, Tryd.ntmps30
  go_wp2_with fail
  go_ret
  exact ⟨rfl, B0.out⟩
set_option maxHeartbeats 4000000 in
set_option maxRecDepth 100000 in
theorem of_button (n : Nd) (va vk : Value) (w : World) (hT : KTabs w) (ha : AttrsV w va n.attrs) (hl : n.attrs.length ≤ 4398046511104) (hs : ∀ a ∈ n.attrs, a.2.size ≤ 140737488351232) (h : n.name = ⟨#[98, 117, 116, 116, 111, 110]⟩) :
    Calls Tryd.prog 30 #[.agg #[.string n.name, .string n.text, va, .int .i64 n.parent, vk]] w fun e w' => e = .returned (.int .i64 (byT (tyOf n.attrs) 25 27 25)) ∧ Below w.heap.size w w' := by
  have t0 : (n.name.toList == [105, 110, 112, 117, 116]) = false := by rw [h, ByteArray.toList_eq]; rfl
  have t1 : (n.name.toList == [115, 101, 108, 101, 99, 116]) = false := by rw [h, ByteArray.toList_eq]; rfl
  have t2 : (n.name.toList == [116, 101, 120, 116, 97, 114, 101, 97]) = false := by rw [h, ByteArray.toList_eq]; rfl
  have t3 : (n.name.toList == [98, 117, 116, 116, 111, 110]) = true := lit_yes h
  clear h
  have B0 : Hid (Below w.heap.size w (w.alloc (.cells #[.string n.name, .string n.text, va, .int .i64 n.parent, vk] 44))) := (Below.refl _ w).alloc (Nat.le_refl _) _
  have k0 : (w.alloc (.cells #[.string n.name, .string n.text, va, .int .i64 n.parent, vk] 44)).cell? ⟨w.heap.size, 0, none⟩ = some (.string n.name) := by simp
  have k1 : (w.alloc (.cells #[.string n.name, .string n.text, va, .int .i64 n.parent, vk] 44)).cell? ⟨w.heap.size, 1, none⟩ = some (.string n.text) := by simp
  have k2 : (w.alloc (.cells #[.string n.name, .string n.text, va, .int .i64 n.parent, vk] 44)).cell? ⟨w.heap.size, 2, none⟩ = some (va) := by simp
  have k3 : (w.alloc (.cells #[.string n.name, .string n.text, va, .int .i64 n.parent, vk] 44)).cell? ⟨w.heap.size, 3, none⟩ = some (.int .i64 n.parent) := by simp
  have k4 : (w.alloc (.cells #[.string n.name, .string n.text, va, .int .i64 n.parent, vk] 44)).cell? ⟨w.heap.size, 4, none⟩ = some (vk) := by simp
  have HBy := hide (byType_any n va vk 25 27 25 (w.alloc (.cells #[.string n.name, .string n.text, va, .int .i64 n.parent, vk] 44)) (hT.below B0.out) (ha.below B0.out) hl hs)
  clear hT ha hl hs
  go_enter Tryd.func30, Tryd.ntmps30
  go_wp2_with fail
  generalize w.alloc (.cells #[.string n.name, .string n.text, va, .int .i64 n.parent, vk] 44) = w0 at *
  refine HBy.out.mono ?_
  rintro e w1 ⟨rfl, b1⟩
  go_wp2_with fail
  go_ret
  exact ⟨rfl, chain B0.out b1⟩
def lastI (A : Option Nat) : Int := match A with
  | none => 0
  | some i => 28 + (i : Int)
set_option maxHeartbeats 4000000 in
set_option maxRecDepth 100000 in
theorem of_last (n : Nd) (va vk : Value) (w : World) (hT : KTabs w) (h0 : ¬ n.name = ⟨#[105, 110, 112, 117, 116]⟩) (h1 : ¬ n.name = ⟨#[115, 101, 108, 101, 99, 116]⟩) (h2 : ¬ n.name = ⟨#[116, 101, 120, 116, 97, 114, 101, 97]⟩) (h3 : ¬ n.name = ⟨#[98, 117, 116, 116, 111, 110]⟩) :
    Calls Tryd.prog 30 #[.agg #[.string n.name, .string n.text, va, .int .i64 n.parent, vk]] w fun e w' => e = .returned (.int .i64 (lastI (seekL n.name 8 0))) ∧ Below w.heap.size w w' := by
  have TB := hide (fun k => txt_beq n.name (lastN k))
  have t0 := lit_no (l := [105, 110, 112, 117, 116]) h0
  have t1 := lit_no (l := [115, 101, 108, 101, 99, 116]) h1
  have t2 := lit_no (l := [116, 101, 120, 116, 97, 114, 101, 97]) h2
  have t3 := lit_no (l := [98, 117, 116, 116, 111, 110]) h3
  clear h0 h1 h2 h3
  have B0 : Hid (Below w.heap.size w (w.alloc (.cells #[.string n.name, .string n.text, va, .int .i64 n.parent, vk] 44))) := (Below.refl _ w).alloc (Nat.le_refl _) _
  have k0 : (w.alloc (.cells #[.string n.name, .string n.text, va, .int .i64 n.parent, vk] 44)).cell? ⟨w.heap.size, 0, none⟩ = some (.string n.name) := by simp
  have k1 : (w.alloc (.cells #[.string n.name, .string n.text, va, .int .i64 n.parent, vk] 44)).cell? ⟨w.heap.size, 1, none⟩ = some (.string n.text) := by simp
  have k2 : (w.alloc (.cells #[.string n.name, .string n.text, va, .int .i64 n.parent, vk] 44)).cell? ⟨w.heap.size, 2, none⟩ = some (va) := by simp
  have k3 : (w.alloc (.cells #[.string n.name, .string n.text, va, .int .i64 n.parent, vk] 44)).cell? ⟨w.heap.size, 3, none⟩ = some (.int .i64 n.parent) := by simp
  have k4 : (w.alloc (.cells #[.string n.name, .string n.text, va, .int .i64 n.parent, vk] 44)).cell? ⟨w.heap.size, 4, none⟩ = some (vk) := by simp
  have T0 := hT.below B0.out
  obtain ⟨CS, hld, hin, hix⟩ := load_last (w.alloc (.cells #[.string n.name, .string n.text, va, .int .i64 n.parent, vk] 44)) T0
  have HIX := hide hix
  have HLD := hide hld
  have HIN := hide hin
  clear hix hld hin
  obtain ⟨A, hA⟩ : ∃ A, Hid (seekL n.name 8 0 = A) := ⟨_, show _ = _ from rfl⟩
  rw [hA.out]
  clear hT T0
  go_enter Tryd.func30, Tryd.ntmps30
  generalize n.name = nm at *
  go_upto_region 10 with fail
  refine wp_region_lit ?_
  refine wpList_load_mid rfl 77 _ rfl 0 0 rfl CS _ HLD.out Tryd.underlying77 rfl HIN.out ?_
  generalize CS.toArray = CA at *
  go_wp2_with fail
  generalize w.alloc (.cells #[.string nm, .string n.text, va, .int .i64 n.parent, vk] 44) = w0 at *
  go_loop [20] (fun iv => ∃ k : Nat, k ≤ 8 ∧ iv = .int .i64 k ∧ Hid (seekL nm (8 - k) k = A)) (fun iv => 8 - (intOf iv).toNat)
  case atStart => exact ⟨0, Nat.zero_le _, rfl, hA⟩
  case round =>
    obtain ⟨k, hk, rfl, hn⟩ := hrel
    clear hA
    by_cases hlt : k < 8
    · have hix := HIX.out k hlt w0
      have kk : (k : Int) < 8 := by omega
      have ST := hide (hn.out.symm.trans (seekL_step nm k hlt))
      have TK := hide (TB.out k)
      by_cases he : lastN k = nm
      · have q : (nm.toList == (lastN k).toList) = true := by rw [TK.out]; exact decide_eq_true he.symm
        rw [if_pos he] at ST
        clear hn he TB
        generalize lastN k = x at *
        go_wp2_with fail
        go_ret
        exact ⟨by rw [ST.out]; rfl, B0.out⟩
      · have q : (nm.toList == (lastN k).toList) = false := by rw [TK.out]; exact decide_eq_false (fun t => he t.symm)
        rw [if_neg he] at ST
        clear hn he TB
        generalize lastN k = x at *
        go_wp2_with fail
        go_round
        case rel => exact ⟨k + 1, by omega, by go_num, ST.out.symm⟩
        case measure => simp [intOf]; omega
    · obtain rfl : k = 8 := by omega
      have N : Hid (A = none) := hn.out.symm
      clear hn hlt
      go_wp2_with fail
      go_ret
      exact ⟨by rw [N.out]; rfl, B0.out⟩
theorem of_any (n : Nd) (va vk : Value) (w : World) (hT : KTabs w) (ha : AttrsV w va n.attrs) (hl : n.attrs.length ≤ 4398046511104) (hs : ∀ a ∈ n.attrs, a.2.size ≤ 140737488351232) :
    Calls Tryd.prog 30 #[.agg #[.string n.name, .string n.text, va, .int .i64 n.parent, vk]] w fun e w' => e = .returned (.int .i64 (kOf n.name (tyOf n.attrs))) ∧ Below w.heap.size w w' := by
  by_cases h0 : n.name = ⟨#[105, 110, 112, 117, 116]⟩
  · rw [show kOf n.name (tyOf n.attrs) = byT (tyOf n.attrs) 1 22 2 from by unfold kOf; rw [if_pos h0]]
    exact of_input n va vk w hT ha hl hs h0
  by_cases h1 : n.name = ⟨#[115, 101, 108, 101, 99, 116]⟩
  · rw [show kOf n.name (tyOf n.attrs) = 23 from by unfold kOf; rw [if_neg h0, if_pos h1]]
    exact of_select n va vk w h1
  by_cases h2 : n.name = ⟨#[116, 101, 120, 116, 97, 114, 101, 97]⟩
  · rw [show kOf n.name (tyOf n.attrs) = 24 from by unfold kOf; rw [if_neg h0, if_neg h1, if_pos h2]]
    exact of_textarea n va vk w h2
  by_cases h3 : n.name = ⟨#[98, 117, 116, 116, 111, 110]⟩
  · rw [show kOf n.name (tyOf n.attrs) = byT (tyOf n.attrs) 25 27 25 from by unfold kOf; rw [if_neg h0, if_neg h1, if_neg h2, if_pos h3]]
    exact of_button n va vk w hT ha hl hs h3
  rw [show kOf n.name (tyOf n.attrs) = lastI (seekL n.name 8 0) from by unfold kOf; rw [if_neg h0, if_neg h1, if_neg h2, if_neg h3]; rfl]
  exact of_last n va vk w hT h0 h1 h2 h3

end Go.Proofs.YtldbaoolddlacaaDoor
