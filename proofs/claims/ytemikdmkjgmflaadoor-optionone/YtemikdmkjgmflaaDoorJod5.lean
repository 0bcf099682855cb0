/- Ways up that end at all end within as many steps as there are nodes. A node and what is within it, in order. The document's Text of layer 10. A select's options and which of them are selected, as functions of documents and states. The way down in a document. A select's options by way of its children. What a range over the program's iterator of layer 15 keeps. -/
import Derived.Test.YtemikdmkjgmflaaDoorJod6
import Derived.Test.YtemikdmkjgmflaaDoorJod9
import Derived.Test.YtemikdmkjgmflaaDoorJod10
import Derived.Test.YtemikdmkjgmflaaDoorJod11
import Derived.Test.YtemikdmkjgmflaaDoorJod12
import Derived.Lib.SlTrimSet
import Derived.RangeFuncNested
import Derived.RangeFuncBound
import Derived.RangeFuncCalls
import Derived.RangeFuncLeaves
import Derived.RangeFuncBox
import Derived.Shelf.RegionOpen
import Derived.OwnWalkIn
import Derived.TacticsInMore
import Derived.LoopNIn
import Derived.LoopIn

namespace Go.Proofs.YtemikdmkjgmflaaDoor
open Go.RowKit
/-- Different numbers below n are at most n. -/
theorem nodup_len : ∀ (n : Nat) (L : List Int), L.Nodup → (∀ x ∈ L, 0 ≤ x ∧ x < (n : Int)) → L.length ≤ n
  | 0, L, _, h => by
    cases L with
    | nil => exact Nat.le_refl _
    | cons x t => have := h x (List.mem_cons_self ..); omega
  | n + 1, L, hn, h => by
    have ih := nodup_len n (L.erase (n : Int)) (hn.erase _) (fun x hx => by
      have h1 := (hn.mem_erase_iff).1 hx
      have h2 := h x h1.2
      have h3 : x ≠ (n : Int) := h1.1
      omega)
    rw [List.length_erase] at ih
    split at ih <;> omega
theorem climb_add (l : List Nd) : ∀ (n m : Nat) (k : Int), climb l (n + m) k = climb l m (climb l n k)
  | 0, m, k => by rw [Nat.zero_add]; rfl
  | n + 1, m, k => by
    rw [show n + 1 + m = (n + m) + 1 by omega]
    show (if k < 0 then k else climb l (n + m) (parI l k)) = climb l m (if k < 0 then k else climb l n (parI l k))
    by_cases h : k < 0
    · rw [if_pos h, if_pos h]
      cases m with
      | zero => rfl
      | succ m => show k = (if k < 0 then k else _); rw [if_pos h]
    · rw [if_neg h, if_neg h, climb_add l n m]
theorem climb_loop (l : List Nd) {m : Nat} {k : Int} (h : climb l m k = k) : ∀ q, climb l (q * m) k = k
  | 0 => by rw [Nat.zero_mul]; rfl
  | q + 1 => by rw [Nat.succ_mul, climb_add, climb_loop l h q, h]
/-- A number that is met on the way up is so many steps up. -/
theorem anc_steps (l : List Nd) : ∀ (n : Nat) (k x : Int), x ∈ ancF l n k → ∃ m, m < n ∧ climb l m k = x ∧ 0 ≤ x
  | 0, _, _, h => by cases h
  | n + 1, k, x, h => by
    have h : x ∈ (if k < 0 then [] else k :: ancF l n (parI l k)) := h
    by_cases q : k < 0
    · rw [if_pos q] at h; cases h
    · rw [if_neg q] at h
      rcases List.mem_cons.1 h with e | e
      · exact ⟨0, by omega, e.symm, by omega⟩
      · obtain ⟨m, m1, m2, m3⟩ := anc_steps l n (parI l k) x e
        refine ⟨m + 1, by omega, ?_, m3⟩
        show (if k < 0 then k else climb l m (parI l k)) = x
        rw [if_neg q]; exact m2
theorem anc_nodup (l : List Nd) : ∀ (n : Nat) (k : Int), climb l n k < 0 → (ancF l n k).Nodup
  | 0, _, _ => List.nodup_nil
  | n + 1, k, h => by
    show (if k < 0 then [] else k :: ancF l n (parI l k)).Nodup
    by_cases q : k < 0
    · rw [if_pos q]; exact List.nodup_nil
    · rw [if_neg q]
      have h2 : climb l n (parI l k) < 0 := by
        have h : (if k < 0 then k else climb l n (parI l k)) < 0 := h
        rw [if_neg q] at h; exact h
      refine List.nodup_cons.2 ⟨fun hm => ?_, anc_nodup l n _ h2⟩
      obtain ⟨m, m1, m2, _⟩ := anc_steps l n _ _ hm
      have h3 : climb l (m + 1) k = k := by
        show (if k < 0 then k else climb l m (parI l k)) = k
        rw [if_neg q]; exact m2
      have h4 := climb_loop l h3 (n + 1)
      have h5 := climb_more l ((n + 1) * (m + 1) - (n + 1)) h
      rw [show n + 1 + ((n + 1) * (m + 1) - (n + 1)) = (n + 1) * (m + 1) by
        have : n + 1 ≤ (n + 1) * (m + 1) := Nat.le_mul_of_pos_right _ (by omega)
        omega, h4] at h5
      exact q h5
theorem anc_range (l : List Nd) (hp : ∀ i, i < l.length → (nd l i).parent < l.length) : ∀ (n : Nat) (k : Int), k < l.length → ∀ x ∈ ancF l n k, 0 ≤ x ∧ x < (l.length : Int)
  | 0, _, _, x, h => by cases h
  | n + 1, k, hk, x, h => by
    have h : x ∈ (if k < 0 then [] else k :: ancF l n (parI l k)) := h
    by_cases q : k < 0
    · rw [if_pos q] at h; cases h
    · rw [if_neg q] at h
      rcases List.mem_cons.1 h with e | e
      · subst e; exact ⟨by omega, hk⟩
      · exact anc_range l hp n _ (hp k.toNat (by omega)) x e
theorem climb_len (l : List Nd) : ∀ (n : Nat) (k : Int), climb l n k < 0 → climb l (ancF l n k).length k < 0
  | 0, _, h => h
  | n + 1, k, h => by
    have h : (if k < 0 then k else climb l n (parI l k)) < 0 := h
    show climb l (if k < 0 then [] else k :: ancF l n (parI l k)).length k < 0
    by_cases q : k < 0
    · rw [if_pos q]; exact q
    · rw [if_neg q] at h ⊢
      show (if k < 0 then k else climb l (ancF l n (parI l k)).length (parI l k)) < 0
      rw [if_neg q]
      exact climb_len l n _ h
/-- A way up that ends, ends in time. -/
theorem ends_of {l : List Nd} (hp : ∀ i, i < l.length → (nd l i).parent < l.length) {k : Int} (hk : k < l.length) {n : Nat} (h : climb l n k < 0) : Ends l k := by
  have h1 := nodup_len l.length _ (anc_nodup l n k h) (anc_range l hp n k hk)
  have h2 := climb_more l (l.length + 1 - (ancF l n k).length) (climb_len l n k h)
  rw [show (ancF l n k).length + (l.length + 1 - (ancF l n k).length) = l.length + 1 by omega] at h2
  exact h2
end Go.Proofs.YtemikdmkjgmflaaDoor

namespace Go.Proofs.YtemikdmkjgmflaaDoor
open Go.RowKit
/-- In order, with a list of those that are to be gone to. -/
def orderF (l : List Nd) : Nat → List Int → List Int
  | 0, _ => []
  | _ + 1, [] => []
  | n + 1, k :: st => k :: orderF l n ((nd l k.toNat).kids ++ st)
def orderP (l : List Nd) (id : Int) : List Int := orderF l (l.length + 1) [id]
theorem anc_self {l : List Nd} (h : Right l) {k : Int} (h0 : 0 ≤ k) (hk : k < l.length) : k ∈ anc l k := by
  rw [anc_up (h.ende hk) (by omega)]; exact List.mem_cons_self ..
theorem anc_hgt {l : List Nd} (h : Right l) : ∀ (d : Nat) {k x : Int}, k < l.length → hgt l k ≤ d → x ∈ anc l k → hgt l x ≤ hgt l k
  | 0, k, x, hk, hd, hm => by
    by_cases e : k < 0
    · rw [anc_neg e] at hm; cases hm
    · have := hgt_up (h.ende hk) e; omega
  | d + 1, k, x, hk, hd, hm => by
    by_cases e : k < 0
    · rw [anc_neg e] at hm; cases hm
    · rw [anc_up (h.ende hk) e] at hm
      rcases List.mem_cons.1 hm with q | q
      · rw [q]; exact Nat.le_refl _
      · have h1 := hgt_up (h.ende hk) e
        have h2 := anc_hgt h d (h.up e hk).2 (by omega) q
        omega
/-- What is gone to so far, what is to be gone to. -/
structure Inv (l : List Nd) (id : Int) (out st : List Int) : Prop where
  once : (out ++ st).Nodup
  rng : ∀ x ∈ out ++ st, 0 ≤ x ∧ x < (l.length : Int) ∧ id ∈ anc l x
  par : ∀ x ∈ out ++ st, x = id ∨ parI l x ∈ out
  kid : ∀ x ∈ out, ∀ c ∈ (nd l x.toNat).kids, c ∈ out ++ st
  first : ∀ X k Y, out = X ++ k :: Y → k = id ∨ parI l k ∈ X
  has : id ∈ out ++ st
theorem inv_zero {l : List Nd} (h : Right l) {id : Int} (h0 : 0 ≤ id) (hi : id < l.length) : Inv l id [] [id] := by
  refine ⟨by simp, fun x hx => ?_, fun x hx => .inl (by simpa using hx), (fun x hx => by cases hx), fun X k Y e => ?_, by simp⟩
  · have : x = id := by simpa using hx
    rw [this]; exact ⟨h0, hi, anc_self h h0 hi⟩
  · cases X <;> cases e
theorem inv_step {l : List Nd} (h : Right l) {id : Int} {out st : List Int} {k : Int} (v : Inv l id out (k :: st)) : Inv l id (out ++ [k]) ((nd l k.toNat).kids ++ st) := by
  have hk := v.rng k (by simp)
  have hkl : k.toNat < l.length := by omega
  have kds : ∀ c ∈ (nd l k.toNat).kids, 0 ≤ c ∧ c < (l.length : Int) ∧ parI l c = k := by
    intro c hc
    have := h.kid k.toNat hkl c hc
    rw [Int.toNat_of_nonneg hk.1] at this
    exact this
  have hno := v.once
  have hkout : k ∉ out := fun m => (List.nodup_append.1 hno).2.2 k m k (List.mem_cons_self ..) rfl
  have fresh : ∀ c ∈ (nd l k.toNat).kids, c ∉ out ++ k :: st := by
    intro c hc hm
    have hcp := kds c hc
    rcases v.par c hm with e | e
    · subst e
      have h1 := hgt_up (h.ende hcp.2.1) (by omega)
      rw [hcp.2.2] at h1
      have h2 := anc_hgt h _ hk.2.1 (Nat.le_refl _) hk.2.2
      omega
    · rw [hcp.2.2] at e
      exact hkout e
  have mem : ∀ x, x ∈ (out ++ [k]) ++ ((nd l k.toNat).kids ++ st) ↔ x ∈ out ++ k :: st ∨ x ∈ (nd l k.toNat).kids := by
    intro x
    simp only [List.mem_append, List.mem_cons, List.not_mem_nil, or_false]
    constructor
    · rintro ((a | a) | a | a)
      · exact .inl (.inl a)
      · exact .inl (.inr (.inl a))
      · exact .inr a
      · exact .inl (.inr (.inr a))
    · rintro ((a | a | a) | a)
      · exact .inl (.inl a)
      · exact .inl (.inr a)
      · exact .inr (.inr a)
      · exact .inr (.inl a)
  refine ⟨?_, fun x hx => ?_, fun x hx => ?_, fun x hx c hc => ?_, fun X y Y e => ?_, ?_⟩
  · have h1 : ((out ++ [k]) ++ st).Nodup := by rw [List.append_assoc]; exact hno
    have h2 := kids_nodup h hkl
    rw [List.nodup_append] at h1 ⊢
    refine ⟨h1.1, ?_, ?_⟩
    · rw [List.nodup_append]
      refine ⟨h2, h1.2.1, fun a ha b hb e => ?_⟩
      subst e
      exact fresh a ha (List.mem_append.2 (.inr (List.mem_cons_of_mem _ hb)))
    · intro a ha b hb e
      subst e
      rcases List.mem_append.1 hb with q | q
      · refine fresh a q ?_
        rcases List.mem_append.1 ha with r | r
        · exact List.mem_append.2 (.inl r)
        · have : a = k := by simpa using r
          rw [this]; exact List.mem_append.2 (.inr (List.mem_cons_self ..))
      · exact h1.2.2 a ha a q rfl
  · rcases (mem x).1 hx with q | q
    · exact v.rng x q
    · have := kds x q
      refine ⟨this.1, this.2.1, ?_⟩
      rw [anc_up (h.ende this.2.1) (by omega), this.2.2]
      exact List.mem_cons_of_mem _ hk.2.2
  · rcases (mem x).1 hx with q | q
    · rcases v.par x q with r | r
      · exact .inl r
      · exact .inr (List.mem_append.2 (.inl r))
    · right
      rw [(kds x q).2.2]; simp
  · rcases List.mem_append.1 hx with q | q
    · exact (mem c).2 (.inl (v.kid x q c hc))
    · have : x = k := by simpa using q
      subst this
      exact (mem c).2 (.inr hc)
  · rcases List.append_eq_append_iff.1 e with ⟨a, e1, e2⟩ | ⟨a, e1, e2⟩
    · -- X = out ++ a, [k] = a ++ y :: Y
      cases a with
      | nil =>
        have e3 : k = y := by
          have := congrArg List.head? e2
          simpa using this
        subst e3
        rcases v.par k (by simp) with r | r
        · exact .inl r
        · right; rw [e1]; simpa using r
      | cons z t =>
        have := congrArg List.length e2
        simp at this
    · -- out = X ++ a, y :: Y = a ++ [k]
      cases a with
      | nil =>
        have e3 : y = k := by
          have := congrArg List.head? e2
          simpa using this
        subst e3
        rcases v.par y (by simp) with r | r
        · exact .inl r
        · right; rw [e1] at r; simpa using r
      | cons z t =>
        have e3 : y = z := by
          have := congrArg List.head? e2
          simpa using this
        subst e3
        exact v.first X y t e1
  · exact (mem id).2 (.inl v.has)
theorem inv_done {l : List Nd} (h : Right l) {id : Int} : ∀ (n : Nat) (out st : List Int), Inv l id out st → l.length + 1 ≤ n + out.length → Inv l id (out ++ orderF l n st) []
  | 0, out, st, v, hn => by
    have h1 := nodup_len l.length out (List.nodup_append.1 v.once).1 (fun x hx => by
      have := v.rng x (List.mem_append.2 (.inl hx))
      exact ⟨this.1, this.2.1⟩)
    omega
  | n + 1, out, [], v, _ => by
    show Inv l id (out ++ []) []
    rw [List.append_nil]; exact v
  | n + 1, out, k :: st, v, hn => by
    have := inv_done h n (out ++ [k]) ((nd l k.toNat).kids ++ st) (inv_step h v) (by simp; omega)
    rw [List.append_assoc] at this
    exact this
theorem order_inv {l : List Nd} (h : Right l) {id : Int} (h0 : 0 ≤ id) (hi : id < l.length) : Inv l id (orderP l id) [] := by
  have := inv_done h (l.length + 1) [] [id] (inv_zero h h0 hi) (by simp)
  exact this
/-- Just what is within it, each once, parents first. -/
theorem order_mem {l : List Nd} (h : Right l) {id : Int} (h0 : 0 ≤ id) (hi : id < l.length) (x : Int) : x ∈ orderP l id ↔ 0 ≤ x ∧ x < (l.length : Int) ∧ id ∈ anc l x := by
  have v := order_inv h h0 hi
  constructor
  · intro hx
    exact v.rng x (by rw [List.append_nil]; exact hx)
  · rintro ⟨x0, x1, x2⟩
    have key : ∀ (d : Nat) (x : Int), 0 ≤ x → x < (l.length : Int) → hgt l x ≤ d → id ∈ anc l x → x ∈ orderP l id := by
      intro d
      induction d with
      | zero =>
        intro x a b c e
        have := hgt_up (h.ende b) (by omega)
        omega
      | succ d ih =>
        intro x a b c e
        have hu := hgt_up (h.ende b) (by omega)
        rw [anc_up (h.ende b) (by omega)] at e
        rcases List.mem_cons.1 e with q | q
        · have := v.has
          rw [List.append_nil] at this
          rw [← q]; exact this
        · have hp := h.up (show ¬ x < 0 by omega) b
          have hp0 : 0 ≤ parI l x := by
            rcases Int.lt_or_le (parI l x) 0 with r | r
            · rw [anc_neg r] at q; cases q
            · exact r
          have hin := ih (parI l x) hp0 hp.2 (by omega) q
          have hcn := h.cnt x.toNat (by omega) (by show ¬ parI l x < 0; omega)
          rw [Int.toNat_of_nonneg a] at hcn
          have hkid : x ∈ (nd l (parI l x).toNat).kids := cnt_pos.2 (by
            have : cntI (nd l (parI l x).toNat).kids x = 1 := hcn
            omega)
          have := v.kid (parI l x) hin x hkid
          rw [List.append_nil] at this
          exact this
    exact key _ x x0 x1 (Nat.le_refl _) x2
theorem order_nodup {l : List Nd} (h : Right l) {id : Int} (h0 : 0 ≤ id) (hi : id < l.length) : (orderP l id).Nodup := by
  have := (order_inv h h0 hi).once
  rw [List.append_nil] at this
  exact this
end Go.Proofs.YtemikdmkjgmflaaDoor

namespace Go.Proofs.YtemikdmkjgmflaaDoor
open Go.RowKit
set_option maxRecDepth 100000
theorem kids_few {l : List Nd} (h : Right l) {i : Nat} (hi : i < l.length) : (nd l i).kids.length ≤ 400 := by
  have h1 := nodup_len l.length _ (kids_nodup h hi) (fun x hx => by
    have := h.kid i hi x hx
    exact ⟨this.1, this.2.1⟩)
  have := h.len
  omega
end Go.Proofs.YtemikdmkjgmflaaDoor

namespace Go.Proofs.YtemikdmkjgmflaaDoor
open Go.RowKit
def oSel : ByteArray := ⟨#[115, 101, 108, 101, 99, 116]⟩
def oOpt : ByteArray := ⟨#[111, 112, 116, 105, 111, 110]⟩
def oGrp : ByteArray := ⟨#[111, 112, 116, 103, 114, 111, 117, 112]⟩
def oDis : ByteArray := ⟨#[100, 105, 115, 97, 98, 108, 101, 100]⟩
def oMul : ByteArray := ⟨#[109, 117, 108, 116, 105, 112, 108, 101]⟩
def oSiz : ByteArray := ⟨#[115, 105, 122, 101]⟩
/-- A node's kind; is a node there, of a kind, in a right document? Has it an attribute? -/
def kN (n : Nd) : Int := kOf n.name (tyOf n.attrs)
def isK (l : List Nd) (id k : Int) : Bool := hasN l id && decide (kN (nd l id.toNat) = k)
def hasA (n : Nd) (s : ByteArray) : Bool := (findA n.attrs s).isSome
def nmI (l : List Nd) (i : Int) : ByteArray := (nd l i.toNat).name
/-- Where an option's select may be; its select. -/
def grpI (l : List Nd) (p : Int) : Bool := decide (0 ≤ p) && decide (nmI l p = oGrp)
def upI (l : List Nd) (m : Int) : Int := if grpI l (parI l m) = true then parI l (parI l m) else parI l m
def ownP (l : List Nd) (m : Int) : Int := if upI l m < 0 ∨ ¬ nmI l (upI l m) = oSel then -1 else upI l m
def optB (l : List Nd) (sel i : Int) : Bool := decide (nmI l i = oOpt) && decide (ownP l i = sel)
def listP (l : List Nd) (sel : Int) : List Int := if isK l sel 23 = true then (orderP l sel).filter (optB l sel) else []
def offP (l : List Nd) (opt : Int) : Bool := isK l opt 32 && (hasA (nd l opt.toNat) oDis || (grpI l (parI l opt) && hasA (nd l (parI l opt).toNat) oDis))
/-- One to four digits. -/
def digB (c : UInt8) : Bool := decide (48 ≤ c.toNat ∧ c.toNat ≤ 57)
def szN (s : List UInt8) : Int := if s.length ≤ 4 ∧ s.all digB = true then s.foldl (fun n c => 10 * n + ((c.toNat : Int) - 48)) 0 else 0
def sizeP (l : List Nd) (sel : Int) : Int := if isK l sel 23 = true then (if 0 < szN (fndS (nd l sel.toNat).attrs oSiz).data.toList then szN (fndS (nd l sel.toNat).attrs oSiz).data.toList else if hasA (nd l sel.toNat) oMul = true then 4 else 1) else 0
/-- States: one of them; right with a document. -/
def st (C : List Ct) (i : Int) : Ct := C.getD i.toNat ct0
def rightD (l : List Nd) (C : List Ct) : Bool := rightB l && decide ((l.length : Int) = (C.length : Int))
/-- Those of a list are changed. -/
def updP (f : Int → Ct → Ct) (all : List Int) (C : List Ct) : List Ct := C.mapIdx fun i c => if (i : Int) ∈ all then f i c else c
def onlyF (p i : Int) (c : Ct) : Ct := { c with sel := decide (i = p) }
def markF (_ : Int) (c : Ct) : Ct := { c with dsel := true }
def onlyP (C : List Ct) (all : List Int) (p : Int) : List Ct := updP (onlyF p) all C
/-- The last one that is selected; the first one that isn't off. -/
def lastP (C : List Ct) (all : List Int) : Int := (all.filter fun i => (st C i).sel).getLast?.getD (-1)
def pickP (l : List Nd) (C : List Ct) (sel : Int) (all : List Int) : Int := if 0 ≤ lastP C all then lastP C all else if sizeP l sel = 1 then (all.find? fun i => !offP l i).getD (-1) else -1
def fixP (l : List Nd) (C : List Ct) (sel : Int) : List Ct := if isK l sel 23 = true ∧ hasA (nd l sel.toNat) oMul = false then onlyP C (listP l sel) (pickP l C sel (listP l sel)) else C
def fixO (l : List Nd) (C : List Ct) (sel : Int) : List Ct := if rightD l C = true then fixP l C sel else []
def setC (C : List Ct) (i : Int) (c : Ct) : List Ct := C.set i.toNat c
/-- A person's choice: the states and the error's number. -/
def chooseC (l : List Nd) (C : List Ct) (opt : Int) (on : Bool) : List Ct := if hasA (nd l (ownP l opt).toNat) oMul = true then setC C opt { st C opt with sel := on, dsel := true } else updP markF (listP l (ownP l opt)) (onlyP C (listP l (ownP l opt)) opt)
def chooseO (l : List Nd) (C : List Ct) (opt : Int) (on : Bool) : List Ct × Int := if rightD l C = true ∧ isK l opt 32 = true ∧ 0 ≤ ownP l opt then (if offP l opt = true then ([], 8) else (chooseC l C opt on, 0)) else ([], 4)
theorem updC_len (f : Int → Ct → Ct) (all : List Int) (C : List Ct) : (updP f all C).length = C.length := by simp [updP]
theorem upd_at {f : Int → Ct → Ct} {all : List Int} {C : List Ct} {i : Nat} (h : i < C.length) : (updP f all C)[i]'(by rw [updC_len]; exact h) = if (i : Int) ∈ all then f i C[i] else C[i] := by simp [updP]
theorem upd_nil (f : Int → Ct → Ct) (C : List Ct) : updP f [] C = C := by
  apply List.ext_getElem (updC_len ..)
  intro i h1 h2
  rw [upd_at h2, if_neg (by simp)]
/-- One more of the list. -/
theorem upd_step {f : Int → Ct → Ct} {all : List Int} {C : List Ct} {k : Nat} (hk : k < all.length) (hn : all.Nodup) {m : Nat} (hm : all[k] = (m : Int)) (hl : m < C.length) :
    (updP f (all.take k) C).set m (f m (C[m])) = updP f (all.take (k + 1)) C ∧ (updP f (all.take k) C)[m]? = some C[m] := by
  have nk : (m : Int) ∉ all.take k := by
    intro q
    obtain ⟨j, hj, e⟩ := List.getElem_of_mem q
    have hj' : j < k := by have := hj; rw [List.length_take] at this; omega
    rw [List.getElem_take] at e
    exact (List.pairwise_iff_getElem.1 hn) j k (by omega) hk hj' (e.trans hm.symm)
  constructor
  · apply List.ext_getElem (by simp [updC_len])
    intro i h1 h2
    have hi : i < C.length := by rw [updC_len] at h2; exact h2
    rw [List.getElem_set, upd_at hi, upd_at hi, List.take_succ_eq_append_getElem hk, hm]
    by_cases e : m = i
    · subst e
      rw [if_pos rfl, if_pos (by simp)]
    · rw [if_neg e]
      have : (i : Int) ∈ all.take k ++ [(m : Int)] ↔ (i : Int) ∈ all.take k := by
        rw [List.mem_append, List.mem_singleton]
        constructor
        · rintro (q | q)
          · exact q
          · omega
        · exact .inl
      simp only [this]
  · rw [List.getElem?_eq_getElem (by rw [updC_len]; exact hl), upd_at hl, if_neg nk]
/-- What a select's options are. -/
theorem list_in {l : List Nd} {sel : Int} : (listP l sel).Nodup ∧ ∀ i ∈ listP l sel, 0 ≤ i ∧ i < (l.length : Int) := by
  unfold listP
  split
  · rename_i h
    unfold isK at h
    rw [Bool.and_eq_true] at h
    have h1 := h.1
    unfold hasN at h1
    rw [Bool.and_eq_true, decide_eq_true_eq] at h1
    have R := right_is.1 h1.2
    refine ⟨(order_nodup R h1.1.1 h1.1.2).filter _, fun i hi => ?_⟩
    have := (order_mem R h1.1.1 h1.1.2 i).1 (List.mem_filter.1 hi).1
    exact ⟨this.1, this.2.1⟩
  · exact ⟨List.nodup_nil, fun i hi => by cases hi⟩
theorem last_none {C : List Ct} {all : List Int} (hp : ∀ i ∈ all, 0 ≤ i) (h : ¬ 0 ≤ lastP C all) : ∀ i ∈ all, (st C i).sel = false := by
  intro i hi
  cases q : (st C i).sel with
  | false => rfl
  | true =>
    exfalso
    apply h
    have hm : i ∈ all.filter fun i => (st C i).sel := List.mem_filter.2 ⟨hi, q⟩
    unfold lastP
    cases e : (all.filter fun i => (st C i).sel).getLast? with
    | none => rw [List.getLast?_eq_none_iff] at e; rw [e] at hm; cases hm
    | some x => exact hp x (List.mem_filter.1 (List.mem_of_getLast? e)).1
theorem lastP_none {C : List Ct} {all : List Int} (h : ∀ i ∈ all, (st C i).sel = false) : lastP C all = -1 := by
  unfold lastP
  rw [List.filter_eq_nil_iff.2 (fun i hi => by rw [h i hi]; decide)]; rfl
theorem rightD_is {l : List Nd} {C : List Ct} (h : rightD l C = true) : Right l ∧ l.length = C.length := by
  unfold rightD at h
  rw [Bool.and_eq_true, decide_eq_true_eq] at h
  exact ⟨right_is.1 h.1, by omega⟩
end Go.Proofs.YtemikdmkjgmflaaDoor

namespace Go.Proofs.YtemikdmkjgmflaaDoor
open Go.RowKit
def inR (l : List Nd) (k : Int) : Prop := 0 ≤ k ∧ k < (l.length : Int)
def kidsI (l : List Nd) (k : Int) : List Int := (nd l k.toNat).kids
/-- A node and what is within it. -/
def downF (l : List Nd) : Nat → Int → List Int
  | 0, _ => []
  | n + 1, k => k :: (kidsI l k).flatMap (downF l n)
/-- So much fuel is enough. -/
def Sub (l : List Nd) : Nat → Int → Prop
  | 0, _ => False
  | n + 1, k => inR l k ∧ ∀ c ∈ kidsI l k, Sub l n c
/-- So many steps below a node without a parent. -/
def Dep (l : List Nd) : Nat → Int → Prop
  | 0, k => inR l k ∧ parI l k = -1
  | n + 1, k => inR l k ∧ Dep l n (parI l k)
theorem Dep.rng {l : List Nd} : ∀ {d : Nat} {k : Int}, Dep l d k → inR l k
  | 0, _, h => h.1
  | _ + 1, _, h => h.1
theorem Dep.one {l : List Nd} : ∀ {d e : Nat} {k : Int}, Dep l d k → Dep l e k → d = e
  | 0, 0, _, _, _ => rfl
  | 0, e + 1, k, h, g => by have := g.2.rng; rw [h.2] at this; exact absurd this.1 (by omega)
  | d + 1, 0, k, h, g => by have := h.2.rng; rw [g.2] at this; exact absurd this.1 (by omega)
  | d + 1, e + 1, k, h, g => by rw [Dep.one h.2 g.2]
/-- The nodes on the way up. -/
def upL (l : List Nd) : Nat → Int → List Int
  | 0, k => [k]
  | n + 1, k => k :: upL l n (parI l k)
theorem upL_len (l : List Nd) : ∀ (d : Nat) (k : Int), (upL l d k).length = d + 1
  | 0, _ => rfl
  | d + 1, k => by show (upL l d (parI l k)).length + 1 = _; rw [upL_len l d]
theorem upL_dep {l : List Nd} : ∀ {d : Nat} {k x : Int}, Dep l d k → x ∈ upL l d k → ∃ e, e ≤ d ∧ Dep l e x
  | 0, k, x, h, hx => by
    have : x = k := by simpa [upL] using hx
    rw [this]; exact ⟨0, Nat.le_refl _, h⟩
  | d + 1, k, x, h, hx => by
    rcases List.mem_cons.1 hx with q | q
    · rw [q]; exact ⟨d + 1, Nat.le_refl _, h⟩
    · obtain ⟨e, h1, h2⟩ := upL_dep h.2 q
      exact ⟨e, by omega, h2⟩
theorem upL_nodup {l : List Nd} : ∀ {d : Nat} {k : Int}, Dep l d k → (upL l d k).Nodup
  | 0, k, _ => by simp [upL]
  | d + 1, k, h => by
    refine List.nodup_cons.2 ⟨fun q => ?_, upL_nodup h.2⟩
    obtain ⟨e, h1, h2⟩ := upL_dep h.2 q
    have := Dep.one h2 h
    omega
theorem Dep.lt {l : List Nd} {d : Nat} {k : Int} (h : Dep l d k) : d < l.length := by
  have := nodup_len l.length (upL l d k) (upL_nodup h) (fun x hx => by
    obtain ⟨e, _, h2⟩ := upL_dep h hx
    exact h2.rng)
  rw [upL_len] at this
  omega
/-- Each child is there, tells its parent, and stands once. -/
structure Linked (l : List Nd) : Prop where
  kid : ∀ i, i < l.length → ∀ c ∈ (nd l i).kids, inR l c ∧ parI l c = (i : Int)
  once : ∀ i, i < l.length → (nd l i).kids.Nodup
theorem Linked.kidI {l : List Nd} (h : Linked l) {k c : Int} (hk : inR l k) (hc : c ∈ kidsI l k) : inR l c ∧ parI l c = k := by
  have := h.kid k.toNat (by have := hk.1; have := hk.2; omega) c hc
  rw [Int.toNat_of_nonneg hk.1] at this
  exact this
theorem Linked.onceI {l : List Nd} (h : Linked l) {k : Int} (hk : inR l k) : (kidsI l k).Nodup := h.once k.toNat (by have := hk.1; have := hk.2; omega)
theorem dep_sub {l : List Nd} (h : Linked l) : ∀ (f : Nat) {d : Nat} {k : Int}, Dep l d k → l.length ≤ d + f → Sub l f k
  | 0, d, k, hd, hf => by have := hd.lt; omega
  | f + 1, d, k, hd, hf => ⟨hd.rng, fun c hc => by
    have q := h.kidI hd.rng hc
    exact dep_sub h f (d := d + 1) (show inR l c ∧ Dep l d (parI l c) from ⟨q.1, by rw [q.2]; exact hd⟩) (by omega)⟩
theorem Sub.rng {l : List Nd} : ∀ {f : Nat} {k : Int}, Sub l f k → inR l k
  | 0, _, h => h.elim
  | _ + 1, _, h => h.1
theorem Sub.mono {l : List Nd} : ∀ {f : Nat} {k : Int}, Sub l f k → Sub l (f + 1) k
  | 0, _, h => h.elim
  | _ + 1, _, h => ⟨h.1, fun c hc => (h.2 c hc).mono⟩
theorem flat_congr {α β : Type} {g g' : α → List β} : ∀ {L : List α}, (∀ x ∈ L, g x = g' x) → L.flatMap g = L.flatMap g'
  | [], _ => rfl
  | a :: L, h => by rw [List.flatMap_cons, List.flatMap_cons, h a (List.mem_cons_self ..), flat_congr fun x hx => h x (List.mem_cons_of_mem _ hx)]
theorem down_range {l : List Nd} : ∀ {f : Nat} {k x : Int}, Sub l f k → x ∈ downF l f k → inR l x
  | 0, _, _, h, _ => h.elim
  | f + 1, k, x, h, hx => by
    rcases List.mem_cons.1 hx with q | q
    · rw [q]; exact h.1
    · obtain ⟨c, h1, h2⟩ := List.mem_flatMap.1 q
      exact down_range (h.2 c h1) h2
theorem down_self {l : List Nd} {f : Nat} {k : Int} (h : Sub l f k) : k ∈ downF l f k := by
  cases f with
  | zero => exact h.elim
  | succ f => exact List.mem_cons_self ..
/-- Who is gone to is the first, or a child of one that is gone to. -/
theorem down_from {l : List Nd} : ∀ {f : Nat} {k x : Int}, Sub l f k → x ∈ downF l f k → x = k ∨ ∃ p, inR l p ∧ x ∈ kidsI l p
  | 0, _, _, h, _ => h.elim
  | f + 1, k, x, h, hx => by
    rcases List.mem_cons.1 hx with q | q
    · exact .inl q
    · obtain ⟨c, h1, h2⟩ := List.mem_flatMap.1 q
      rcases down_from (h.2 c h1) h2 with r | r
      · rw [r]; exact .inr ⟨k, h.1, h1⟩
      · exact .inr r
theorem down_kids {l : List Nd} : ∀ {f : Nat} {k p c : Int}, Sub l f k → p ∈ downF l f k → c ∈ kidsI l p → c ∈ downF l f k
  | 0, _, _, _, h, _, _ => h.elim
  | f + 1, k, p, c, h, hp, hc => by
    rcases List.mem_cons.1 hp with q | q
    · rw [q] at hc
      exact List.mem_cons_of_mem _ (List.mem_flatMap.2 ⟨c, hc, down_self (h.2 c hc)⟩)
    · obtain ⟨d, h1, h2⟩ := List.mem_flatMap.1 q
      exact List.mem_cons_of_mem _ (List.mem_flatMap.2 ⟨d, h1, down_kids (h.2 d h1) h2 hc⟩)
/-- So many steps up. -/
def upN (l : List Nd) : Nat → Int → Int
  | 0, k => k
  | n + 1, k => upN l n (parI l k)
theorem upN_succ (l : List Nd) : ∀ (n : Nat) (k : Int), upN l (n + 1) k = parI l (upN l n k)
  | 0, _ => rfl
  | n + 1, k => by show upN l (n + 1) (parI l k) = _; rw [upN_succ l n]; rfl
theorem down_dep {l : List Nd} (h : Linked l) : ∀ {f d : Nat} {k x : Int}, Dep l d k → x ∈ downF l f k → ∃ e, Dep l (d + e) x ∧ upN l e x = k
  | 0, _, _, _, _, hx => by cases hx
  | f + 1, d, k, x, hd, hx => by
    rcases List.mem_cons.1 hx with q | q
    · rw [q]; exact ⟨0, hd, rfl⟩
    · obtain ⟨c, h1, h2⟩ := List.mem_flatMap.1 q
      have r := h.kidI hd.rng h1
      obtain ⟨e, g1, g2⟩ := down_dep h (d := d + 1) (show inR l c ∧ Dep l d (parI l c) from ⟨r.1, by rw [r.2]; exact hd⟩) h2
      refine ⟨e + 1, by rw [show d + (e + 1) = d + 1 + e by omega]; exact g1, ?_⟩
      rw [upN_succ, g2, r.2]
theorem nodup_flat {α β : Type} {g : α → List β} : ∀ {L : List α}, L.Nodup → (∀ x ∈ L, (g x).Nodup) → (∀ x ∈ L, ∀ y ∈ L, ∀ z, z ∈ g x → z ∈ g y → x = y) → (L.flatMap g).Nodup
  | [], _, _, _ => by simp
  | a :: L, hn, h1, h2 => by
    have hn := List.nodup_cons.1 hn
    rw [List.flatMap_cons, List.nodup_append]
    refine ⟨h1 a (List.mem_cons_self ..), nodup_flat hn.2 (fun x hx => h1 x (List.mem_cons_of_mem _ hx)) (fun x hx y hy => h2 x (List.mem_cons_of_mem _ hx) y (List.mem_cons_of_mem _ hy)), fun x hx y hy e => ?_⟩
    obtain ⟨b, h3, h4⟩ := List.mem_flatMap.1 hy
    rw [← e] at h4
    have := h2 a (List.mem_cons_self ..) b (List.mem_cons_of_mem _ h3) x hx h4
    rw [this] at hn
    exact hn.1 h3
theorem down_nodup {l : List Nd} (h : Linked l) : ∀ {f d : Nat} {k : Int}, Dep l d k → (downF l f k).Nodup
  | 0, _, _, _ => by simp [downF]
  | f + 1, d, k, hd => by
    have D : ∀ c ∈ kidsI l k, Dep l (d + 1) c := fun c hc => by
      have r := h.kidI hd.rng hc
      exact show inR l c ∧ Dep l d (parI l c) from ⟨r.1, by rw [r.2]; exact hd⟩
    refine List.nodup_cons.2 ⟨fun q => ?_, nodup_flat (h.onceI hd.rng) (fun c hc => down_nodup h (D c hc)) (fun x hx y hy z h1 h2 => ?_)⟩
    · obtain ⟨c, h1, h2⟩ := List.mem_flatMap.1 q
      obtain ⟨e, g1, _⟩ := down_dep h (D c h1) h2
      have := Dep.one g1 hd
      omega
    · obtain ⟨e1, g1, g2⟩ := down_dep h (D x hx) h1
      obtain ⟨e2, g3, g4⟩ := down_dep h (D y hy) h2
      have := Dep.one g1 g3
      obtain rfl : e1 = e2 := by omega
      rw [← g2, ← g4]
/-- The nodes without a parent, in order of their numbers; all that they lead to. -/
def rootsL (l : List Nd) : List Int := ((List.range l.length).filter fun i => (nd l i).parent == -1).map fun i : Nat => (i : Int)
theorem mem_roots {l : List Nd} {r : Int} : r ∈ rootsL l ↔ inR l r ∧ parI l r = -1 := by
  unfold rootsL
  rw [List.mem_map]
  constructor
  · rintro ⟨i, hi, rfl⟩
    rw [List.mem_filter, List.mem_range, beq_iff_eq] at hi
    exact ⟨⟨by omega, by omega⟩, by unfold parI; rw [Int.toNat_natCast]; exact hi.2⟩
  · rintro ⟨⟨h1, h2⟩, h3⟩
    refine ⟨r.toNat, ?_, Int.toNat_of_nonneg h1⟩
    rw [List.mem_filter, List.mem_range, beq_iff_eq]
    exact ⟨by omega, h3⟩
theorem nodup_cast {L : List Nat} (h : L.Nodup) : (L.map fun i : Nat => (i : Int)).Nodup := List.pairwise_map.2 (h.imp fun {a b} hab e => hab (by omega))
theorem count_one {L : List Int} {x : Int} (h : L.Nodup) (hx : x ∈ L) : List.count x L = 1 := by
  have h1 := List.nodup_iff_count.1 h x
  have h2 := List.count_pos_iff.2 hx
  omega
theorem roots_nodup (l : List Nd) : (rootsL l).Nodup := by
  unfold rootsL
  refine nodup_cast ?_
  exact List.nodup_range.filter _
def allL (l : List Nd) : List Int := (rootsL l).flatMap (downF l l.length)
theorem root_dep {l : List Nd} {r : Int} (h : r ∈ rootsL l) : Dep l 0 r := mem_roots.1 h
theorem root_sub {l : List Nd} (h : Linked l) {r : Int} (hr : r ∈ rootsL l) : Sub l l.length r := dep_sub h _ (root_dep hr) (by omega)
theorem all_nodup {l : List Nd} (h : Linked l) : (allL l).Nodup := by
  refine nodup_flat (roots_nodup l) (fun r hr => down_nodup h (root_dep hr)) (fun x hx y hy z h1 h2 => ?_)
  obtain ⟨e1, g1, g2⟩ := down_dep h (root_dep hx) h1
  obtain ⟨e2, g3, g4⟩ := down_dep h (root_dep hy) h2
  have := Dep.one g1 g3
  obtain rfl : e1 = e2 := by omega
  rw [← g2, ← g4]
theorem all_range {l : List Nd} (h : Linked l) {x : Int} (hx : x ∈ allL l) : inR l x := by
  obtain ⟨r, h1, h2⟩ := List.mem_flatMap.1 hx
  exact down_range (root_sub h h1) h2
theorem all_full {l : List Nd} (h : Linked l) (hl : (allL l).length = l.length) {x : Int} (hx : inR l x) : x ∈ allL l := by
  by_cases q : x ∈ allL l
  · exact q
  · have := nodup_len l.length (x :: allL l) (List.nodup_cons.2 ⟨q, all_nodup h⟩) (fun y hy => by
      rcases List.mem_cons.1 hy with r | r
      · rw [r]; exact hx
      · exact all_range h r)
    rw [List.length_cons, hl] at this
    omega
theorem dep_climb {l : List Nd} : ∀ {d : Nat} {k : Int}, Dep l d k → climb l (d + 1) k < 0
  | 0, k, h => by
    show (if k < 0 then k else parI l k) < 0
    rw [if_neg (by have := h.1.1; omega), h.2]; omega
  | d + 1, k, h => by
    show (if k < 0 then k else climb l (d + 1) (parI l k)) < 0
    rw [if_neg (by have := h.1.1; omega)]
    exact dep_climb h.2
/-- What the program asks is what the document asks. -/
theorem right_of {l : List Nd} (h1 : 1 ≤ l.length ∧ l.length ≤ 400) (h2 : ¬ (nd l 0).name.size = 0) (h3 : (nd l 0).parent = -1) (h4 : ∀ i, i < l.length → aloneB (nd l i) = true) (h5 : Linked l) (h6 : (allL l).length = l.length) : Right l := by
  have A : ∀ i : Nat, i < l.length → ∃ d, Dep l d (i : Int) ∧ (parI l (i : Int) = -1 ∨ ∃ p, inR l p ∧ (i : Int) ∈ kidsI l p) := by
    intro i hi
    have := all_full h5 h6 (x := (i : Int)) ⟨by omega, by omega⟩
    obtain ⟨r, g1, g2⟩ := List.mem_flatMap.1 this
    obtain ⟨e, g3, _⟩ := down_dep h5 (root_dep g1) g2
    refine ⟨_, g3, ?_⟩
    rcases down_from (root_sub h5 g1) g2 with q | q
    · rw [q]; exact .inl (root_dep g1).2
    · exact .inr q
  have PI : ∀ i : Nat, parI l (i : Int) = (nd l i).parent := fun i => by unfold parI; rw [Int.toNat_natCast]
  have hp : ∀ i, i < l.length → -1 ≤ (nd l i).parent ∧ (nd l i).parent < l.length := by
    intro i hi
    obtain ⟨d, g1, g2⟩ := A i hi
    rw [← PI i]
    rcases g2 with q | ⟨p, q1, q2⟩
    · rw [q]; omega
    · rw [(h5.kidI q1 q2).2]
      have := q1.1; have := q1.2; omega
  refine ⟨h1, h2, h3, h4, hp, fun i hi q => ?_, fun i hi c hc => ?_, fun i hi => ?_⟩
  · obtain ⟨d, g1, g2⟩ := A i hi
    rcases g2 with r | ⟨p, q1, q2⟩
    · rw [PI i] at r; omega
    · have e := (h5.kidI q1 q2).2
      rw [PI i] at e
      rw [e]
      exact count_one (h5.onceI q1) q2
  · have := h5.kid i hi c hc
    exact ⟨this.1.1, this.1.2, this.2⟩
  · obtain ⟨d, g1, g2⟩ := A i hi
    exact ends_of (fun i hi => (hp i hi).2) (by omega) (dep_climb g1)
theorem right_linked {l : List Nd} (h : Right l) : Linked l := ⟨fun i hi c hc => by have := h.kid i hi c hc; exact ⟨⟨this.1, this.2.1⟩, this.2.2⟩, fun i hi => kids_nodup h hi⟩
theorem right_all {l : List Nd} (h : Right l) : ∀ (d : Nat) {k : Int}, inR l k → hgt l k ≤ d → k ∈ allL l
  | 0, k, hk, hd => by
    have := hgt_up (h.ende hk.2) (by have := hk.1; omega); omega
  | d + 1, k, hk, hd => by
    have n0 : ¬ k < 0 := by have := hk.1; omega
    have e := hgt_up (h.ende hk.2) n0
    have u := h.up n0 hk.2
    by_cases q : parI l k < 0
    · have r : k ∈ rootsL l := mem_roots.2 ⟨hk, by omega⟩
      exact List.mem_flatMap.2 ⟨k, r, down_self (root_sub (right_linked h) r)⟩
    · have ih := right_all h d (k := parI l k) ⟨by omega, u.2⟩ (by omega)
      obtain ⟨r, g1, g2⟩ := List.mem_flatMap.1 ih
      refine List.mem_flatMap.2 ⟨r, g1, down_kids (root_sub (right_linked h) g1) g2 ?_⟩
      have hk0 : k.toNat < l.length := by have := hk.2; omega
      have c := h.cnt k.toNat hk0 q
      rw [Int.toNat_of_nonneg hk.1] at c
      exact List.count_pos_iff.1 (by have c : List.count k (kidsI l (parI l k)) = 1 := c; omega)
theorem nodup_sub : ∀ {A B : List Int}, A.Nodup → (∀ x ∈ A, x ∈ B) → A.length ≤ B.length
  | [], _, _, _ => Nat.zero_le _
  | a :: A, B, hn, h => by
    have hn := List.nodup_cons.1 hn
    have ha := h a (List.mem_cons_self ..)
    have := nodup_sub (A := A) (B := B.erase a) hn.2 (fun x hx => by
      have := h x (List.mem_cons_of_mem _ hx)
      exact (List.mem_erase_of_ne (fun e => hn.1 (by rw [← e]; exact hx))).2 this)
    rw [List.length_erase_of_mem ha] at this
    have := List.length_pos_of_mem ha
    rw [List.length_cons]
    omega
theorem right_reached {l : List Nd} (h : Right l) : (allL l).length = l.length := by
  have h1 := nodup_len l.length (allL l) (all_nodup (right_linked h)) (fun x hx => all_range (right_linked h) hx)
  have h2 := nodup_sub (A := (List.range l.length).map fun i : Nat => (i : Int)) (B := allL l) (nodup_cast List.nodup_range) (fun x hx => by
    obtain ⟨i, g1, rfl⟩ := List.mem_map.1 hx
    have := List.mem_range.1 g1
    exact right_all h _ ⟨by omega, by omega⟩ (Nat.le_refl _))
  rw [List.length_map, List.length_range] at h2
  omega
/-- A node of a right document is so many steps below one without a parent. -/
theorem right_dep {l : List Nd} (h : Right l) {k : Int} (hk : inR l k) : ∃ d, Dep l d k := by
  obtain ⟨r, g1, g2⟩ := List.mem_flatMap.1 (right_all h _ hk (Nat.le_refl _))
  obtain ⟨e, g3, _⟩ := down_dep (right_linked h) (root_dep g1) g2
  exact ⟨_, g3⟩
theorem right_sub {l : List Nd} (h : Right l) {k : Int} (hk : inR l k) : Sub l l.length k := by
  obtain ⟨d, g⟩ := right_dep h hk
  exact dep_sub (right_linked h) _ g (by omega)
/-- The way by a list of those that are to be gone to is the same. -/
theorem order_row {l : List Nd} : ∀ (f : Nat) (ks : List Int) (N : Nat) (st : List Int), (∀ c ∈ ks, Sub l f c) → (ks.flatMap (downF l f)).length ≤ N → orderF l N (ks ++ st) = ks.flatMap (downF l f) ++ orderF l (N - (ks.flatMap (downF l f)).length) st := by
  intro f
  induction f with
  | zero =>
    intro ks N st h _
    cases ks with
    | nil => simp
    | cons c ks => exact (h c (List.mem_cons_self ..)).elim
  | succ f ihf =>
    intro ks
    induction ks with
    | nil => intro N st _ _; simp
    | cons c ks ihk =>
      intro N st h hN
      have hc := h c (List.mem_cons_self ..)
      have hf : (c :: ks).flatMap (downF l (f + 1)) = c :: ((kidsI l c).flatMap (downF l f) ++ ks.flatMap (downF l (f + 1))) := by
        rw [List.flatMap_cons]; rfl
      rw [hf] at hN ⊢
      rw [List.length_cons, List.length_append] at hN
      obtain ⟨M, rfl⟩ : ∃ M, N = M + 1 := ⟨N - 1, by omega⟩
      have e1 : orderF l (M + 1) (c :: ks ++ st) = c :: orderF l M (kidsI l c ++ (ks ++ st)) := rfl
      rw [e1, ihf (kidsI l c) M (ks ++ st) hc.2 (by omega), ihk _ st (fun x hx => h x (List.mem_cons_of_mem _ hx)) (by omega)]
      rw [List.cons_append, List.append_assoc, List.length_cons, List.length_append]
      congr 3
      congr 1
      omega
theorem order_down {l : List Nd} (h : Right l) {k : Int} (hk : inR l k) : orderP l k = downF l l.length k := by
  obtain ⟨d, g⟩ := right_dep h hk
  have hs := right_sub h hk
  have hn := nodup_len l.length (downF l l.length k) (down_nodup (right_linked h) g) (fun x hx => down_range hs hx)
  have := order_row (l := l) l.length [k] (l.length + 1) [] (fun c hc => by rw [List.mem_singleton.1 hc]; exact hs) (by simpa using (by omega : (downF l l.length k).length ≤ l.length + 1))
  rw [List.append_nil, List.flatMap_singleton] at this
  unfold orderP
  rw [this]
  have e : orderF l (l.length + 1 - (downF l l.length k).length) [] = [] := by
    cases l.length + 1 - (downF l l.length k).length <;> rfl
  rw [e, List.append_nil]
end Go.Proofs.YtemikdmkjgmflaaDoor

namespace Go.Proofs.YtemikdmkjgmflaaDoor
open Go.RowKit
theorem seekR_in {t : ByteArray} {f l : Nat} : ∀ {n k x : Nat}, seekR t f l n k = some x → f ≤ x ∧ x ≤ l
  | 0, k, x, h => by cases h
  | n + 1, k, x, h => by
    unfold seekR at h
    split at h
    · rename_i q
      rw [Bool.and_eq_true, Bool.and_eq_true, Nat.ble_eq, Nat.ble_eq] at q
      cases h
      exact ⟨q.1, q.2.1⟩
    · exact seekR_in h
theorem kInt_in {r : Option Nat} {f l : Nat} {z : Int} (hz : (f : Int) ≤ z ∧ z ≤ (l : Int)) (h : ∀ x, r = some x → f ≤ x ∧ x ≤ l) : (f : Int) ≤ kInt r z ∧ kInt r z ≤ (l : Int) := by
  cases r with
  | none => exact hz
  | some x =>
    have := h x rfl
    show (f : Int) ≤ (x : Int) ∧ (x : Int) ≤ (l : Int)
    omega
theorem byT_in {o : Option ByteArray} {f l : Nat} {z : Int} (hz : (f : Int) ≤ z ∧ z ≤ (l : Int)) : (f : Int) ≤ byT o f l z ∧ byT o f l z ≤ (l : Int) := by
  cases o with
  | none => exact hz
  | some t => exact kInt_in hz (fun x e => seekR_in e)
theorem seekL_in {t : ByteArray} : ∀ {n k x : Nat}, seekL t n k = some x → lastN x = t
  | 0, k, x, h => by cases h
  | n + 1, k, x, h => by
    unfold seekL at h
    split at h
    · rename_i q; cases h; exact q
    · exact seekL_in h
/-- Which names are selects, options, groups. -/
theorem kOf_sel {name : ByteArray} {o : Option ByteArray} : kOf name o = 23 ↔ name = oSel := by
  constructor
  · intro h
    unfold kOf at h
    split at h
    · have := byT_in (o := o) (f := 1) (l := 22) (z := 2) (by decide)
      omega
    · split at h
      · assumption
      · split at h
        · omega
        · split at h
          · have := byT_in (o := o) (f := 25) (l := 27) (z := 25) (by decide)
            omega
          · split at h
            · omega
            · omega
  · intro h; subst h; rfl
theorem kOf_last {name : ByteArray} {o : Option ByteArray} {i : Nat} (h : kOf name o = 28 + (i : Int)) : lastN i = name := by
  unfold kOf at h
  split at h
  · have := byT_in (o := o) (f := 1) (l := 22) (z := 2) (by decide)
    omega
  · split at h
    · omega
    · split at h
      · omega
      · split at h
        · have := byT_in (o := o) (f := 25) (l := 27) (z := 25) (by decide)
          omega
        · split at h
          · omega
          · rename_i j e
            obtain rfl : j = i := by omega
            exact seekL_in e
theorem kOf_opt {name : ByteArray} {o : Option ByteArray} : kOf name o = 32 ↔ name = oOpt := by
  constructor
  · intro h
    have := kOf_last (i := 4) (o := o) (name := name) (by rw [h]; rfl)
    rw [← this]; rfl
  · intro h; subst h; rfl
theorem kOf_grp {name : ByteArray} {o : Option ByteArray} : kOf name o = 33 ↔ name = oGrp := by
  constructor
  · intro h
    have := kOf_last (i := 5) (o := o) (name := name) (by rw [h]; rfl)
    rw [← this]; rfl
  · intro h; subst h; rfl
/-- A select's options by way of its children. -/
def optsC (l : List Nd) (c : Int) : List Int := if nmI l c = oOpt then [c] else if nmI l c = oGrp then (kidsI l c).filter (fun d => decide (nmI l d = oOpt)) else []
def optsP (l : List Nd) (sel : Int) : List Int := (kidsI l sel).flatMap (optsC l)
theorem Dep.ne {l : List Nd} {d e : Nat} {k j : Int} (h : Dep l d k) (g : Dep l e j) (hn : d ≠ e) : k ≠ j := fun q => hn (by rw [q] at h; exact h.one g)
theorem up_is {l : List Nd} {sel x : Int} (h0 : 0 ≤ sel) (h : ownP l x = sel) : upI l x = sel := by
  unfold ownP at h
  split at h
  · omega
  · exact h
/-- An option is a child, or a child's child. -/
theorem opt_dep {l : List Nd} {sel x : Int} {a d : Nat} (hs : Dep l a sel) (hx : Dep l d x) (h : optB l sel x = true) : d = a + 1 ∨ d = a + 2 := by
  unfold optB at h
  rw [Bool.and_eq_true, decide_eq_true_eq, decide_eq_true_eq] at h
  have s0 := hs.rng.1
  have u := up_is s0 h.2
  unfold upI at u
  split at u
  · rename_i g
    match d, hx with
    | 0, hx =>
      have e : parI l x = -1 := hx.2
      rw [e] at g
      cases g
    | 1, hx =>
      have e : parI l (parI l x) = -1 := hx.2.2
      omega
    | d + 2, hx =>
      have q : Dep l d (parI l (parI l x)) := hx.2.2
      rw [u] at q
      have := q.one hs
      omega
  · match d, hx with
    | 0, hx =>
      have e : parI l x = -1 := hx.2
      omega
    | d + 1, hx =>
      have q : Dep l d (parI l x) := hx.2
      rw [u] at q
      have := q.one hs
      omega
theorem down_none {l : List Nd} (hL : Linked l) {sel k : Int} {a d f : Nat} (hs : Dep l a sel) (hk : Dep l d k) (hd : a + 2 < d) : (downF l f k).filter (optB l sel) = [] := by
  rw [List.filter_eq_nil_iff]
  intro x hx q
  obtain ⟨e, he, _⟩ := down_dep hL hk hx
  have := opt_dep hs he q
  omega
theorem dep_kid {l : List Nd} (hL : Linked l) {k c : Int} {d : Nat} (hk : Dep l d k) (hc : c ∈ kidsI l k) : Dep l (d + 1) c := by
  have := hL.kidI hk.rng hc
  exact ⟨this.1, by rw [this.2]; exact hk⟩
theorem filter_flat {f : Int → List Int} {p : Int → Bool} : ∀ (L : List Int), (L.flatMap f).filter p = L.flatMap (fun x => (f x).filter p)
  | [] => rfl
  | x :: L => by
    rw [List.flatMap_cons, List.filter_append, filter_flat L, List.flatMap_cons]
theorem flat_nil {f : Int → List Int} : ∀ {L : List Int}, (∀ x ∈ L, f x = []) → L.flatMap f = []
  | [], _ => rfl
  | x :: L, h => by rw [List.flatMap_cons, h x List.mem_cons_self, flat_nil (fun y hy => h y (List.mem_cons_of_mem _ hy))]; rfl
theorem flat_filter {p q : Int → Bool} {f : Int → List Int} : ∀ {L : List Int}, (∀ x ∈ L, f x = if p x = true then [x] else []) → L.flatMap f = L.filter p
  | [], _ => rfl
  | x :: L, h => by
    rw [List.flatMap_cons, h x List.mem_cons_self, flat_filter (q := q) (fun y hy => h y (List.mem_cons_of_mem _ hy)), List.filter_cons]
    split <;> rfl
/-- A child's child. -/
theorem down_low {l : List Nd} (hL : Linked l) {sel k : Int} {a f : Nat} (hs : Dep l a sel) (hk : Dep l (a + 2) k) (hf : Sub l f k) : (downF l f k).filter (optB l sel) = if optB l sel k = true then [k] else [] := by
  match f, hf with
  | f + 1, hf =>
    show (k :: (kidsI l k).flatMap (downF l f)).filter (optB l sel) = _
    have e : ((kidsI l k).flatMap (downF l f)).filter (optB l sel) = [] := by
      rw [filter_flat]
      exact flat_nil (fun c hc => down_none hL hs (dep_kid hL hk hc) (by omega))
    rw [List.filter_cons, e]
theorem sel_name {l : List Nd} {sel : Int} (h : isK l sel 23 = true) : nmI l sel = oSel := by
  unfold isK kN at h
  rw [Bool.and_eq_true, decide_eq_true_eq] at h
  exact kOf_sel.1 h.2
theorem kid_opt {l : List Nd} (hL : Linked l) {sel c : Int} (hn : nmI l sel = oSel) (hr : inR l sel) (hc : c ∈ kidsI l sel) : optB l sel c = decide (nmI l c = oOpt) := by
  have pc := (hL.kidI hr hc).2
  have u : upI l c = sel := by
    unfold upI grpI
    rw [pc, hn, if_neg]
    rw [Bool.and_eq_true]
    rintro ⟨_, q⟩
    exact absurd (of_decide_eq_true q) (by decide)
  have w : ownP l c = sel := by
    unfold ownP
    rw [u, if_neg]
    rintro (q | q)
    · have := hr.1; omega
    · exact q hn
  unfold optB
  rw [w, decide_eq_true rfl, Bool.and_true]
theorem low_opt {l : List Nd} (hL : Linked l) {sel c d : Int} {a : Nat} (hn : nmI l sel = oSel) (hs : Dep l a sel) (hc : c ∈ kidsI l sel) (hd : d ∈ kidsI l c) : optB l sel d = (decide (nmI l d = oOpt) && decide (nmI l c = oGrp)) := by
  have dc := dep_kid hL hs hc
  have pc := (hL.kidI hs.rng hc).2
  have pd := (hL.kidI dc.rng hd).2
  have c0 := dc.rng.1
  by_cases g : nmI l c = oGrp
  · have gi : grpI l (parI l d) = true := by
      unfold grpI
      rw [pd, Bool.and_eq_true]
      exact ⟨decide_eq_true c0, decide_eq_true g⟩
    have u : upI l d = sel := by
      unfold upI
      rw [if_pos gi, pd, pc]
    have w : ownP l d = sel := by
      unfold ownP
      rw [u, if_neg]
      rintro (q | q)
      · have := hs.rng.1; omega
      · exact q hn
    unfold optB
    rw [w, decide_eq_true rfl, decide_eq_true g]
  · have u : upI l d = c := by
      unfold upI
      rw [if_neg, pd]
      unfold grpI
      rw [pd, Bool.and_eq_true]
      rintro ⟨_, q⟩
      exact g (of_decide_eq_true q)
    have w : ¬ ownP l d = sel := fun q => by
      have := up_is hs.rng.1 q
      rw [u] at this
      exact dc.ne hs (by omega) this
    unfold optB
    rw [decide_eq_false w, decide_eq_false g, Bool.and_false]
theorem kid_row {l : List Nd} (hL : Linked l) {sel c : Int} {a f : Nat} (hn : nmI l sel = oSel) (hs : Dep l a sel) (hc : c ∈ kidsI l sel) (hf : Sub l f c) : (downF l f c).filter (optB l sel) = optsC l c := by
  match f, hf with
  | f + 1, hf =>
    show (c :: (kidsI l c).flatMap (downF l f)).filter (optB l sel) = _
    rw [List.filter_cons, kid_opt hL hn hs.rng hc, filter_flat]
    have dc := dep_kid hL hs hc
    have e : (kidsI l c).flatMap (fun x => (downF l f x).filter (optB l sel)) = (kidsI l c).filter (fun d => decide (nmI l d = oOpt) && decide (nmI l c = oGrp)) :=
      flat_filter (q := fun _ => true) (fun d hd => by rw [down_low hL hs (dep_kid hL dc hd) (hf.2 d hd), low_opt hL hn hs hc hd])
    rw [e]
    unfold optsC
    by_cases q : nmI l c = oOpt
    · have ng : ¬ nmI l c = oGrp := fun r => by rw [q] at r; exact absurd r (by decide)
      rw [if_pos (decide_eq_true q), if_pos q, List.filter_eq_nil_iff.2 (fun d _ r => by rw [decide_eq_false ng, Bool.and_false] at r; cases r)]
    · rw [if_neg (fun r => q (of_decide_eq_true r)), if_neg q]
      by_cases g : nmI l c = oGrp
      · rw [if_pos g]
        exact List.filter_congr (fun d _ => by rw [decide_eq_true g, Bool.and_true])
      · rw [if_neg g, List.filter_eq_nil_iff.2 (fun d _ r => by rw [decide_eq_false g, Bool.and_false] at r; cases r)]
theorem list_opts {l : List Nd} {sel : Int} (h : isK l sel 23 = true) : listP l sel = optsP l sel := by
  have hn := sel_name h
  have hh : hasN l sel = true := by unfold isK at h; rw [Bool.and_eq_true] at h; exact h.1
  unfold hasN at hh
  rw [Bool.and_eq_true, decide_eq_true_eq] at hh
  have hR := right_is.1 hh.2
  have hr : inR l sel := ⟨hh.1.1, hh.1.2⟩
  have hL := right_linked hR
  obtain ⟨a, hs⟩ := right_dep hR hr
  have hf := right_sub hR hr
  unfold listP
  rw [if_pos h, order_down hR hr]
  match hl : l.length, hf with
  | 0, hf => cases hf
  | f + 1, hf =>
    show (sel :: (kidsI l sel).flatMap (downF l f)).filter (optB l sel) = _
    have ns : optB l sel sel = false := by
      unfold optB
      rw [hn]
      rfl
    rw [List.filter_cons, ns, filter_flat]
    exact flat_congr (fun c hc => kid_row hL hn hs hc (hf.2 c hc))
end Go.Proofs.YtemikdmkjgmflaaDoor

namespace Go.Proofs.YtemikdmkjgmflaaDoor
open Go.RowKit Go.Shelf
set_option maxRecDepth 100000
attribute [local go_sem] Oper.semAt_some
/-- What a round keeps: what lay below a bound, and some blocks besides. -/
def KpB (n : Nat) (bs : List Nat) (W W' : World) : Prop := Below n W W' ∧ ∀ b ∈ bs, W'.heap[b]? = W.heap[b]?
theorem kpB_t {n : Nat} {bs : List Nat} {A B C : World} (h : KpB n bs A B) (k : KpB n bs B C) : KpB n bs A C := ⟨h.1.trans k.1, fun b hb => (k.2 b hb).trans (h.2 b hb)⟩
theorem kpB_b {n : Nat} {bs : List Nat} {w : World} (hn : n ≤ w.heap.size) (hb : ∀ b ∈ bs, b < w.heap.size) (W : World) (l : Nat) (o o' : Obj) (hl : w.heap.size ≤ l) (h : W.heap[l]? = some o) (h1 : o.isCells = false) (h2 : o.isWalk = false) : KpB n bs W (W.putObj l o') :=
  ⟨belowK_b hn W l o o' hl h h1 h2, fun b q => World.putObj_heap_other (by have := hb b q; omega)⟩
set_option maxHeartbeats 4000000 in
theorem options_any (p : Option Addr) (n c : Nat) (sel : Int) (w : World) :
    Calls Tryd.prog 30 #[.slice p n c, .int .i64 sel] w fun e w' => e = .returned (.func (.func 48) #[] #[.pointer (some ⟨w.heap.size, 0, none⟩), .pointer (some ⟨w.heap.size + 1, 0, none⟩)]) ∧ w' = (w.alloc (.cells #[.slice p n c] 22)).alloc (.cells #[.int .i64 sel] 3) := by
  go_enter Tryd.func30, Tryd.ntmps30
  go_wp2_with fail
  go_ret
  exact ⟨by simp, rfl⟩
/-- One of a select's options. -/
abbrev OptA (l : List Nd) (sel : Int) : Type := { x : Int // x ∈ optsP l sel }
def vals {l : List Nd} {sel : Int} (xs : List (OptA l sel)) : List Int := xs.map (·.1)
/-- The iterator's contract, at every world behind. -/
def Iter (l : List Nd) (sel : Int) (p : Option Addr) (c : Nat) (w : World) : Prop := ∀ (W : World) (Bl Bs : Nat), Below w.heap.size w W → Boxed W Bl 22 (.slice p l.length c) → Boxed W Bs 3 (.int .i64 sel) →
  SeqStopsK Fence.wide 2 Tryd.prog 48 #[.pointer (some ⟨Bl, 0, none⟩), .pointer (some ⟨Bs, 0, none⟩)] (fun x : OptA l sel => #[Value.int .i64 x.1]) (KpB w.heap.size [Bl, Bs]) (fun ys => vals ys = optsP l sel) (fun pre => vals pre <+: optsP l sel) (optsP l sel).length W

end Go.Proofs.YtemikdmkjgmflaaDoor
