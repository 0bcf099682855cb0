/- Facts of no program. Documents as lists of nodes. Ways up in a right document. Ways up that end at all end within as many steps as there are nodes. A node that was taken away and put back where it was leaves the document as it was. A node and what is within it, in order. The way down in a document. Paths to nodes, and the listeners that an event calls, as functions of documents and listeners. Attributes of an element found by a name. The document's Name, Find, count of layer 10. The document's Order of layer 10. The document's Path, Bubbles, Cancels of layer 23. The program's isSmall, isName, isText, called of layer 10. The program's called and what it answers. -/
import Derived.Test.YtmobcijigiacoaaJev1
import Derived.Test.YtmobcijigiacoaaJev13
import Derived.Test.YtmobcijigiacoaaJev15
import Derived.Shelf.Abstract
import Derived.OwnWalk
import Derived.Deep.QuietTactic
import Derived.BigQuiet

namespace Go.Proofs.Ytmobcijigiacoaa
open Go.RowKit
theorem ret_int {k : IntKind} {a b : Int} (h : a = b) : Ending.returned (.int k a) = .returned (.int k b) := by rw [h]
theorem ret_bool {a b : Bool} (h : a = b) : Ending.returned (.bool a) = .returned (.bool b) := by rw [h]
end Go.Proofs.Ytmobcijigiacoaa

namespace Go.Proofs.Ytmobcijigiacoaa
open Go.RowKit
def at0 : ByteArray × ByteArray := (⟨#[]⟩, ⟨#[]⟩)
def smallC (c : UInt8) : Bool := decide (97 ≤ c.toNat ∧ c.toNat ≤ 122)
def otherC (c : UInt8) : Bool := decide (48 ≤ c.toNat ∧ c.toNat ≤ 57) || c == 45
/-- May a sign stand at a place of a name? -/
def nmAt (i : Nat) (c : UInt8) : Bool := smallC c || (!(i == 0) && otherC c)
def nmAll : Nat → List UInt8 → Bool
  | _, [] => true
  | i, c :: l => nmAt i c && nmAll (i + 1) l
def nameOk (s : ByteArray) : Bool := decide (0 < s.size ∧ s.size ≤ 20) && nmAll 0 s.data.toList
theorem nmAll_bad : ∀ {l : List UInt8} {n k : Nat} (hk : k < l.length), nmAt (n + k) l[k] = false → nmAll n l = false
  | [], _, _, hk, _ => by cases hk
  | c :: l, n, 0, _, h => by
    have h : nmAt n c = false := h
    show (nmAt n c && nmAll (n + 1) l) = false
    rw [h]; rfl
  | c :: l, n, k + 1, hk, h => by
    have := nmAll_bad (l := l) (n := n + 1) (k := k) (by simpa using hk) (by rw [show n + 1 + k = n + (k + 1) by omega]; exact h)
    show (nmAt n c && nmAll (n + 1) l) = false
    rw [this, Bool.and_false]
theorem nmAll_all : ∀ {l : List UInt8} {n : Nat}, (∀ k (hk : k < l.length), nmAt (n + k) l[k] = true) → nmAll n l = true
  | [], _, _ => rfl
  | c :: l, n, h => by
    have h0 : nmAt n c = true := h 0 (by simp)
    have := nmAll_all (l := l) (n := n + 1) (fun k hk => by rw [show n + 1 + k = n + (k + 1) by omega]; exact h (k + 1) (by simpa using hk))
    show (nmAt n c && nmAll (n + 1) l) = true
    rw [h0, this]; rfl
/-- The place of an attribute. -/
def findA (ax : List (ByteArray × ByteArray)) (n : ByteArray) : Option Nat := ax.findIdx? fun a => decide (a.1 = n)
def findV (o : Option Nat) : Int := match o with
  | none => -1
  | some k => (k : Int)
def cntI (l : List Int) (n : Int) : Nat := l.count n
/-- A node by itself. -/
def attrOk (ax : List (ByteArray × ByteArray)) (i : Nat) : Bool := nameOk (ax.getD i at0).1 && (decide ((ax.getD i at0).2.size ≤ 4000) && findA ax (ax.getD i at0).1 == some i)
def aloneB (n : Nd) : Bool :=
  if n.name.size = 0 then n.attrs.isEmpty && (n.kids.isEmpty && decide (n.text.size ≤ 4000))
  else nameOk n.name && (n.text.size == 0 && (decide (n.attrs.length ≤ 40) && (List.range n.attrs.length).all (attrOk n.attrs)))
/-- A node among the others. -/
def kidOk (l : List Nd) (i : Nat) (c : Int) : Bool := decide (0 ≤ c ∧ c < l.length) && parI l c == (i : Int)
def nodeOk (l : List Nd) (i : Nat) : Bool := aloneB (nd l i) && (decide (-1 ≤ (nd l i).parent ∧ (nd l i).parent < l.length) && ((decide ((nd l i).parent < 0) || cntI (nd l (nd l i).parent.toNat).kids i == 1) && (nd l i).kids.all (kidOk l i)))
/-- So many steps up. -/
def climb (l : List Nd) : Nat → Int → Int
  | 0, k => k
  | n + 1, k => if k < 0 then k else climb l n (parI l k)
def rightB (l : List Nd) : Bool := decide (1 ≤ l.length ∧ l.length ≤ 400) && (!((nd l 0).name.size == 0) && ((nd l 0).parent == -1 && ((List.range l.length).all (nodeOk l) && (List.range l.length).all fun i => decide (climb l (l.length + 1) i < 0))))
end Go.Proofs.Ytmobcijigiacoaa

namespace Go.Proofs.Ytmobcijigiacoaa
open Go.RowKit
/-- The nodes on the way up from a number, and how many they are. -/
def ancF (l : List Nd) : Nat → Int → List Int
  | 0, _ => []
  | n + 1, k => if k < 0 then [] else k :: ancF l n (parI l k)
def anc (l : List Nd) (k : Int) : List Int := ancF l (l.length + 1) k
def hgt (l : List Nd) (k : Int) : Nat := (anc l k).length
def Ends (l : List Nd) (k : Int) : Prop := climb l (l.length + 1) k < 0
theorem climb_more (l : List Nd) : ∀ {n : Nat} {k : Int} (m : Nat), climb l n k < 0 → climb l (n + m) k < 0
  | 0, k, m, h => by
    have h : k < 0 := h
    cases m with
    | zero => exact h
    | succ m =>
      rw [Nat.zero_add]
      show (if k < 0 then k else _) < 0
      rw [if_pos h]; exact h
  | n + 1, k, m, h => by
    rw [show n + 1 + m = (n + m) + 1 by omega]
    show (if k < 0 then k else climb l (n + m) (parI l k)) < 0
    have h : (if k < 0 then k else climb l n (parI l k)) < 0 := h
    split
    · assumption
    · rename_i q
      rw [if_neg q] at h
      exact climb_more l m h
theorem ancF_more (l : List Nd) : ∀ {n : Nat} {k : Int} (m : Nat), climb l n k < 0 → ancF l (n + m) k = ancF l n k
  | 0, k, m, h => by
    have h : k < 0 := h
    cases m with
    | zero => rfl
    | succ m =>
      rw [Nat.zero_add]
      show (if k < 0 then [] else _) = []
      rw [if_pos h]
  | n + 1, k, m, h => by
    rw [show n + 1 + m = (n + m) + 1 by omega]
    show (if k < 0 then [] else k :: ancF l (n + m) (parI l k)) = (if k < 0 then [] else k :: ancF l n (parI l k))
    have h : (if k < 0 then k else climb l n (parI l k)) < 0 := h
    split
    · rfl
    · rename_i q
      rw [if_neg q] at h
      rw [ancF_more l m h]
theorem anc_neg {l : List Nd} {k : Int} (h : k < 0) : anc l k = [] := by
  show (if k < 0 then [] else _) = []
  rw [if_pos h]
theorem ends_neg {l : List Nd} {k : Int} (h : k < 0) : Ends l k := by
  show (if k < 0 then k else _) < 0
  rw [if_pos h]; exact h
theorem anc_up {l : List Nd} {k : Int} (h : Ends l k) (hk : ¬ k < 0) : anc l k = k :: anc l (parI l k) := by
  have h : (if k < 0 then k else climb l l.length (parI l k)) < 0 := h
  rw [if_neg hk] at h
  show (if k < 0 then [] else k :: ancF l l.length (parI l k)) = k :: ancF l (l.length + 1) (parI l k)
  rw [if_neg hk, ancF_more l 1 h]
theorem hgt_up {l : List Nd} {k : Int} (h : Ends l k) (hk : ¬ k < 0) : hgt l k = hgt l (parI l k) + 1 := by
  unfold hgt
  rw [anc_up h hk]; rfl
/-- What a right document has. -/
structure Right (l : List Nd) : Prop where
  len : 1 ≤ l.length ∧ l.length ≤ 400
  head : ¬ (nd l 0).name.size = 0
  root : (nd l 0).parent = -1
  alone : ∀ i, i < l.length → aloneB (nd l i) = true
  par : ∀ i, i < l.length → -1 ≤ (nd l i).parent ∧ (nd l i).parent < l.length
  cnt : ∀ i, i < l.length → ¬ (nd l i).parent < 0 → cntI (nd l (nd l i).parent.toNat).kids i = 1
  kid : ∀ i, i < l.length → ∀ c ∈ (nd l i).kids, 0 ≤ c ∧ c < l.length ∧ parI l c = (i : Int)
  ends : ∀ i : Nat, i < l.length → Ends l (i : Int)
theorem right_is {l : List Nd} : rightB l = true ↔ Right l := by
  unfold rightB
  rw [Bool.and_eq_true, Bool.and_eq_true, Bool.and_eq_true, Bool.and_eq_true, decide_eq_true_eq, List.all_eq_true, List.all_eq_true]
  constructor
  · rintro ⟨h1, h2, h3, h4, h5⟩
    have N : ∀ i, i < l.length → nodeOk l i = true := fun i hi => h4 i (List.mem_range.2 hi)
    have P : ∀ i, i < l.length → aloneB (nd l i) = true ∧ (-1 ≤ (nd l i).parent ∧ (nd l i).parent < l.length) ∧ ((nd l i).parent < 0 ∨ cntI (nd l (nd l i).parent.toNat).kids i = 1) ∧ ∀ c ∈ (nd l i).kids, kidOk l i c = true := by
      intro i hi
      have := N i hi
      unfold nodeOk at this
      rw [Bool.and_eq_true, Bool.and_eq_true, Bool.and_eq_true, decide_eq_true_eq, Bool.or_eq_true, decide_eq_true_eq, beq_iff_eq, List.all_eq_true] at this
      exact this
    refine ⟨h1, by simpa using h2, by simpa using h3, fun i hi => (P i hi).1, fun i hi => (P i hi).2.1, fun i hi q => ?_, fun i hi c hc => ?_, fun i hi => show climb l (l.length + 1) (i : Int) < 0 from of_decide_eq_true (h5 i (List.mem_range.2 hi))⟩
    · rcases (P i hi).2.2.1 with r | r
      · exact absurd r q
      · exact r
    · have := (P i hi).2.2.2 c hc
      unfold kidOk at this
      rw [Bool.and_eq_true, decide_eq_true_eq, beq_iff_eq] at this
      exact ⟨this.1.1, this.1.2, this.2⟩
  · intro h
    refine ⟨h.len, by simpa using h.head, by rw [h.root]; rfl, fun i hi => ?_, fun i hi => decide_eq_true (show climb l (l.length + 1) (i : Int) < 0 from h.ends i (List.mem_range.1 hi))⟩
    have hi := List.mem_range.1 hi
    unfold nodeOk
    rw [Bool.and_eq_true, Bool.and_eq_true, Bool.and_eq_true, decide_eq_true_eq, Bool.or_eq_true, decide_eq_true_eq, beq_iff_eq, List.all_eq_true]
    refine ⟨h.alone i hi, h.par i hi, ?_, fun c hc => ?_⟩
    · by_cases q : (nd l i).parent < 0
      · exact .inl q
      · exact .inr (h.cnt i hi q)
    · have := h.kid i hi c hc
      unfold kidOk
      rw [Bool.and_eq_true, decide_eq_true_eq, beq_iff_eq]
      exact ⟨⟨this.1, this.2.1⟩, this.2.2⟩
theorem Right.up {l : List Nd} (h : Right l) {k : Int} (h0 : ¬ k < 0) (hk : k < l.length) : -1 ≤ parI l k ∧ parI l k < l.length := h.par k.toNat (by omega)
theorem Right.ende {l : List Nd} (h : Right l) {k : Int} (hk : k < l.length) : Ends l k := by
  by_cases q : k < 0
  · exact ends_neg q
  · have := h.ends k.toNat (by omega)
    rw [Int.toNat_of_nonneg (by omega)] at this
    exact this
/-- Is there a node, in a right document? -/
def hasN (l : List Nd) (id : Int) : Bool := decide (0 ≤ id ∧ id < l.length) && rightB l
def topP (l : List Nd) (id : Int) : Int := (anc l id).getLastD id
end Go.Proofs.Ytmobcijigiacoaa

namespace Go.Proofs.Ytmobcijigiacoaa
open Go.RowKit
theorem climb_add (l : List Nd) : ∀ (n m : Nat) (k : Int), climb l (n + m) k = climb l m (climb l n k)
  | 0, m, k => by rw [Nat.zero_add]; rfl
  | n + 1, m, k => by
    rw [show n + 1 + m = (n + m) + 1 by omega]
    show (if k < 0 then k else climb l (n + m) (parI l k)) = climb l m (if k < 0 then k else climb l n (parI l k))
    by_cases h : k < 0
    · rw [if_pos h, if_pos h]
      cases m with
      | zero => rfl
      | succ m => show k = (if k < 0 then k else _); rw [if_pos h]
    · rw [if_neg h, if_neg h, climb_add l n m]
theorem climb_loop (l : List Nd) {m : Nat} {k : Int} (h : climb l m k = k) : ∀ q, climb l (q * m) k = k
  | 0 => by rw [Nat.zero_mul]; rfl
  | q + 1 => by rw [Nat.succ_mul, climb_add, climb_loop l h q, h]
/-- A number that is met on the way up is so many steps up. -/
theorem anc_steps (l : List Nd) : ∀ (n : Nat) (k x : Int), x ∈ ancF l n k → ∃ m, m < n ∧ climb l m k = x ∧ 0 ≤ x
  | 0, _, _, h => by cases h
  | n + 1, k, x, h => by
    have h : x ∈ (if k < 0 then [] else k :: ancF l n (parI l k)) := h
    by_cases q : k < 0
    · rw [if_pos q] at h; cases h
    · rw [if_neg q] at h
      rcases List.mem_cons.1 h with e | e
      · exact ⟨0, by omega, e.symm, by omega⟩
      · obtain ⟨m, m1, m2, m3⟩ := anc_steps l n (parI l k) x e
        refine ⟨m + 1, by omega, ?_, m3⟩
        show (if k < 0 then k else climb l m (parI l k)) = x
        rw [if_neg q]; exact m2
theorem anc_nodup (l : List Nd) : ∀ (n : Nat) (k : Int), climb l n k < 0 → (ancF l n k).Nodup
  | 0, _, _ => List.nodup_nil
  | n + 1, k, h => by
    show (if k < 0 then [] else k :: ancF l n (parI l k)).Nodup
    by_cases q : k < 0
    · rw [if_pos q]; exact List.nodup_nil
    · rw [if_neg q]
      have h2 : climb l n (parI l k) < 0 := by
        have h : (if k < 0 then k else climb l n (parI l k)) < 0 := h
        rw [if_neg q] at h; exact h
      refine List.nodup_cons.2 ⟨fun hm => ?_, anc_nodup l n _ h2⟩
      obtain ⟨m, m1, m2, _⟩ := anc_steps l n _ _ hm
      have h3 : climb l (m + 1) k = k := by
        show (if k < 0 then k else climb l m (parI l k)) = k
        rw [if_neg q]; exact m2
      have h4 := climb_loop l h3 (n + 1)
      have h5 := climb_more l ((n + 1) * (m + 1) - (n + 1)) h
      rw [show n + 1 + ((n + 1) * (m + 1) - (n + 1)) = (n + 1) * (m + 1) by
        have : n + 1 ≤ (n + 1) * (m + 1) := Nat.le_mul_of_pos_right _ (by omega)
        omega, h4] at h5
      exact q h5
theorem anc_range (l : List Nd) (hp : ∀ i, i < l.length → (nd l i).parent < l.length) : ∀ (n : Nat) (k : Int), k < l.length → ∀ x ∈ ancF l n k, 0 ≤ x ∧ x < (l.length : Int)
  | 0, _, _, x, h => by cases h
  | n + 1, k, hk, x, h => by
    have h : x ∈ (if k < 0 then [] else k :: ancF l n (parI l k)) := h
    by_cases q : k < 0
    · rw [if_pos q] at h; cases h
    · rw [if_neg q] at h
      rcases List.mem_cons.1 h with e | e
      · subst e; exact ⟨by omega, hk⟩
      · exact anc_range l hp n _ (hp k.toNat (by omega)) x e
theorem climb_len (l : List Nd) : ∀ (n : Nat) (k : Int), climb l n k < 0 → climb l (ancF l n k).length k < 0
  | 0, _, h => h
  | n + 1, k, h => by
    have h : (if k < 0 then k else climb l n (parI l k)) < 0 := h
    show climb l (if k < 0 then [] else k :: ancF l n (parI l k)).length k < 0
    by_cases q : k < 0
    · rw [if_pos q]; exact q
    · rw [if_neg q] at h ⊢
      show (if k < 0 then k else climb l (ancF l n (parI l k)).length (parI l k)) < 0
      rw [if_neg q]
      exact climb_len l n _ h
/-- A way up that ends, ends in time. -/
theorem ends_of {l : List Nd} (hp : ∀ i, i < l.length → (nd l i).parent < l.length) {k : Int} (hk : k < l.length) {n : Nat} (h : climb l n k < 0) : Ends l k := by
  have h1 := nodup_len l.length _ (anc_nodup l n k h) (anc_range l hp n k hk)
  have h2 := climb_more l (l.length + 1 - (ancF l n k).length) (climb_len l n k h)
  rw [show (ancF l n k).length + (l.length + 1 - (ancF l n k).length) = l.length + 1 by omega] at h2
  exact h2
end Go.Proofs.Ytmobcijigiacoaa

namespace Go.Proofs.Ytmobcijigiacoaa
open Go.RowKit
theorem kids_nodup {l : List Nd} (h : Right l) {p : Nat} (hp : p < l.length) : (nd l p).kids.Nodup := by
  rw [List.nodup_iff_count]
  intro x
  by_cases m : x ∈ (nd l p).kids
  · have hk := h.kid p hp x m
    have hx : (nd l x.toNat).parent = (p : Int) := hk.2.2
    have := h.cnt x.toNat (by omega) (by rw [hx]; omega)
    rw [hx, Int.toNat_natCast, Int.toNat_of_nonneg hk.1] at this
    unfold cntI at this
    omega
  · rw [List.count_eq_zero.2 m]; omega
theorem find_first {ax : List (ByteArray × ByteArray)} {i : Nat} (hi : i < ax.length) : findA ax ax[i].1 = some i ↔ ∀ j (h : j < i), ¬ ax[j].1 = ax[i].1 := by
  unfold findA
  rw [List.findIdx?_eq_some_iff_getElem]
  constructor
  · rintro ⟨_, _, h⟩ j hj
    have := h j hj
    simpa using this
  · intro h
    exact ⟨hi, by simp, fun j hj => by simpa using h j hj⟩
end Go.Proofs.Ytmobcijigiacoaa

namespace Go.Proofs.Ytmobcijigiacoaa
open Go.RowKit
/-- In order, with a list of those that are to be gone to. -/
def orderF (l : List Nd) : Nat → List Int → List Int
  | 0, _ => []
  | _ + 1, [] => []
  | n + 1, k :: st => k :: orderF l n ((nd l k.toNat).kids ++ st)
theorem anc_self {l : List Nd} (h : Right l) {k : Int} (h0 : 0 ≤ k) (hk : k < l.length) : k ∈ anc l k := by
  rw [anc_up (h.ende hk) (by omega)]; exact List.mem_cons_self ..
theorem anc_hgt {l : List Nd} (h : Right l) : ∀ (d : Nat) {k x : Int}, k < l.length → hgt l k ≤ d → x ∈ anc l k → hgt l x ≤ hgt l k
  | 0, k, x, hk, hd, hm => by
    by_cases e : k < 0
    · rw [anc_neg e] at hm; cases hm
    · have := hgt_up (h.ende hk) e; omega
  | d + 1, k, x, hk, hd, hm => by
    by_cases e : k < 0
    · rw [anc_neg e] at hm; cases hm
    · rw [anc_up (h.ende hk) e] at hm
      rcases List.mem_cons.1 hm with q | q
      · rw [q]; exact Nat.le_refl _
      · have h1 := hgt_up (h.ende hk) e
        have h2 := anc_hgt h d (h.up e hk).2 (by omega) q
        omega
/-- What is gone to so far, what is to be gone to. -/
structure Inv (l : List Nd) (id : Int) (out st : List Int) : Prop where
  once : (out ++ st).Nodup
  rng : ∀ x ∈ out ++ st, 0 ≤ x ∧ x < (l.length : Int) ∧ id ∈ anc l x
  par : ∀ x ∈ out ++ st, x = id ∨ parI l x ∈ out
  kid : ∀ x ∈ out, ∀ c ∈ (nd l x.toNat).kids, c ∈ out ++ st
  first : ∀ X k Y, out = X ++ k :: Y → k = id ∨ parI l k ∈ X
  has : id ∈ out ++ st
theorem inv_step {l : List Nd} (h : Right l) {id : Int} {out st : List Int} {k : Int} (v : Inv l id out (k :: st)) : Inv l id (out ++ [k]) ((nd l k.toNat).kids ++ st) := by
  have hk := v.rng k (by simp)
  have hkl : k.toNat < l.length := by omega
  have kds : ∀ c ∈ (nd l k.toNat).kids, 0 ≤ c ∧ c < (l.length : Int) ∧ parI l c = k := by
    intro c hc
    have := h.kid k.toNat hkl c hc
    rw [Int.toNat_of_nonneg hk.1] at this
    exact this
  have hno := v.once
  have hkout : k ∉ out := fun m => (List.nodup_append.1 hno).2.2 k m k (List.mem_cons_self ..) rfl
  have fresh : ∀ c ∈ (nd l k.toNat).kids, c ∉ out ++ k :: st := by
    intro c hc hm
    have hcp := kds c hc
    rcases v.par c hm with e | e
    · subst e
      have h1 := hgt_up (h.ende hcp.2.1) (by omega)
      rw [hcp.2.2] at h1
      have h2 := anc_hgt h _ hk.2.1 (Nat.le_refl _) hk.2.2
      omega
    · rw [hcp.2.2] at e
      exact hkout e
  have mem : ∀ x, x ∈ (out ++ [k]) ++ ((nd l k.toNat).kids ++ st) ↔ x ∈ out ++ k :: st ∨ x ∈ (nd l k.toNat).kids := by
    intro x
    simp only [List.mem_append, List.mem_cons, List.not_mem_nil, or_false]
    constructor
    · rintro ((a | a) | a | a)
      · exact .inl (.inl a)
      · exact .inl (.inr (.inl a))
      · exact .inr a
      · exact .inl (.inr (.inr a))
    · rintro ((a | a | a) | a)
      · exact .inl (.inl a)
      · exact .inl (.inr a)
      · exact .inr (.inr a)
      · exact .inr (.inl a)
  refine ⟨?_, fun x hx => ?_, fun x hx => ?_, fun x hx c hc => ?_, fun X y Y e => ?_, ?_⟩
  · have h1 : ((out ++ [k]) ++ st).Nodup := by rw [List.append_assoc]; exact hno
    have h2 := kids_nodup h hkl
    rw [List.nodup_append] at h1 ⊢
    refine ⟨h1.1, ?_, ?_⟩
    · rw [List.nodup_append]
      refine ⟨h2, h1.2.1, fun a ha b hb e => ?_⟩
      subst e
      exact fresh a ha (List.mem_append.2 (.inr (List.mem_cons_of_mem _ hb)))
    · intro a ha b hb e
      subst e
      rcases List.mem_append.1 hb with q | q
      · refine fresh a q ?_
        rcases List.mem_append.1 ha with r | r
        · exact List.mem_append.2 (.inl r)
        · have : a = k := by simpa using r
          rw [this]; exact List.mem_append.2 (.inr (List.mem_cons_self ..))
      · exact h1.2.2 a ha a q rfl
  · rcases (mem x).1 hx with q | q
    · exact v.rng x q
    · have := kds x q
      refine ⟨this.1, this.2.1, ?_⟩
      rw [anc_up (h.ende this.2.1) (by omega), this.2.2]
      exact List.mem_cons_of_mem _ hk.2.2
  · rcases (mem x).1 hx with q | q
    · rcases v.par x q with r | r
      · exact .inl r
      · exact .inr (List.mem_append.2 (.inl r))
    · right
      rw [(kds x q).2.2]; simp
  · rcases List.mem_append.1 hx with q | q
    · exact (mem c).2 (.inl (v.kid x q c hc))
    · have : x = k := by simpa using q
      subst this
      exact (mem c).2 (.inr hc)
  · rcases List.append_eq_append_iff.1 e with ⟨a, e1, e2⟩ | ⟨a, e1, e2⟩
    · -- X = out ++ a, [k] = a ++ y :: Y
      cases a with
      | nil =>
        have e3 : k = y := by
          have := congrArg List.head? e2
          simpa using this
        subst e3
        rcases v.par k (by simp) with r | r
        · exact .inl r
        · right; rw [e1]; simpa using r
      | cons z t =>
        have := congrArg List.length e2
        simp at this
    · -- out = X ++ a, y :: Y = a ++ [k]
      cases a with
      | nil =>
        have e3 : y = k := by
          have := congrArg List.head? e2
          simpa using this
        subst e3
        rcases v.par y (by simp) with r | r
        · exact .inl r
        · right; rw [e1] at r; simpa using r
      | cons z t =>
        have e3 : y = z := by
          have := congrArg List.head? e2
          simpa using this
        subst e3
        exact v.first X y t e1
  · exact (mem id).2 (.inl v.has)
end Go.Proofs.Ytmobcijigiacoaa

namespace Go.Proofs.Ytmobcijigiacoaa
open Go.RowKit
/-- A node and what is within it. -/
def downF (l : List Nd) : Nat → Int → List Int
  | 0, _ => []
  | n + 1, k => k :: (kidsI l k).flatMap (downF l n)
/-- Each child is there, tells its parent, and stands once. -/
structure Linked (l : List Nd) : Prop where
  kid : ∀ i, i < l.length → ∀ c ∈ (nd l i).kids, inR l c ∧ parI l c = (i : Int)
  once : ∀ i, i < l.length → (nd l i).kids.Nodup
theorem Linked.kidI {l : List Nd} (h : Linked l) {k c : Int} (hk : inR l k) (hc : c ∈ kidsI l k) : inR l c ∧ parI l c = k := by
  have := h.kid k.toNat (by have := hk.1; have := hk.2; omega) c hc
  rw [Int.toNat_of_nonneg hk.1] at this
  exact this
theorem Linked.onceI {l : List Nd} (h : Linked l) {k : Int} (hk : inR l k) : (kidsI l k).Nodup := h.once k.toNat (by have := hk.1; have := hk.2; omega)
theorem dep_sub {l : List Nd} (h : Linked l) : ∀ (f : Nat) {d : Nat} {k : Int}, Dep l d k → l.length ≤ d + f → Sub l f k
  | 0, d, k, hd, hf => by have := hd.lt; omega
  | f + 1, d, k, hd, hf => ⟨hd.rng, fun c hc => by
    have q := h.kidI hd.rng hc
    exact dep_sub h f (d := d + 1) (show inR l c ∧ Dep l d (parI l c) from ⟨q.1, by rw [q.2]; exact hd⟩) (by omega)⟩
theorem Sub.rng {l : List Nd} : ∀ {f : Nat} {k : Int}, Sub l f k → inR l k
  | 0, _, h => h.elim
  | _ + 1, _, h => h.1
theorem down_range {l : List Nd} : ∀ {f : Nat} {k x : Int}, Sub l f k → x ∈ downF l f k → inR l x
  | 0, _, _, h, _ => h.elim
  | f + 1, k, x, h, hx => by
    rcases List.mem_cons.1 hx with q | q
    · rw [q]; exact h.1
    · obtain ⟨c, h1, h2⟩ := List.mem_flatMap.1 q
      exact down_range (h.2 c h1) h2
theorem down_self {l : List Nd} {f : Nat} {k : Int} (h : Sub l f k) : k ∈ downF l f k := by
  cases f with
  | zero => exact h.elim
  | succ f => exact List.mem_cons_self ..
/-- Who is gone to is the first, or a child of one that is gone to. -/
theorem down_from {l : List Nd} : ∀ {f : Nat} {k x : Int}, Sub l f k → x ∈ downF l f k → x = k ∨ ∃ p, inR l p ∧ x ∈ kidsI l p
  | 0, _, _, h, _ => h.elim
  | f + 1, k, x, h, hx => by
    rcases List.mem_cons.1 hx with q | q
    · exact .inl q
    · obtain ⟨c, h1, h2⟩ := List.mem_flatMap.1 q
      rcases down_from (h.2 c h1) h2 with r | r
      · rw [r]; exact .inr ⟨k, h.1, h1⟩
      · exact .inr r
theorem down_kids {l : List Nd} : ∀ {f : Nat} {k p c : Int}, Sub l f k → p ∈ downF l f k → c ∈ kidsI l p → c ∈ downF l f k
  | 0, _, _, _, h, _, _ => h.elim
  | f + 1, k, p, c, h, hp, hc => by
    rcases List.mem_cons.1 hp with q | q
    · rw [q] at hc
      exact List.mem_cons_of_mem _ (List.mem_flatMap.2 ⟨c, hc, down_self (h.2 c hc)⟩)
    · obtain ⟨d, h1, h2⟩ := List.mem_flatMap.1 q
      exact List.mem_cons_of_mem _ (List.mem_flatMap.2 ⟨d, h1, down_kids (h.2 d h1) h2 hc⟩)
/-- So many steps up. -/
def upN (l : List Nd) : Nat → Int → Int
  | 0, k => k
  | n + 1, k => upN l n (parI l k)
theorem upN_succ (l : List Nd) : ∀ (n : Nat) (k : Int), upN l (n + 1) k = parI l (upN l n k)
  | 0, _ => rfl
  | n + 1, k => by show upN l (n + 1) (parI l k) = _; rw [upN_succ l n]; rfl
theorem down_dep {l : List Nd} (h : Linked l) : ∀ {f d : Nat} {k x : Int}, Dep l d k → x ∈ downF l f k → ∃ e, Dep l (d + e) x ∧ upN l e x = k
  | 0, _, _, _, _, hx => by cases hx
  | f + 1, d, k, x, hd, hx => by
    rcases List.mem_cons.1 hx with q | q
    · rw [q]; exact ⟨0, hd, rfl⟩
    · obtain ⟨c, h1, h2⟩ := List.mem_flatMap.1 q
      have r := h.kidI hd.rng h1
      obtain ⟨e, g1, g2⟩ := down_dep h (d := d + 1) (show inR l c ∧ Dep l d (parI l c) from ⟨r.1, by rw [r.2]; exact hd⟩) h2
      refine ⟨e + 1, by rw [show d + (e + 1) = d + 1 + e by omega]; exact g1, ?_⟩
      rw [upN_succ, g2, r.2]
theorem nodup_flat {α β : Type} {g : α → List β} : ∀ {L : List α}, L.Nodup → (∀ x ∈ L, (g x).Nodup) → (∀ x ∈ L, ∀ y ∈ L, ∀ z, z ∈ g x → z ∈ g y → x = y) → (L.flatMap g).Nodup
  | [], _, _, _ => by simp
  | a :: L, hn, h1, h2 => by
    have hn := List.nodup_cons.1 hn
    rw [List.flatMap_cons, List.nodup_append]
    refine ⟨h1 a (List.mem_cons_self ..), nodup_flat hn.2 (fun x hx => h1 x (List.mem_cons_of_mem _ hx)) (fun x hx y hy => h2 x (List.mem_cons_of_mem _ hx) y (List.mem_cons_of_mem _ hy)), fun x hx y hy e => ?_⟩
    obtain ⟨b, h3, h4⟩ := List.mem_flatMap.1 hy
    rw [← e] at h4
    have := h2 a (List.mem_cons_self ..) b (List.mem_cons_of_mem _ h3) x hx h4
    rw [this] at hn
    exact hn.1 h3
theorem down_nodup {l : List Nd} (h : Linked l) : ∀ {f d : Nat} {k : Int}, Dep l d k → (downF l f k).Nodup
  | 0, _, _, _ => by simp [downF]
  | f + 1, d, k, hd => by
    have D : ∀ c ∈ kidsI l k, Dep l (d + 1) c := fun c hc => by
      have r := h.kidI hd.rng hc
      exact show inR l c ∧ Dep l d (parI l c) from ⟨r.1, by rw [r.2]; exact hd⟩
    refine List.nodup_cons.2 ⟨fun q => ?_, nodup_flat (h.onceI hd.rng) (fun c hc => down_nodup h (D c hc)) (fun x hx y hy z h1 h2 => ?_)⟩
    · obtain ⟨c, h1, h2⟩ := List.mem_flatMap.1 q
      obtain ⟨e, g1, _⟩ := down_dep h (D c h1) h2
      have := Dep.one g1 hd
      omega
    · obtain ⟨e1, g1, g2⟩ := down_dep h (D x hx) h1
      obtain ⟨e2, g3, g4⟩ := down_dep h (D y hy) h2
      have := Dep.one g1 g3
      obtain rfl : e1 = e2 := by omega
      rw [← g2, ← g4]
/-- The nodes without a parent, in order of their numbers; all that they lead to. -/
def rootsL (l : List Nd) : List Int := ((List.range l.length).filter fun i => (nd l i).parent == -1).map fun i : Nat => (i : Int)
theorem mem_roots {l : List Nd} {r : Int} : r ∈ rootsL l ↔ inR l r ∧ parI l r = -1 := by
  unfold rootsL
  rw [List.mem_map]
  constructor
  · rintro ⟨i, hi, rfl⟩
    rw [List.mem_filter, List.mem_range, beq_iff_eq] at hi
    exact ⟨⟨by omega, by omega⟩, by unfold parI; rw [Int.toNat_natCast]; exact hi.2⟩
  · rintro ⟨⟨h1, h2⟩, h3⟩
    refine ⟨r.toNat, ?_, Int.toNat_of_nonneg h1⟩
    rw [List.mem_filter, List.mem_range, beq_iff_eq]
    exact ⟨by omega, h3⟩
theorem nodup_cast {L : List Nat} (h : L.Nodup) : (L.map fun i : Nat => (i : Int)).Nodup := List.pairwise_map.2 (h.imp fun {a b} hab e => hab (by omega))
theorem count_one {L : List Int} {x : Int} (h : L.Nodup) (hx : x ∈ L) : List.count x L = 1 := by
  have h1 := List.nodup_iff_count.1 h x
  have h2 := List.count_pos_iff.2 hx
  omega
theorem roots_nodup (l : List Nd) : (rootsL l).Nodup := by
  unfold rootsL
  refine nodup_cast ?_
  exact List.nodup_range.filter _
def allL (l : List Nd) : List Int := (rootsL l).flatMap (downF l l.length)
theorem root_dep {l : List Nd} {r : Int} (h : r ∈ rootsL l) : Dep l 0 r := mem_roots.1 h
theorem root_sub {l : List Nd} (h : Linked l) {r : Int} (hr : r ∈ rootsL l) : Sub l l.length r := dep_sub h _ (root_dep hr) (by omega)
theorem all_nodup {l : List Nd} (h : Linked l) : (allL l).Nodup := by
  refine nodup_flat (roots_nodup l) (fun r hr => down_nodup h (root_dep hr)) (fun x hx y hy z h1 h2 => ?_)
  obtain ⟨e1, g1, g2⟩ := down_dep h (root_dep hx) h1
  obtain ⟨e2, g3, g4⟩ := down_dep h (root_dep hy) h2
  have := Dep.one g1 g3
  obtain rfl : e1 = e2 := by omega
  rw [← g2, ← g4]
theorem all_range {l : List Nd} (h : Linked l) {x : Int} (hx : x ∈ allL l) : inR l x := by
  obtain ⟨r, h1, h2⟩ := List.mem_flatMap.1 hx
  exact down_range (root_sub h h1) h2
theorem all_full {l : List Nd} (h : Linked l) (hl : (allL l).length = l.length) {x : Int} (hx : inR l x) : x ∈ allL l := by
  by_cases q : x ∈ allL l
  · exact q
  · have := nodup_len l.length (x :: allL l) (List.nodup_cons.2 ⟨q, all_nodup h⟩) (fun y hy => by
      rcases List.mem_cons.1 hy with r | r
      · rw [r]; exact hx
      · exact all_range h r)
    rw [List.length_cons, hl] at this
    omega
theorem dep_climb {l : List Nd} : ∀ {d : Nat} {k : Int}, Dep l d k → climb l (d + 1) k < 0
  | 0, k, h => by
    show (if k < 0 then k else parI l k) < 0
    rw [if_neg (by have := h.1.1; omega), h.2]; omega
  | d + 1, k, h => by
    show (if k < 0 then k else climb l (d + 1) (parI l k)) < 0
    rw [if_neg (by have := h.1.1; omega)]
    exact dep_climb h.2
/-- What the program asks is what the document asks. -/
theorem right_of {l : List Nd} (h1 : 1 ≤ l.length ∧ l.length ≤ 400) (h2 : ¬ (nd l 0).name.size = 0) (h3 : (nd l 0).parent = -1) (h4 : ∀ i, i < l.length → aloneB (nd l i) = true) (h5 : Linked l) (h6 : (allL l).length = l.length) : Right l := by
  have A : ∀ i : Nat, i < l.length → ∃ d, Dep l d (i : Int) ∧ (parI l (i : Int) = -1 ∨ ∃ p, inR l p ∧ (i : Int) ∈ kidsI l p) := by
    intro i hi
    have := all_full h5 h6 (x := (i : Int)) ⟨by omega, by omega⟩
    obtain ⟨r, g1, g2⟩ := List.mem_flatMap.1 this
    obtain ⟨e, g3, _⟩ := down_dep h5 (root_dep g1) g2
    refine ⟨_, g3, ?_⟩
    rcases down_from (root_sub h5 g1) g2 with q | q
    · rw [q]; exact .inl (root_dep g1).2
    · exact .inr q
  have PI : ∀ i : Nat, parI l (i : Int) = (nd l i).parent := fun i => by unfold parI; rw [Int.toNat_natCast]
  have hp : ∀ i, i < l.length → -1 ≤ (nd l i).parent ∧ (nd l i).parent < l.length := by
    intro i hi
    obtain ⟨d, g1, g2⟩ := A i hi
    rw [← PI i]
    rcases g2 with q | ⟨p, q1, q2⟩
    · rw [q]; omega
    · rw [(h5.kidI q1 q2).2]
      have := q1.1; have := q1.2; omega
  refine ⟨h1, h2, h3, h4, hp, fun i hi q => ?_, fun i hi c hc => ?_, fun i hi => ?_⟩
  · obtain ⟨d, g1, g2⟩ := A i hi
    rcases g2 with r | ⟨p, q1, q2⟩
    · rw [PI i] at r; omega
    · have e := (h5.kidI q1 q2).2
      rw [PI i] at e
      rw [e]
      exact count_one (h5.onceI q1) q2
  · have := h5.kid i hi c hc
    exact ⟨this.1.1, this.1.2, this.2⟩
  · obtain ⟨d, g1, g2⟩ := A i hi
    exact ends_of (fun i hi => (hp i hi).2) (by omega) (dep_climb g1)
theorem right_linked {l : List Nd} (h : Right l) : Linked l := ⟨fun i hi c hc => by have := h.kid i hi c hc; exact ⟨⟨this.1, this.2.1⟩, this.2.2⟩, fun i hi => kids_nodup h hi⟩
theorem right_all {l : List Nd} (h : Right l) : ∀ (d : Nat) {k : Int}, inR l k → hgt l k ≤ d → k ∈ allL l
  | 0, k, hk, hd => by
    have := hgt_up (h.ende hk.2) (by have := hk.1; omega); omega
  | d + 1, k, hk, hd => by
    have n0 : ¬ k < 0 := by have := hk.1; omega
    have e := hgt_up (h.ende hk.2) n0
    have u := h.up n0 hk.2
    by_cases q : parI l k < 0
    · have r : k ∈ rootsL l := mem_roots.2 ⟨hk, by omega⟩
      exact List.mem_flatMap.2 ⟨k, r, down_self (root_sub (right_linked h) r)⟩
    · have ih := right_all h d (k := parI l k) ⟨by omega, u.2⟩ (by omega)
      obtain ⟨r, g1, g2⟩ := List.mem_flatMap.1 ih
      refine List.mem_flatMap.2 ⟨r, g1, down_kids (root_sub (right_linked h) g1) g2 ?_⟩
      have hk0 : k.toNat < l.length := by have := hk.2; omega
      have c := h.cnt k.toNat hk0 q
      rw [Int.toNat_of_nonneg hk.1] at c
      exact List.count_pos_iff.1 (by have c : List.count k (kidsI l (parI l k)) = 1 := c; omega)
theorem nodup_sub : ∀ {A B : List Int}, A.Nodup → (∀ x ∈ A, x ∈ B) → A.length ≤ B.length
  | [], _, _, _ => Nat.zero_le _
  | a :: A, B, hn, h => by
    have hn := List.nodup_cons.1 hn
    have ha := h a (List.mem_cons_self ..)
    have := nodup_sub (A := A) (B := B.erase a) hn.2 (fun x hx => by
      have := h x (List.mem_cons_of_mem _ hx)
      exact (List.mem_erase_of_ne (fun e => hn.1 (by rw [← e]; exact hx))).2 this)
    rw [List.length_erase_of_mem ha] at this
    have := List.length_pos_of_mem ha
    rw [List.length_cons]
    omega
theorem right_reached {l : List Nd} (h : Right l) : (allL l).length = l.length := by
  have h1 := nodup_len l.length (allL l) (all_nodup (right_linked h)) (fun x hx => all_range (right_linked h) hx)
  have h2 := nodup_sub (A := (List.range l.length).map fun i : Nat => (i : Int)) (B := allL l) (nodup_cast List.nodup_range) (fun x hx => by
    obtain ⟨i, g1, rfl⟩ := List.mem_map.1 hx
    have := List.mem_range.1 g1
    exact right_all h _ ⟨by omega, by omega⟩ (Nat.le_refl _))
  rw [List.length_map, List.length_range] at h2
  omega
end Go.Proofs.Ytmobcijigiacoaa

namespace Go.Proofs.Ytmobcijigiacoaa
open Go.RowKit
/-- A listener. A call: the listener's place, the node, the phase. -/
structure Ls where
  node : Int
  typ : ByteArray
  cap : Bool
abbrev Cl := Int × Int × Int
def pathP (l : List Nd) (t : Int) : List Int := if hasN l t = true then (anc l t).reverse else []
def lsB (n : Int) (k : ByteArray) (c : Bool) (x : Ls) : Bool := decide (x.node = n) && (decide (x.typ = k) && (x.cap == c))
def atF (n ph : Int) (k : ByteArray) (c : Bool) : Nat → List Ls → List Cl
  | _, [] => []
  | i, x :: xs => (if lsB n k c x = true then [((i : Int), n, ph)] else []) ++ atF n ph k c (i + 1) xs
def atP (all : List Ls) (k : ByteArray) (g : Int × Int × Bool) : List Cl := atF g.1 g.2.1 k g.2.2 0 all
def grpE (l : List Nd) (t : Int) (b : Bool) : List (Int × Int × Bool) :=
  (pathP l t).dropLast.map (fun x => (x, 1, true)) ++ ((if pathP l t = [] then [] else [(t, 2, true), (t, 2, false)]) ++ (if b = true then (pathP l t).dropLast.reverse.map (fun x => (x, 3, false)) else []))
def callsP (l : List Nd) (all : List Ls) (t : Int) (k : ByteArray) (b : Bool) : List Cl := (grpE l t b).flatMap (atP all k)
theorem top_rootE {l : List Nd} (h : Right l) : ∀ (d : Nat) {k : Int}, 0 ≤ k → k < (l.length : Int) → hgt l k ≤ d → topP l k ∈ anc l k ∧ parI l (topP l k) < 0
  | 0, k, h0, hk, hd => by
    have := hgt_up (h.ende hk) (by omega)
    omega
  | d + 1, k, h0, hk, hd => by
    have hu := anc_up (h.ende hk) (by omega)
    have hh := hgt_up (h.ende hk) (by omega)
    have pr := h.up (by omega) hk
    by_cases q : parI l k < 0
    · have e : topP l k = k := by unfold topP; rw [hu, anc_neg q]; rfl
      rw [e]
      exact ⟨by rw [hu]; exact List.mem_cons_self, q⟩
    · have hu2 := anc_up (h.ende pr.2) q
      have e : topP l k = topP l (parI l k) := by unfold topP; rw [hu, hu2]; rfl
      have ih := top_rootE h d (k := parI l k) (by omega) pr.2 (by omega)
      rw [e]
      exact ⟨by rw [hu]; exact List.mem_cons_of_mem _ ih.1, ih.2⟩
theorem hasN_is {l : List Nd} {t : Int} (h : hasN l t = true) : Right l ∧ 0 ≤ t ∧ t < (l.length : Int) := by
  unfold hasN at h
  rw [Bool.and_eq_true, decide_eq_true_eq] at h
  exact ⟨right_is.1 h.2, h.1⟩
/-- What a path has: the way up ahead of the node itself, each once. -/
theorem path_drop {l : List Nd} {t : Int} (h : hasN l t = true) : pathP l t = (anc l (parI l t)).reverse ++ [t] := by
  obtain ⟨hR, t0, t1⟩ := hasN_is h
  unfold pathP
  rw [if_pos h, anc_up (hR.ende t1) (by omega), List.reverse_cons]
theorem path_none {l : List Nd} {t : Int} (h : hasN l t = false) : pathP l t = [] := by unfold pathP; rw [h]; rfl
theorem nodup_rev {xs : List Int} (h : xs.Nodup) : xs.reverse.Nodup := List.pairwise_reverse.2 (h.imp fun h e => h e.symm)
theorem path_nodup {l : List Nd} {t : Int} : (pathP l t).Nodup := by
  by_cases h : hasN l t = true
  · obtain ⟨hR, t0, t1⟩ := hasN_is h
    unfold pathP
    rw [if_pos h]
    exact nodup_rev (anc_nodup l _ t (hR.ende t1))
  · rw [path_none (by simpa using h)]; exact List.nodup_nil
theorem path_few {l : List Nd} {t : Int} : (pathP l t).length ≤ 400 := by
  by_cases h : hasN l t = true
  · obtain ⟨hR, t0, t1⟩ := hasN_is h
    have a := nodup_sub (path_nodup (l := l) (t := t)) (B := (List.range l.length).map fun i : Nat => (i : Int)) (fun x hx => by
      unfold pathP at hx
      rw [if_pos h, List.mem_reverse] at hx
      have := anc_range l (fun i hi => (hR.par i hi).2) _ _ t1 x hx
      rw [List.mem_map]
      exact ⟨x.toNat, List.mem_range.2 (by omega), by omega⟩)
    rw [List.length_map, List.length_range] at a
    have := hR.len.2
    omega
  · rw [path_none (by simpa using h)]; exact Nat.zero_le _
end Go.Proofs.Ytmobcijigiacoaa

namespace Go.Proofs.Ytmobcijigiacoaa
open Go.RowKit
set_option maxRecDepth 100000
theorem txt_beq (a b : ByteArray) : (a.toList == b.toList) = decide (a = b) := by
  rw [Bool.eq_iff_iff, beq_iff_eq, decide_eq_true_eq, ByteArray.toList_eq, ByteArray.toList_eq]
  constructor
  · intro h
    apply ByteArray.ext
    exact Array.ext' h
  · intro h; rw [h]
def isN (n : ByteArray) (x : ByteArray × ByteArray) : Bool := decide (x.1 = n)
/-- A function value that answers p of attributes, in every later world. -/
def PredA (g : Nat) (lb : Array Value) (p : ByteArray × ByteArray → Bool) (w : World) : Prop :=
  ∀ (W : World) (x : ByteArray × ByteArray), Below w.heap.size w W → Calls Try.prog g (#[.agg #[.string x.1, .string x.2]] ++ lb) W fun e w' => e = .returned (.bool (p x)) ∧ Below W.heap.size W w'
theorem PredA.later {g : Nat} {lb : Array Value} {p : ByteArray × ByteArray → Bool} {w w' : World} (h : PredA g lb p w) (hb : Below w.heap.size w w') : PredA g lb p w' := fun W x q => h W x (chain hb q)
theorem idx_hit {ax : List (ByteArray × ByteArray)} {p : ByteArray × ByteArray → Bool} {k : Nat} (h : k < ax.length) (hp : p ax[k] = true) (hd : ∀ j (hj : j < ax.length), j < k → p ax[j] = false) : ax.findIdx? p = some k := by
  rw [List.findIdx?_eq_some_iff_getElem]
  exact ⟨h, hp, fun j hj => by rw [hd j (by omega) hj]; decide⟩
theorem idx_miss {ax : List (ByteArray × ByteArray)} {p : ByteArray × ByteArray → Bool} (hd : ∀ j (hj : j < ax.length), p ax[j] = false) : ax.findIdx? p = none := by
  rw [List.findIdx?_eq_none_iff]
  intro x hx
  obtain ⟨j, hj, rfl⟩ := List.getElem_of_mem hx
  exact hd j hj
set_option maxHeartbeats 2000000 in
theorem indexFuncA_any (v : Value) (ax : List (ByteArray × ByteArray)) (p : ByteArray × ByteArray → Bool) (g : Nat) (lb : Array Value) (eg : ∀ args w, (callFunc g args).run Try.prog w = .ok (.enter g args) w) (w : World) (hv : AttrsV w v ax) (hp : PredA g lb p w) (hl : ax.length ≤ 4398046511104) :
    Calls Try.prog 51 #[v, .func (.func g) #[] lb] w fun e w' => e = .returned (.int .i64 (findV (ax.findIdx? p))) ∧ Below w.heap.size w w' := by
  obtain ⟨pp, c, rfl, hv⟩ := hv
  have HIT := hide (fun k h h1 h2 => idx_hit (ax := ax) (p := p) (k := k) h h1 h2)
  have MISS := hide (fun h => idx_miss (ax := ax) (p := p) h)
  generalize ax.findIdx? p = R at *
  have HP := hide hp
  clear hp
  go_enter Try.func51, Try.ntmps51
  go_wp2_with fail
  go_loopw [8] (fun iv wr => ∃ k : Nat, k ≤ ax.length ∧ iv = .int .i64 k ∧ Hid (∀ j (hj : j < ax.length), j < k → p ax[j] = false) ∧ Hid (Below w.heap.size w wr)) (fun iv _ => ax.length - (intOf iv).toNat)
  case atStart => exact ⟨0, Nat.zero_le _, rfl, fun j _ q => by omega, Below.refl _ _⟩
  case round =>
    rename World => wr
    obtain ⟨k, hk, rfl, hd, BW⟩ := hrel
    by_cases h : k < ax.length
    · have i1 : (k : Int) < (ax.length : Int) := by omega
      rcases hv with hv | ⟨b, o, rfl, hv⟩
      · rw [hv] at h; simp at h
      have c0 := cell_below (hv k h).1 BW.out
      have c1 := cell_below (hv k h).2 BW.out
      have HC := hide (HP.out wr ax[k] BW.out)
      have HK := hide (HIT.out k h)
      have ND := hide (fun q : p ax[k] = false => (fun j (hj : j < ax.length) (r : j < k + 1) => by
        rcases Nat.lt_or_ge j k with t | t
        · exact hd.out j hj t
        · obtain rfl : j = k := by omega
          exact q : ∀ j (hj : j < ax.length), j < k + 1 → p ax[j] = false))
      clear hv HP HIT MISS
      cases q : p ax[k] with
      | true =>
        have E := hide (HK.out q (fun j hj r => hd.out j hj r))
        rw [q] at HC
        clear HK ND q hd
        generalize ax[k].1 = x1 at *
        generalize ax[k].2 = x2 at *
        go_wp2_with fail
        refine HC.out.mono ?_
        rintro e w' ⟨rfl, hb'⟩
        go_wp2_with fail
        go_ret
        exact ⟨by rw [E.out]; rfl, chain BW.out hb'⟩
      | false =>
        have E := hide (ND.out q)
        rw [q] at HC
        clear HK ND q hd
        generalize ax[k].1 = x1 at *
        generalize ax[k].2 = x2 at *
        go_wp2_with fail
        refine HC.out.mono ?_
        rintro e w' ⟨rfl, hb'⟩
        go_wp2_with fail
        go_roundw
        case rel => exact ⟨k + 1, by omega, by go_num, E, chain BW.out hb'⟩
        case measure => simp [intOf]; omega
    · obtain rfl : k = ax.length := by omega
      have E := hide (MISS.out (fun j hj => hd.out j hj hj))
      clear HIT MISS hd hv HP h
      go_wp2_with fail
      go_ret
      exact ⟨by rw [E.out]; rfl, BW.out⟩
theorem findV_nonneg (o : Option Nat) : decide (0 ≤ findV o) = o.isSome := by
  cases o with
  | none => rfl
  | some k => exact decide_eq_true (by show (0 : Int) ≤ (k : Int); omega)
set_option maxHeartbeats 8000000 in
theorem containsFuncA_any (v : Value) (ax : List (ByteArray × ByteArray)) (p : ByteArray × ByteArray → Bool) (g : Nat) (lb : Array Value) (eg : ∀ args w, (callFunc g args).run Try.prog w = .ok (.enter g args) w) (w : World) (hv : AttrsV w v ax) (hp : PredA g lb p w) (hl : ax.length ≤ 4398046511104) :
    Calls Try.prog 49 #[v, .func (.func g) #[] lb] w fun e w' => e = .returned (.bool (ax.findIdx? p).isSome) ∧ Below w.heap.size w w' := by
  have HI := hide (indexFuncA_any v ax p g lb eg w hv hp hl)
  have E := hide (findV_nonneg (ax.findIdx? p))
  generalize (ax.findIdx? p).isSome = R at *
  generalize findV (ax.findIdx? p) = z at *
  clear hv hp
  go_enter Try.func49, Try.ntmps49
  go_wp2_with fail
  refine HI.out.mono ?_
  rintro e w1 ⟨rfl, b1⟩
  go_wp2_with fail
  go_ret
  exact ⟨ret_bool E.out, b1⟩
end Go.Proofs.Ytmobcijigiacoaa

namespace Go.Proofs.Ytmobcijigiacoaa
open Go.RowKit
set_option maxRecDepth 100000
theorem byte_at (s : ByteArray) (k : Nat) (h : k < s.size) : s.data.toList[k]'(by simpa using h) = s[k] := by simp; rfl
theorem name_no {s : ByteArray} {k : Nat} (hk : k < s.size) (h : nmAt k s[k] = false) : nameOk s = false := by
  unfold nameOk
  rw [nmAll_bad (l := s.data.toList) (n := 0) (k := k) (by simpa using hk) (by rw [Nat.zero_add, byte_at s k hk]; exact h), Bool.and_false]
theorem name_end {s : ByteArray} (h : ∀ k (_ : k < s.size), nmAt k s[k] = true) : nameOk s = decide (0 < s.size ∧ s.size ≤ 20) := by
  unfold nameOk
  rw [nmAll_all (l := s.data.toList) (n := 0) (fun k hk => by
    have hk2 : k < s.size := by simpa using hk
    rw [Nat.zero_add, byte_at s k hk2]; exact h k hk2), Bool.and_true]
theorem small_iff (c : UInt8) : smallC c = true ↔ 97 ≤ c.toNat ∧ c.toNat ≤ 122 := by unfold smallC; simp
theorem nm_small {i : Nat} {c : UInt8} (h : 97 ≤ c.toNat ∧ c.toNat ≤ 122) : nmAt i c = true := by unfold nmAt; rw [(small_iff c).2 h]; rfl
theorem nm_other {i : Nat} {c : UInt8} (hi : ¬ i = 0) (h : (48 ≤ c.toNat ∧ c.toNat ≤ 57) ∨ c.toNat = 45) : nmAt i c = true := by
  unfold nmAt
  have h1 : (i == 0) = false := by simpa using hi
  have h2 : otherC c = true := by
    unfold otherC
    rcases h with h | h
    · rw [decide_eq_true h]; rfl
    · have : c = 45 := UInt8.toNat_inj.1 h
      subst this; rfl
  rw [h1, h2]; simp
theorem nm_not {i : Nat} {c : UInt8} (h : ¬ (97 ≤ c.toNat ∧ c.toNat ≤ 122)) (h2 : i = 0 ∨ ¬ ((48 ≤ c.toNat ∧ c.toNat ≤ 57) ∨ c.toNat = 45)) : nmAt i c = false := by
  unfold nmAt
  have h1 : smallC c = false := by unfold smallC; exact decide_eq_false h
  rw [h1, Bool.false_or]
  rcases h2 with rfl | h2
  · rfl
  · have h3 : otherC c = false := by
      unfold otherC
      rw [decide_eq_false (fun q => h2 (.inl q)), Bool.false_or, beq_eq_false_iff_ne]
      exact fun q => h2 (.inr (by rw [q]; rfl))
    rw [h3, Bool.and_false]
end Go.Proofs.Ytmobcijigiacoaa

namespace Go.Proofs.Ytmobcijigiacoaa
open Go.RowKit
set_option maxRecDepth 100000
/-- What is gone to, what is to be gone to, and what comes of it. -/
structure OInv (l : List Nd) (id : Int) (xs st : List Int) (R : List Int) : Prop where
  inv : Inv l id xs st
  go : ∃ N, l.length + 1 ≤ N + xs.length ∧ xs ++ orderF l N st = R
theorem OInv.few {l : List Nd} {id : Int} {xs st R : List Int} (h : OInv l id xs st R) : xs.length + st.length ≤ l.length := by
  have := nodup_len l.length (xs ++ st) h.inv.once (fun x hx => by have := h.inv.rng x hx; exact ⟨this.1, this.2.1⟩)
  rwa [List.length_append] at this
theorem OInv.step {l : List Nd} (hR : Right l) {id : Int} {xs st R : List Int} {k : Int} (h : OInv l id xs (k :: st) R) : OInv l id (xs ++ [k]) ((nd l k.toNat).kids ++ st) R := by
  refine ⟨inv_step hR h.inv, ?_⟩
  obtain ⟨N, h1, h2⟩ := h.go
  have := h.few
  rw [List.length_cons] at this
  obtain ⟨M, rfl⟩ : ∃ M, N = M + 1 := ⟨N - 1, by omega⟩
  refine ⟨M, by rw [List.length_append, List.length_singleton]; omega, ?_⟩
  rw [← h2, List.append_assoc]; rfl
end Go.Proofs.Ytmobcijigiacoaa

namespace Go.Proofs.Ytmobcijigiacoaa
open Go.RowKit
set_option maxRecDepth 100000
theorem top_inE {l : List Nd} (h : Right l) {m : Nat} (hm : m < l.length) : ∃ t : Nat, topP l (m : Int) = (t : Int) ∧ t < l.length := by
  have a := top_rootE h _ (k := (m : Int)) (by omega) (by omega) (Nat.le_refl _)
  have r := anc_range l (fun i hi => (h.par i hi).2) _ (m : Int) (by omega) _ a.1
  exact ⟨(topP l (m : Int)).toNat, by omega, by omega⟩
end Go.Proofs.Ytmobcijigiacoaa

namespace Go.Proofs.Ytmobcijigiacoaa
open Go.RowKit
def smI (z : Int) : Bool := decide (97 ≤ z ∧ z ≤ 122)
set_option maxHeartbeats 1000000 in
theorem isSmall_any (z : Int) (w : World) :
    Calls Try.prog 48 #[.int .u8 z] w fun e w' => e = .returned (.bool (smI z)) ∧ w' = w := by
  by_cases a : 97 ≤ z
  · by_cases b : z ≤ 122
    · have E := hide (show smI z = true from decide_eq_true ⟨a, b⟩)
      go_enter Try.func48, Try.ntmps48
      go_wp2_with fail
      go_ret
      exact ⟨ret_bool E.out.symm, rfl⟩
    · have E := hide (show smI z = false from decide_eq_false (fun q => b q.2))
      have d : decide (z ≤ 122) = false := decide_eq_false b
      go_enter Try.func48, Try.ntmps48
      go_wp2_with fail
      go_ret
      exact ⟨ret_bool E.out.symm, rfl⟩
  · have E := hide (show smI z = false from decide_eq_false (fun q => a q.1))
    go_enter Try.func48, Try.ntmps48
    go_wp2_with fail
    go_ret
    exact ⟨ret_bool E.out.symm, rfl⟩
theorem name_short {s : ByteArray} (h : ¬ (0 < s.size ∧ s.size ≤ 20)) : nameOk s = false := by unfold nameOk; rw [decide_eq_false h]; rfl
set_option maxHeartbeats 2000000 in
theorem isName_any (s : ByteArray) (w : World) (hs : s.size ≤ maxLen) :
    Calls Try.prog 45 #[.string s] w fun e w' => e = .returned (.bool (nameOk s)) ∧ w' = w := by
  unfold maxLen at hs
  by_cases h1 : s.size < 1
  · have E := hide (name_short (s := s) (by omega))
    have i1 : (s.size : Int) < 1 := by omega
    clear h1
    go_enter Try.func45, Try.ntmps45
    go_wp2_with fail
    go_ret
    exact ⟨ret_bool E.out.symm, rfl⟩
  by_cases h2 : 20 < s.size
  · have E := hide (name_short (s := s) (by omega))
    have i1 : ¬ (s.size : Int) < 1 := by omega
    have i2 : (20 : Int) < (s.size : Int) := by omega
    clear h1 h2
    go_enter Try.func45, Try.ntmps45
    go_wp2_with fail
    go_ret
    exact ⟨ret_bool E.out.symm, rfl⟩
  have i1 : ¬ (s.size : Int) < 1 := by omega
  have i2 : ¬ (20 : Int) < (s.size : Int) := by omega
  have i3 : decide ((20 : Int) < (s.size : Int)) = false := decide_eq_false i2
  have p0 : 0 < s.size := by omega
  have i4 : (0 : Int) < (s.size : Int) := by omega
  have b0 : (0 : Int) ≤ (s[0].toNat : Int) := by omega
  have b1 : (s[0].toNat : Int) ≤ 255 := by have := s[0].toNat_lt; omega
  have HS0 := hide (fun w => isSmall_any (s[0].toNat : Int) w)
  have NO := hide (fun k hk h => name_no (s := s) (k := k) hk h)
  have END := hide (fun h => (name_end (s := s) h).trans (decide_eq_true ⟨p0, by omega⟩))
  cases q0 : smI (s[0].toNat : Int) with
  | false =>
    rw [q0] at HS0
    have E := hide (NO.out 0 p0 (nm_not (by unfold smI at q0; have := of_decide_eq_false q0; omega) (.inl rfl)))
    clear NO END q0
    go_enter Try.func45, Try.ntmps45
    go_wp2_with fail
    refine (HS0.out _).mono ?_
    rintro e w1 ⟨rfl, hw⟩
    obtain rfl : w = w1 := hw.symm
    go_wp2_with fail
    go_ret
    exact ⟨ret_bool E.out.symm, rfl⟩
  | true =>
    rw [q0] at HS0
    have SM0 : Hid (97 ≤ s[0].toNat ∧ s[0].toNat ≤ 122) := by unfold smI at q0; have := of_decide_eq_true q0; show _ ∧ _; omega
    clear q0
    go_enter Try.func45, Try.ntmps45
    go_wp2_with fail
    refine (HS0.out _).mono ?_
    rintro e w1 ⟨rfl, hw⟩
    obtain rfl : w = w1 := hw.symm
    go_wp2_with fail
    go_loop [21] (fun iv => ∃ k : Nat, k ≤ s.size ∧ iv = .int .i64 k ∧ Hid (∀ j (_ : j < s.size), j < k → nmAt j s[j] = true)) (fun iv => s.size - (intOf iv).toNat)
    case atStart => exact ⟨0, Nat.zero_le _, rfl, fun j _ h => by omega⟩
    case round =>
      obtain ⟨k, hk, rfl, hd⟩ := hrel
      clear HS0 b0 b1
      by_cases hlt : k < s.size
      · have hI : (k : Int) < (s.size : Int) := by omega
        have hI0 : (0 : Int) ≤ (k : Int) := by omega
        have NX : nmAt k s[k] = true → Hid (∀ j (_ : j < s.size), j < k + 1 → nmAt j s[j] = true) := by
          intro h j hj hjk
          rcases Nat.lt_or_ge j k with q | q
          · exact hd.out j hj q
          · obtain rfl : j = k := by omega
            exact h
        have K0 : Hid (k = 0 → 97 ≤ s[k].toNat ∧ s[k].toNat ≤ 122) := by intro q; subst q; exact SM0.out
        have BAD := hide (NO.out k hlt)
        have h255 : (s[k].toNat : Int) ≤ 255 := by have := s[k].toNat_lt; omega
        have h000 : (0 : Int) ≤ (s[k].toNat : Int) := by omega
        have HS := hide (fun w => isSmall_any (s[k].toNat : Int) w)
        have NX' := hide NX
        clear hd NO END NX SM0
        cases q : smI (s[k].toNat : Int) with
        | true =>
          rw [q] at HS
          have E := NX'.out (nm_small (by unfold smI at q; have := of_decide_eq_true q; omega))
          clear q NX' BAD K0
          go_wp2_with fail
          refine (HS.out _).mono ?_
          rintro e w1 ⟨rfl, hw⟩
          obtain rfl : w = w1 := hw.symm
          go_wp2_with fail
          go_round
          case rel => exact ⟨k + 1, by omega, by go_num, E⟩
          case measure => simp [intOf]; omega
        | false =>
          rw [q] at HS
          have q2 : ¬ (97 ≤ s[k].toNat ∧ s[k].toNat ≤ 122) := by unfold smI at q; have := of_decide_eq_false q; omega
          have k0 : ¬ k = 0 := fun r => q2 (K0.out r)
          have Q2 := hide q2
          have K1 := hide k0
          clear q q2 k0 K0
          rcases (show s[k].toNat < 48 ∨ (48 ≤ s[k].toNat ∧ s[k].toNat ≤ 57) ∨ 57 < s[k].toNat by omega) with r | r | r
          · have d48 : decide ((48 : Int) ≤ (s[k].toNat : Int)) = false := decide_eq_false (by omega)
            by_cases e45 : s[k].toNat = 45
            · have d45 : ((s[k].toNat : Int) != 45) = false := by rw [e45]; rfl
              have d45' : ((s[k].toNat : Int) == 45) = true := by rw [e45]; rfl
              have E := NX'.out (nm_other K1.out (by omega))
              clear NX' BAD e45 r
              go_wp2_with fail
              refine (HS.out _).mono ?_
              rintro e w1 ⟨rfl, hw⟩
              obtain rfl : w = w1 := hw.symm
              go_wp2_with fail
              go_round
              case rel => exact ⟨k + 1, by omega, by go_num, E⟩
              case measure => simp [intOf]; omega
            · have d45 : ((s[k].toNat : Int) != 45) = true := by rw [bne_iff_ne]; omega
              have d45' : ((s[k].toNat : Int) == 45) = false := by rw [beq_eq_false_iff_ne]; omega
              have E := hide (BAD.out (nm_not Q2.out (.inr (by omega))))
              clear NX' BAD e45 r
              go_wp2_with fail
              refine (HS.out _).mono ?_
              rintro e w1 ⟨rfl, hw⟩
              obtain rfl : w = w1 := hw.symm
              go_wp2_with fail
              go_ret
              exact ⟨ret_bool E.out.symm, rfl⟩
          · have d48 : (48 : Int) ≤ (s[k].toNat : Int) := by omega
            have d57 : (s[k].toNat : Int) ≤ 57 := by omega
            have E := NX'.out (nm_other K1.out (by omega))
            clear NX' BAD r
            go_wp2_with fail
            refine (HS.out _).mono ?_
            rintro e w1 ⟨rfl, hw⟩
            obtain rfl : w = w1 := hw.symm
            go_wp2_with fail
            go_round
            case rel => exact ⟨k + 1, by omega, by go_num, E⟩
            case measure => simp [intOf]; omega
          · have d48 : (48 : Int) ≤ (s[k].toNat : Int) := by omega
            have d57 : decide ((s[k].toNat : Int) ≤ 57) = false := decide_eq_false (by omega)
            have d45 : ((s[k].toNat : Int) != 45) = true := by rw [bne_iff_ne]; omega
            have d45' : ((s[k].toNat : Int) == 45) = false := by rw [beq_eq_false_iff_ne]; omega
            have E := hide (BAD.out (nm_not Q2.out (.inr (by omega))))
            clear NX' BAD r
            go_wp2_with fail
            refine (HS.out _).mono ?_
            rintro e w1 ⟨rfl, hw⟩
            obtain rfl : w = w1 := hw.symm
            go_wp2_with fail
            go_ret
            exact ⟨ret_bool E.out.symm, rfl⟩
      · obtain rfl : k = s.size := by omega
        have E := hide (END.out (fun j hj => hd.out j hj hj))
        clear NO END hd SM0 hlt
        go_wp2_with fail
        go_ret
        exact ⟨ret_bool E.out.symm, rfl⟩
theorem noName_true {n : ByteArray} (h : noName n = true) : n = ⟨#[]⟩ := by
  unfold noName at h
  have h : n.size = 0 := beq_iff_eq.1 h
  have h2 : n.data.size = 0 := h
  cases n with
  | mk d =>
    have h2 : d.size = 0 := h2
    obtain rfl : d = #[] := Array.eq_empty_of_size_eq_zero h2
    rfl
theorem noName_false {n : ByteArray} (h : noName n = false) : ¬ n.toList = [] := by
  rw [ByteArray.toList_eq]
  intro q
  have : n.data = #[] := by cases hd : n.data with | mk d => rw [hd] at q; have q : d = [] := q; rw [q]
  have h2 : n.size = 0 := by show n.data.size = 0; rw [this]; rfl
  unfold noName at h
  rw [h2] at h
  cases h
set_option maxHeartbeats 1000000 in
theorem isText_any (a0 a1 : ByteArray) (va : Value) (p : Int) (vk : Value) (w : World) :
    Calls Try.prog 39 #[.agg #[.string a0, .string a1, va, .int .i64 p, vk]] w fun e w' => e = .returned (.bool (noName a0)) ∧ Below w.heap.size w w' := by
  cases q : noName a0 with
  | true =>
    obtain rfl := noName_true q
    go_enter Try.func39, Try.ntmps39
    go_wp2_with fail
    go_ret
    exact ⟨rfl, (Below.refl _ w).alloc (Nat.le_refl _) _⟩
  | false =>
    have e1 := noName_false q
    have e2 : a0.toList.isEmpty = false := by cases h : a0.toList with
      | nil => exact absurd h e1
      | cons => rfl
    have e3 : (a0.toList == []) = false := by rw [beq_eq_false_iff_ne]; exact e1
    clear q
    go_enter Try.func39, Try.ntmps39
    go_wp2_with fail
    go_ret
    exact ⟨rfl, (Below.refl _ w).alloc (Nat.le_refl _) _⟩
end Go.Proofs.Ytmobcijigiacoaa

namespace Go.Proofs.Ytmobcijigiacoaa
open Go.RowKit
set_option maxHeartbeats 1000000 in
theorem called_any (n : ByteArray) (w : World) :
    Calls Try.prog 50 #[.string n] w fun e w' => e = .returned (.func (.func 52) #[] #[.pointer (some ⟨w.heap.size, 0, none⟩)]) ∧ w' = w.alloc (.cells #[.string n] 9) := by
  go_enter Try.func50, Try.ntmps50
  go_wp2_with fail
  go_ret
  exact ⟨rfl, rfl⟩
set_option maxHeartbeats 1000000 in
theorem called1_any (n : ByteArray) (B : Nat) (x : ByteArray × ByteArray) (W : World) (hc : W.cell? ⟨B, 0, none⟩ = some (.string n)) :
    Calls Try.prog 52 #[.agg #[.string x.1, .string x.2], .pointer (some ⟨B, 0, none⟩)] W fun e w' => e = .returned (.bool (isN n x)) ∧ Below W.heap.size W w' := by
  have hB := World.block_lt_of_cell? _ _ hc
  have hne : B ≠ W.heap.size := by have : B < W.heap.size := hB; omega
  have E := hide (txt_beq x.1 n)
  unfold isN
  generalize x.1 = a at *
  generalize x.2 = b at *
  generalize hR : decide (a = n) = R at *
  clear hR
  go_enter Try.func52, Try.ntmps52
  go_wp2_with fail
  go_ret
  exact ⟨ret_bool E.out, (Below.refl _ W).alloc (Nat.le_refl _) _⟩
theorem called_pred (n : ByteArray) (w : World) : PredA 52 #[.pointer (some ⟨w.heap.size, 0, none⟩)] (isN n) (w.alloc (.cells #[.string n] 9)) := fun W x hb =>
  called1_any n w.heap.size x W ((hb.cell (by simp)).trans (by simp))
theorem entersCalled : ∀ args w, (callFunc 52 args).run Try.prog w = .ok (.enter 52 args) w := Go.Proofs.enters_of Try.func52 (by kernel_rfl) rfl

end Go.Proofs.Ytmobcijigiacoaa
