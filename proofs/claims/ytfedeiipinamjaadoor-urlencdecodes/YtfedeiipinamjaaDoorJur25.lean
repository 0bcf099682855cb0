/- Escapes of texts, as lists of bytes. Entries told by a text and read again, as functions of lists. A text cut at a sign of one byte, and the entries of a text piece by piece. A text that is read from the left, escapes as their bytes. -/
import Derived.Test.YtfedeiipinamjaaDoorJur2
import Derived.Test.YtfedeiipinamjaaDoorJur26
import Derived.Test.YtfedeiipinamjaaDoorJur27

namespace Go.Proofs.YtfedeiipinamjaaDoor
open Go.RowKit
theorem hexV_lt (c : UInt8) : hexV c < 16 := by unfold hexV; split; omega; split; omega; split; omega; decide
/-- The byte of two digits. -/
def two (a b : UInt8) : UInt8 := UInt8.ofNat (hexV a * 16 + hexV b).toNat
def headE : List UInt8 → Option UInt8
  | c :: a :: b :: _ => if c = 37 ∧ 0 ≤ hexV a ∧ 0 ≤ hexV b then some (two a b) else none
  | _ => none
def decL : List UInt8 → List UInt8
  | [] => []
  | [c] => [c]
  | [c, a] => [c, a]
  | c :: a :: b :: r => if c = 37 ∧ 0 ≤ hexV a ∧ 0 ≤ hexV b then two a b :: decL r else c :: decL (a :: b :: r)
def decS (s : ByteArray) : ByteArray := txt (decL s.data.toList)
theorem headE3 (c a b : UInt8) (r : List UInt8) : headE (c :: a :: b :: r) = if c = 37 ∧ 0 ≤ hexV a ∧ 0 ≤ hexV b then some (two a b) else none := rfl
theorem decL_some {l : List UInt8} {v : UInt8} (h : headE l = some v) : decL l = v :: decL (l.drop 3) ∧ 3 ≤ l.length := by
  match l, h with
  | c :: a :: b :: r, h =>
    rw [headE3] at h
    by_cases g : c = 37 ∧ 0 ≤ hexV a ∧ 0 ≤ hexV b
    · rw [if_pos g] at h
      refine ⟨?_, by simp⟩
      rw [decL, if_pos g]; cases h; rfl
    · rw [if_neg g] at h; cases h
theorem decL_none {c : UInt8} {r : List UInt8} (h : headE (c :: r) = none) : decL (c :: r) = c :: decL r := by
  match r, h with
  | [], _ => rfl
  | [a], _ => rfl
  | a :: b :: r, h =>
    rw [headE3] at h
    by_cases g : c = 37 ∧ 0 ≤ hexV a ∧ 0 ≤ hexV b
    · rw [if_pos g] at h; cases h
    · rw [decL, if_neg g]
theorem headE_ne {c : UInt8} (r : List UInt8) (h : c ≠ 37) : headE (c :: r) = none := by
  match r with
  | [] => rfl
  | [a] => rfl
  | a :: b :: r => rw [headE3, if_neg (fun g => h g.1)]
theorem headE_short {l : List UInt8} (h : l.length < 3) : headE l = none := by
  match l with
  | [] => rfl
  | [c] => rfl
  | [c, a] => rfl
  | c :: a :: b :: r => simp at h; omega
theorem headE_yes {a b : UInt8} (r : List UInt8) (ha : 0 ≤ hexV a) (hb : 0 ≤ hexV b) : headE (37 :: a :: b :: r) = some (two a b) := by
  rw [headE3, if_pos ⟨rfl, ha, hb⟩]
theorem headE_noA {c a b : UInt8} (r : List UInt8) (ha : ¬ 0 ≤ hexV a) : headE (c :: a :: b :: r) = none := by
  rw [headE3, if_neg (fun g => ha g.2.1)]
theorem headE_noB {c a b : UInt8} (r : List UInt8) (hb : ¬ 0 ≤ hexV b) : headE (c :: a :: b :: r) = none := by
  rw [headE3, if_neg (fun g => hb g.2.2)]
theorem decL_len_n : ∀ (n : Nat) (l : List UInt8), l.length ≤ n → (decL l).length ≤ l.length
  | 0, l, h => by
    have : l = [] := List.eq_nil_of_length_eq_zero (by omega)
    subst this; simp [decL]
  | n + 1, [], _ => by simp [decL]
  | n + 1, c :: r, h => by
    cases g : headE (c :: r) with
    | none =>
      have := decL_len_n n r (by simpa using h)
      rw [decL_none g]; simpa using this
    | some v =>
      have e := decL_some g
      have := decL_len_n n ((c :: r).drop 3) (by simp at h ⊢; omega)
      rw [e.1]; simp at this ⊢; omega
theorem decL_len (l : List UInt8) : (decL l).length ≤ l.length := decL_len_n _ l (Nat.le_refl _)
def unplus (l : List UInt8) : List UInt8 := l.map fun c => if c = 43 then 32 else c
def unformS (s : ByteArray) : ByteArray := txt (decL (unplus s.data.toList))
theorem rep_plus : ∀ l : List UInt8, repA [43] [32] l = unplus l
  | [] => repA_nil (by decide)
  | c :: l => by
    have ih := rep_plus l
    by_cases e : c = 43
    · subst e
      have := repA_hit (old := [43]) (new := [32]) (by decide) l
      rw [show (43 : UInt8) :: l = [43] ++ l from rfl, this, ih]; rfl
    · have hp : ([43] : List UInt8).isPrefixOf (c :: l) = false := by
        have : ((43 : UInt8) == c) = false := by simpa using fun h => e h.symm
        simp [List.isPrefixOf, this]
      rw [repA_miss (by decide) _ _ hp, ih]
      unfold unplus; rw [List.map_cons, if_neg e]
theorem unplus_append (a b : List UInt8) : unplus (a ++ b) = unplus a ++ unplus b := by simp [unplus]
end Go.Proofs.YtfedeiipinamjaaDoor

namespace Go.Proofs.YtfedeiipinamjaaDoor
open Go.RowKit
def unf (l : List UInt8) : List UInt8 := decL (unplus l)
def notEq (c : UInt8) : Bool := c != 61
def decE (p : List UInt8) : En := ⟨txt (unf (p.takeWhile notEq)), txt (unf ((p.dropWhile notEq).drop 1)), false, ⟨#[]⟩, ⟨#[]⟩⟩
def someB (p : List UInt8) : Bool := !p.isEmpty
def decU (s : List UInt8) : List En := ((splitL 38 s).filter someB).map decE
end Go.Proofs.YtfedeiipinamjaaDoor

namespace Go.Proofs.YtfedeiipinamjaaDoor
open Go.RowKit
def neB (c x : UInt8) : Bool := x != c
def hdW (c : UInt8) (l : List UInt8) : List UInt8 := l.takeWhile (neB c)
def tlW (c : UInt8) (l : List UInt8) : List UInt8 := (l.dropWhile (neB c)).drop 1
theorem ne_of {c x : UInt8} {a : List UInt8} (h : c ∉ a) (hx : x ∈ a) : neB c x = true := by
  unfold neB; rw [bne_iff_ne]; intro t; exact h (by rw [← t]; exact hx)
theorem hdW_no {c : UInt8} {l : List UInt8} (h : c ∉ l) : hdW c l = l ∧ tlW c l = [] := by
  unfold hdW tlW
  induction l with
  | nil => exact ⟨rfl, rfl⟩
  | cons x l ih =>
    have ih := ih (fun t => h (List.mem_cons_of_mem _ t))
    have hx := ne_of h List.mem_cons_self
    rw [List.takeWhile_cons_of_pos hx, List.dropWhile_cons_of_pos hx, ih.1]
    exact ⟨rfl, ih.2⟩
theorem hdW_yes {c : UInt8} {a b : List UInt8} (h : c ∉ a) : hdW c (a ++ c :: b) = a ∧ tlW c (a ++ c :: b) = b := by
  unfold hdW tlW
  induction a with
  | nil =>
    have hx : ¬ (neB c c = true) := by unfold neB; simp
    rw [List.nil_append, List.takeWhile_cons_of_neg hx, List.dropWhile_cons_of_neg hx]
    exact ⟨rfl, rfl⟩
  | cons x a ih =>
    have ih := ih (fun t => h (List.mem_cons_of_mem _ t))
    have hx := ne_of h List.mem_cons_self
    rw [List.cons_append, List.takeWhile_cons_of_pos hx, List.dropWhile_cons_of_pos hx, ih.1]
    exact ⟨rfl, ih.2⟩
theorem cutW_is (c : UInt8) (l : List UInt8) : Lib.cut l [c] = (hdW c l, tlW c l, hasB l c) := by
  by_cases h : c ∈ l
  · obtain ⟨a, b, rfl, ha⟩ := ix_first h
    rw [cutc_yes ha, (hdW_yes ha).1, (hdW_yes ha).2]
    unfold hasB
    rw [List.contains_iff_mem.2 h]
  · rw [cutc_no h, (hdW_no h).1, (hdW_no h).2]
    unfold hasB
    cases e : l.contains c with
    | false => rfl
    | true => exact absurd (List.contains_iff_mem.1 e) h
theorem hdW_len (c : UInt8) (l : List UInt8) : (hdW c l).length ≤ l.length := by
  unfold hdW; exact (List.takeWhile_sublist _).length_le
theorem tlW_len (c : UInt8) (l : List UInt8) : (tlW c l).length ≤ l.length - 1 := by
  unfold tlW
  rw [List.length_drop]
  have := (List.dropWhile_sublist (neB c) (l := l)).length_le
  omega
/-- The entry of one piece, if it isn't empty. -/
def oneU (p : List UInt8) : List En := if p = [] then [] else [decE p]
theorem decU_one (p : List UInt8) (h : p = [] ∨ p ≠ []) : ([p].filter someB).map decE = oneU p := by
  unfold oneU someB
  cases p with
  | nil => rfl
  | cons => rfl
theorem decU_cut (l : List UInt8) : decU l = oneU (hdW 38 l) ++ decU (tlW 38 l) := by
  by_cases h : (38 : UInt8) ∈ l
  · obtain ⟨a, b, rfl, ha⟩ := ix_first h
    rw [(hdW_yes ha).1, (hdW_yes ha).2]
    unfold decU
    rw [split_sign b ha, List.filter_cons, ← decU_one a (Decidable.em _)]
    cases e : someB a with
    | true => simp [e]
    | false => simp [e]
  · rw [(hdW_no h).1, (hdW_no h).2]
    have e : decU ([] : List UInt8) = [] := rfl
    rw [e, List.append_nil, ← decU_one l (Decidable.em _)]
    unfold decU
    rw [split_alone h]
theorem decE_cut (p : List UInt8) : decE p = ⟨txt (unf (hdW 61 p)), txt (unf (tlW 61 p)), false, ⟨#[]⟩, ⟨#[]⟩⟩ := rfl
theorem oneU_some {p : List UInt8} (h : p ≠ []) : oneU p = [decE p] := if_neg h
end Go.Proofs.YtfedeiipinamjaaDoor

namespace Go.Proofs.YtfedeiipinamjaaDoor
open Go.RowKit
/-- What the loop has behind k bytes, the next one to be read being n (or k): the bytes l are done. -/
def DecAt (s : ByteArray) (k n : Nat) (l : List UInt8) : Prop := n ≤ s.size ∧ l ++ decL (s.data.toList.drop (max k n)) = decL s.data.toList
theorem decAt_start (s : ByteArray) : DecAt s 0 0 [] := ⟨Nat.zero_le _, rfl⟩
theorem decAt_len {s : ByteArray} {k n : Nat} {l : List UInt8} (h : DecAt s k n l) : l.length ≤ s.size := by
  have h1 := congrArg List.length h.2
  have h2 := decL_len s.data.toList
  rw [List.length_append] at h1
  have : s.data.toList.length = s.size := by simp
  omega
theorem decAt_skip {s : ByteArray} {k n : Nat} {l : List UInt8} (h : DecAt s k n l) (hk : k < n) : DecAt s (k + 1) n l := by
  refine ⟨h.1, ?_⟩
  rw [show max (k + 1) n = max k n by omega]; exact h.2
theorem decAt_hit {s : ByteArray} {k n : Nat} {l : List UInt8} {v : UInt8} (h : DecAt s k n l) (hk : n ≤ k) (he : headE (s.data.toList.drop k) = some v) : DecAt s (k + 1) (k + 3) (l ++ [v]) := by
  have hd := decL_some he
  have hl : s.data.toList.length = s.size := by simp
  have h3 := hd.2
  rw [List.length_drop] at h3
  refine ⟨by omega, ?_⟩
  have h2 := h.2
  rw [show max k n = k by omega, hd.1, List.drop_drop] at h2
  rw [show max (k + 1) (k + 3) = k + 3 by omega, List.append_assoc]
  exact h2
theorem decAt_miss {s : ByteArray} {k n : Nat} {l : List UInt8} (h : DecAt s k n l) (hk : n ≤ k) (hlt : k < s.size) (he : headE (s.data.toList.drop k) = none) : DecAt s (k + 1) n (l ++ [s[k]]) := by
  refine ⟨h.1, ?_⟩
  have h2 := h.2
  have hdr : s.data.toList.drop k = s[k] :: s.data.toList.drop (k + 1) := by
    rw [List.drop_eq_getElem_cons (by simpa using hlt)]; rfl
  rw [hdr] at he
  rw [show max k n = k by omega, hdr, decL_none he] at h2
  rw [show max (k + 1) n = k + 1 by omega, List.append_assoc]
  exact h2
theorem decAt_end {s : ByteArray} {k n : Nat} {l : List UInt8} (h : DecAt s k n l) (hk : s.size ≤ k) : l = decL s.data.toList := by
  have h2 := h.2
  rw [List.drop_of_length_le (by simp; omega)] at h2
  simpa [decL] using h2
theorem tail_list (s : ByteArray) (k : Nat) : (s.extract k s.size).data.toList = s.data.toList.drop k := by
  simp
  exact List.take_of_length_le (by simp)
theorem two_num {x y : UInt8} {a b : Nat} (ha : hexV x = a) (hb : hexV y = b) (ha16 : a < 16) (hb16 : b < 16) : ((two x y).toNat : Int) = (a : Int) * 16 + b := by
  unfold two; rw [ha, hb]
  have : ((a : Int) * 16 + b).toNat = a * 16 + b := by omega
  rw [this]; simp; omega

end Go.Proofs.YtfedeiipinamjaaDoor
