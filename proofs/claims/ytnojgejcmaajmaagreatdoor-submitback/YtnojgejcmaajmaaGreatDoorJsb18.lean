/- Escapes of texts, as lists of bytes. Ends of lines in texts, as lists of bytes. Entries told as parts, and parts read, as functions of lists. Parts made of entries and read again. Texts searched, cut, split and replaced, in the words of parts. What WriteByte does to a strings.Builder that the call has made itself. What WriteString does to a strings.Builder that the call has made itself. What String answers of a strings.Builder that the call has made itself. A strings.Builder that a call has made itself, written and read, and what the call has laid besides stays. The document's NoBreaks. The document's Pairs of layer 1. The document's Fit, Name, Unname, Type of layer 20. The document's find, begins, quoted, Part of layer 20. The program's Collapse answers by a function of lists of bytes. Entries told by a text and read again, as functions of lists. Entries told as plain lines, and a text's lines, as functions of lists. The document's Pairs of layer 1, Long and Plain of layer 19. -/
import Derived.Test.YtnojgejcmaajmaaGreatDoorJsb19
import Derived.Test.YtnojgejcmaajmaaGreatDoorJsb20
import Derived.Test.YtnojgejcmaajmaaGreatDoorJsb22
import Derived.Test.YtnojgejcmaajmaaGreatDoorJsb23

namespace Go.Proofs.YtnojgejcmaajmaaGreatDoor
open Go.RowKit
theorem repA_all {old new : List UInt8} (h : old ≠ new) (s : List UInt8) : Lib.replaceAll s old new = repA old new s := by
  unfold Lib.replaceAll Lib.replace
  rw [if_neg (by simpa using h)]
  unfold Lib.replaceNum
  rw [if_pos (.inl (by decide))]; rfl
theorem repA_nil {old new : List UInt8} (h : old ≠ []) : repA old new [] = [] := by
  have : Lib.index [] old = -1 := by
    unfold Lib.index; rw [if_neg (by simpa using h)]
  unfold repA; rw [Lib.count_miss this]; rfl
theorem repA_hit {old new : List UInt8} (h : old ≠ []) (r : List UInt8) : repA old new (old ++ r) = new ++ repA old new r := by
  have hi : Lib.index (old ++ r) old = (0 : Nat) := Lib.index_first (Nat.zero_le _) (by simp [Lib.occAt]) (fun _ h => absurd h (Nat.not_lt_zero _))
  unfold repA
  rw [Lib.count_hit h hi, Nat.add_comm 1, Lib.replaceK_hit _ _ _ _ 0 hi]
  simp
theorem repA_miss {old new : List UInt8} (h : old ≠ []) (c : UInt8) (l : List UInt8) (hp : old.isPrefixOf (c :: l) = false) : repA old new (c :: l) = c :: repA old new l := by
  have e : Lib.index (c :: l) old = if Lib.index l old == -1 then -1 else Lib.index l old + 1 := by
    show (if old.isPrefixOf (c :: l) = true then (0 : Int) else _) = _
    rw [if_neg (by rw [hp]; decide)]
  have ge := Lib.index_ge l old
  by_cases g : Lib.index l old = -1
  · have e1 : Lib.index (c :: l) old = -1 := by rw [e, g]; rfl
    unfold repA; rw [Lib.count_miss g, Lib.count_miss e1]; rfl
  · obtain ⟨i, hi⟩ : ∃ i : Nat, Lib.index l old = i := ⟨(Lib.index l old).toNat, by omega⟩
    have e1 : Lib.index (c :: l) old = ((i + 1 : Nat) : Int) := by
      rw [e, if_neg (by simpa using g), hi]; rfl
    unfold repA
    rw [Lib.count_hit h hi, Lib.count_hit h e1, Nat.add_comm 1, Nat.add_comm 1, Lib.replaceK_hit _ _ _ _ i hi, Lib.replaceK_hit _ _ _ _ (i + 1) e1]
    have e2 : i + 1 + old.length = (i + old.length) + 1 := by omega
    rw [e2]; simp
/-- Does the byte stand in the list? -/
def hasB (l : List UInt8) (c : UInt8) : Bool := l.contains c
def formSg : List UInt8 := [42, 45, 46, 95]
def plainB (c : UInt8) : Bool := decide (48 ≤ c.toNat ∧ c.toNat ≤ 57 ∨ 65 ≤ c.toNat ∧ c.toNat ≤ 90 ∨ 97 ≤ c.toNat ∧ c.toNat ≤ 122)
def stays (c : UInt8) : Bool := plainB c || hasB formSg c
def ctl (c : UInt8) : Bool := decide (c.toNat < 32 ∨ 126 < c.toNat)
/-- Does the set escape the byte? -/
def escB (set : Int) (c : UInt8) : Bool := decide (0 ≤ set ∧ set ≤ 7) && (ctl c || if set = 7 then !stays c else hasB (signsOf set.toNat) c)
theorem escB_no {set : Int} (c : UInt8) (h : ¬ (0 ≤ set ∧ set ≤ 7)) : escB set c = false := by
  unfold escB; rw [decide_eq_false h]; rfl
theorem escB_ctl {set : Int} {c : UInt8} (h : 0 ≤ set ∧ set ≤ 7) (hc : c.toNat < 32 ∨ 126 < c.toNat) : escB set c = true := by
  unfold escB ctl; rw [decide_eq_true h, decide_eq_true hc]; rfl
theorem escB_form {c : UInt8} (hc : ¬ (c.toNat < 32 ∨ 126 < c.toNat)) : escB 7 c = !stays c := by
  unfold escB ctl; rw [decide_eq_false hc]; rfl
theorem escB_sign {set : Int} {c : UInt8} (h : 0 ≤ set ∧ set ≤ 6) (hc : ¬ (c.toNat < 32 ∨ 126 < c.toNat)) : escB set c = hasB (signsOf set.toNat) c := by
  unfold escB ctl; rw [decide_eq_false hc, decide_eq_true (by omega), if_neg (by omega)]; rfl
theorem escB_form_all : ∀ c : UInt8, escB 7 c = (!plainB c && !hasB formSg c) := by
  intro c
  have : ∀ n : Fin 256, escB 7 (UInt8.ofNat n.val) = (!plainB (UInt8.ofNat n.val) && !hasB formSg (UInt8.ofNat n.val)) := by decide +kernel
  have h := this ⟨c.toNat, c.toNat_lt⟩
  simpa using h
def hexV (c : UInt8) : Int := if 48 ≤ c.toNat ∧ c.toNat ≤ 57 then c.toNat - 48 else if 65 ≤ c.toNat ∧ c.toNat ≤ 70 then c.toNat - 55 else if 97 ≤ c.toNat ∧ c.toNat ≤ 102 then c.toNat - 87 else -1
theorem hexV_hexD : ∀ n : Fin 16, hexV (hexD n.val) = n.val := by decide
theorem hexD_ne : ∀ n : Fin 16, hexD n.val ≠ 37 ∧ hexD n.val ≠ 43 := by decide
def encB (set : Int) (c : UInt8) : List UInt8 := if escB set c then [37, hexD (c.toNat / 16), hexD (c.toNat % 16)] else [c]
def encL (set : Int) (l : List UInt8) : List UInt8 := l.flatMap (encB set)
def encS (set : Int) (s : ByteArray) : ByteArray := txt (encL set s.data.toList)
theorem encB_yes {set : Int} {c : UInt8} (h : escB set c = true) : encB set c = [37, hexD (c.toNat / 16), hexD (c.toNat % 16)] := by unfold encB; rw [if_pos h]
theorem encB_not {set : Int} {c : UInt8} (h : escB set c = false) : encB set c = [c] := by unfold encB; rw [if_neg (by rw [h]; decide)]
theorem encB_len (set : Int) (c : UInt8) : (encB set c).length ≤ 3 := by unfold encB; split <;> simp
theorem encL_cons (set : Int) (c : UInt8) (l : List UInt8) : encL set (c :: l) = encB set c ++ encL set l := rfl
theorem encL_append (set : Int) (a b : List UInt8) : encL set (a ++ b) = encL set a ++ encL set b := by unfold encL; exact List.flatMap_append
theorem encL_len (set : Int) : ∀ l : List UInt8, (encL set l).length ≤ 3 * l.length
  | [] => by simp [encL]
  | c :: l => by
    have := encL_len set l
    have := encB_len set c
    rw [encL_cons, List.length_append, List.length_cons]; omega
theorem escB_form37 : escB 7 37 = true := by decide
def formB (c : UInt8) : List UInt8 := if c = 32 then [43] else encB 7 c
def formL (l : List UInt8) : List UInt8 := l.flatMap formB
def formS (s : ByteArray) : ByteArray := txt (formL s.data.toList)
theorem formL_cons (c : UInt8) (l : List UInt8) : formL (c :: l) = formB c ++ formL l := rfl
theorem formB_len (c : UInt8) : (formB c).length ≤ 3 := by
  unfold formB; split; simp; exact encB_len _ _
theorem formL_len : ∀ l : List UInt8, (formL l).length ≤ 3 * l.length
  | [] => by simp [formL]
  | c :: l => by
    have := formL_len l
    have := formB_len c
    rw [formL_cons, List.length_append, List.length_cons]; omega
theorem digits_of_blank (c : UInt8) (h1 : hexD (c.toNat / 16) = 50) (h2 : hexD (c.toNat % 16) = 48) : c = 32 := by
  have hc := c.toNat_lt
  have k1 := hexV_hexD ⟨c.toNat / 16, by omega⟩
  have k2 := hexV_hexD ⟨c.toNat % 16, by omega⟩
  simp only at k1 k2
  rw [h1] at k1; rw [h2] at k2
  have e1 : hexV 50 = 2 := by decide
  have e2 : hexV 48 = 0 := by decide
  rw [e1] at k1; rw [e2] at k2
  have : c.toNat = (32 : UInt8).toNat := by show c.toNat = 32; omega
  exact UInt8.toNat_inj.1 this
theorem pre_ne {c : UInt8} (r : List UInt8) (h : c ≠ 37) : ([37, 50, 48] : List UInt8).isPrefixOf (c :: r) = false := by
  have : ((37 : UInt8) == c) = false := by simpa using fun e => h e.symm
  simp [List.isPrefixOf, this]
theorem rep_enc : ∀ l : List UInt8, repA [37, 50, 48] [43] (encL 7 l) = formL l
  | [] => repA_nil (by decide)
  | c :: l => by
    have ih := rep_enc l
    have hc := c.toNat_lt
    rw [encL_cons, formL_cons]
    by_cases e : c = 32
    · subst e
      have e1 : encB 7 32 = [37, 50, 48] := by decide
      rw [e1, repA_hit (by decide), ih]; rfl
    · have ef : formB c = encB 7 c := by unfold formB; rw [if_neg e]
      rw [ef]
      cases g : escB 7 c with
      | true =>
        have n1 := (hexD_ne ⟨c.toNat / 16, by omega⟩).1
        have n2 := (hexD_ne ⟨c.toNat % 16, by omega⟩).1
        have nd := fun h1 h2 => e (digits_of_blank c h1 h2)
        simp only at n1 n2
        rw [encB_yes g]
        generalize hexD (c.toNat / 16) = a at *
        generalize hexD (c.toNat % 16) = b at *
        show repA _ _ (37 :: a :: b :: encL 7 l) = 37 :: a :: b :: formL l
        have hp : ([37, 50, 48] : List UInt8).isPrefixOf (37 :: a :: b :: encL 7 l) = false := by
          by_cases ha : a = 50
          · have hb : ((48 : UInt8) == b) = false := by simpa using fun h => nd ha h.symm
            simp [List.isPrefixOf, hb]
          · have ha : ((50 : UInt8) == a) = false := by simpa using fun h => ha h.symm
            simp [List.isPrefixOf, ha]
        rw [repA_miss (by decide) _ _ hp, repA_miss (by decide) _ _ (pre_ne _ n1), repA_miss (by decide) _ _ (pre_ne _ n2), ih]
      | false =>
        rw [encB_not g]
        have hne : c ≠ 37 := by intro e; subst e; rw [escB_form37] at g; cases g
        show repA _ _ (c :: encL 7 l) = c :: formL l
        rw [repA_miss (by decide) _ _ (pre_ne _ hne), ih]
end Go.Proofs.YtnojgejcmaajmaaGreatDoor

namespace Go.Proofs.YtnojgejcmaajmaaGreatDoor
open Go.RowKit
/-- What a byte c behind a byte p becomes. -/
def piece (e : List UInt8) (p c : UInt8) : List UInt8 := if c = 10 ∧ p = 13 then [] else if c = 10 ∨ c = 13 then e else [c]
def endsP (e : List UInt8) : UInt8 → List UInt8 → List UInt8
  | _, [] => []
  | p, c :: r => piece e p c ++ endsP e c r
def endsS (e s : ByteArray) : ByteArray := txt (endsP e.data.toList 0 s.data.toList)
def prevAt (s : ByteArray) (k : Nat) : UInt8 := if k = 0 then 0 else byteAt s (k - 1)
theorem piece_none {e : List UInt8} {p c : UInt8} (h1 : c = 10) (h2 : p = 13) : piece e p c = [] := by unfold piece; rw [if_pos ⟨h1, h2⟩]
theorem piece_end {e : List UInt8} {p c : UInt8} (h1 : ¬ (c = 10 ∧ p = 13)) (h2 : c = 10 ∨ c = 13) : piece e p c = e := by unfold piece; rw [if_neg h1, if_pos h2]
theorem piece_byte {e : List UInt8} {p c : UInt8} (h1 : c ≠ 10) (h2 : c ≠ 13) : piece e p c = [c] := by
  unfold piece; rw [if_neg (fun h => h1 h.1), if_neg (fun h => h.elim h1 h2)]
theorem piece_le (e : List UInt8) (p c : UInt8) (h : e.length ≤ 2) : (piece e p c).length ≤ 2 := by
  unfold piece; split
  · simp
  · split
    · exact h
    · simp
theorem endsP_snoc (e : List UInt8) (c : UInt8) : ∀ (l : List UInt8) (p : UInt8), endsP e p (l ++ [c]) = endsP e p l ++ piece e (l.getLastD p) c
  | [], p => by simp [endsP]
  | a :: r, p => by
    have ih := endsP_snoc e c r a
    have hl : (a :: r).getLastD p = r.getLastD a := by cases r <;> rfl
    show piece e p a ++ endsP e a (r ++ [c]) = piece e p a ++ endsP e a r ++ _
    rw [ih, hl, List.append_assoc]
theorem endsP_le (e : List UInt8) (h : e.length ≤ 2) : ∀ (l : List UInt8) (p : UInt8), (endsP e p l).length ≤ 2 * l.length
  | [], p => by simp [endsP]
  | a :: r, p => by
    have ih := endsP_le e h r a
    have := piece_le e p a h
    simp only [endsP, List.length_append, List.length_cons]; omega
theorem getLastD_take (l : List UInt8) (k : Nat) (h : k < l.length) : (l.take (k + 1)).getLastD 0 = l.getD k 0 := by
  have : l.take (k + 1) = l.take k ++ [l[k]] := List.take_succ_eq_append_getElem h
  rw [this, List.getLastD_concat]
  simp [List.getD, h]
theorem last_take (s : ByteArray) (k : Nat) (h : k < s.size) : (s.data.toList.take k).getLastD 0 = prevAt s k := by
  unfold prevAt
  by_cases e : k = 0
  · subst e; simp
  · rw [if_neg e]
    obtain ⟨j, rfl⟩ : ∃ j, k = j + 1 := ⟨k - 1, by omega⟩
    exact getLastD_take _ _ (by simp; omega)
theorem endsP_take (e : List UInt8) (s : ByteArray) (k : Nat) (h : k < s.size) : endsP e 0 (s.data.toList.take (k + 1)) = endsP e 0 (s.data.toList.take k) ++ piece e (prevAt s k) (byteAt s k) := by
  rw [byteAt_take s k h, endsP_snoc, last_take s k h]
theorem take_len_le (s : ByteArray) (k : Nat) : (s.data.toList.take k).length ≤ k := List.length_take_le _ _
theorem endsP_take_le (e s : ByteArray) (k : Nat) (h : e.size ≤ 2) : (endsP e.data.toList 0 (s.data.toList.take k)).length ≤ 2 * k := by
  have := endsP_le e.data.toList (by simpa using h) (s.data.toList.take k) 0
  have := take_len_le s k
  omega
theorem take_all (s : ByteArray) : s.data.toList.take s.size = s.data.toList := List.take_of_length_le (by simp)
theorem b10 (c : UInt8) : c = 10 ↔ (c.toNat : Int) = 10 := by rw [← UInt8.toNat_inj]; simp; omega
theorem b13 (c : UInt8) : c = 13 ↔ (c.toNat : Int) = 13 := by rw [← UInt8.toNat_inj]; simp; omega
theorem prevAt_zero (s : ByteArray) : ¬ prevAt s 0 = 13 := by unfold prevAt; rw [if_pos rfl]; decide
theorem next_free (s : ByteArray) (k : Nat) (h : ¬ byteAt s k = 13) (_ : k + 1 < s.size) : ¬ (byteAt s (k + 1) = 10 ∧ prevAt s (k + 1) = 13) := by
  intro g; have := g.2; unfold prevAt at this; rw [if_neg (by omega)] at this; exact h this
theorem prevAt_eq (s : ByteArray) (k : Nat) (h : k < s.size) (h0 : 0 < k) : s[k - 1]'(by omega) = prevAt s k := by
  unfold prevAt; rw [if_neg (by omega)]; exact byteAt_eq s (k - 1) (by omega)
def pairsS (s : ByteArray) : ByteArray := endsS ⟨#[13, 10]⟩ s
theorem endsS_size (e s : ByteArray) (h : e.size ≤ 2) : (endsS e s).size ≤ 2 * s.size := by
  unfold endsS; rw [txt_size]
  have := endsP_le e.data.toList (by simpa using h) s.data.toList 0
  simpa using this
theorem pairsS_size (s : ByteArray) : (pairsS s).size ≤ 2 * s.size := endsS_size _ _ (by decide)
end Go.Proofs.YtnojgejcmaajmaaGreatDoor

namespace Go.Proofs.YtnojgejcmaajmaaGreatDoor
open Go.RowKit
/-- A boundary. -/
def fitC (c : UInt8) : Bool := plainB c || c == 45
def fitL (b : List UInt8) : Bool := b.all fitC && decide (0 < b.length ∧ b.length ≤ 70)
def prsL (l : List UInt8) : List UInt8 := endsP [13, 10] 0 l
/-- A name as it is told, and read. -/
def nameB (c : UInt8) : List UInt8 := if c = 10 then [37, 48, 65] else if c = 13 then [37, 48, 68] else if c = 34 then [37, 50, 50] else [c]
def namL (l : List UInt8) : List UInt8 := l.flatMap nameB
def nameL (l : List UInt8) : List UInt8 := namL (prsL l)
/-- A type as it is told. -/
def badT (c : UInt8) : Bool := decide (c.toNat < 32 ∨ 126 < c.toNat)
def octL : List UInt8 := [97, 112, 112, 108, 105, 99, 97, 116, 105, 111, 110, 47, 111, 99, 116, 101, 116, 45, 115, 116, 114, 101, 97, 109]
def typeL (l : List UInt8) : List UInt8 := if l.any badT = true ∨ l = [] then octL else l
end Go.Proofs.YtnojgejcmaajmaaGreatDoor

namespace Go.Proofs.YtnojgejcmaajmaaGreatDoor
open Go.RowKit
def c1L : List UInt8 := [67, 111, 110, 116, 101, 110, 116, 45, 68, 105, 115, 112, 111, 115, 105, 116, 105, 111, 110, 58, 32, 102, 111, 114, 109, 45, 100, 97, 116, 97, 59, 32, 110, 97, 109, 101, 61, 34]
def c2L : List UInt8 := [59, 32, 102, 105, 108, 101, 110, 97, 109, 101, 61, 34]
def c3T : List UInt8 := [67, 111, 110, 116, 101, 110, 116, 45, 84, 121, 112, 101, 58, 32]
def c3L : List UInt8 := 13 :: 10 :: c3T
def c4L : List UInt8 := [13, 10, 13, 10]
/-- What stands ahead of what a part carries. -/
def headP (e : En) : List UInt8 := c1L ++ nameL (bL e.name) ++ [34] ++ (if e.file = true then c2L ++ nameL (bL e.fname) ++ [34] ++ c3L ++ typeL (bL e.typ) else [])
def valP (e : En) : List UInt8 := if e.file = true then bL e.val else prsL (bL e.val)
def partL (e : En) : List UInt8 := headP e ++ c4L ++ valP e
def endL : List UInt8 := [45, 45, 13, 10]
def fstL (b : List UInt8) : List UInt8 := 45 :: 45 :: (b ++ [13, 10])
/-- Entries told. -/
def clrL (l : List En) (b : List UInt8) : Bool := fitL b && l.all fun e => (cutL b (partL e)).isNone
def encP (l : List En) (b : List UInt8) : List UInt8 := (l.flatMap fun e => fstL b ++ partL e ++ [13, 10]) ++ 45 :: 45 :: (b ++ endL)
end Go.Proofs.YtnojgejcmaajmaaGreatDoor

namespace Go.Proofs.YtnojgejcmaajmaaGreatDoor
open Go.RowKit
theorem has_cut (t : List UInt8) (ht : t ≠ []) (l : List UInt8) : Lib.contains l t = (cutL t l).isSome := by
  unfold Lib.contains
  rcases ix_cut t ht l with ⟨h1, h2⟩ | ⟨p, r, h1, h2, _⟩
  · rw [h1, h2]; rfl
  · rw [h1, h2]; simp
theorem fit_pos {b : List UInt8} (h : fitL b = true) : 0 < b.length ∧ b.length ≤ 70 := by
  unfold fitL at h
  rw [Bool.and_eq_true] at h
  exact of_decide_eq_true h.2
/-- Names told and read, sign by sign. -/
theorem rep_map (c : UInt8) (new : List UInt8) : ∀ l : List UInt8, repA [c] new l = l.flatMap fun x => if x = c then new else [x]
  | [] => repA_nil (by simp)
  | x :: l => by
    have ih := rep_map c new l
    rw [List.flatMap_cons]
    by_cases h : x = c
    · subst h
      rw [if_pos rfl, show x :: l = [x] ++ l from rfl, repA_hit (by simp), ih]
    · have : [c].isPrefixOf (x :: l) = false := by
        have : (c == x) = false := by rw [beq_eq_false_iff_ne]; exact fun t => h t.symm
        show (c == x && _) = false
        rw [this]; rfl
      rw [if_neg h, repA_miss (by simp) x l this, ih]; rfl
theorem rep_name (l : List UInt8) : repA [34] [37, 50, 50] (repA [13] [37, 48, 68] (repA [10] [37, 48, 65] l)) = namL l := by
  rw [rep_map, rep_map, rep_map, List.flatMap_assoc, List.flatMap_assoc]
  unfold namL
  congr 1
  funext x
  unfold nameB
  by_cases h1 : x = 10
  · rw [if_pos h1, if_pos h1]; rfl
  · rw [if_neg h1, if_neg h1]
    by_cases h2 : x = 13
    · simp [h2]
    · by_cases h3 : x = 34
      · simp [h3]
      · simp [h2, h3]
def R2 (l : List UInt8) : List UInt8 := repA [37, 48, 68] [13] l
def R3 (l : List UInt8) : List UInt8 := repA [37, 50, 50] [34] l
end Go.Proofs.YtnojgejcmaajmaaGreatDoor

namespace Go.Proofs.YtnojgejcmaajmaaGreatDoor
open Go.Shelf Go.RowKit
set_option maxRecDepth 100000
theorem writeByte (B b : Nat) (l : List UInt8) (c : UInt8) (w : World) (h : HoldsB B b l w) (hlen : l.length + 1 ≤ 140737488355328) (hBw : B ≤ w.heap.size) :
    Calls Tryz.prog 71 #[.pointer (some ⟨b, 0, none⟩), .int .u8 (c.toNat : Int)] w fun e w' => e = .returned .nilIface ∧ HoldsB B b (l ++ [c]) w' ∧ Below B w w' := by
  refine (Any.Builder_WriteByte lays167 extraBByte B b (Lib.byteCells l) (c.toNat : Int) w h (by simpa [Lib.byteCells] using hlen) hBw).mono ?_
  rintro e w' ⟨rfl, h, hb⟩
  refine ⟨rfl, .inr ?_, hb⟩
  have e1 : Lib.byteCells (l ++ [c]) = Lib.byteCells l ++ [.int .u8 (c.toNat : Int)] := by simp [Lib.byteCells]
  rw [e1]; exact h
end Go.Proofs.YtnojgejcmaajmaaGreatDoor

namespace Go.Proofs.YtnojgejcmaajmaaGreatDoor
open Go.Shelf Go.RowKit
set_option maxRecDepth 100000
theorem writeString (B b : Nat) (l : List UInt8) (s : ByteArray) (w : World) (h : HoldsB B b l w) (hlen : l.length + s.size ≤ 140737488351232) (hBw : B ≤ w.heap.size) :
    Calls Tryz.prog 70 #[.pointer (some ⟨b, 0, none⟩), .string s] w fun e w' => e = .returned (.tuple #[.int .i64 s.size, .nilIface]) ∧ HoldsB B b (l ++ s.data.toList) w' ∧ Below B w w' := by
  refine (Any.Builder_WriteString lays166 extraBText B b (Lib.byteCells l) s w h (by simp [Lib.byteCells]; omega) hBw).mono ?_
  rintro e w' ⟨rfl, h, hb⟩
  refine ⟨rfl, .inr ?_, hb⟩
  have e1 : Lib.byteCells (l ++ s.data.toList) = Lib.byteCells l ++ Lib.strCells s := by simp [Lib.byteCells, Lib.strCells]
  rw [e1]; exact h
end Go.Proofs.YtnojgejcmaajmaaGreatDoor

namespace Go.Proofs.YtnojgejcmaajmaaGreatDoor
open Go.Shelf Go.RowKit
set_option maxRecDepth 100000
theorem builderText (B b : Nat) (l : List UInt8) (w : World) (h : HoldsB B b l w) (hBw : B ≤ w.heap.size) :
    Calls Tryz.prog 72 #[.pointer (some ⟨b, 0, none⟩)] w fun e w' => e = .returned (.string (txt l)) ∧ Below B w w' :=
  Any.Builder_String_any lays169 extraBString B b l w h hBw
end Go.Proofs.YtnojgejcmaajmaaGreatDoor

namespace Go.Proofs.YtnojgejcmaajmaaGreatDoor
open Go.Shelf Go.RowKit
set_option maxRecDepth 100000
theorem OthK.then {b : Nat} {u w w' : World} (h : OthK b u w) (k : Below w.heap.size w w') : OthK b u w' := h.trans (OthK.of k)
theorem holdsK_lt {B b : Nat} {l : List UInt8} {w : World} (h : HoldsK B b l w) : b < w.heap.size := by
  rcases h with h | h
  · exact h.lt
  · exact h.lt
theorem Bk.oth {w w' : World} {b n : Nat} {cs : List Value} {t : TypeId} (h : Bk w n cs t) (hb : OthK b w w') (hn : n ≠ b) (ht : t ≠ 5) : Bk w' n cs t := ⟨hb n _ h.lies (fun e => hn (by cases e; rfl)) (fun c fz e => ht (by cases e; rfl))⟩
end Go.Proofs.YtnojgejcmaajmaaGreatDoor

namespace Go.Proofs.YtnojgejcmaajmaaGreatDoor
open Go.RowKit
set_option maxRecDepth 100000
theorem byteTypesE : ByteTypes Tryz.prog 92 5 9 := ⟨Tryz.underlying92, Tryz.underlying5, Tryz.underlying9, by kernel_rfl⟩
set_option maxHeartbeats 400000 in
theorem refEnds_any (s e : ByteArray) (w : World) (hs : s.size ≤ 1099511627776) (he : e.size ≤ 2) :
    Calls Tryz.prog 99 #[.string s, .string e] w fun r w' => r = .returned (.string (endsS e s)) ∧ Below w.heap.size w w' := by
  go_enter Tryz.func99, Tryz.ntmps99
  go_wp2
  go_loopw [5, 6] (fun v i wr => ∃ k : Nat, k ≤ s.size ∧ i = .int .i64 k ∧ OwnsB 5 w.heap.size wr v (endsP e.data.toList 0 (s.data.toList.take k)) ∧ (k < s.size → ¬ (byteAt s k = 10 ∧ prevAt s k = 13)) ∧ Below w.heap.size w wr) (fun _ i _ => s.size - (intOf i).toNat)
  case atStart => exact ⟨0, Nat.zero_le _, rfl, OwnsB.nil _ _ _, fun _ h => absurd h.2 (prevAt_zero s), Below.refl _ _⟩
  case round =>
    obtain ⟨k, hk, rfl, hown, hn, hb⟩ := hrel
    by_cases hlt : k < s.size
    · have hle := endsP_take_le e s k he
      have HT := hide (endsP_take e.data.toList s k hlt)
      have hsz := hb.size
      have HN := hide (hn hlt)
      clear hn
      have HE := hide (byteAt_eq s k hlt)
      have HB : Hid ((s[k].toNat : Int) = ((byteAt s k).toNat : Int)) := by rw [byteAt_eq s k hlt]; rfl
      by_cases h10 : (s[k].toNat : Int) = 10
      · have q1 : ((s[k].toNat : Int) != 10) = false := by simp [h10]
        have q2 : ((s[k].toNat : Int) == 13) = false := by simp [h10]
        have hc := (b10 (byteAt s k)).2 (by rw [← HB.out]; exact h10)
        have HP := hide (piece_end (e := e.data.toList) (p := prevAt s k) (c := byteAt s k) HN.out (.inl hc))
        have HX := hide (fun h : k + 1 < s.size => next_free s k (fun h13 => absurd (hc.symm.trans h13) (by decide)) h)
        clear h10 hc HE
        go_wp2_with (at_builtin; refine wpList_append_text byteTypesE wr rfl _ _ rfl w.heap.size _ _ e rfl hown rfl (by omega) (by omega) ?_; intro v' w' hown' hb')
        go_roundw
        case rel => exact ⟨k + 1, by omega, by go_num, by rw [HT.out, HP.out]; exact hown', fun h => HX.out h, hb.trans hb'⟩
        case measure => simp [intOf]; omega
      · by_cases h13 : (s[k].toNat : Int) = 13
        · have q1 : ((s[k].toNat : Int) != 10) = true := by simp [h13]
          have q2 : ((s[k].toNat : Int) != 13) = false := by simp [h13]
          have q3 : ((s[k].toNat : Int) == 13) = true := by simp [h13]
          have hc := (b13 (byteAt s k)).2 (by rw [← HB.out]; exact h13)
          have HP := hide (piece_end (e := e.data.toList) (p := prevAt s k) (c := byteAt s k) HN.out (.inr hc))
          by_cases hn1 : k + 1 < s.size
          · have hi1 : (k : Int) + 1 < (s.size : Int) := by omega
            by_cases hx : ((s[k + 1]'hn1).toNat : Int) = 10
            · have q4 : (((s[k + 1]'hn1).toNat : Int) == 10) = true := by simp [hx]
              have hc1 := (b10 (byteAt s (k + 1))).2 (by rw [← byteAt_eq s (k + 1) hn1]; exact hx)
              have hp1 : prevAt s (k + 1) = 13 := by unfold prevAt; rw [if_neg (by omega)]; exact hc
              have HT2 : Hid (endsP e.data.toList 0 (s.data.toList.take (k + 1 + 1)) = endsP e.data.toList 0 (s.data.toList.take k) ++ e.data.toList) := by
                show _ = _
                rw [endsP_take _ _ _ hn1, piece_none hc1 hp1, List.append_nil, HT.out, HP.out]
              have HX := hide (fun h : k + 1 + 1 < s.size => next_free s (k + 1) (fun h13 => absurd (hc1.symm.trans h13) (by decide)) h)
              clear h10 h13 hc HE hx hc1 hp1
              go_wp2_with (at_builtin; refine wpList_append_text byteTypesE wr rfl _ _ rfl w.heap.size _ _ e rfl hown rfl (by omega) (by omega) ?_; intro v' w' hown' hb')
              go_roundw
              case rel => exact ⟨k + 1 + 1, by omega, by go_num, by rw [HT2.out]; exact hown', fun h => HX.out h, hb.trans hb'⟩
              case measure => simp [intOf]; omega
            · have q4 : (((s[k + 1]'hn1).toNat : Int) == 10) = false := by simp [hx]
              have HX := hide (fun _ : k + 1 < s.size => fun h : byteAt s (k + 1) = 10 ∧ prevAt s (k + 1) = 13 => hx (by rw [byteAt_eq s (k + 1) hn1]; exact (b10 _).1 h.1))
              clear h10 h13 hc HE hx
              go_wp2_with (at_builtin; refine wpList_append_text byteTypesE wr rfl _ _ rfl w.heap.size _ _ e rfl hown rfl (by omega) (by omega) ?_; intro v' w' hown' hb')
              go_roundw
              case rel => exact ⟨k + 1, by omega, by go_num, by rw [HT.out, HP.out]; exact hown', fun h => HX.out h, hb.trans hb'⟩
              case measure => simp [intOf]; omega
          · have hi1 : ¬ (k : Int) + 1 < (s.size : Int) := by omega
            clear h10 h13 hc HE
            go_wp2_with (at_builtin; refine wpList_append_text byteTypesE wr rfl _ _ rfl w.heap.size _ _ e rfl hown rfl (by omega) (by omega) ?_; intro v' w' hown' hb')
            go_roundw
            case rel => exact ⟨k + 1, by omega, by go_num, by rw [HT.out, HP.out]; exact hown', fun h => absurd h hn1, hb.trans hb'⟩
            case measure => simp [intOf]; omega
        · have q1 : ((s[k].toNat : Int) != 10) = true := by simp [h10]
          have q2 : ((s[k].toNat : Int) != 13) = true := by simp [h13]
          have g10 := fun h => h10 (HB.out.trans ((b10 (byteAt s k)).1 h))
          have g13 := fun h => h13 (HB.out.trans ((b13 (byteAt s k)).1 h))
          have HP := hide (piece_byte (e := e.data.toList) (p := prevAt s k) (c := byteAt s k) g10 g13)
          have HX := hide (fun h : k + 1 < s.size => next_free s k g13 h)
          clear h10 h13 HE g10 g13
          go_wp2_with (at_builtin; refine wpList_append_byte byteTypesE wr _ rfl _ _ rfl w.heap.size _ _ (byteAt s k) HB.out rfl hown rfl (by omega) (by omega) ?_; intro v' w' hown' hb')
          go_roundw
          case rel => exact ⟨k + 1, by omega, by go_num, by rw [HT.out, HP.out]; exact hown', fun h => HX.out h, hb.trans hb'⟩
          case measure => simp [intOf]; omega
    · have e : k = s.size := by omega
      subst e
      rw [take_all] at hown
      have hend := hown.text byteTypesE
      go_wp2
      go_ret
      exact ⟨rfl, hb⟩
end Go.Proofs.YtnojgejcmaajmaaGreatDoor

namespace Go.Proofs.YtnojgejcmaajmaaGreatDoor
open Go.RowKit
set_option maxRecDepth 100000
set_option maxHeartbeats 4000000 in
theorem refPairs_any (s : ByteArray) (w : World) (hs : s.size ≤ 1099511627776) :
    Calls Tryz.prog 46 #[.string s] w fun r w' => r = .returned (.string (pairsS s)) ∧ Below w.heap.size w w' := by
  go_enter Tryz.func46, Tryz.ntmps46
  go_wp2_with fail
  refine (refEnds_any s ⟨#[13, 10]⟩ _ hs (by decide)).mono ?_
  rintro r w1 ⟨rfl, b1⟩
  go_wp2_with fail
  go_ret
  exact ⟨rfl, b1⟩
end Go.Proofs.YtnojgejcmaajmaaGreatDoor

namespace Go.Proofs.YtnojgejcmaajmaaGreatDoor
open Go.RowKit
set_option maxRecDepth 100000
theorem at_bL {s : ByteArray} {k : Nat} (h : k < s.size) : (bL s)[k]'(by simpa using h) = s[k] := by
  show s.data.toList[k]'(by simpa using h) = s[k]
  simp; rfl
theorem len_bL (s : ByteArray) : (bL s).length = s.size := by simp
theorem all_takeP (f : UInt8 → Bool) (l : List UInt8) {k : Nat} (h : k < l.length) : (l.take (k + 1)).all f = ((l.take k).all f && f l[k]) := by
  rw [List.take_succ_eq_append_getElem h, List.all_append]; simp
theorem any_takeP (f : UInt8 → Bool) (l : List UInt8) {k : Nat} (h : k < l.length) : (l.take (k + 1)).any f = ((l.take k).any f || f l[k]) := by
  rw [List.take_succ_eq_append_getElem h, List.any_append]; simp
theorem ret_txt {s t : ByteArray} (h : s = t) : Ending.returned (.string s) = .returned (.string t) := by rw [h]
theorem nam_take (l : List UInt8) {k : Nat} (h : k < l.length) : namL (l.take (k + 1)) = namL (l.take k) ++ nameB l[k] := by
  unfold namL
  rw [List.take_succ_eq_append_getElem h, List.flatMap_append]; simp
theorem nam_len (l : List UInt8) (k : Nat) : (namL (l.take k)).length ≤ 3 * k := by
  unfold namL
  have h1 : ∀ l : List UInt8, (l.flatMap nameB).length ≤ 3 * l.length := by
    intro l
    induction l with
    | nil => simp
    | cons c l ih =>
      have : (nameB c).length ≤ 3 := by unfold nameB; split; simp; split; simp; split; simp; simp
      rw [List.flatMap_cons, List.length_append, List.length_cons]
      omega
  have := h1 (l.take k)
  have h2 := List.length_take_le k l
  omega
theorem byte_is {c : UInt8} {n : Nat} (hn : n < 256) (h : (c.toNat : Int) = n) : c = UInt8.ofNat n := by
  apply UInt8.toNat_inj.1
  rw [UInt8.toNat_ofNat']
  omega
set_option maxHeartbeats 4000000 in
theorem refName_any_PrtR1 (s : ByteArray) (w : World) (hs : s.size ≤ 1099511627776) :
    Calls Tryz.prog 55 #[.string s] w fun e w' => e = .returned (.string (txt (nameL (bL s)))) ∧ Below w.heap.size w w' := by
  have HP := hide (refPairs_any s w hs)
  have ES : Hid (bL (pairsS s) = prsL (bL s)) := rfl
  have zp := pairsS_size s
  generalize pairsS s = t at *
  have EN : Hid (nameL (bL s) = namL (bL t)) := by show _ = _; rw [ES.out]; rfl
  have LB := hide (len_bL t)
  clear ES
  go_enter Tryz.func55, Tryz.ntmps55
  go_wp2_with fail
  refine HP.out.mono ?_
  rintro e w1 ⟨rfl, b1⟩
  go_wp2_with fail
  go_loopw [4, 5] (fun ov iv wr => ∃ k : Nat, k ≤ t.size ∧ iv = .int .i64 k ∧ OwnsB 5 w1.heap.size wr ov (namL ((bL t).take k)) ∧ Hid (Below w1.heap.size w1 wr)) (fun _ iv _ => t.size - (intOf iv).toNat)
  case atStart => exact ⟨0, Nat.zero_le _, rfl, OwnsB.nil _ _ _, Below.refl _ _⟩
  case round =>
    rename World => wr
    obtain ⟨k, hk, rfl, OW, BW⟩ := hrel
    by_cases g : k < t.size
    · have k1 : (k : Int) < (t.size : Int) := by omega
      have k0 : (0 : Int) ≤ (k : Int) := by omega
      have TK := hide (nam_take (bL t) (k := k) (by rw [LB.out]; exact g))
      rw [at_bL g] at TK
      have NL := nam_len (bL t) k
      have sw := BW.out.size
      clear HP EN LB
      by_cases h0 : (t[k].toNat : Int) = 10
      · have q0 : ((t[k].toNat : Int) == 10) = true := by rw [h0]; rfl
        have hc : t[k] = 10 := byte_is (n := 10) (by omega) h0
        rw [show nameB t[k] = (⟨#[37, 48, 65]⟩ : ByteArray).data.toList by rw [hc]; rfl] at TK
        clear hc h0
        go_wp2_with (at_builtin; refine wpList_append_text byteTypesE wr rfl _ _ rfl w1.heap.size _ (namL ((bL t).take k)) ⟨#[37, 48, 65]⟩ rfl OW rfl (by show _ + 3 ≤ _; omega) (by omega) ?_; intro v' w' o' b')
        rw [← TK.out] at o'
        go_roundw
        case rel => exact ⟨k + 1, by omega, by go_num, o', BW.out.trans b'⟩
        case measure => simp [intOf]; omega
      · have n0 := h0
        clear h0
        by_cases h1 : (t[k].toNat : Int) = 13
        · have q0 : ((t[k].toNat : Int) == 10) = false := by rw [beq_eq_false_iff_ne]; exact n0
          have q1 : ((t[k].toNat : Int) == 13) = true := by rw [h1]; rfl
          have hc : t[k] = 13 := byte_is (n := 13) (by omega) h1
          rw [show nameB t[k] = (⟨#[37, 48, 68]⟩ : ByteArray).data.toList by rw [hc]; rfl] at TK
          clear hc h1
          go_wp2_with (at_builtin; refine wpList_append_text byteTypesE wr rfl _ _ rfl w1.heap.size _ (namL ((bL t).take k)) ⟨#[37, 48, 68]⟩ rfl OW rfl (by show _ + 3 ≤ _; omega) (by omega) ?_; intro v' w' o' b')
          rw [← TK.out] at o'
          go_roundw
          case rel => exact ⟨k + 1, by omega, by go_num, o', BW.out.trans b'⟩
          case measure => simp [intOf]; omega
        · have n1 := h1
          clear h1
          by_cases h2 : (t[k].toNat : Int) = 34
          · have q0 : ((t[k].toNat : Int) == 10) = false := by rw [beq_eq_false_iff_ne]; exact n0
            have q1 : ((t[k].toNat : Int) == 13) = false := by rw [beq_eq_false_iff_ne]; exact n1
            have q2 : ((t[k].toNat : Int) == 34) = true := by rw [h2]; rfl
            have hc : t[k] = 34 := byte_is (n := 34) (by omega) h2
            rw [show nameB t[k] = (⟨#[37, 50, 50]⟩ : ByteArray).data.toList by rw [hc]; rfl] at TK
            clear hc h2
            go_wp2_with (at_builtin; refine wpList_append_text byteTypesE wr rfl _ _ rfl w1.heap.size _ (namL ((bL t).take k)) ⟨#[37, 50, 50]⟩ rfl OW rfl (by show _ + 3 ≤ _; omega) (by omega) ?_; intro v' w' o' b')
            rw [← TK.out] at o'
            go_roundw
            case rel => exact ⟨k + 1, by omega, by go_num, o', BW.out.trans b'⟩
            case measure => simp [intOf]; omega
          · have n2 := h2
            clear h2
            have q0 : ((t[k].toNat : Int) == 10) = false := by rw [beq_eq_false_iff_ne]; exact n0
            have q1 : ((t[k].toNat : Int) == 13) = false := by rw [beq_eq_false_iff_ne]; exact n1
            have q2 : ((t[k].toNat : Int) == 34) = false := by rw [beq_eq_false_iff_ne]; exact n2
            have hc : nameB t[k] = [t[k]] := by
              unfold nameB
              rw [if_neg (fun e => n0 (by rw [e]; rfl)), if_neg (fun e => n1 (by rw [e]; rfl)), if_neg (fun e => n2 (by rw [e]; rfl))]
            rw [hc] at TK
            clear hc
            go_wp2_with (at_builtin; refine wpList_append_byte byteTypesE wr _ rfl _ _ rfl w1.heap.size _ (namL ((bL t).take k)) t[k] rfl rfl OW rfl (by omega) (by omega) ?_; intro v' w' o' b')
            rw [← TK.out] at o'
            go_roundw
            case rel => exact ⟨k + 1, by omega, by go_num, o', BW.out.trans b'⟩
            case measure => simp [intOf]; omega
    · obtain rfl : k = t.size := by omega
      rw [List.take_of_length_le (by rw [LB.out]; omega)] at OW
      have hend := OW.text byteTypesE
      rw [← EN.out] at hend
      clear HP EN LB
      go_wp2_with fail
      go_ret
      exact ⟨rfl, chain b1 BW.out⟩
set_option maxHeartbeats 4000000 in
theorem refTypeP_any (s : ByteArray) (w : World) (hs : s.size ≤ 1099511627776) :
    Calls Tryz.prog 56 #[.string s] w fun e w' => e = .returned (.string (txt (typeL (bL s)))) ∧ w' = w := by
  have LB := hide (len_bL s)
  have EB : Hid ((bL s).any badT = true ∨ bL s = [] → txt (typeL (bL s)) = ⟨#[97, 112, 112, 108, 105, 99, 97, 116, 105, 111, 110, 47, 111, 99, 116, 101, 116, 45, 115, 116, 114, 101, 97, 109]⟩) := fun h => by unfold typeL; rw [if_pos h]; rfl
  have EG : Hid (¬ ((bL s).any badT = true ∨ bL s = []) → txt (typeL (bL s)) = s) := fun h => by unfold typeL; rw [if_neg h]; rfl
  go_enter Tryz.func56, Tryz.ntmps56
  go_wp2_with fail
  go_loop [3] (fun iv => ∃ k : Nat, k ≤ s.size ∧ iv = .int .i64 k ∧ Hid (((bL s).take k).any badT = false)) (fun iv => s.size - (intOf iv).toNat)
  case atStart => exact ⟨0, Nat.zero_le _, rfl, rfl⟩
  case round =>
    obtain ⟨k, hk, rfl, HA⟩ := hrel
    by_cases g : k < s.size
    · have k1 : (k : Int) < (s.size : Int) := by omega
      have k0 : (0 : Int) ≤ (k : Int) := by omega
      have hl : k < (bL s).length := by rw [LB.out]; exact g
      have TK := hide (any_takeP badT (bL s) hl)
      rw [at_bL g, HA.out, Bool.false_or] at TK
      have YES : Hid (badT s[k] = true → txt (typeL (bL s)) = ⟨#[97, 112, 112, 108, 105, 99, 97, 116, 105, 111, 110, 47, 111, 99, 116, 101, 116, 45, 115, 116, 114, 101, 97, 109]⟩) := fun t => EB.out (.inl (List.any_eq_true.2 ⟨(bL s)[k], List.getElem_mem hl, by rw [at_bL g]; exact t⟩))
      have EC : Hid (badT s[k] = decide (s[k].toNat < 32 ∨ 126 < s[k].toNat)) := rfl
      clear HA EB EG LB
      by_cases h0 : s[k].toNat < 32
      · have d0 : decide ((s[k].toNat : Int) < 32) = true := decide_eq_true (by omega)
        have R1 := hide (YES.out (by rw [EC.out]; exact decide_eq_true (.inl h0)))
        clear YES EC TK h0
        go_wp2_with fail
        go_ret
        exact ⟨ret_txt R1.out.symm, rfl⟩
      · have d0 : decide ((s[k].toNat : Int) < 32) = false := decide_eq_false (by omega)
        by_cases h1 : 126 < s[k].toNat
        · have d1 : decide (126 < (s[k].toNat : Int)) = true := decide_eq_true (by omega)
          have R1 := hide (YES.out (by rw [EC.out]; exact decide_eq_true (.inr h1)))
          clear YES EC TK h0 h1
          go_wp2_with fail
          go_ret
          exact ⟨ret_txt R1.out.symm, rfl⟩
        · have d1 : decide (126 < (s[k].toNat : Int)) = false := decide_eq_false (by omega)
          rw [EC.out, decide_eq_false (fun t => t.elim h0 h1)] at TK
          clear YES EC h0 h1
          go_wp2_with fail
          go_round
          case rel => exact ⟨k + 1, by omega, by go_num, TK⟩
          case measure => simp [intOf]; omega
    · obtain rfl : k = s.size := by omega
      rw [List.take_of_length_le (by rw [LB.out]; omega)] at HA
      by_cases h0 : s.size = 0
      · have q : ((s.size : Int) == 0) = true := by rw [h0]; rfl
        have R1 := hide (EB.out (.inr (List.eq_nil_of_length_eq_zero (by rw [LB.out]; exact h0))))
        clear EB EG HA LB h0
        go_wp2_with fail
        go_ret
        exact ⟨ret_txt R1.out.symm, rfl⟩
      · have q : ((s.size : Int) == 0) = false := by rw [beq_eq_false_iff_ne]; omega
        have R1 := hide (EG.out (fun t => by
          rcases t with t | t
          · rw [HA.out] at t; cases t
          · exact h0 (by rw [← LB.out, t]; rfl)))
        clear EB EG HA LB h0
        go_wp2_with fail
        go_ret
        exact ⟨ret_txt R1.out.symm, rfl⟩
end Go.Proofs.YtnojgejcmaajmaaGreatDoor

namespace Go.Proofs.YtnojgejcmaajmaaGreatDoor
open Go.RowKit
set_option maxRecDepth 100000
theorem bL_app (a b : ByteArray) : bL (a ++ b) = bL a ++ bL b := by simp
theorem txt_bL (a : ByteArray) : txt (bL a) = a := rfl
theorem name_size {s : ByteArray} : (txt (nameL (bL s))).size ≤ 6 * s.size := by
  have h := nam_len (prsL (bL s)) (prsL (bL s)).length
  rw [List.take_length] at h
  have h2 := pairsS_size s
  have e2 : (pairsS s).size = (prsL (bL s)).length := rfl
  have e : (txt (nameL (bL s))).size = (namL (prsL (bL s))).length := rfl
  omega
theorem type_size {s : ByteArray} : (txt (typeL (bL s))).size ≤ s.size + 24 := by
  have e : (txt (typeL (bL s))).size = (typeL (bL s)).length := rfl
  rw [e]
  unfold typeL
  split
  · show 24 ≤ _; omega
  · rw [len_bL]; omega
/-- An entry whose texts aren't too long. -/
def EnZ (n : Nat) (e : En) : Prop := e.name.size ≤ n ∧ e.val.size ≤ n ∧ e.fname.size ≤ n ∧ e.typ.size ≤ n
theorem part_size {e : En} {n : Nat} (h : EnZ n e) : (partL e).length ≤ 16 * n + 200 := by
  have a1 := name_size (s := e.name)
  have a2 := name_size (s := e.fname)
  have a3 := type_size (s := e.typ)
  have b1 : (txt (nameL (bL e.name))).size = (nameL (bL e.name)).length := rfl
  have b2 : (txt (nameL (bL e.fname))).size = (nameL (bL e.fname)).length := rfl
  have b3 : (txt (typeL (bL e.typ))).size = (typeL (bL e.typ)).length := rfl
  have p1 := pairsS_size e.val
  have p2 : (pairsS e.val).size = (prsL (bL e.val)).length := rfl
  have z := len_bL e.val
  have l1 : c1L.length = 38 := rfl
  have l2 : c2L.length = 12 := rfl
  have l3 : c3L.length = 16 := rfl
  have l4 : c4L.length = 4 := rfl
  obtain ⟨h1, h2, h3, h4⟩ := h
  unfold partL headP valP
  cases e.file <;> simp only [Bool.false_eq_true, if_false, if_true, List.length_append, List.length_cons, List.length_nil] <;> omega
theorem sum_le' {a b : ByteArray} {m n : Nat} (h : a.size ≤ m) (g : b.size ≤ n) (q : m + n ≤ 9223372036854775807) : a.size + b.size ≤ 9223372036854775807 := by omega
theorem app_le {a b : ByteArray} {m n : Nat} (h : a.size ≤ m) (g : b.size ≤ n) : (a ++ b).size ≤ m + n := by rw [ByteArray.size_append]; omega
end Go.Proofs.YtnojgejcmaajmaaGreatDoor

namespace Go.Proofs.YtnojgejcmaajmaaGreatDoor
open Go.Shelf Go.RowKit
set_option maxRecDepth 100000
theorem index_bl (c : UInt8) : decide (0 ≤ Lib.indexByte [9, 10, 12, 13, 32] c) = isBl c := by
  have := index_mem c [9, 10, 12, 13, 32]
  unfold isBl blanks
  cases h : ([9, 10, 12, 13, 32] : List UInt8).contains c with
  | true => rw [h] at this; exact decide_eq_true (this.2 rfl)
  | false => rw [h] at this; exact decide_eq_false (fun x => by have := this.1 x; cases this)
set_option maxHeartbeats 400000 in
theorem isBlank_any (c : UInt8) (w : World) :
    Calls Tryz.prog 249 #[.int .u8 (c.toNat : Int)] w fun e w' => e = .returned (.bool (isBl c)) ∧ w' = w := by
  have hI : Calls Tryz.prog 235 #[.string ⟨#[9, 10, 12, 13, 32]⟩, .int .u8 (c.toNat : Int)] w fun e w' => e = .returned (.int .i64 (Lib.indexByte [9, 10, 12, 13, 32] c)) ∧ w' = w := by
    have := Any.strings_IndexByte lays137 ⟨#[9, 10, 12, 13, 32]⟩ (c.toNat : Int) w
    have e : ((c.toNat : Int)).toNat.toUInt8 = c := by simp
    rw [e] at this; exact this
  have HI := hide hI
  clear hI
  rw [← index_bl c]
  go_enter Tryz.func249, Tryz.ntmps249
  go_wp2_with fail
  refine HI.out.mono ?_
  rintro e w1 ⟨rfl, rfl⟩
  go_wp2_with fail
  go_ret
  exact ⟨rfl, rfl⟩
set_option maxHeartbeats 1000000 in
theorem collapse_raw (s : ByteArray) (w : World) (hs : s.size ≤ 1099511627776) :
    Calls Tryz.prog 230 #[.string s] w fun e w' => e = .returned (.string (txt (colP 32 (stripS s).data.toList))) ∧ Below w.heap.size w w' := by
  have hS := fun w => strip_any s w (by omega)
  have he : EndsB (stripS s).data.toList := stripL_ends s.data.toList
  have hz := stripS_size s
  generalize stripS s = t at *
  have HS := hide hS
  clear hS
  go_enter Tryz.func230, Tryz.ntmps230
  go_wp2_with fail
  refine (HS.out _).mono ?_
  rintro e w1 ⟨rfl, b1⟩
  have h0 := (HoldsB.fresh w).below b1
  have b0 : Below w.heap.size w w1 := ((Below.refl _ w).alloc (Nat.le_refl _) _).trans (b1.mono (by simp))
  go_wp2_with fail
  go_loopw [11] (fun i wr => ∃ k : Nat, k ≤ t.size ∧ i = .int .i64 k ∧ HoldsB w.heap.size w.heap.size (colP 32 (t.data.toList.take k)) wr ∧ Below w.heap.size w wr) (fun i _ => t.size - (intOf i).toNat)
  case atStart => exact ⟨0, Nat.zero_le _, rfl, h0, b0⟩
  case round =>
    obtain ⟨k, hk, rfl, hh, hb⟩ := hrel
    by_cases hlt : k < t.size
    · have hle := colP_take_le t k
      have HT := hide (colP_take t k hlt)
      have hsz := hb.size
      have HE := hide (byteAt_eq t k hlt)
      cases hc : isBl t[k] with
      | false =>
        have HP := hide (cpiece_no (p := prevAt32 t k) (show isBl (byteAt t k) = false by rw [← HE.out]; exact hc))
        go_wp2_with fail
        refine (isBlank_any t[k] _).mono ?_
        rintro e w2 ⟨rfl, rfl⟩
        go_wp2_with fail
        refine (writeByte _ _ _ t[k] _ hh (by omega) hb.size).mono ?_
        rintro e w3 ⟨rfl, h3, b3⟩
        go_wp2_with fail
        go_roundw
        case rel => exact ⟨k + 1, by omega, by go_num, by rw [HT.out, HP.out, ← HE.out]; exact h3, hb.trans b3⟩
        case measure => simp [intOf]; omega
      | true =>
        have h0k : 0 < k := first_no t k he hlt hc
        have hk1 : k - 1 < t.size := by omega
        have hz1 : ((k : Int) - 1).toNat = k - 1 := by omega
        have HQ := hide (prev32_eq t k h0k hk1)
        cases hp : isBl (t[k - 1]'hk1) with
        | false =>
          have HP := hide (cpiece_one (p := prevAt32 t k) (show isBl (byteAt t k) = true by rw [← HE.out]; exact hc) (by rw [← HQ.out]; exact hp))
          go_wp2_with fail
          refine (isBlank_any t[k] _).mono ?_
          rintro e w2 ⟨rfl, rfl⟩
          go_wp2_with fail
          refine (isBlank_any (t[k - 1]'hk1) _).mono ?_
          rintro e w3 ⟨rfl, rfl⟩
          go_wp2_with fail
          refine (writeByte _ _ _ 32 _ hh (by omega) hb.size).mono ?_
          rintro e w4 ⟨rfl, h4, b4⟩
          go_wp2_with fail
          go_roundw
          case rel => exact ⟨k + 1, by omega, by go_num, by rw [HT.out, HP.out]; exact h4, hb.trans b4⟩
          case measure => simp [intOf]; omega
        | true =>
          have HP := hide (cpiece_nil (p := prevAt32 t k) (show isBl (byteAt t k) = true by rw [← HE.out]; exact hc) (by rw [← HQ.out]; exact hp))
          go_wp2_with fail
          refine (isBlank_any t[k] _).mono ?_
          rintro e w2 ⟨rfl, rfl⟩
          go_wp2_with fail
          refine (isBlank_any (t[k - 1]'hk1) _).mono ?_
          rintro e w3 ⟨rfl, rfl⟩
          go_wp2_with fail
          go_roundw
          case rel => exact ⟨k + 1, by omega, by go_num, by rw [HT.out, HP.out, List.append_nil]; exact hh, hb⟩
          case measure => simp [intOf]; omega
    · obtain rfl : k = t.size := by omega
      rw [take_all32] at hh
      go_wp2_with fail
      refine (builderText _ _ _ _ hh hb.size).mono ?_
      rintro r w2 ⟨rfl, b2⟩
      go_wp2_with fail
      go_ret
      exact ⟨rfl, hb.trans b2⟩
theorem collapse_any (s : ByteArray) (w : World) (hs : s.size ≤ 1099511627776) :
    Calls Tryz.prog 230 #[.string s] w fun e w' => e = .returned (.string (collapseS s)) ∧ Below w.heap.size w w' := by
  have e : txt (colP 32 (stripS s).data.toList) = collapseS s := congrArg txt (colP_strip s.data.toList 32)
  rw [← e]; exact collapse_raw s w hs
end Go.Proofs.YtnojgejcmaajmaaGreatDoor

namespace Go.Proofs.YtnojgejcmaajmaaGreatDoor
open Go.RowKit
/-- What an entry tells. -/
def plE (e : En) : En := ⟨pairsS e.name, pairsS (if e.file = true then e.fname else e.val), false, ⟨#[]⟩, ⟨#[]⟩⟩
def plainU (l : List En) : List En := l.map plE
def encE (e : En) : List UInt8 := formL e.name.data.toList ++ 61 :: formL e.val.data.toList
def encU (l : List En) : List UInt8 := joinL 38 ((plainU l).map encE)
def urlS (l : List En) : ByteArray := txt (encU l)
/-- How long texts become. -/
structure EnsOK (n : Nat) (l : List En) : Prop where
  len : l.length ≤ 200
  ent : ∀ e ∈ l, e.name.size ≤ n ∧ e.val.size ≤ n ∧ e.fname.size ≤ n ∧ e.typ.size ≤ n
theorem pl_size {e : En} {n : Nat} (h : e.name.size ≤ n ∧ e.val.size ≤ n ∧ e.fname.size ≤ n ∧ e.typ.size ≤ n) : (plE e).name.size ≤ 2 * n ∧ (plE e).val.size ≤ 2 * n := by
  constructor
  · exact Nat.le_trans (pairsS_size e.name) (by omega)
  · refine Nat.le_trans (pairsS_size _) ?_
    split <;> omega
theorem encE_len (e : En) : (encE e).length ≤ 3 * e.name.size + 3 * e.val.size + 1 := by
  unfold encE
  rw [List.length_append, List.length_cons]
  have h1 := formL_len e.name.data.toList
  have h2 := formL_len e.val.data.toList
  simp only [Array.length_toList, ByteArray.size_data] at h1 h2
  omega
theorem sum_le {α : Type} (f : α → Nat) (b : Nat) : ∀ (l : List α), (∀ x ∈ l, f x ≤ b) → (l.map f).sum ≤ l.length * b
  | [], _ => by simp
  | x :: l, h => by
    have ih := sum_le f b l (fun y hy => h y (List.mem_cons_of_mem _ hy))
    have hx := h x List.mem_cons_self
    simp only [List.map_cons, List.sum_cons, List.length_cons]
    rw [Nat.add_mul]
    omega
theorem encU_len {l : List En} {n : Nat} (h : EnsOK n l) : (encU l).length ≤ 200 * (12 * n + 1) + 200 := by
  unfold encU
  refine Nat.le_trans (join_len _ _) ?_
  have h1 : (((plainU l).map encE).map List.length).sum ≤ l.length * (12 * n + 1) := by
    unfold plainU
    rw [List.map_map, List.map_map]
    refine sum_le _ _ l (fun e he => ?_)
    have p := pl_size (h.ent e he)
    have q := encE_len (plE e)
    show (encE (plE e)).length ≤ _
    omega
  have h2 : ((plainU l).map encE).length = l.length := by unfold plainU; simp
  have h3 := h.len
  have h4 : l.length * (12 * n + 1) ≤ 200 * (12 * n + 1) := Nat.mul_le_mul_right _ h3
  omega
end Go.Proofs.YtnojgejcmaajmaaGreatDoor

namespace Go.Proofs.YtnojgejcmaajmaaGreatDoor
open Go.RowKit
def plnL (e : En) : List UInt8 := bL e.name ++ 61 :: bL e.val
def encN (l : List En) : List UInt8 := (plainU l).flatMap fun e => plnL e ++ [13, 10]
theorem pln_len (e : En) : (plnL e).length = e.name.size + e.val.size + 1 := by
  unfold plnL
  rw [List.length_append, List.length_cons]
  simp
  omega
end Go.Proofs.YtnojgejcmaajmaaGreatDoor

namespace Go.Proofs.YtnojgejcmaajmaaGreatDoor
open Go.RowKit
set_option maxRecDepth 100000
/-- More entries, or longer texts, than a statement takes. -/
def bigE (e : En) : Bool := decide (2000 < e.name.size) || (decide (2000 < e.val.size) || (decide (2000 < e.fname.size) || decide (2000 < e.typ.size)))
def longU (l : List En) : Bool := decide (60 < l.length) || l.any bigE
theorem long_ok {l : List En} (h : longU l = false) : l.length ≤ 60 ∧ EnsOK 2000 l := by
  unfold longU at h
  rw [Bool.or_eq_false_iff, decide_eq_false_iff_not] at h
  have hl : l.length ≤ 60 := by omega
  refine ⟨hl, by omega, fun e he => ?_⟩
  have := List.any_eq_false.1 h.2 e he
  unfold bigE at this
  have this : (decide (2000 < e.name.size) || (decide (2000 < e.val.size) || (decide (2000 < e.fname.size) || decide (2000 < e.typ.size)))) = false := by simpa using this
  rw [Bool.or_eq_false_iff, Bool.or_eq_false_iff, Bool.or_eq_false_iff] at this
  simp only [decide_eq_false_iff_not] at this
  omega
theorem any_take {α : Type} (f : α → Bool) (l : List α) {k : Nat} (h : k < l.length) : (l.take (k + 1)).any f = ((l.take k).any f || f l[k]) := by
  rw [List.take_succ_eq_append_getElem h, List.any_append]; simp
theorem any_hit {α : Type} {f : α → Bool} {l : List α} {k : Nat} (h : k < l.length) (hf : f l[k] = true) : l.any f = true := List.any_eq_true.2 ⟨l[k], List.getElem_mem h, hf⟩
set_option maxHeartbeats 4000000 in
theorem refLong_any (v : Value) (l : List En) (w : World) (hv : FilesV w v l) (hl : l.length ≤ 4398046511104) :
    Calls Tryz.prog 20 #[v] w fun e w' => e = .returned (.bool (longU l)) ∧ w' = w := by
  obtain ⟨p, c, rfl, hv⟩ := hv
  by_cases h60 : 60 < l.length
  · have E : Hid (longU l = true) := by show _ = _; unfold longU; rw [decide_eq_true h60]; rfl
    have d : decide (60 < (l.length : Int)) = true := decide_eq_true (by omega)
    clear hv
    go_enter Tryz.func20, Tryz.ntmps20
    go_wp2_with fail
    go_ret
    exact ⟨ret_bool E.out.symm, rfl⟩
  · have E : Hid (longU l = l.any bigE) := by show _ = _; unfold longU; rw [decide_eq_false h60]; rfl
    have d : decide (60 < (l.length : Int)) = false := decide_eq_false (by omega)
    have HV := hide hv
    clear hv
    go_enter Tryz.func20, Tryz.ntmps20
    go_wp2_with fail
    go_loop [3] (fun iv => ∃ k : Nat, k ≤ l.length ∧ iv = .int .i64 k ∧ Hid ((l.take k).any bigE = false)) (fun iv => l.length - (intOf iv).toNat)
    case atStart => exact ⟨0, Nat.zero_le _, rfl, rfl⟩
    case round =>
      obtain ⟨k, hk, rfl, hn⟩ := hrel
      by_cases g : k < l.length
      · have k1 : (k : Int) < (l.length : Int) := by omega
        have k0 : (0 : Int) ≤ (k : Int) := by omega
        obtain ⟨b, o, rfl, hc⟩ : ∃ b o, p = some ⟨b, o, none⟩ ∧ ∀ i (h : i < l.length), EnAt w b (o + i * 5) l[i] := by
          rcases HV.out with t | t
          · rw [t] at g; simp at g
          · exact t
        have EA := hc k g
        have a0 := EA.c0
        have a1 := EA.c1
        have a3 := EA.c3
        have a4 := EA.c4
        have NX : Hid (bigE l[k] = false → (l.take (k + 1)).any bigE = false) := fun t => by rw [any_take bigE l g, hn.out, t]; rfl
        have HT : Hid (bigE l[k] = true → longU l = true) := fun t => by rw [E.out]; exact any_hit g t
        have EB : Hid (bigE l[k] = (decide (2000 < l[k].name.size) || (decide (2000 < l[k].val.size) || (decide (2000 < l[k].fname.size) || decide (2000 < l[k].typ.size))))) := rfl
        clear hc EA HV hn E
        generalize bigE l[k] = B at *
        generalize l[k].name = t0 at *
        generalize l[k].val = t1 at *
        generalize l[k].fname = t2 at *
        generalize l[k].typ = t3 at *
        by_cases q0 : 2000 < t0.size
        · have R1 := hide (HT.out (by rw [EB.out, decide_eq_true q0]; simp))
          have d0 : decide (2000 < (t0.size : Int)) = true := decide_eq_true (by omega)
          clear EB HT NX
          go_wp2_with fail
          go_ret
          exact ⟨ret_bool R1.out.symm, rfl⟩
        · skip
          by_cases q1 : 2000 < t1.size
          · have R1 := hide (HT.out (by rw [EB.out, decide_eq_false q0, decide_eq_true q1]; simp))
            have d0 : decide (2000 < (t0.size : Int)) = false := decide_eq_false (by omega)
            have d1 : decide (2000 < (t1.size : Int)) = true := decide_eq_true (by omega)
            clear EB HT NX
            go_wp2_with fail
            go_ret
            exact ⟨ret_bool R1.out.symm, rfl⟩
          · skip
            by_cases q2 : 2000 < t2.size
            · have R1 := hide (HT.out (by rw [EB.out, decide_eq_false q0, decide_eq_false q1, decide_eq_true q2]; simp))
              have d0 : decide (2000 < (t0.size : Int)) = false := decide_eq_false (by omega)
              have d1 : decide (2000 < (t1.size : Int)) = false := decide_eq_false (by omega)
              have d2 : decide (2000 < (t2.size : Int)) = true := decide_eq_true (by omega)
              clear EB HT NX
              go_wp2_with fail
              go_ret
              exact ⟨ret_bool R1.out.symm, rfl⟩
            · skip
              by_cases q3 : 2000 < t3.size
              · have R1 := hide (HT.out (by rw [EB.out, decide_eq_false q0, decide_eq_false q1, decide_eq_false q2, decide_eq_true q3]; simp))
                have d0 : decide (2000 < (t0.size : Int)) = false := decide_eq_false (by omega)
                have d1 : decide (2000 < (t1.size : Int)) = false := decide_eq_false (by omega)
                have d2 : decide (2000 < (t2.size : Int)) = false := decide_eq_false (by omega)
                have d3 : decide (2000 < (t3.size : Int)) = true := decide_eq_true (by omega)
                clear EB HT NX
                go_wp2_with fail
                go_ret
                exact ⟨ret_bool R1.out.symm, rfl⟩
              · have R1 := hide (NX.out (by rw [EB.out, decide_eq_false q0, decide_eq_false q1, decide_eq_false q2, decide_eq_false q3]; rfl))
                have d0 : decide (2000 < (t0.size : Int)) = false := decide_eq_false (by omega)
                have d1 : decide (2000 < (t1.size : Int)) = false := decide_eq_false (by omega)
                have d2 : decide (2000 < (t2.size : Int)) = false := decide_eq_false (by omega)
                have d3 : decide (2000 < (t3.size : Int)) = false := decide_eq_false (by omega)
                clear EB HT NX
                go_wp2_with fail
                go_round
                case rel => exact ⟨k + 1, by omega, by go_num, R1⟩
                case measure => simp [intOf]; omega
      · obtain rfl : k = l.length := by omega
        have R1 : Hid (longU l = false) := by show _ = _; rw [E.out, ← hn.out, List.take_length]
        clear HV hn E
        go_wp2_with fail
        go_ret
        exact ⟨ret_bool R1.out.symm, rfl⟩
theorem plain_take (l : List En) {k : Nat} (h : k < l.length) : plainU (l.take (k + 1)) = plainU (l.take k) ++ [plE l[k]] := by
  unfold plainU
  rw [List.take_succ_eq_append_getElem h, List.map_append]; rfl
theorem plain_len (l : List En) (k : Nat) (h : k ≤ l.length) : (plainU (l.take k)).length = k := by unfold plainU; rw [List.length_map, List.length_take]; omega
set_option maxHeartbeats 4000000 in
theorem refPlain19_any (n : Nat) (v : Value) (l : List En) (w : World) (hv : FilesV w v l) (hn : n ≤ 10000000) (hl : EnsOK n l) :
    Calls Tryz.prog 13 #[v] w fun e w' => ∃ v', e = .returned v' ∧ OwnR w.heap.size w' v' (plainU l) ∧ Below w.heap.size w w' := by
  obtain ⟨p, c, rfl, hv⟩ := hv
  have HV := hide hv
  have h60 := hl.len
  have HL := hide hl
  clear hv hl
  go_enter Tryz.func13, Tryz.ntmps13
  go_wp2_with fail
  go_loopw [3, 4] (fun ov iv wr => ∃ (k : Nat) (q : Option Addr) (cp : Nat), k ≤ l.length ∧ iv = .int .i64 k ∧ ov = .slice q k cp ∧ Hid (OwnR w.heap.size wr (.slice q k cp) (plainU (l.take k))) ∧ Hid (Below w.heap.size w wr)) (fun _ iv _ => l.length - (intOf iv).toNat)
  case atStart => exact ⟨0, none, 0, Nat.zero_le _, rfl, rfl, OwnR.nil _ _, Below.refl _ _⟩
  case round =>
    rename World => wr
    obtain ⟨k, q, cp, hk, rfl, rfl, OW, BW⟩ := hrel
    by_cases g : k < l.length
    · have k1 : (k : Int) < (l.length : Int) := by omega
      have k0 : (0 : Int) ≤ (k : Int) := by omega
      obtain ⟨b, o, rfl, hc⟩ : ∃ b o, p = some ⟨b, o, none⟩ ∧ ∀ i (h : i < l.length), EnAt w b (o + i * 5) l[i] := by
        rcases HV.out with t | t
        · rw [t] at g; simp at g
        · exact t
      have EA := (hc k g).below BW.out
      have a0 := EA.c0
      have a1 := EA.c1
      have a2 := EA.c2
      have a3 := EA.c3
      have sz := HL.out.ent _ (List.getElem_mem g)
      have TK := hide (plain_take l g)
      have PL := hide (plain_len l k hk)
      have s0 := sz.1
      have s1 := sz.2.1
      have s2 := sz.2.2.1
      have EP : Hid (plE l[k] = ⟨pairsS l[k].name, pairsS (if l[k].file = true then l[k].fname else l[k].val), false, ⟨#[]⟩, ⟨#[]⟩⟩) := rfl
      have H0 := hide (fun W => refPairs_any l[k].name W (by omega))
      have H1 := hide (fun W => refPairs_any l[k].val W (by omega))
      have H2 := hide (fun W => refPairs_any l[k].fname W (by omega))
      clear hc EA HV HL sz s0 s1 s2
      generalize plE l[k] = pe at *
      generalize l[k].name = t0 at *
      generalize l[k].val = t1 at *
      generalize l[k].fname = t2 at *
      generalize l[k].file = fb at *
      cases fb with
      | true =>
        rw [if_pos rfl] at EP
        clear H1
        go_wp2_with fail
        refine (H0.out _).mono ?_
        rintro e w1 ⟨rfl, b1⟩
        have B1 := hide (chain BW.out b1)
        have O1 := hide (OW.out.below b1)
        clear b1 a0 a1 a2 a3
        go_wp2_with fail
        refine (H2.out _).mono ?_
        rintro e w2 ⟨rfl, b2⟩
        have B2 := hide (chain B1.out b2)
        have O2 := hide (O1.out.below b2)
        clear b2 B1 O1 H0 H2
        generalize pairsS t0 = u0 at *
        generalize pairsS t2 = u1 at *
        have F1 := hide (files_one w2 ⟨u0, u1, false, ⟨#[]⟩, ⟨#[]⟩⟩)
        have AL : Hid (Below w2.heap.size w2 (w2.alloc (.cells #[.string u0, .string u1, .bool false, .string ⟨#[]⟩, .string ⟨#[]⟩] 76))) := (Below.refl _ w2).alloc (Nat.le_refl _) _
        have B3 := hide (chain B2.out AL.out)
        have O3 := hide (O2.out.below AL.out)
        have SZ := hide (Nat.le_trans B2.out.size AL.out.size)
        clear AL B2 O2
        go_wp2_with (at_builtin; refine wpList_append_en rfl _ _ rfl w.heap.size _ (plainU (l.take k)) rfl O3.out _ [⟨u0, u1, false, ⟨#[]⟩, ⟨#[]⟩⟩] rfl F1.out (by rw [PL.out]; show (k + 1) * 72 ≤ _; omega) SZ.out ?_; intro q8 c8 w8 o8 b8)
        have O8 : Hid (OwnR w.heap.size w8 (.slice q8 (k + 1) c8) (plainU (l.take (k + 1)))) := by
          show OwnR _ _ _ _
          rw [TK.out, EP.out]
          have := o8
          rw [PL.out] at this
          exact this
        have B8 := hide (B3.out.trans b8)
        clear o8 b8 F1 O3 B3 SZ TK EP
        rw [PL.out]
        clear PL
        go_roundw
        case rel => exact ⟨k + 1, q8, c8, by omega, by go_num, rfl, O8, B8⟩
        case measure => simp [intOf]; omega
      | false =>
        rw [if_neg (by decide)] at EP
        clear H2
        go_wp2_with fail
        refine (H0.out _).mono ?_
        rintro e w1 ⟨rfl, b1⟩
        have B1 := hide (chain BW.out b1)
        have O1 := hide (OW.out.below b1)
        clear b1 a0 a1 a2 a3
        go_wp2_with fail
        refine (H1.out _).mono ?_
        rintro e w2 ⟨rfl, b2⟩
        have B2 := hide (chain B1.out b2)
        have O2 := hide (O1.out.below b2)
        clear b2 B1 O1 H0 H1
        generalize pairsS t0 = u0 at *
        generalize pairsS t1 = u1 at *
        have F1 := hide (files_one w2 ⟨u0, u1, false, ⟨#[]⟩, ⟨#[]⟩⟩)
        have AL : Hid (Below w2.heap.size w2 (w2.alloc (.cells #[.string u0, .string u1, .bool false, .string ⟨#[]⟩, .string ⟨#[]⟩] 76))) := (Below.refl _ w2).alloc (Nat.le_refl _) _
        have B3 := hide (chain B2.out AL.out)
        have O3 := hide (O2.out.below AL.out)
        have SZ := hide (Nat.le_trans B2.out.size AL.out.size)
        clear AL B2 O2
        go_wp2_with (at_builtin; refine wpList_append_en rfl _ _ rfl w.heap.size _ (plainU (l.take k)) rfl O3.out _ [⟨u0, u1, false, ⟨#[]⟩, ⟨#[]⟩⟩] rfl F1.out (by rw [PL.out]; show (k + 1) * 72 ≤ _; omega) SZ.out ?_; intro q8 c8 w8 o8 b8)
        have O8 : Hid (OwnR w.heap.size w8 (.slice q8 (k + 1) c8) (plainU (l.take (k + 1)))) := by
          show OwnR _ _ _ _
          rw [TK.out, EP.out]
          have := o8
          rw [PL.out] at this
          exact this
        have B8 := hide (B3.out.trans b8)
        clear o8 b8 F1 O3 B3 SZ TK EP
        rw [PL.out]
        clear PL
        go_roundw
        case rel => exact ⟨k + 1, q8, c8, by omega, by go_num, rfl, O8, B8⟩
        case measure => simp [intOf]; omega
    · obtain rfl : k = l.length := by omega
      rw [List.take_length] at OW
      clear HV HL
      go_wp2_with fail
      go_ret
      exact ⟨_, rfl, OW.out, BW.out⟩

end Go.Proofs.YtnojgejcmaajmaaGreatDoor
