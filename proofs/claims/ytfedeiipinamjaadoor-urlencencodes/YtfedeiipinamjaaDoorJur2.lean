/- Facts of no program. Escapes of texts, as lists of bytes. Ends of lines in texts, as lists of bytes. Entries told by a text and read again, as functions of lists. The document's Pairs of layer 1, Long and Plain of layer 19. A strings.Builder that a call has made itself, and the bytes that it holds. What Grow does to a fresh strings.Builder that the call has made itself. What WriteByte does to a strings.Builder that the call has made itself. What WriteString does to a strings.Builder that the call has made itself. What String answers of a strings.Builder that the call has made itself. The program's NoBreaks answers by the function of 'Ends'. The program's Pairs answers by the function of 'Ends'. The program's Plain of layer 19. The document's Encode of layer 19. The program's Escapes and the document's answer by the same function of a set and a byte. The program's Escapes answers by escB, for every set and byte. What the program's two tables hold, cell by cell, where they read as its text lays them. The program's Encode and the document's answer by the same function of lists of bytes. The program's Form and Unform answer by functions of lists of bytes. -/
import Derived.Test.YtfedeiipinamjaaDoorProg
import Derived.Test.YtfedeiipinamjaaDoorJur1
import Derived.Test.YtfedeiipinamjaaDoorJur3
import Derived.Test.YtfedeiipinamjaaDoorJur4
import Derived.Lib.Builder
import Derived.Lib.UnsafeStr
import Derived.Shelf.Strings.Builder2
import Derived.Shelf.Strings.Builder1
import Derived.Deep.QuietTactic
import Derived.BigQuiet
import Derived.Deep.RegionLaw
import Derived.Shelf.Small.Strs
import Derived.Lib.LaidU8
import Derived.Shelf.Strings.Replace

namespace Go.Proofs.YtfedeiipinamjaaDoor
open Go.RowKit
/-- A byte, as a cell holds it. -/
def cellB (c : UInt8) : Value := .int .u8 (c.toNat : Int)
def txt (l : List UInt8) : ByteArray := ⟨l.toArray⟩
theorem txt_data (l : List UInt8) : (txt l).data.toList = l := rfl
theorem txt_size (l : List UInt8) : (txt l).size = l.length := rfl
/-- The value v is a slice of the call's own (its block from 'base' on) that holds the bytes l. -/
def OwnsB (e : TypeId) (base : Nat) (w : World) (v : Value) (l : List UInt8) : Prop := w.ownsRow base e 1 v l.length (l.map cellB)
theorem OwnsB.nil (e : TypeId) (base : Nat) (w : World) : OwnsB e base w (.slice none 0 0) [] := World.ownsRow_nil w base e 1
theorem OwnsB.below {e : TypeId} {base : Nat} {w w' : World} {v : Value} {l : List UInt8} (h : OwnsB e base w v l) (hb : Below w.heap.size w w') : OwnsB e base w' v l := by
  obtain ⟨h1, h2⟩ := h
  refine ⟨h1, ?_⟩
  rcases h2 with h2 | ⟨g, cap, cur, hv, hg, hh, r⟩
  · exact Or.inl h2
  · refine Or.inr ⟨g, cap, cur, hv, hg, ?_, r⟩
    rw [hb.block g ?_]; exact hh
    rcases Nat.lt_or_ge g w.heap.size with h' | h'
    · exact h'
    · simp [Array.getElem?_eq_none h'] at hh
theorem OwnsB.mono {e : TypeId} {base base' : Nat} {w : World} {v : Value} {l : List UInt8} (h : OwnsB e base w v l) (hb : base' ≤ base) : OwnsB e base' w v l := by
  obtain ⟨h1, h2⟩ := h
  refine ⟨h1, ?_⟩
  rcases h2 with h2 | ⟨g, cap, cur, hv, hg, r⟩
  · exact Or.inl h2
  · exact Or.inr ⟨g, cap, cur, hv, by omega, r⟩
/-- A text, as a cell holds it. -/
def cellT (l : List UInt8) : Value := .string (txt l)
/-- The value v is a slice of the call's own (its block from 'base' on) that holds the texts ws. -/
def OwnsT (e : TypeId) (base : Nat) (w : World) (v : Value) (ws : List (List UInt8)) : Prop := w.ownsRow base e 1 v ws.length (ws.map cellT)
theorem OwnsT.nil (e : TypeId) (base : Nat) (w : World) : OwnsT e base w (.slice none 0 0) [] := World.ownsRow_nil w base e 1
theorem ownsRow_below {e : TypeId} {base n : Nat} {w w' : World} {v : Value} {xs : List Value} (h : w.ownsRow base e 1 v n xs) (hb : Below w.heap.size w w') : w'.ownsRow base e 1 v n xs := by
  obtain ⟨h1, h2⟩ := h
  refine ⟨h1, ?_⟩
  rcases h2 with h2 | ⟨g, cap, cur, hv, hg, hh, r⟩
  · exact Or.inl h2
  · refine Or.inr ⟨g, cap, cur, hv, hg, ?_, r⟩
    rw [hb.block g ?_]; exact hh
    rcases Nat.lt_or_ge g w.heap.size with h' | h'
    · exact h'
    · simp [Array.getElem?_eq_none h'] at hh
theorem OwnsT.below {e : TypeId} {base : Nat} {w w' : World} {v : Value} {ws : List (List UInt8)} (h : OwnsT e base w v ws) (hb : Below w.heap.size w w') : OwnsT e base w' v ws := ownsRow_below h hb
end Go.Proofs.YtfedeiipinamjaaDoor

namespace Go.Proofs.YtfedeiipinamjaaDoor
open Go.RowKit
def repA (old new s : List UInt8) : List UInt8 := Lib.replaceK old new (Lib.count s old) s
theorem repA_all {old new : List UInt8} (h : old ≠ new) (s : List UInt8) : Lib.replaceAll s old new = repA old new s := by
  unfold Lib.replaceAll Lib.replace
  rw [if_neg (by simpa using h)]
  unfold Lib.replaceNum
  rw [if_pos (.inl (by decide))]; rfl
theorem repA_nil {old new : List UInt8} (h : old ≠ []) : repA old new [] = [] := by
  have : Lib.index [] old = -1 := by
    unfold Lib.index; rw [if_neg (by simpa using h)]
  unfold repA; rw [Lib.count_miss this]; rfl
theorem repA_hit {old new : List UInt8} (h : old ≠ []) (r : List UInt8) : repA old new (old ++ r) = new ++ repA old new r := by
  have hi : Lib.index (old ++ r) old = (0 : Nat) := Lib.index_first (Nat.zero_le _) (by simp [Lib.occAt]) (fun _ h => absurd h (Nat.not_lt_zero _))
  unfold repA
  rw [Lib.count_hit h hi, Nat.add_comm 1, Lib.replaceK_hit _ _ _ _ 0 hi]
  simp
theorem repA_miss {old new : List UInt8} (h : old ≠ []) (c : UInt8) (l : List UInt8) (hp : old.isPrefixOf (c :: l) = false) : repA old new (c :: l) = c :: repA old new l := by
  have e : Lib.index (c :: l) old = if Lib.index l old == -1 then -1 else Lib.index l old + 1 := by
    show (if old.isPrefixOf (c :: l) = true then (0 : Int) else _) = _
    rw [if_neg (by rw [hp]; decide)]
  have ge := Lib.index_ge l old
  by_cases g : Lib.index l old = -1
  · have e1 : Lib.index (c :: l) old = -1 := by rw [e, g]; rfl
    unfold repA; rw [Lib.count_miss g, Lib.count_miss e1]; rfl
  · obtain ⟨i, hi⟩ : ∃ i : Nat, Lib.index l old = i := ⟨(Lib.index l old).toNat, by omega⟩
    have e1 : Lib.index (c :: l) old = ((i + 1 : Nat) : Int) := by
      rw [e, if_neg (by simpa using g), hi]; rfl
    unfold repA
    rw [Lib.count_hit h hi, Lib.count_hit h e1, Nat.add_comm 1, Nat.add_comm 1, Lib.replaceK_hit _ _ _ _ i hi, Lib.replaceK_hit _ _ _ _ (i + 1) e1]
    have e2 : i + 1 + old.length = (i + old.length) + 1 := by omega
    rw [e2]; simp
/-- Does the byte stand in the list? -/
def hasB (l : List UInt8) (c : UInt8) : Bool := l.contains c
def pathSg : List UInt8 := [32, 34, 35, 60, 62, 63, 94, 123, 125, 96]
def userSg : List UInt8 := [32, 34, 35, 60, 62, 63, 94, 123, 125, 96, 47, 58, 59, 61, 64, 91, 92, 93, 124]
def partSg : List UInt8 := [32, 34, 35, 60, 62, 63, 94, 123, 125, 96, 47, 58, 59, 61, 64, 91, 92, 93, 124, 36, 37, 38, 43, 44]
def formSg : List UInt8 := [42, 45, 46, 95]
def signsOf : Nat → List UInt8
  | 1 => [32, 34, 60, 62, 96]
  | 2 => [32, 34, 35, 60, 62]
  | 3 => [32, 34, 35, 60, 62, 39]
  | 4 => pathSg
  | 5 => userSg
  | 6 => partSg
  | _ => []
def plainB (c : UInt8) : Bool := decide (48 ≤ c.toNat ∧ c.toNat ≤ 57 ∨ 65 ≤ c.toNat ∧ c.toNat ≤ 90 ∨ 97 ≤ c.toNat ∧ c.toNat ≤ 122)
def stays (c : UInt8) : Bool := plainB c || hasB formSg c
def ctl (c : UInt8) : Bool := decide (c.toNat < 32 ∨ 126 < c.toNat)
/-- Does the set escape the byte? -/
def escB (set : Int) (c : UInt8) : Bool := decide (0 ≤ set ∧ set ≤ 7) && (ctl c || if set = 7 then !stays c else hasB (signsOf set.toNat) c)
theorem escB_no {set : Int} (c : UInt8) (h : ¬ (0 ≤ set ∧ set ≤ 7)) : escB set c = false := by
  unfold escB; rw [decide_eq_false h]; rfl
theorem escB_ctl {set : Int} {c : UInt8} (h : 0 ≤ set ∧ set ≤ 7) (hc : c.toNat < 32 ∨ 126 < c.toNat) : escB set c = true := by
  unfold escB ctl; rw [decide_eq_true h, decide_eq_true hc]; rfl
theorem escB_form {c : UInt8} (hc : ¬ (c.toNat < 32 ∨ 126 < c.toNat)) : escB 7 c = !stays c := by
  unfold escB ctl; rw [decide_eq_false hc]; rfl
theorem escB_sign {set : Int} {c : UInt8} (h : 0 ≤ set ∧ set ≤ 6) (hc : ¬ (c.toNat < 32 ∨ 126 < c.toNat)) : escB set c = hasB (signsOf set.toNat) c := by
  unfold escB ctl; rw [decide_eq_false hc, decide_eq_true (by omega), if_neg (by omega)]; rfl
def hexD (n : Nat) : UInt8 := if n < 10 then UInt8.ofNat (48 + n) else UInt8.ofNat (55 + n)
def hexV (c : UInt8) : Int := if 48 ≤ c.toNat ∧ c.toNat ≤ 57 then c.toNat - 48 else if 65 ≤ c.toNat ∧ c.toNat ≤ 70 then c.toNat - 55 else if 97 ≤ c.toNat ∧ c.toNat ≤ 102 then c.toNat - 87 else -1
theorem hexV_hexD : ∀ n : Fin 16, hexV (hexD n.val) = n.val := by decide
theorem hexD_ne : ∀ n : Fin 16, hexD n.val ≠ 37 ∧ hexD n.val ≠ 43 := by decide
def encB (set : Int) (c : UInt8) : List UInt8 := if escB set c then [37, hexD (c.toNat / 16), hexD (c.toNat % 16)] else [c]
def encL (set : Int) (l : List UInt8) : List UInt8 := l.flatMap (encB set)
def encS (set : Int) (s : ByteArray) : ByteArray := txt (encL set s.data.toList)
theorem encB_yes {set : Int} {c : UInt8} (h : escB set c = true) : encB set c = [37, hexD (c.toNat / 16), hexD (c.toNat % 16)] := by unfold encB; rw [if_pos h]
theorem encB_not {set : Int} {c : UInt8} (h : escB set c = false) : encB set c = [c] := by unfold encB; rw [if_neg (by rw [h]; decide)]
theorem encB_len (set : Int) (c : UInt8) : (encB set c).length ≤ 3 := by unfold encB; split <;> simp
theorem encL_cons (set : Int) (c : UInt8) (l : List UInt8) : encL set (c :: l) = encB set c ++ encL set l := rfl
theorem encL_append (set : Int) (a b : List UInt8) : encL set (a ++ b) = encL set a ++ encL set b := by unfold encL; exact List.flatMap_append
theorem encL_len (set : Int) : ∀ l : List UInt8, (encL set l).length ≤ 3 * l.length
  | [] => by simp [encL]
  | c :: l => by
    have := encL_len set l
    have := encB_len set c
    rw [encL_cons, List.length_append, List.length_cons]; omega
theorem escB_form37 : escB 7 37 = true := by decide
def formB (c : UInt8) : List UInt8 := if c = 32 then [43] else encB 7 c
def formL (l : List UInt8) : List UInt8 := l.flatMap formB
def formS (s : ByteArray) : ByteArray := txt (formL s.data.toList)
theorem formL_cons (c : UInt8) (l : List UInt8) : formL (c :: l) = formB c ++ formL l := rfl
theorem formB_len (c : UInt8) : (formB c).length ≤ 3 := by
  unfold formB; split; simp; exact encB_len _ _
theorem formL_len : ∀ l : List UInt8, (formL l).length ≤ 3 * l.length
  | [] => by simp [formL]
  | c :: l => by
    have := formL_len l
    have := formB_len c
    rw [formL_cons, List.length_append, List.length_cons]; omega
theorem digits_of_blank (c : UInt8) (h1 : hexD (c.toNat / 16) = 50) (h2 : hexD (c.toNat % 16) = 48) : c = 32 := by
  have hc := c.toNat_lt
  have k1 := hexV_hexD ⟨c.toNat / 16, by omega⟩
  have k2 := hexV_hexD ⟨c.toNat % 16, by omega⟩
  simp only at k1 k2
  rw [h1] at k1; rw [h2] at k2
  have e1 : hexV 50 = 2 := by decide
  have e2 : hexV 48 = 0 := by decide
  rw [e1] at k1; rw [e2] at k2
  have : c.toNat = (32 : UInt8).toNat := by show c.toNat = 32; omega
  exact UInt8.toNat_inj.1 this
theorem pre_ne {c : UInt8} (r : List UInt8) (h : c ≠ 37) : ([37, 50, 48] : List UInt8).isPrefixOf (c :: r) = false := by
  have : ((37 : UInt8) == c) = false := by simpa using fun e => h e.symm
  simp [List.isPrefixOf, this]
theorem rep_enc : ∀ l : List UInt8, repA [37, 50, 48] [43] (encL 7 l) = formL l
  | [] => repA_nil (by decide)
  | c :: l => by
    have ih := rep_enc l
    have hc := c.toNat_lt
    rw [encL_cons, formL_cons]
    by_cases e : c = 32
    · subst e
      have e1 : encB 7 32 = [37, 50, 48] := by decide
      rw [e1, repA_hit (by decide), ih]; rfl
    · have ef : formB c = encB 7 c := by unfold formB; rw [if_neg e]
      rw [ef]
      cases g : escB 7 c with
      | true =>
        have n1 := (hexD_ne ⟨c.toNat / 16, by omega⟩).1
        have n2 := (hexD_ne ⟨c.toNat % 16, by omega⟩).1
        have nd := fun h1 h2 => e (digits_of_blank c h1 h2)
        simp only at n1 n2
        rw [encB_yes g]
        generalize hexD (c.toNat / 16) = a at *
        generalize hexD (c.toNat % 16) = b at *
        show repA _ _ (37 :: a :: b :: encL 7 l) = 37 :: a :: b :: formL l
        have hp : ([37, 50, 48] : List UInt8).isPrefixOf (37 :: a :: b :: encL 7 l) = false := by
          by_cases ha : a = 50
          · have hb : ((48 : UInt8) == b) = false := by simpa using fun h => nd ha h.symm
            simp [List.isPrefixOf, hb]
          · have ha : ((50 : UInt8) == a) = false := by simpa using fun h => ha h.symm
            simp [List.isPrefixOf, ha]
        rw [repA_miss (by decide) _ _ hp, repA_miss (by decide) _ _ (pre_ne _ n1), repA_miss (by decide) _ _ (pre_ne _ n2), ih]
      | false =>
        rw [encB_not g]
        have hne : c ≠ 37 := by intro e; subst e; rw [escB_form37] at g; cases g
        show repA _ _ (c :: encL 7 l) = c :: formL l
        rw [repA_miss (by decide) _ _ (pre_ne _ hne), ih]
end Go.Proofs.YtfedeiipinamjaaDoor

namespace Go.Proofs.YtfedeiipinamjaaDoor
open Go.RowKit
/-- What a byte c behind a byte p becomes. -/
def piece (e : List UInt8) (p c : UInt8) : List UInt8 := if c = 10 ∧ p = 13 then [] else if c = 10 ∨ c = 13 then e else [c]
def endsP (e : List UInt8) : UInt8 → List UInt8 → List UInt8
  | _, [] => []
  | p, c :: r => piece e p c ++ endsP e c r
def endsS (e s : ByteArray) : ByteArray := txt (endsP e.data.toList 0 s.data.toList)
def prevAt (s : ByteArray) (k : Nat) : UInt8 := if k = 0 then 0 else byteAt s (k - 1)
theorem piece_none {e : List UInt8} {p c : UInt8} (h1 : c = 10) (h2 : p = 13) : piece e p c = [] := by unfold piece; rw [if_pos ⟨h1, h2⟩]
theorem piece_end {e : List UInt8} {p c : UInt8} (h1 : ¬ (c = 10 ∧ p = 13)) (h2 : c = 10 ∨ c = 13) : piece e p c = e := by unfold piece; rw [if_neg h1, if_pos h2]
theorem piece_byte {e : List UInt8} {p c : UInt8} (h1 : c ≠ 10) (h2 : c ≠ 13) : piece e p c = [c] := by
  unfold piece; rw [if_neg (fun h => h1 h.1), if_neg (fun h => h.elim h1 h2)]
theorem piece_le (e : List UInt8) (p c : UInt8) (h : e.length ≤ 2) : (piece e p c).length ≤ 2 := by
  unfold piece; split
  · simp
  · split
    · exact h
    · simp
theorem endsP_snoc (e : List UInt8) (c : UInt8) : ∀ (l : List UInt8) (p : UInt8), endsP e p (l ++ [c]) = endsP e p l ++ piece e (l.getLastD p) c
  | [], p => by simp [endsP]
  | a :: r, p => by
    have ih := endsP_snoc e c r a
    have hl : (a :: r).getLastD p = r.getLastD a := by cases r <;> rfl
    show piece e p a ++ endsP e a (r ++ [c]) = piece e p a ++ endsP e a r ++ _
    rw [ih, hl, List.append_assoc]
theorem endsP_le (e : List UInt8) (h : e.length ≤ 2) : ∀ (l : List UInt8) (p : UInt8), (endsP e p l).length ≤ 2 * l.length
  | [], p => by simp [endsP]
  | a :: r, p => by
    have ih := endsP_le e h r a
    have := piece_le e p a h
    simp only [endsP, List.length_append, List.length_cons]; omega
theorem getLastD_take (l : List UInt8) (k : Nat) (h : k < l.length) : (l.take (k + 1)).getLastD 0 = l.getD k 0 := by
  have : l.take (k + 1) = l.take k ++ [l[k]] := List.take_succ_eq_append_getElem h
  rw [this, List.getLastD_concat]
  simp [List.getD, h]
theorem last_take (s : ByteArray) (k : Nat) (h : k < s.size) : (s.data.toList.take k).getLastD 0 = prevAt s k := by
  unfold prevAt
  by_cases e : k = 0
  · subst e; simp
  · rw [if_neg e]
    obtain ⟨j, rfl⟩ : ∃ j, k = j + 1 := ⟨k - 1, by omega⟩
    exact getLastD_take _ _ (by simp; omega)
theorem endsP_take (e : List UInt8) (s : ByteArray) (k : Nat) (h : k < s.size) : endsP e 0 (s.data.toList.take (k + 1)) = endsP e 0 (s.data.toList.take k) ++ piece e (prevAt s k) (byteAt s k) := by
  rw [byteAt_take s k h, endsP_snoc, last_take s k h]
theorem take_len_le (s : ByteArray) (k : Nat) : (s.data.toList.take k).length ≤ k := List.length_take_le _ _
theorem endsP_take_le (e s : ByteArray) (k : Nat) (h : e.size ≤ 2) : (endsP e.data.toList 0 (s.data.toList.take k)).length ≤ 2 * k := by
  have := endsP_le e.data.toList (by simpa using h) (s.data.toList.take k) 0
  have := take_len_le s k
  omega
theorem take_all (s : ByteArray) : s.data.toList.take s.size = s.data.toList := List.take_of_length_le (by simp)
theorem b10 (c : UInt8) : c = 10 ↔ (c.toNat : Int) = 10 := by rw [← UInt8.toNat_inj]; simp; omega
theorem b13 (c : UInt8) : c = 13 ↔ (c.toNat : Int) = 13 := by rw [← UInt8.toNat_inj]; simp; omega
theorem prevAt_eq (s : ByteArray) (k : Nat) (h : k < s.size) (h0 : 0 < k) : s[k - 1]'(by omega) = prevAt s k := by
  unfold prevAt; rw [if_neg (by omega)]; exact byteAt_eq s (k - 1) (by omega)
def pairsS (s : ByteArray) : ByteArray := endsS ⟨#[13, 10]⟩ s
theorem endsS_size (e s : ByteArray) (h : e.size ≤ 2) : (endsS e s).size ≤ 2 * s.size := by
  unfold endsS; rw [txt_size]
  have := endsP_le e.data.toList (by simpa using h) s.data.toList 0
  simpa using this
theorem pairsS_size (s : ByteArray) : (pairsS s).size ≤ 2 * s.size := endsS_size _ _ (by decide)
end Go.Proofs.YtfedeiipinamjaaDoor

namespace Go.Proofs.YtfedeiipinamjaaDoor
open Go.RowKit
/-- What an entry tells. -/
def plE (e : En) : En := ⟨pairsS e.name, pairsS (if e.file = true then e.fname else e.val), false, ⟨#[]⟩, ⟨#[]⟩⟩
def plainU (l : List En) : List En := l.map plE
def encE (e : En) : List UInt8 := formL e.name.data.toList ++ 61 :: formL e.val.data.toList
def encU (l : List En) : List UInt8 := joinL 38 ((plainU l).map encE)
def urlS (l : List En) : ByteArray := txt (encU l)
/-- How long texts become. -/
structure EnsOK (n : Nat) (l : List En) : Prop where
  len : l.length ≤ 200
  ent : ∀ e ∈ l, e.name.size ≤ n ∧ e.val.size ≤ n ∧ e.fname.size ≤ n ∧ e.typ.size ≤ n
theorem pl_size {e : En} {n : Nat} (h : e.name.size ≤ n ∧ e.val.size ≤ n ∧ e.fname.size ≤ n ∧ e.typ.size ≤ n) : (plE e).name.size ≤ 2 * n ∧ (plE e).val.size ≤ 2 * n := by
  constructor
  · exact Nat.le_trans (pairsS_size e.name) (by omega)
  · refine Nat.le_trans (pairsS_size _) ?_
    split <;> omega
theorem encE_len (e : En) : (encE e).length ≤ 3 * e.name.size + 3 * e.val.size + 1 := by
  unfold encE
  rw [List.length_append, List.length_cons]
  have h1 := formL_len e.name.data.toList
  have h2 := formL_len e.val.data.toList
  simp only [Array.length_toList, ByteArray.size_data] at h1 h2
  omega
theorem sum_le {α : Type} (f : α → Nat) (b : Nat) : ∀ (l : List α), (∀ x ∈ l, f x ≤ b) → (l.map f).sum ≤ l.length * b
  | [], _ => by simp
  | x :: l, h => by
    have ih := sum_le f b l (fun y hy => h y (List.mem_cons_of_mem _ hy))
    have hx := h x List.mem_cons_self
    simp only [List.map_cons, List.sum_cons, List.length_cons]
    rw [Nat.add_mul]
    omega
end Go.Proofs.YtfedeiipinamjaaDoor

namespace Go.Proofs.YtfedeiipinamjaaDoor
open Go.RowKit
set_option maxRecDepth 100000
theorem plain_take (l : List En) {k : Nat} (h : k < l.length) : plainU (l.take (k + 1)) = plainU (l.take k) ++ [plE l[k]] := by
  unfold plainU
  rw [List.take_succ_eq_append_getElem h, List.map_append]; rfl
theorem plain_len (l : List En) (k : Nat) (h : k ≤ l.length) : (plainU (l.take k)).length = k := by unfold plainU; rw [List.length_map, List.length_take]; omega
end Go.Proofs.YtfedeiipinamjaaDoor

namespace Go.Proofs.YtfedeiipinamjaaDoor
open Go.RowKit
/-- A builder in block b, of the call's own (from B on), that holds the bytes l. -/
def HoldsB (B b : Nat) (l : List UInt8) (w : World) : Prop := Lib.IsBuilder 36 5 B b (Lib.byteCells l) w
theorem HoldsB.fresh (w : World) : HoldsB w.heap.size w.heap.size [] (w.alloc (.cells #[.pointer none, .slice none 0 0] 36)) :=
  .inl ⟨Nat.le_refl _, .slice none 0 0, by simp [World.alloc, -World.alloc_eq], World.ownsRow_nil _ _ _ _, by simp [Value.ownBlock]⟩
theorem builderAt_below {T e : TypeId} {B b : Nat} {p : Value} {bs : List Value} {w w' : World} (h : Lib.BuilderAt T e B b p bs w) (hb : Below w.heap.size w w') : Lib.BuilderAt T e B b p bs w' := by
  have hlt := h.lt
  obtain ⟨h0, v, h1, h2, h3⟩ := h
  refine ⟨h0, v, by rw [hb.block b hlt]; exact h1, ?_, h3⟩
  obtain ⟨g1, g2⟩ := h2
  refine ⟨g1, ?_⟩
  rcases g2 with g2 | ⟨g, cap, cur, hv, hg, hh, r⟩
  · exact Or.inl g2
  · refine Or.inr ⟨g, cap, cur, hv, hg, ?_, r⟩
    rw [hb.block g ?_]; exact hh
    rcases Nat.lt_or_ge g w.heap.size with h' | h'
    · exact h'
    · simp [Array.getElem?_eq_none h'] at hh
/-- Another call, which changes nothing that was there, leaves the builder as it is. -/
theorem HoldsB.below {B b : Nat} {l : List UInt8} {w w' : World} (h : HoldsB B b l w) (hb : Below w.heap.size w w') : HoldsB B b l w' := by
  rcases h with h | h
  · exact .inl (builderAt_below h hb)
  · exact .inr (builderAt_below h hb)
end Go.Proofs.YtfedeiipinamjaaDoor

namespace Go.Proofs.YtfedeiipinamjaaDoor
open Go.Shelf Go.RowKit
set_option maxRecDepth 100000
def renBGrow : Go.Shelf.Ren := ⟨fun | 165 => 38 | 240 => 30 | 241 => 49 | 276 => 39 | 277 => 62 | n => n, fun | 0 => 0 | 3 => 3 | 4 => 4 | 5 => 5 | 9 => 9 | 20 => 20 | 37 => 34 | 70 => 33 | 72 => 36 | 164 => 57 | n => n, fun  | n => n⟩
theorem lays165 : Go.Proofs.Lays.n165 Tryd.prog renBGrow := {
  mixed := by kernel_rfl
  f165 := Tryd.func38.trans (congrArg some (by kernel_rfl))
  f240 := Tryd.func30.trans (congrArg some (by kernel_rfl))
  f241 := Tryd.func49.trans (congrArg some (by kernel_rfl))
  f276 := Tryd.func39.trans (congrArg some (by kernel_rfl))
  f277 := Tryd.func62.trans (congrArg some (by kernel_rfl))
  t0 := Tryd.underlying0
  a0 := Tryd.isAgg0
  z0 := Tryd.sizeOf0
  v0 := Tryd.zeroValue0
  t3 := Tryd.underlying3
  a3 := Tryd.isAgg3
  z3 := Tryd.sizeOf3
  v3 := Tryd.zeroValue3
  t4 := Tryd.underlying4
  a4 := Tryd.isAgg4
  z4 := Tryd.sizeOf4
  v4 := Tryd.zeroValue4
  t9 := Tryd.underlying9
  a9 := Tryd.isAgg9
  z9 := Tryd.sizeOf9
  v9 := Tryd.zeroValue9
  t20 := Tryd.underlying20
  a20 := Tryd.isAgg20
  z20 := Tryd.sizeOf20
  v20 := Tryd.zeroValue20
  t37 := Tryd.underlying34
  a37 := Tryd.isAgg34
  z37 := Tryd.sizeOf34
  v37 := Tryd.zeroValue34
  t70 := Tryd.underlying33
  a70 := Tryd.isAgg33
  z70 := Tryd.sizeOf33
  v70 := Tryd.zeroValue33
  t72 := Tryd.underlying36
  a72 := Tryd.isAgg36
  z72 := Tryd.sizeOf36
  v72 := Tryd.zeroValue36
  t164 := Tryd.underlying57
  a164 := Tryd.isAgg57
  z164 := Tryd.sizeOf57
  v164 := Tryd.zeroValue57 }
theorem extraBGrow : Builder.Extra Tryd.prog renBGrow := {
  sizeBuilder := by kernel_rfl
  liesBuilder := by kernel_rfl
  t5 := Tryd.underlying5
  a5 := Tryd.isAgg5
  z5 := Tryd.sizeOf5
  v5 := Tryd.zeroValue5
  infoByte := by kernel_rfl
  cellsByte := by kernel_rfl
  sizeByte := by kernel_rfl
  neB5 := by decide }
theorem grow_fresh (n : Nat) (w : World) (hn : n ≤ 281474976710656) :
    Calls Tryd.prog 38 #[.pointer (some ⟨w.heap.size, 0, none⟩), .int .i64 n] (w.alloc (.cells #[.pointer none, .slice none 0 0] 36)) fun e w' => e = .returned (.tuple #[]) ∧ HoldsB w.heap.size w.heap.size [] w' ∧ Below w.heap.size w w' := by
  refine (Any.Builder_Grow_fresh lays165 extraBGrow w.heap.size w.heap.size n (w.alloc (.cells #[.pointer none, .slice none 0 0] 36)) (Nat.le_refl _) (by simp [World.alloc, -World.alloc_eq]; rfl) (by simp) hn).mono ?_
  rintro e w' ⟨rfl, h, hb⟩
  exact ⟨rfl, .inr h, ((Below.refl _ w).alloc (Nat.le_refl _) _).trans hb⟩
end Go.Proofs.YtfedeiipinamjaaDoor

namespace Go.Proofs.YtfedeiipinamjaaDoor
open Go.Shelf Go.RowKit
set_option maxRecDepth 100000
def renBByte : Go.Shelf.Ren := ⟨fun | 167 => 19 | 240 => 30 | 276 => 39 | n => n, fun | 0 => 0 | 4 => 4 | 5 => 5 | 9 => 9 | 20 => 20 | 37 => 34 | 70 => 33 | 72 => 36 | 75 => 38 | 80 => 42 | 164 => 57 | n => n, fun  | n => n⟩
theorem lays167 : Go.Proofs.Lays.n167 Tryd.prog renBByte := {
  mixed := by kernel_rfl
  f167 := Tryd.func19.trans (congrArg some (by kernel_rfl))
  f240 := Tryd.func30.trans (congrArg some (by kernel_rfl))
  f276 := Tryd.func39.trans (congrArg some (by kernel_rfl))
  t0 := Tryd.underlying0
  a0 := Tryd.isAgg0
  z0 := Tryd.sizeOf0
  v0 := Tryd.zeroValue0
  t4 := Tryd.underlying4
  a4 := Tryd.isAgg4
  z4 := Tryd.sizeOf4
  v4 := Tryd.zeroValue4
  t5 := Tryd.underlying5
  a5 := Tryd.isAgg5
  z5 := Tryd.sizeOf5
  v5 := Tryd.zeroValue5
  t9 := Tryd.underlying9
  a9 := Tryd.isAgg9
  z9 := Tryd.sizeOf9
  v9 := Tryd.zeroValue9
  t20 := Tryd.underlying20
  a20 := Tryd.isAgg20
  z20 := Tryd.sizeOf20
  v20 := Tryd.zeroValue20
  t37 := Tryd.underlying34
  a37 := Tryd.isAgg34
  z37 := Tryd.sizeOf34
  v37 := Tryd.zeroValue34
  t70 := Tryd.underlying33
  a70 := Tryd.isAgg33
  z70 := Tryd.sizeOf33
  v70 := Tryd.zeroValue33
  t72 := Tryd.underlying36
  a72 := Tryd.isAgg36
  z72 := Tryd.sizeOf36
  v72 := Tryd.zeroValue36
  t75 := Tryd.underlying38
  a75 := Tryd.isAgg38
  z75 := Tryd.sizeOf38
  v75 := Tryd.zeroValue38
  t164 := Tryd.underlying57
  a164 := Tryd.isAgg57
  z164 := Tryd.sizeOf57
  v164 := Tryd.zeroValue57 }
theorem extraBByte : Builder.Extra Tryd.prog renBByte := {
  sizeBuilder := by kernel_rfl
  liesBuilder := by kernel_rfl
  t5 := Tryd.underlying5
  a5 := Tryd.isAgg5
  z5 := Tryd.sizeOf5
  v5 := Tryd.zeroValue5
  infoByte := by kernel_rfl
  cellsByte := by kernel_rfl
  sizeByte := by kernel_rfl
  neB5 := by decide }
theorem writeByte (B b : Nat) (l : List UInt8) (c : UInt8) (w : World) (h : HoldsB B b l w) (hlen : l.length + 1 ≤ 140737488355328) (hBw : B ≤ w.heap.size) :
    Calls Tryd.prog 19 #[.pointer (some ⟨b, 0, none⟩), .int .u8 (c.toNat : Int)] w fun e w' => e = .returned .nilIface ∧ HoldsB B b (l ++ [c]) w' ∧ Below B w w' := by
  refine (Any.Builder_WriteByte lays167 extraBByte B b (Lib.byteCells l) (c.toNat : Int) w h (by simpa [Lib.byteCells] using hlen) hBw).mono ?_
  rintro e w' ⟨rfl, h, hb⟩
  refine ⟨rfl, .inr ?_, hb⟩
  have e1 : Lib.byteCells (l ++ [c]) = Lib.byteCells l ++ [.int .u8 (c.toNat : Int)] := by simp [Lib.byteCells]
  rw [e1]; exact h
end Go.Proofs.YtfedeiipinamjaaDoor

namespace Go.Proofs.YtfedeiipinamjaaDoor
open Go.Shelf Go.RowKit
set_option maxRecDepth 100000
def renBText : Go.Shelf.Ren := ⟨fun | 166 => 20 | 240 => 30 | 276 => 39 | n => n, fun | 0 => 0 | 3 => 3 | 4 => 4 | 5 => 5 | 9 => 9 | 20 => 20 | 37 => 34 | 70 => 33 | 72 => 36 | 75 => 38 | 80 => 42 | 164 => 57 | n => n, fun  | n => n⟩
theorem lays166 : Go.Proofs.Lays.n166 Tryd.prog renBText := {
  mixed := by kernel_rfl
  f166 := Tryd.func20.trans (congrArg some (by kernel_rfl))
  f240 := Tryd.func30.trans (congrArg some (by kernel_rfl))
  f276 := Tryd.func39.trans (congrArg some (by kernel_rfl))
  t0 := Tryd.underlying0
  a0 := Tryd.isAgg0
  z0 := Tryd.sizeOf0
  v0 := Tryd.zeroValue0
  t3 := Tryd.underlying3
  a3 := Tryd.isAgg3
  z3 := Tryd.sizeOf3
  v3 := Tryd.zeroValue3
  t4 := Tryd.underlying4
  a4 := Tryd.isAgg4
  z4 := Tryd.sizeOf4
  v4 := Tryd.zeroValue4
  t9 := Tryd.underlying9
  a9 := Tryd.isAgg9
  z9 := Tryd.sizeOf9
  v9 := Tryd.zeroValue9
  t20 := Tryd.underlying20
  a20 := Tryd.isAgg20
  z20 := Tryd.sizeOf20
  v20 := Tryd.zeroValue20
  t37 := Tryd.underlying34
  a37 := Tryd.isAgg34
  z37 := Tryd.sizeOf34
  v37 := Tryd.zeroValue34
  t70 := Tryd.underlying33
  a70 := Tryd.isAgg33
  z70 := Tryd.sizeOf33
  v70 := Tryd.zeroValue33
  t72 := Tryd.underlying36
  a72 := Tryd.isAgg36
  z72 := Tryd.sizeOf36
  v72 := Tryd.zeroValue36
  t75 := Tryd.underlying38
  a75 := Tryd.isAgg38
  z75 := Tryd.sizeOf38
  v75 := Tryd.zeroValue38
  t164 := Tryd.underlying57
  a164 := Tryd.isAgg57
  z164 := Tryd.sizeOf57
  v164 := Tryd.zeroValue57 }
theorem extraBText : Builder.Extra Tryd.prog renBText := {
  sizeBuilder := by kernel_rfl
  liesBuilder := by kernel_rfl
  t5 := Tryd.underlying5
  a5 := Tryd.isAgg5
  z5 := Tryd.sizeOf5
  v5 := Tryd.zeroValue5
  infoByte := by kernel_rfl
  cellsByte := by kernel_rfl
  sizeByte := by kernel_rfl
  neB5 := by decide }
theorem writeString (B b : Nat) (l : List UInt8) (s : ByteArray) (w : World) (h : HoldsB B b l w) (hlen : l.length + s.size ≤ 140737488351232) (hBw : B ≤ w.heap.size) :
    Calls Tryd.prog 20 #[.pointer (some ⟨b, 0, none⟩), .string s] w fun e w' => e = .returned (.tuple #[.int .i64 s.size, .nilIface]) ∧ HoldsB B b (l ++ s.data.toList) w' ∧ Below B w w' := by
  refine (Any.Builder_WriteString lays166 extraBText B b (Lib.byteCells l) s w h (by simp [Lib.byteCells]; omega) hBw).mono ?_
  rintro e w' ⟨rfl, h, hb⟩
  refine ⟨rfl, .inr ?_, hb⟩
  have e1 : Lib.byteCells (l ++ s.data.toList) = Lib.byteCells l ++ Lib.strCells s := by simp [Lib.byteCells, Lib.strCells]
  rw [e1]; exact h
end Go.Proofs.YtfedeiipinamjaaDoor

namespace Go.Proofs.YtfedeiipinamjaaDoor
open Go.Shelf Go.RowKit
set_option maxRecDepth 100000
def renBString : Go.Shelf.Ren := ⟨fun | 169 => 22 | n => n, fun | 0 => 0 | 3 => 3 | 5 => 5 | 9 => 9 | 37 => 34 | 70 => 33 | 72 => 36 | 127 => 52 | n => n, fun  | n => n⟩
theorem lays169 : Go.Proofs.Lays.n169 Tryd.prog renBString := {
  mixed := by kernel_rfl
  f169 := Tryd.func22.trans (congrArg some (by kernel_rfl))
  t0 := Tryd.underlying0
  a0 := Tryd.isAgg0
  z0 := Tryd.sizeOf0
  v0 := Tryd.zeroValue0
  t3 := Tryd.underlying3
  a3 := Tryd.isAgg3
  z3 := Tryd.sizeOf3
  v3 := Tryd.zeroValue3
  t9 := Tryd.underlying9
  a9 := Tryd.isAgg9
  z9 := Tryd.sizeOf9
  v9 := Tryd.zeroValue9
  t37 := Tryd.underlying34
  a37 := Tryd.isAgg34
  z37 := Tryd.sizeOf34
  v37 := Tryd.zeroValue34
  t70 := Tryd.underlying33
  a70 := Tryd.isAgg33
  z70 := Tryd.sizeOf33
  v70 := Tryd.zeroValue33
  t72 := Tryd.underlying36
  a72 := Tryd.isAgg36
  z72 := Tryd.sizeOf36
  v72 := Tryd.zeroValue36
  t127 := Tryd.underlying52
  a127 := Tryd.isAgg52
  z127 := Tryd.sizeOf52
  v127 := Tryd.zeroValue52 }
theorem extraBString : Builder.Extra Tryd.prog renBString := {
  sizeBuilder := by kernel_rfl
  liesBuilder := by kernel_rfl
  t5 := Tryd.underlying5
  a5 := Tryd.isAgg5
  z5 := Tryd.sizeOf5
  v5 := Tryd.zeroValue5
  infoByte := by kernel_rfl
  cellsByte := by kernel_rfl
  sizeByte := by kernel_rfl
  neB5 := by decide }
theorem builderText (B b : Nat) (l : List UInt8) (w : World) (h : HoldsB B b l w) (hBw : B ≤ w.heap.size) :
    Calls Tryd.prog 22 #[.pointer (some ⟨b, 0, none⟩)] w fun e w' => e = .returned (.string (txt l)) ∧ Below B w w' :=
  Any.Builder_String_any lays169 extraBString B b l w h hBw
end Go.Proofs.YtfedeiipinamjaaDoor

namespace Go.Proofs.YtfedeiipinamjaaDoor
open Go.RowKit
set_option maxRecDepth 100000
set_option maxHeartbeats 400000 in
theorem withEnds_any (s e : ByteArray) (w : World) (hs : s.size ≤ 1099511627776) (he : e.size ≤ 2) :
    Calls Tryd.prog 28 #[.string s, .string e] w fun r w' => r = .returned (.string (endsS e s)) ∧ Below w.heap.size w w' := by
  go_enter Tryd.func28, Tryd.ntmps28
  go_wp2_with fail
  refine (grow_fresh s.size w (by omega)).mono ?_
  rintro r w1 ⟨rfl, h1, b1⟩
  go_wp2_with fail
  go_loopw [13] (fun i wr => ∃ k : Nat, k ≤ s.size ∧ i = .int .i64 k ∧ HoldsB w.heap.size w.heap.size (endsP e.data.toList 0 (s.data.toList.take k)) wr ∧ Below w.heap.size w wr) (fun i _ => s.size - (intOf i).toNat)
  case atStart => exact ⟨0, Nat.zero_le _, rfl, h1, b1⟩
  case round =>
    obtain ⟨k, hk, rfl, hh, hb⟩ := hrel
    by_cases hlt : k < s.size
    · have hle := endsP_take_le e s k he
      have HT := hide (endsP_take e.data.toList s k hlt)
      have hsz := hb.size
      have HE := hide (byteAt_eq s k hlt)
      go_wp2_with fail
      · have h10 : (s[k].toNat : Int) = 10 := by assumption
        have h0 : 0 < k := by assumption
        have h13 : ((((s[k - 1]'(by omega)).toNat : Int)) == 13) = true := by assumption
        rw [HE.out] at h10
        rw [prevAt_eq s k hlt h0, beq_iff_eq] at h13
        go_roundw
        case rel => exact ⟨k + 1, by omega, by go_num, by rw [HT.out, piece_none ((b10 _).2 h10) ((b13 _).2 h13), List.append_nil]; exact hh, hb⟩
        case measure => simp [intOf]; omega
      · have h10 : (s[k].toNat : Int) = 10 := by assumption
        have h0 : 0 < k := by assumption
        have h13 : ((((s[k - 1]'(by omega)).toNat : Int)) == 13) = false := by assumption
        rw [HE.out] at h10
        rw [prevAt_eq s k hlt h0, beq_eq_false_iff_ne] at h13
        have HP := hide (piece_end (e := e.data.toList) (p := prevAt s k) (c := byteAt s k) (fun h => h13 ((b13 _).1 h.2)) (.inl ((b10 _).2 h10)))
        refine (writeString _ _ _ e wr hh (by omega) hb.size).mono ?_
        rintro r w2 ⟨rfl, h2, b2⟩
        go_wp2_with fail
        go_roundw
        case rel => exact ⟨k + 1, by omega, by go_num, by rw [HT.out, HP.out]; exact h2, hb.trans b2⟩
        case measure => simp [intOf]; omega
      · have h10 : (s[k].toNat : Int) = 10 := by assumption
        have h0 : ¬ 0 < k := by assumption
        rw [HE.out] at h10
        have HP := hide (piece_end (e := e.data.toList) (p := prevAt s k) (c := byteAt s k) (fun h => by have := h.2; unfold prevAt at this; rw [if_pos (by omega)] at this; exact absurd this (by decide)) (.inl ((b10 _).2 h10)))
        refine (writeString _ _ _ e wr hh (by omega) hb.size).mono ?_
        rintro r w2 ⟨rfl, h2, b2⟩
        go_wp2_with fail
        go_roundw
        case rel => exact ⟨k + 1, by omega, by go_num, by rw [HT.out, HP.out]; exact h2, hb.trans b2⟩
        case measure => simp [intOf]; omega
      · have h10 : ¬ (s[k].toNat : Int) = 10 := by assumption
        have h13 : ((s[k].toNat : Int) == 10) = true ∨ ((s[k].toNat : Int) == 13) = true := by assumption
        rw [HE.out] at h10 h13
        rw [beq_iff_eq, beq_iff_eq] at h13
        have HP := hide (piece_end (e := e.data.toList) (p := prevAt s k) (c := byteAt s k) (fun h => h10 ((b10 _).1 h.1)) (.inr ((b13 _).2 (by omega))))
        refine (writeString _ _ _ e wr hh (by omega) hb.size).mono ?_
        rintro r w2 ⟨rfl, h2, b2⟩
        go_wp2_with fail
        go_roundw
        case rel => exact ⟨k + 1, by omega, by go_num, by rw [HT.out, HP.out]; exact h2, hb.trans b2⟩
        case measure => simp [intOf]; omega
      · have h10 : ¬ (s[k].toNat : Int) = 10 := by assumption
        have h13 : ((s[k].toNat : Int) == 10) = false ∧ ((s[k].toNat : Int) == 13) = false := by assumption
        rw [HE.out] at h10 h13
        rw [beq_eq_false_iff_ne, beq_eq_false_iff_ne] at h13
        have HP := hide (piece_byte (e := e.data.toList) (p := prevAt s k) (c := byteAt s k) (fun h => h10 ((b10 _).1 h)) (fun h => h13.2 ((b13 _).1 h)))
        rw [HE.out]
        refine (writeByte _ _ _ (byteAt s k) wr hh (by omega) hb.size).mono ?_
        rintro r w2 ⟨rfl, h2, b2⟩
        go_wp2_with fail
        go_roundw
        case rel => exact ⟨k + 1, by omega, by go_num, by rw [HT.out, HP.out]; exact h2, hb.trans b2⟩
        case measure => simp [intOf]; omega
    · have e : k = s.size := by omega
      subst e
      rw [take_all] at hh
      go_wp2_with fail
      refine (builderText _ _ _ _ hh hb.size).mono ?_
      rintro r w2 ⟨rfl, b2⟩
      go_wp2_with fail
      go_ret
      exact ⟨rfl, hb.trans b2⟩
end Go.Proofs.YtfedeiipinamjaaDoor

namespace Go.Proofs.YtfedeiipinamjaaDoor
open Go.RowKit
set_option maxRecDepth 100000
set_option maxHeartbeats 400000 in
theorem pairs_any (s : ByteArray) (w : World) (hs : s.size ≤ 1099511627776) :
    Calls Tryd.prog 17 #[.string s] w fun r w' => r = .returned (.string (pairsS s)) ∧ Below w.heap.size w w' := by
  go_enter Tryd.func17, Tryd.ntmps17
  go_wp2_with fail
  refine (withEnds_any s ⟨#[13, 10]⟩ _ hs (by decide)).mono ?_
  rintro r w1 ⟨rfl, b1⟩
  go_wp2_with fail
  go_ret
  exact ⟨rfl, b1⟩
end Go.Proofs.YtfedeiipinamjaaDoor

namespace Go.Proofs.YtfedeiipinamjaaDoor
open Go.RowKit
set_option maxRecDepth 100000
set_option maxHeartbeats 4000000 in
theorem urPlainO_any (n : Nat) (v : Value) (l : List En) (w : World) (hv : FilesV w v l) (hn : n ≤ 10000000) (hl : EnsOK n l) :
    Calls Tryd.prog 11 #[v] w fun e w' => ∃ v', e = .returned v' ∧ OwnR w.heap.size w' v' (plainU l) ∧ Below w.heap.size w w' := by
  obtain ⟨p, c, rfl, hv⟩ := hv
  have HV := hide hv
  have h60 := hl.len
  have HL := hide hl
  clear hv hl
  go_enter Tryd.func11, Tryd.ntmps11
  go_wp2_with fail
  go_loopw [3, 9] (fun ov iv wr => ∃ (k : Nat) (q : Option Addr) (cp : Nat), k ≤ l.length ∧ iv = .int .i64 k ∧ ov = .slice q k cp ∧ Hid (OwnR w.heap.size wr (.slice q k cp) (plainU (l.take k))) ∧ Hid (Below w.heap.size w wr)) (fun _ iv _ => l.length - (intOf iv).toNat)
  case atStart => exact ⟨0, none, 0, Nat.zero_le _, rfl, rfl, OwnR.nil _ _, Below.refl _ _⟩
  case round =>
    rename World => wr
    obtain ⟨k, q, cp, hk, rfl, rfl, OW, BW⟩ := hrel
    by_cases g : k < l.length
    · have k1 : (k : Int) < (l.length : Int) := by omega
      have k0 : (0 : Int) ≤ (k : Int) := by omega
      obtain ⟨b, o, rfl, hc⟩ : ∃ b o, p = some ⟨b, o, none⟩ ∧ ∀ i (h : i < l.length), EnAt w b (o + i * 5) l[i] := by
        rcases HV.out with t | t
        · rw [t] at g; simp at g
        · exact t
      have EA := (hc k g).below BW.out
      have a0 := EA.c0
      have a1 := EA.c1
      have a2 := EA.c2
      have a3 := EA.c3
      have a4 := EA.c4
      have sz := HL.out.ent _ (List.getElem_mem g)
      have TK := hide (plain_take l g)
      have PL := hide (plain_len l k hk)
      have s0 := sz.1
      have s1 := sz.2.1
      have s2 := sz.2.2.1
      have EP : Hid (plE l[k] = ⟨pairsS l[k].name, pairsS (if l[k].file = true then l[k].fname else l[k].val), false, ⟨#[]⟩, ⟨#[]⟩⟩) := rfl
      have H0 := hide (fun W => pairs_any l[k].name W (by omega))
      have H1 := hide (fun W => pairs_any l[k].val W (by omega))
      have H2 := hide (fun W => pairs_any l[k].fname W (by omega))
      clear hc EA HV HL sz s0 s1 s2
      generalize plE l[k] = pe at *
      generalize l[k].name = t0 at *
      generalize l[k].val = t1 at *
      generalize l[k].fname = t2 at *
      generalize l[k].typ = t3 at *
      generalize l[k].file = fb at *
      cases fb with
      | true =>
        rw [if_pos (by decide)] at EP
        clear H1
        have AL0 : Hid (Below wr.heap.size wr (wr.alloc (.cells #[.string t0, .string t1, .bool true, .string t2, .string t3] 31))) := (Below.refl _ wr).alloc (Nat.le_refl _) _
        have BW0 := hide (chain BW.out AL0.out)
        have OW0 := hide (OW.out.below AL0.out)
        clear AL0 BW OW
        go_wp2_with fail
        refine (H0.out _).mono ?_
        rintro e w1 ⟨rfl, b1⟩
        have B1 := hide (chain BW0.out b1)
        have O1 := hide (OW0.out.below b1)
        clear b1 a0 a1 a2 a3 a4 BW0 OW0
        go_wp2_with fail
        refine (H2.out _).mono ?_
        rintro e w2 ⟨rfl, b2⟩
        have B2 := hide (chain B1.out b2)
        have O2 := hide (O1.out.below b2)
        clear b2 B1 O1 H0 H2
        generalize pairsS t0 = u0 at *
        generalize pairsS t2 = u1 at *
        have F1 := hide (files_one w2 ⟨u0, u1, false, ⟨#[]⟩, ⟨#[]⟩⟩)
        have AL : Hid (Below w2.heap.size w2 (w2.alloc (.cells #[.string u0, .string u1, .bool false, .string ⟨#[]⟩, .string ⟨#[]⟩] 31))) := (Below.refl _ w2).alloc (Nat.le_refl _) _
        have B3 := hide (chain B2.out AL.out)
        have O3 := hide (O2.out.below AL.out)
        have SZ := hide (Nat.le_trans B2.out.size AL.out.size)
        clear AL B2 O2
        go_wp2_with (at_builtin; refine wpList_append_en rfl _ _ rfl w.heap.size _ (plainU (l.take k)) rfl O3.out _ [⟨u0, u1, false, ⟨#[]⟩, ⟨#[]⟩⟩] rfl F1.out (by rw [PL.out]; show (k + 1) * 72 ≤ _; omega) SZ.out ?_; intro q8 c8 w8 o8 b8)
        have O8 : Hid (OwnR w.heap.size w8 (.slice q8 (k + 1) c8) (plainU (l.take (k + 1)))) := by
          show OwnR _ _ _ _
          rw [TK.out, EP.out]
          have := o8
          rw [PL.out] at this
          exact this
        have B8 := hide (B3.out.trans b8)
        clear o8 b8 F1 O3 B3 SZ TK EP
        rw [PL.out]
        clear PL
        go_roundw
        case rel => exact ⟨k + 1, q8, c8, by omega, by go_num, rfl, O8, B8⟩
        case measure => simp [intOf]; omega
      | false =>
        rw [if_neg (by decide)] at EP
        clear H2
        have AL0 : Hid (Below wr.heap.size wr (wr.alloc (.cells #[.string t0, .string t1, .bool false, .string t2, .string t3] 31))) := (Below.refl _ wr).alloc (Nat.le_refl _) _
        have BW0 := hide (chain BW.out AL0.out)
        have OW0 := hide (OW.out.below AL0.out)
        clear AL0 BW OW
        go_wp2_with fail
        refine (H0.out _).mono ?_
        rintro e w1 ⟨rfl, b1⟩
        have B1 := hide (chain BW0.out b1)
        have O1 := hide (OW0.out.below b1)
        clear b1 a0 a1 a2 a3 a4 BW0 OW0
        go_wp2_with fail
        refine (H1.out _).mono ?_
        rintro e w2 ⟨rfl, b2⟩
        have B2 := hide (chain B1.out b2)
        have O2 := hide (O1.out.below b2)
        clear b2 B1 O1 H0 H1
        generalize pairsS t0 = u0 at *
        generalize pairsS t1 = u1 at *
        have F1 := hide (files_one w2 ⟨u0, u1, false, ⟨#[]⟩, ⟨#[]⟩⟩)
        have AL : Hid (Below w2.heap.size w2 (w2.alloc (.cells #[.string u0, .string u1, .bool false, .string ⟨#[]⟩, .string ⟨#[]⟩] 31))) := (Below.refl _ w2).alloc (Nat.le_refl _) _
        have B3 := hide (chain B2.out AL.out)
        have O3 := hide (O2.out.below AL.out)
        have SZ := hide (Nat.le_trans B2.out.size AL.out.size)
        clear AL B2 O2
        go_wp2_with (at_builtin; refine wpList_append_en rfl _ _ rfl w.heap.size _ (plainU (l.take k)) rfl O3.out _ [⟨u0, u1, false, ⟨#[]⟩, ⟨#[]⟩⟩] rfl F1.out (by rw [PL.out]; show (k + 1) * 72 ≤ _; omega) SZ.out ?_; intro q8 c8 w8 o8 b8)
        have O8 : Hid (OwnR w.heap.size w8 (.slice q8 (k + 1) c8) (plainU (l.take (k + 1)))) := by
          show OwnR _ _ _ _
          rw [TK.out, EP.out]
          have := o8
          rw [PL.out] at this
          exact this
        have B8 := hide (B3.out.trans b8)
        clear o8 b8 F1 O3 B3 SZ TK EP
        rw [PL.out]
        clear PL
        go_roundw
        case rel => exact ⟨k + 1, q8, c8, by omega, by go_num, rfl, O8, B8⟩
        case measure => simp [intOf]; omega
    · obtain rfl : k = l.length := by omega
      rw [List.take_length] at OW
      clear HV HL
      go_wp2_with fail
      go_ret
      exact ⟨_, rfl, OW.out, BW.out⟩
end Go.Proofs.YtfedeiipinamjaaDoor

namespace Go.Proofs.YtfedeiipinamjaaDoor
open Go.RowKit
set_option maxRecDepth 100000
/-- What is told of the first k entries. -/
def encT (p : List En) (k : Nat) : List UInt8 := joinL 38 ((p.take k).map encE)
theorem encT_first {p : List En} (h : 0 < p.length) : encT p 1 = (([] ++ formL p[0].name.data.toList) ++ [(61 : UInt8)]) ++ formL p[0].val.data.toList := by
  unfold encT
  rw [List.take_succ_eq_append_getElem h]
  show encE p[0] = _
  unfold encE
  simp
theorem encT_next {p : List En} {k : Nat} (h : k < p.length) (h0 : 0 < k) : encT p (k + 1) = (((encT p k ++ [(38 : UInt8)]) ++ formL p[k].name.data.toList) ++ [(61 : UInt8)]) ++ formL p[k].val.data.toList := by
  unfold encT
  rw [List.take_succ_eq_append_getElem h, List.map_append]
  show joinL 38 (_ ++ [encE p[k]]) = _
  rw [join_snoc _ _ _ (by
    intro t
    have := congrArg List.length t
    rw [List.length_map, List.length_take, List.length_nil] at this
    omega)]
  unfold encE
  simp
theorem encT_len {p : List En} {m : Nat} (hp : ∀ e ∈ p, e.name.size ≤ m ∧ e.val.size ≤ m) (hl : p.length ≤ 200) (k : Nat) : (encT p k).length ≤ 200 * (6 * m + 1) + 200 := by
  unfold encT
  refine Nat.le_trans (join_len _ _) ?_
  have h1 : (((p.take k).map encE).map List.length).sum ≤ (p.take k).length * (6 * m + 1) := by
    rw [List.map_map]
    refine sum_le _ _ _ (fun e he => ?_)
    have q := encE_len e
    have := hp e (List.mem_of_mem_take he)
    show (encE e).length ≤ _
    omega
  have h2 : ((p.take k).map encE).length = (p.take k).length := by simp
  have h3 : (p.take k).length ≤ 200 := by rw [List.length_take]; omega
  have h4 : (p.take k).length * (6 * m + 1) ≤ 200 * (6 * m + 1) := Nat.mul_le_mul_right _ h3
  omega
theorem formS_len (s : ByteArray) : (formS s).size ≤ 3 * s.size := by
  have := formL_len s.data.toList
  have e : (formS s).size = (formL s.data.toList).length := rfl
  rw [e]
  simpa using this
theorem plain_sizes {l : List En} {n : Nat} (h : EnsOK n l) : ∀ e ∈ plainU l, e.name.size ≤ 2 * n ∧ e.val.size ≤ 2 * n := by
  intro e he
  obtain ⟨x, hx, rfl⟩ := List.mem_map.1 he
  exact pl_size (h.ent x hx)
end Go.Proofs.YtfedeiipinamjaaDoor

namespace Go.Proofs.YtfedeiipinamjaaDoor
open Go.Shelf Go.RowKit
def iren : Go.Shelf.Ren := ⟨fun | 137 => 51 | 217 => 57 | 266 => 66 | n => n, fun | 3 => 3 | 5 => 5 | 9 => 9 | 72 => 36 | n => n, fun  | n => n⟩
theorem lays137 : Go.Proofs.Lays.n137 Tryd.prog iren := {
  mixed := by kernel_rfl
  f137 := Tryd.func51.trans (congrArg some (by kernel_rfl))
  f217 := Tryd.func57.trans (congrArg some (by kernel_rfl))
  f266 := Tryd.func66.trans (congrArg some (by kernel_rfl))
  t3 := Tryd.underlying3
  a3 := Tryd.isAgg3
  z3 := Tryd.sizeOf3
  v3 := Tryd.zeroValue3
  t5 := Tryd.underlying5
  a5 := Tryd.isAgg5
  z5 := Tryd.sizeOf5
  v5 := Tryd.zeroValue5
  t9 := Tryd.underlying9
  a9 := Tryd.isAgg9
  z9 := Tryd.sizeOf9
  v9 := Tryd.zeroValue9 }
/-- The program's table of signs. -/
def Signs (w : World) : Prop := ∀ k, k < 7 → w.cell? ⟨0, k, none⟩ = some (.string (txt (signsOf k)))
theorem Signs.below {w w' : World} (h : Signs w) (hb : Below w.heap.size w w') : Signs w' := by
  intro k hk
  have := h k hk
  exact (hb.cell (World.block_lt_of_cell? _ _ this)).trans this
theorem index_mem (c : UInt8) : ∀ l : List UInt8, 0 ≤ Lib.indexByte l c ↔ l.contains c = true
  | [] => by simp [Lib.indexByte]
  | b :: l => by
    have ih := index_mem c l
    have ge := Lib.indexByte_ge l c
    unfold Lib.indexByte
    by_cases h : b = c
    · subst h; simp
    · have h1 : (b == c) = false := by simpa using h
      have h2 : (c == b) = false := by simpa using fun e => h e.symm
      rw [h1, List.contains_cons, h2, Bool.false_or]
      by_cases g : Lib.indexByte l c = -1
      · rw [g] at ih ⊢; simp at ih ⊢; exact ih
      · have g1 : (Lib.indexByte l c == -1) = false := by simpa using g
        rw [g1, ← ih]; simp; omega
theorem index_in (c : UInt8) (l : List UInt8) : decide (0 ≤ Lib.indexByte l c) = hasB l c := by
  unfold hasB
  have := index_mem c l
  cases h : l.contains c with
  | true => rw [h] at this; exact decide_eq_true (this.2 rfl)
  | false => rw [h] at this; exact decide_eq_false (fun x => by have := this.1 x; cases this)
theorem indexByte_any (s : ByteArray) (c : UInt8) (w : World) :
    Calls Tryd.prog 51 #[.string s, .int .u8 (c.toNat : Int)] w fun e w' => e = .returned (.int .i64 (Lib.indexByte s.data.toList c)) ∧ w' = w := by
  have := Any.strings_IndexByte lays137 s (c.toNat : Int) w
  have e : ((c.toNat : Int)).toNat.toUInt8 = c := by simp
  rw [e] at this; exact this
set_option maxHeartbeats 400000 in
theorem isSet_any (a : Int) (w : World) :
    Calls Tryd.prog 40 #[.int .i64 a] w fun e w' => e = .returned (.bool (decide (0 ≤ a ∧ a ≤ 7))) ∧ w' = w := by
  by_cases h0 : 0 ≤ a
  · by_cases h7 : a ≤ 7
    · rw [decide_eq_true ⟨h0, h7⟩]
      go_enter Tryd.func40, Tryd.ntmps40
      go_wp2
      go_ret
      exact ⟨rfl, rfl⟩
    · rw [decide_eq_false (fun h => h7 h.2)]
      go_enter Tryd.func40, Tryd.ntmps40
      go_wp2
      go_ret
      exact ⟨rfl, rfl⟩
  · rw [decide_eq_false (fun h => h0 h.1)]
    go_enter Tryd.func40, Tryd.ntmps40
    go_wp2
    go_ret
    exact ⟨rfl, rfl⟩
theorem stays_low {c : UInt8} (h : 97 ≤ c.toNat ∧ c.toNat ≤ 122) : stays c = true := by
  unfold stays plainB; rw [decide_eq_true (.inr (.inr h))]; rfl
theorem stays_up {c : UInt8} (h : 65 ≤ c.toNat ∧ c.toNat ≤ 90) : stays c = true := by
  unfold stays plainB; rw [decide_eq_true (.inr (.inl h))]; rfl
theorem stays_dig {c : UInt8} (h : 48 ≤ c.toNat ∧ c.toNat ≤ 57) : stays c = true := by
  unfold stays plainB; rw [decide_eq_true (.inl h)]; rfl
theorem stays_else {c : UInt8} (h : ¬ (48 ≤ c.toNat ∧ c.toNat ≤ 57 ∨ 65 ≤ c.toNat ∧ c.toNat ≤ 90 ∨ 97 ≤ c.toNat ∧ c.toNat ≤ 122)) : stays c = hasB formSg c := by
  unfold stays plainB; rw [decide_eq_false h]; rfl
set_option maxHeartbeats 400000 in
theorem staysInForm_any (c : UInt8) (w : World) :
    Calls Tryd.prog 50 #[.int .u8 (c.toNat : Int)] w fun e w' => e = .returned (.bool (stays c)) ∧ w' = w := by
  have hI := indexByte_any ⟨#[42, 45, 46, 95]⟩ c w
  have HI := hide hI
  clear hI
  by_cases h1 : 97 ≤ c.toNat ∧ c.toNat ≤ 122
  · obtain ⟨h1a, h1b⟩ := h1
    rw [stays_low ⟨h1a, h1b⟩]
    go_enter Tryd.func50, Tryd.ntmps50
    go_wp2
    go_ret
    exact ⟨rfl, rfl⟩
  · by_cases h2 : 65 ≤ c.toNat ∧ c.toNat ≤ 90
    · obtain ⟨h2a, h2b⟩ := h2
      rw [stays_up ⟨h2a, h2b⟩]
      clear h1
      go_enter Tryd.func50, Tryd.ntmps50
      go_wp2
      go_ret
      exact ⟨rfl, rfl⟩
    · by_cases h3 : 48 ≤ c.toNat ∧ c.toNat ≤ 57
      · obtain ⟨h3a, h3b⟩ := h3
        rw [stays_dig ⟨h3a, h3b⟩]
        clear h1 h2
        go_enter Tryd.func50, Tryd.ntmps50
        go_wp2
        go_ret
        exact ⟨rfl, rfl⟩
      · rw [stays_else (by omega), show hasB formSg c = decide (0 ≤ Lib.indexByte (⟨#[42, 45, 46, 95]⟩ : ByteArray).data.toList c) from (index_in c _).symm]
        go_enter Tryd.func50, Tryd.ntmps50
        go_wp2_with fail
        all_goals first
          | (exfalso; omega)
          | (refine HI.out.mono ?_; rintro e w1 ⟨rfl, rfl⟩; go_wp2_with fail; go_ret; exact ⟨rfl, rfl⟩)
end Go.Proofs.YtfedeiipinamjaaDoor

namespace Go.Proofs.YtfedeiipinamjaaDoor
open Go.Shelf Go.RowKit
set_option maxHeartbeats 400000 in
theorem escapes_any (set : Int) (c : UInt8) (w : World) (hT : Signs w) :
    Calls Tryd.prog 41 #[.int .i64 set, .int .u8 (c.toNat : Int)] w fun e w' => e = .returned (.bool (escB set c)) ∧ w' = w := by
  have hS := fun w => isSet_any set w
  by_cases hs : 0 ≤ set ∧ set ≤ 7
  · rw [decide_eq_true hs] at hS
    have HS := hide hS
    clear hS
    by_cases hc : c.toNat < 32 ∨ 126 < c.toNat
    · rw [escB_ctl hs hc]
      rcases hc with hc | hc
      · go_enter Tryd.func41, Tryd.ntmps41
        go_wp2_with fail
        refine (HS.out _).mono ?_
        rintro e w1 ⟨rfl, rfl⟩
        go_wp2_with fail
        go_ret
        exact ⟨rfl, rfl⟩
      · go_enter Tryd.func41, Tryd.ntmps41
        go_wp2_with fail
        refine (HS.out _).mono ?_
        rintro e w1 ⟨rfl, rfl⟩
        go_wp2_with fail
        all_goals first
          | (exfalso; omega)
          | (go_ret; exact ⟨rfl, rfl⟩)
    · have hc1 : 32 ≤ c.toNat := by omega
      have hc2 : c.toNat ≤ 126 := by omega
      by_cases h7 : set = 7
      · subst h7
        have HE := hide (escB_form hc)
        clear hc
        go_enter Tryd.func41, Tryd.ntmps41
        go_wp2_with fail
        refine (HS.out _).mono ?_
        rintro e w1 ⟨rfl, rfl⟩
        go_wp2_with fail
        all_goals first
          | (exfalso; omega)
          | (refine (staysInForm_any c _).mono ?_; rintro e w1 ⟨rfl, rfl⟩; go_wp2_with fail; go_ret; exact ⟨ret_bool HE.out.symm, rfl⟩)
      · obtain ⟨k, rfl⟩ : ∃ k : Nat, set = k := ⟨set.toNat, by omega⟩
        have hk : k < 7 := by omega
        have hcell := hT k hk
        have HE := hide (escB_sign (set := (k : Int)) (c := c) (by omega) hc)
        have HI := hide (fun w => indexByte_any (txt (signsOf k)) c w)
        have q7 : ((k : Int) == 7) = false := by simp; omega
        clear hc h7 hs hT
        go_enter Tryd.func41, Tryd.ntmps41
        go_wp2_with fail
        refine (HS.out _).mono ?_
        rintro e w1 ⟨rfl, rfl⟩
        go_wp2_with fail
        all_goals first
          | (exfalso; omega)
          | (refine (HI.out _).mono ?_; rintro e w1 ⟨rfl, rfl⟩; go_wp2_with fail; go_ret; exact ⟨ret_bool ((index_in c _).trans HE.out.symm), rfl⟩)
  · rw [decide_eq_false hs] at hS
    have HS := hide hS
    rw [escB_no c hs]
    clear hS hs
    go_enter Tryd.func41, Tryd.ntmps41
    go_wp2_with fail
    refine (HS.out _).mono ?_
    rintro e w1 ⟨rfl, rfl⟩
    go_wp2_with fail
    go_ret
    exact ⟨rfl, rfl⟩
end Go.Proofs.YtfedeiipinamjaaDoor

namespace Go.Proofs.YtfedeiipinamjaaDoor
open Go.RowKit
theorem tab_text {P : Program} {w : World} {name : String} {g : Nat} {t e : TypeId} {n : Nat} {ts : List (List UInt8)} (hg : P.globalNamed name = some g) (hty : (P.globals[g]?).map (·.type) = some t)
    (ht : P.underlying t = some (.array n e)) (he : P.underlying e = some .string) (hce : P.cellsOf e = 1) (h : Lib.VarReads P w name (.agg (ts.map fun l => .lit (.string l)))) (k : Nat) (hk : k < n) :
    w.cell? ⟨g, k, none⟩ = some (.string (txt (ts.getD k []))) := by
  obtain ⟨g', t', cs, fuel, p, hg', hty', hvar, hd⟩ := h
  obtain rfl := Option.some.inj (hg.symm.trans hg')
  obtain rfl := Option.some.inj (hty.symm.trans hty')
  obtain ⟨fuel', d, q, hdi, hx⟩ := Lib.array_elem ht hd k hk
  rw [hce] at hx
  obtain ⟨s, hcs, hd', _⟩ := DataW.trod_string he hx
  have e1 : cs[k]? = some (.string s) := by
    have := congrArg (·[0]?) hcs
    simpa [List.getElem?_take, List.getElem?_drop] using this
  have e2 : ts[k]? = some s.data.toList := by
    have e3 : d = .lit (.string s.data.toList) := congrArg Prod.fst hd'
    rw [e3] at hdi
    simp only [List.getElem?_map, Option.map_eq_some_iff, DataW.lit.injEq, Lit.string.injEq] at hdi
    obtain ⟨l, h1, rfl⟩ := hdi
    exact h1
  rw [World.var?_cell hg hvar k, e1, List.getD, e2]
  rfl
theorem tab_int {P : Program} {w : World} {name : String} {g : Nat} {t e : TypeId} {n : Nat} {zs : List Int} {kd : IntKind} (hg : P.globalNamed name = some g) (hty : (P.globals[g]?).map (·.type) = some t)
    (ht : P.underlying t = some (.array n e)) (he : P.underlying e = some (.int kd)) (hce : P.cellsOf e = 1) (h : Lib.VarReads P w name (.agg (zs.map fun z => .lit (.int kd z)))) (k : Nat) (hk : k < n) :
    w.cell? ⟨g, k, none⟩ = some (.int kd (zs.getD k 0)) := by
  obtain ⟨g', t', cs, fuel, p, hg', hty', hvar, hd⟩ := h
  obtain rfl := Option.some.inj (hg.symm.trans hg')
  obtain rfl := Option.some.inj (hty.symm.trans hty')
  obtain ⟨fuel', d, q, hdi, hx⟩ := Lib.array_elem ht hd k hk
  rw [hce] at hx
  obtain ⟨z, hcs, hd', _⟩ := DataW.trod_int he hx
  have e1 : cs[k]? = some (.int kd z) := by
    have := congrArg (·[0]?) hcs
    simpa [List.getElem?_take, List.getElem?_drop] using this
  have e2 : zs[k]? = some z := by
    have e3 : d = .lit (.int kd z) := congrArg Prod.fst hd'
    rw [e3] at hdi
    simp only [List.getElem?_map, Option.map_eq_some_iff, DataW.lit.injEq, Lit.int.injEq, true_and] at hdi
    obtain ⟨l, h1, rfl⟩ := hdi
    exact h1
  rw [World.var?_cell hg hvar k, e1, List.getD, e2]
  rfl
/-- The program's table of digits. -/
def Digs (w : World) : Prop := ∀ k, k < 16 → w.cell? ⟨1, k, none⟩ = some (.int .u8 ((hexD k).toNat : Int))
theorem Digs.below {w w' : World} (h : Digs w) (hb : Below w.heap.size w w') : Digs w' := by
  intro k hk
  have := h k hk
  exact (hb.cell (World.block_lt_of_cell? _ _ this)).trans this
theorem Digs.under {B : Nat} {w w' : World} (h : Digs w) (hb : Below B w w') (hB : 1 < B) : Digs w' := by
  intro k hk
  exact (hb.cell hB).trans (h k hk)
theorem signs_eq : (Rows.laid_counterfoil_escape_signs : DataW Unit) = .agg ([signsOf 0, signsOf 1, signsOf 2, signsOf 3, signsOf 4, signsOf 5, signsOf 6].map fun l => .lit (.string l)) := by kernel_rfl
theorem digs_eq : (Rows.laid_counterfoil_escape_digits : DataW Unit) = .agg (((List.range 16).map fun k => ((hexD k).toNat : Int)).map fun z => .lit (.int .u8 z)) := by kernel_rfl
theorem signs_of {w : World} (h : Lib.VarReads Tryd.prog w "counterfoil/escape.signs" Rows.laid_counterfoil_escape_signs) : Signs w := by
  intro k hk
  rw [signs_eq] at h
  have := tab_text (P := Tryd.prog) (g := 0) (by kernel_rfl) (by kernel_rfl) Tryd.underlying70 Tryd.underlying9 (by kernel_rfl) h k hk
  rw [this]
  match k, hk with
  | 0, _ => rfl
  | 1, _ => rfl
  | 2, _ => rfl
  | 3, _ => rfl
  | 4, _ => rfl
  | 5, _ => rfl
  | 6, _ => rfl
theorem digs_of {w : World} (h : Lib.VarReads Tryd.prog w "counterfoil/escape.digits" Rows.laid_counterfoil_escape_digits) : Digs w := by
  intro k hk
  rw [digs_eq] at h
  have := tab_int (P := Tryd.prog) (g := 1) (by kernel_rfl) (by kernel_rfl) Tryd.underlying71 Tryd.underlying5 (by kernel_rfl) h k hk
  rw [this]
  simp [List.getD, hk]
end Go.Proofs.YtfedeiipinamjaaDoor

namespace Go.Proofs.YtfedeiipinamjaaDoor
open Go.RowKit
set_option maxHeartbeats 400000 in
theorem writeEscape_any (B b : Nat) (l : List UInt8) (c : UInt8) (w : World) (h : HoldsB B b l w) (hlen : l.length + 3 ≤ 140737488355328) (hBw : B ≤ w.heap.size) (hT : Digs w) (hB : 1 < B) :
    Calls Tryd.prog 42 #[.pointer (some ⟨b, 0, none⟩), .int .u8 (c.toNat : Int)] w fun e w' => e = .returned (.tuple #[]) ∧ HoldsB B b (l ++ [37, hexD (c.toNat / 16), hexD (c.toNat % 16)]) w' ∧ Below B w w' := by
  have hc := c.toNat_lt
  have HT := hide hT
  clear hT
  go_enter Tryd.func42, Tryd.ntmps42
  go_wp2_with fail
  refine (writeByte B b l 37 w h (by omega) hBw).mono ?_
  rintro e w1 ⟨rfl, h1, b1⟩
  have d1 := (HT.out.under b1 hB) (c.toNat / 16) (by omega)
  go_wp2_with fail
  refine (writeByte B b _ (hexD (c.toNat / 16)) w1 h1 (by simp; omega) (by have := b1.size; omega)).mono ?_
  rintro e w2 ⟨rfl, h2, b2⟩
  have d2 := (HT.out.under (b1.trans b2) hB) (c.toNat % 16) (by omega)
  clear d1
  go_wp2_with fail
  refine (writeByte B b _ (hexD (c.toNat % 16)) w2 h2 (by simp; omega) (by have := b1.size; have := b2.size; omega)).mono ?_
  rintro e w3 ⟨rfl, h3, b3⟩
  go_wp2_with fail
  go_end0
  refine ⟨rfl, ?_, (b1.trans b2).trans b3⟩
  have e1 : l ++ [37] ++ [hexD (c.toNat / 16)] ++ [hexD (c.toNat % 16)] = l ++ [37, hexD (c.toNat / 16), hexD (c.toNat % 16)] := by simp
  rw [← e1]; exact h3
theorem encL_take (set : Int) (s : ByteArray) (k : Nat) (h : k < s.size) : encL set (s.data.toList.take (k + 1)) = encL set (s.data.toList.take k) ++ encB set s[k] := by
  rw [byteAt_take s k h, encL_append, ← byteAt_eq s k h]
  show _ ++ (encB set s[k] ++ []) = _
  rw [List.append_nil]
theorem encL_take_len (set : Int) (s : ByteArray) (k : Nat) : (encL set (s.data.toList.take k)).length ≤ 3 * k := by
  have := encL_len set (s.data.toList.take k)
  have := List.length_take_le k s.data.toList
  omega
set_option maxHeartbeats 400000 in
theorem encode_any (s : ByteArray) (set : Int) (w : World) (hset : 0 ≤ set ∧ set ≤ 7) (hs : s.size ≤ 1099511627776) (hS : Signs w) (hD : Digs w) :
    Calls Tryd.prog 31 #[.string s, .int .i64 set] w fun r w' => r = .returned (.tuple #[.string (encS set s), .int .i64 0]) ∧ Below w.heap.size w w' := by
  have hB : 1 < w.heap.size := World.block_lt_of_cell? _ _ (hD 0 (by decide))
  have hI := fun w => isSet_any set w
  rw [decide_eq_true hset] at hI
  have HI := hide hI
  have HS := hide hS
  have HD := hide hD
  clear hI hS hD
  go_enter Tryd.func31, Tryd.ntmps31
  go_wp2_with fail
  refine (HI.out _).mono ?_
  rintro e w0 ⟨rfl, hw⟩
  obtain rfl : w = w0 := hw.symm
  clear hw
  go_wp2_with fail
  refine (grow_fresh s.size w (by omega)).mono ?_
  rintro r w1 ⟨rfl, h1, b1⟩
  go_wp2_with fail
  go_loopw [16] (fun i wr => ∃ k : Nat, k ≤ s.size ∧ i = .int .i64 k ∧ HoldsB w.heap.size w.heap.size (encL set (s.data.toList.take k)) wr ∧ Below w.heap.size w wr) (fun i _ => s.size - (intOf i).toNat)
  case atStart => exact ⟨0, Nat.zero_le _, rfl, h1, b1⟩
  case round =>
    obtain ⟨k, hk, rfl, hh, hb⟩ := hrel
    by_cases hlt : k < s.size
    · have hle := encL_take_len set s k
      have HT := hide (encL_take set s k hlt)
      have hsz := hb.size
      have hE := escapes_any set s[k] wr (HS.out.below hb)
      cases g : escB set s[k] with
      | true =>
        rw [g] at hE
        have HE := hide hE
        have HG := hide (encB_yes g)
        clear hE g
        go_wp2_with fail
        refine HE.out.mono ?_
        rintro e w0 ⟨rfl, hw⟩
        obtain rfl : wr = w0 := hw.symm
        clear hw
        go_wp2_with fail
        refine (writeEscape_any _ _ _ s[k] _ hh (by omega) hb.size (HD.out.below hb) hB).mono ?_
        rintro r w2 ⟨rfl, h2, b2⟩
        go_wp2_with fail
        go_roundw
        case rel => exact ⟨k + 1, by omega, by go_num, by rw [HT.out, HG.out]; exact h2, hb.trans b2⟩
        case measure => simp [intOf]; omega
      | false =>
        rw [g] at hE
        have HE := hide hE
        have HG := hide (encB_not g)
        clear hE g
        go_wp2_with fail
        refine HE.out.mono ?_
        rintro e w0 ⟨rfl, hw⟩
        obtain rfl : wr = w0 := hw.symm
        clear hw
        go_wp2_with fail
        refine (writeByte _ _ _ s[k] _ hh (by omega) hb.size).mono ?_
        rintro r w2 ⟨rfl, h2, b2⟩
        go_wp2_with fail
        go_roundw
        case rel => exact ⟨k + 1, by omega, by go_num, by rw [HT.out, HG.out]; exact h2, hb.trans b2⟩
        case measure => simp [intOf]; omega
    · have e : k = s.size := by omega
      subst e
      rw [take_all] at hh
      go_wp2_with fail
      refine (builderText _ _ _ _ hh hb.size).mono ?_
      rintro r w2 ⟨rfl, b2⟩
      go_wp2_with fail
      go_ret2
      exact ⟨rfl, hb.trans b2⟩
end Go.Proofs.YtfedeiipinamjaaDoor

namespace Go.Proofs.YtfedeiipinamjaaDoor
open Go.Shelf Go.RowKit
def rren : Go.Shelf.Ren := ⟨fun | 138 => 52 | 143 => 53 | 154 => 43 | 155 => 32 | 165 => 38 | 166 => 20 | 169 => 22 | 195 => 63 | 197 => 54 | 217 => 57 | 218 => 64 | 219 => 46 | 224 => 59 | 225 => 58 | 240 => 30 | 241 => 49 | 260 => 65 | 266 => 66 | 267 => 60 | 276 => 39 | 277 => 62 | 314 => 67 | n => n, fun | 0 => 0 | 3 => 3 | 4 => 4 | 5 => 5 | 9 => 9 | 20 => 20 | 21 => 21 | 37 => 34 | 46 => 72 | 51 => 80 | 70 => 33 | 72 => 36 | 75 => 38 | 76 => 40 | 80 => 42 | 105 => 73 | 119 => 83 | 127 => 52 | 138 => 85 | 139 => 86 | 146 => 81 | 164 => 57 | n => n, fun | 1 => 2 | 3 => 3 | 4 => 4 | n => n⟩
theorem lays155 : Go.Proofs.Lays.n155 Tryd.prog rren := {
  mixed := by kernel_rfl
  f138 := Tryd.func52.trans (congrArg some (by kernel_rfl))
  f143 := Tryd.func53.trans (congrArg some (by kernel_rfl))
  f154 := Tryd.func43.trans (congrArg some (by kernel_rfl))
  f155 := Tryd.func32.trans (congrArg some (by kernel_rfl))
  f165 := Tryd.func38.trans (congrArg some (by kernel_rfl))
  f166 := Tryd.func20.trans (congrArg some (by kernel_rfl))
  f169 := Tryd.func22.trans (congrArg some (by kernel_rfl))
  f195 := Tryd.func63.trans (congrArg some (by kernel_rfl))
  f197 := Tryd.func54.trans (congrArg some (by kernel_rfl))
  f217 := Tryd.func57.trans (congrArg some (by kernel_rfl))
  f218 := Tryd.func64.trans (congrArg some (by kernel_rfl))
  f219 := Tryd.func46.trans (congrArg some (by kernel_rfl))
  f224 := Tryd.func59.trans (congrArg some (by kernel_rfl))
  f225 := Tryd.func58.trans (congrArg some (by kernel_rfl))
  f240 := Tryd.func30.trans (congrArg some (by kernel_rfl))
  f241 := Tryd.func49.trans (congrArg some (by kernel_rfl))
  f260 := Tryd.func65.trans (congrArg some (by kernel_rfl))
  f266 := Tryd.func66.trans (congrArg some (by kernel_rfl))
  f267 := Tryd.func60.trans (congrArg some (by kernel_rfl))
  f276 := Tryd.func39.trans (congrArg some (by kernel_rfl))
  f277 := Tryd.func62.trans (congrArg some (by kernel_rfl))
  f314 := Tryd.func67.trans (congrArg some (by kernel_rfl))
  t0 := Tryd.underlying0
  a0 := Tryd.isAgg0
  z0 := Tryd.sizeOf0
  v0 := Tryd.zeroValue0
  t3 := Tryd.underlying3
  a3 := Tryd.isAgg3
  z3 := Tryd.sizeOf3
  v3 := Tryd.zeroValue3
  t4 := Tryd.underlying4
  a4 := Tryd.isAgg4
  z4 := Tryd.sizeOf4
  v4 := Tryd.zeroValue4
  t5 := Tryd.underlying5
  a5 := Tryd.isAgg5
  z5 := Tryd.sizeOf5
  v5 := Tryd.zeroValue5
  t9 := Tryd.underlying9
  a9 := Tryd.isAgg9
  z9 := Tryd.sizeOf9
  v9 := Tryd.zeroValue9
  t20 := Tryd.underlying20
  a20 := Tryd.isAgg20
  z20 := Tryd.sizeOf20
  v20 := Tryd.zeroValue20
  t21 := Tryd.underlying21
  a21 := Tryd.isAgg21
  z21 := Tryd.sizeOf21
  v21 := Tryd.zeroValue21
  t37 := Tryd.underlying34
  a37 := Tryd.isAgg34
  z37 := Tryd.sizeOf34
  v37 := Tryd.zeroValue34
  t46 := Tryd.underlying72
  a46 := Tryd.isAgg72
  z46 := Tryd.sizeOf72
  v46 := Tryd.zeroValue72
  t51 := Tryd.underlying80
  a51 := Tryd.isAgg80
  z51 := Tryd.sizeOf80
  v51 := Tryd.zeroValue80
  t70 := Tryd.underlying33
  a70 := Tryd.isAgg33
  z70 := Tryd.sizeOf33
  v70 := Tryd.zeroValue33
  t72 := Tryd.underlying36
  a72 := Tryd.isAgg36
  z72 := Tryd.sizeOf36
  v72 := Tryd.zeroValue36
  t75 := Tryd.underlying38
  a75 := Tryd.isAgg38
  z75 := Tryd.sizeOf38
  v75 := Tryd.zeroValue38
  t76 := Tryd.underlying40
  a76 := Tryd.isAgg40
  z76 := Tryd.sizeOf40
  v76 := Tryd.zeroValue40
  t105 := Tryd.underlying73
  a105 := Tryd.isAgg73
  z105 := Tryd.sizeOf73
  v105 := Tryd.zeroValue73
  t119 := Tryd.underlying83
  a119 := Tryd.isAgg83
  z119 := Tryd.sizeOf83
  t127 := Tryd.underlying52
  a127 := Tryd.isAgg52
  z127 := Tryd.sizeOf52
  v127 := Tryd.zeroValue52
  t138 := Tryd.underlying85
  a138 := Tryd.isAgg85
  z138 := Tryd.sizeOf85
  v138 := Tryd.zeroValue85
  t139 := Tryd.underlying86
  a139 := Tryd.isAgg86
  z139 := Tryd.sizeOf86
  v139 := Tryd.zeroValue86
  t146 := Tryd.underlying81
  a146 := Tryd.isAgg81
  z146 := Tryd.sizeOf81
  v146 := Tryd.zeroValue81
  t164 := Tryd.underlying57
  a164 := Tryd.isAgg57
  z164 := Tryd.sizeOf57
  v164 := Tryd.zeroValue57
  g1 := by kernel_rfl
  g3 := by kernel_rfl
  g4 := by kernel_rfl }
theorem extraRep : Builder.Extra Tryd.prog rren := {
  sizeBuilder := by kernel_rfl
  liesBuilder := by kernel_rfl
  t5 := Tryd.underlying5
  a5 := Tryd.isAgg5
  z5 := Tryd.sizeOf5
  v5 := Tryd.zeroValue5
  infoByte := by kernel_rfl
  cellsByte := by kernel_rfl
  sizeByte := by kernel_rfl
  neB5 := by decide }
/-- The library's variable MaxLen holds some number. -/
def SomeMax (w : World) : Prop := ∃ m, w.cell? ⟨2, 0, none⟩ = some (.int .i64 m)
theorem SomeMax.below {w w' : World} (h : SomeMax w) (hb : Below w.heap.size w w') : SomeMax w' := by
  obtain ⟨m, hm⟩ := h
  exact ⟨m, (hb.cell (World.block_lt_of_cell? _ _ hm)).trans hm⟩
theorem replaceAll_any (s old new : ByteArray) (w : World) (hs : s.size ≤ 1073741824) (hm : SomeMax w) (h1 : 1 ≤ old.size) (h2 : new.size = 1) (hne : old.data.toList ≠ new.data.toList) :
    Calls Tryd.prog 32 #[.string s, .string old, .string new] w fun e w' => e = .returned (.string (txt (repA old.data.toList new.data.toList s.data.toList))) ∧ Below w.heap.size w w' := by
  obtain ⟨m, hm⟩ := hm
  have hc := Lib.countB_mul_le old h1 s.size s (Nat.le_refl _)
  have hc2 : Lib.countB s old * new.size ≤ s.size := by
    rw [h2]
    exact Nat.le_trans (Nat.mul_le_mul_left _ h1) hc
  have := Any.strings_ReplaceAll lays155 extraRep s old new m w (by omega) hm h1 (by omega)
  rw [repA_all hne] at this
  exact this
theorem encS_size (set : Int) (s : ByteArray) : (encS set s).size ≤ 3 * s.size := by
  have := encL_len set s.data.toList
  unfold encS; rw [txt_size]; simpa using this
theorem form_text (s : ByteArray) : txt (repA (⟨#[37, 50, 48]⟩ : ByteArray).data.toList (⟨#[43]⟩ : ByteArray).data.toList (encS 7 s).data.toList) = formS s := by
  unfold encS formS; rw [txt_data]; exact congrArg txt (rep_enc s.data.toList)
set_option maxHeartbeats 400000 in
theorem form_any (s : ByteArray) (w : World) (hs : s.size ≤ 268435456) (hS : Signs w) (hD : Digs w) (hM : SomeMax w) :
    Calls Tryd.prog 21 #[.string s] w fun r w' => r = .returned (.string (formS s)) ∧ Below w.heap.size w w' := by
  have hE := encode_any s 7 w (by decide) (by omega) hS hD
  have hz := encS_size 7 s
  have hR := fun w hM => replaceAll_any (encS 7 s) ⟨#[37, 50, 48]⟩ ⟨#[43]⟩ w (by omega) hM (by decide) (by decide) (by decide)
  rw [form_text] at hR
  have HE := hide hE
  have HR := hide hR
  have HM := hide hM
  clear hE hR hM hS hD
  go_enter Tryd.func21, Tryd.ntmps21
  go_wp2_with fail
  refine HE.out.mono ?_
  rintro e w1 ⟨rfl, b1⟩
  go_wp2_with fail
  refine (HR.out _ (HM.out.below b1)).mono ?_
  rintro e w2 ⟨rfl, b2⟩
  go_wp2_with fail
  go_ret
  exact ⟨rfl, chain b1 b2⟩

end Go.Proofs.YtfedeiipinamjaaDoor
