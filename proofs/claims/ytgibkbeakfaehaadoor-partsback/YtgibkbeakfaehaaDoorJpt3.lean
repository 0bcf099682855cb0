/- Facts of no program. Ends of lines in texts, as lists of bytes. Entries told as parts, and parts read, as functions of lists. Parts made of entries and read again. Texts searched, cut, split and replaced, in the words of parts. What strings.Contains, Cut, Split, CutPrefix, CutSuffix, ReplaceAll answer. The document's NoBreaks. The document's Fit, Name, Unname, Type of layer 20. The document's find, begins, quoted, Part of layer 20. A strings.Builder that a call has made itself, and the bytes that it holds. What Grow does to a fresh strings.Builder that the call has made itself. What WriteByte does to a strings.Builder that the call has made itself. What WriteString does to a strings.Builder that the call has made itself. What String answers of a strings.Builder that the call has made itself. The program's NoBreaks answers by the function of 'Ends'. The program's Pairs answers by the function of 'Ends'. The program's Fit, toldType, breaks, carried, quote, unquote of layer 20. -/
import Derived.Test.YtgibkbeakfaehaaDoorProg
import Derived.Test.YtgibkbeakfaehaaDoorJpt1
import Derived.Test.YtgibkbeakfaehaaDoorJpt2
import Derived.Test.YtgibkbeakfaehaaDoorJpt4
import Derived.Test.YtgibkbeakfaehaaDoorJpt5
import Derived.Test.YtgibkbeakfaehaaDoorJpt7
import Derived.Lib.SplitLaws
import Derived.Lib.IndexAny
import Derived.Lib.CutLaws
import Derived.Shelf.Strings.Cut
import Derived.Shelf.Strings.Split
import Derived.Shelf.Strings.PiecesUse
import Derived.Shelf.Strings.Replace
import Derived.Shelf.Strings.Search3
import Derived.Shelf.Small.Wraps
import Derived.Deep.RegionHeld3
import Derived.Laws.Concat
import Derived.Lib.Builder
import Derived.Lib.UnsafeStr
import Derived.Shelf.Strings.Builder2
import Derived.Shelf.Strings.Builder1
import Derived.Shelf.Small.Strs
import Derived.Shelf.Strings.IndexAnyAll
import Derived.Laws.RangeAny
import Derived.Laws.Runes
import Derived.BigQuiet
import Derived.Deep.QuietTactic
import Derived.WalkSmall
import Derived.WalkMore
import Derived.Lib.RuneCount
import Derived.Lib.OthersKept
import Derived.Shelf.Strconv.Clone

namespace Go.Proofs.YtgibkbeakfaehaaDoor
open Go.RowKit
/-- The types of bytes, of slices of bytes and of texts. -/
structure ByteTypes (P : Program) (t e st : TypeId) : Prop where
  sl : P.underlying t = some (.slice e)
  el : P.underlying e = some (.int .u8)
  str : P.underlying st = some .string
  info : (P.info? e).map (fun i => (i.zero, i.size, i.bytes)) = some (some (.int .u8 0), 1, 1)
/-- A byte, as a cell holds it. -/
def cellB (c : UInt8) : Value := .int .u8 (c.toNat : Int)
def txt (l : List UInt8) : ByteArray := ⟨l.toArray⟩
theorem txt_size (l : List UInt8) : (txt l).size = l.length := rfl
/-- The value v is a slice of the call's own (its block from 'base' on) that holds the bytes l. -/
def OwnsB (e : TypeId) (base : Nat) (w : World) (v : Value) (l : List UInt8) : Prop := w.ownsRow base e 1 v l.length (l.map cellB)
theorem OwnsB.nil (e : TypeId) (base : Nat) (w : World) : OwnsB e base w (.slice none 0 0) [] := World.ownsRow_nil w base e 1
theorem OwnsB.below {e : TypeId} {base : Nat} {w w' : World} {v : Value} {l : List UInt8} (h : OwnsB e base w v l) (hb : Below w.heap.size w w') : OwnsB e base w' v l := by
  obtain ⟨h1, h2⟩ := h
  refine ⟨h1, ?_⟩
  rcases h2 with h2 | ⟨g, cap, cur, hv, hg, hh, r⟩
  · exact Or.inl h2
  · refine Or.inr ⟨g, cap, cur, hv, hg, ?_, r⟩
    rw [hb.block g ?_]; exact hh
    rcases Nat.lt_or_ge g w.heap.size with h' | h'
    · exact h'
    · simp [Array.getElem?_eq_none h'] at hh
theorem OwnsB.mono {e : TypeId} {base base' : Nat} {w : World} {v : Value} {l : List UInt8} (h : OwnsB e base w v l) (hb : base' ≤ base) : OwnsB e base' w v l := by
  obtain ⟨h1, h2⟩ := h
  refine ⟨h1, ?_⟩
  rcases h2 with h2 | ⟨g, cap, cur, hv, hg, r⟩
  · exact Or.inl h2
  · exact Or.inr ⟨g, cap, cur, hv, by omega, r⟩
theorem strOfNums_bytes (l : List UInt8) : strOfNums (l.map fun c => (c.toNat : Int)) = txt l := by
  unfold strOfNums txt
  rw [List.map_map]
  have : ((fun n : Int => UInt8.ofNat n.toNat) ∘ fun c : UInt8 => (c.toNat : Int)) = id := by
    funext c; simp
  rw [this, List.map_id]
/-- 'string(b)' of such a slice. -/
theorem OwnsB.text {P : Program} {t e st : TypeId} (bt : ByteTypes P t e st) {base : Nat} {w : World} {v : Value} {l : List UInt8} (h : OwnsB e base w v l) :
    (convert t st v).run P w = .ok (.string (txt l)) w := by
  rcases h.2 with ⟨rfl, hn⟩ | ⟨g, cap, cur, rfl, hg, hh, r⟩
  · have : l = [] := List.eq_nil_of_length_eq_zero hn
    subst this
    exact run_convert_bytes_nil (P := P) w t e bt.sl bt.el 0 0 st bt.str
  · have hl : (l.map fun c => (c.toNat : Int)).length = l.length := by simp
    have := run_convert_bytes_arg (P := P) w t e bt.sl bt.el g 0 l.length cap _ hl (fun i hi => by
      rw [Nat.zero_add, World.ownsRow.cellAt h i (by omega)]
      simp [cellB, hi]) st bt.str
    rw [this, strOfNums_bytes]
theorem grown_below {e : TypeId} {base : Nat} {w w' : World} {v : Value} {n : Nat} {xs : List Value} (h : w.ownsRow base e 1 v n xs) (hg : w.grownBy w' v.ownBlock) (hB : base ≤ w.heap.size) : Below base w w' :=
  (Below.refl base w).grown hg hB fun k hk => (h.lt k hk).1
/-- 'out = append(out, c)': the byte was laid in a block of its own first. -/
theorem wpList_append_byte {P : Program} {t e st : TypeId} (bt : ByteTypes P t e st) {ops : Array Oper} {rest : List Oper} {o : Oper} {a : Act} {Q : Exit → Act → World → Prop} (w : World) (y : Int)
    (hgd : o.guard = none) (s x : Operand) (ho : o.op = .call { callee := .builtin .append, args := #[s, x], argTypes := #[t, t] })
    (base : Nat) (v : Value) (l : List UInt8) (c : UInt8) (hy : y = (c.toNat : Int)) (hs : a.eval s = v) (hown : OwnsB e base w v l)
    (hx : a.eval x = .slice (some ⟨w.heap.size, 0, none⟩) 1 1) (hlen : l.length ≤ 70368744177664) (hbase : base ≤ w.heap.size)
    (h : ∀ v' w', OwnsB e base w' v' (l ++ [c]) → Below base w w' → wpList P ops Q rest (a.put o.dst v') w') : wpList P ops Q (o :: rest) a (w.alloc (.cells #[.int .u8 y] e)) := by
  subst hy
  obtain ⟨i, hi, hz0, hz1, hz2⟩ := info_parts bt.info
  have hown' : (w.alloc (.cells #[.int .u8 (c.toNat : Int)] e)).ownsRow base e 1 v l.length (l.map cellB) := World.ownsRow.alloc hown _
  refine wpList_append_own (P := P) _ hgd s x t ho base e i (.int .u8 0) 1 1 bt.sl hi hz0 hz1 hz2 rfl (by decide) v l.length (l.map cellB) hs hown' ⟨w.heap.size, 0, none⟩ 1 1 [cellB c] hx rfl (cell_one_new _ _ _) (fun u hu => by simp at hu; subst hu; rfl) (by unfold maxLen; omega) (by omega) (by simp; omega) ?_
  intro v' w' h1 h2 _
  refine h v' w' ?_ (((Below.refl base w).alloc hbase _).trans (grown_below hown' h2 (by simp; omega)))
  simpa [OwnsB] using h1
/-- A text, as a cell holds it. -/
def cellT (l : List UInt8) : Value := .string (txt l)
/-- The value v is a slice of the call's own (its block from 'base' on) that holds the texts ws. -/
def OwnsT (e : TypeId) (base : Nat) (w : World) (v : Value) (ws : List (List UInt8)) : Prop := w.ownsRow base e 1 v ws.length (ws.map cellT)
theorem OwnsT.nil (e : TypeId) (base : Nat) (w : World) : OwnsT e base w (.slice none 0 0) [] := World.ownsRow_nil w base e 1
theorem ownsRow_below {e : TypeId} {base n : Nat} {w w' : World} {v : Value} {xs : List Value} (h : w.ownsRow base e 1 v n xs) (hb : Below w.heap.size w w') : w'.ownsRow base e 1 v n xs := by
  obtain ⟨h1, h2⟩ := h
  refine ⟨h1, ?_⟩
  rcases h2 with h2 | ⟨g, cap, cur, hv, hg, hh, r⟩
  · exact Or.inl h2
  · refine Or.inr ⟨g, cap, cur, hv, hg, ?_, r⟩
    rw [hb.block g ?_]; exact hh
    rcases Nat.lt_or_ge g w.heap.size with h' | h'
    · exact h'
    · simp [Array.getElem?_eq_none h'] at hh
theorem OwnsT.below {e : TypeId} {base : Nat} {w w' : World} {v : Value} {ws : List (List UInt8)} (h : OwnsT e base w v ws) (hb : Below w.heap.size w w') : OwnsT e base w' v ws := ownsRow_below h hb
end Go.Proofs.YtgibkbeakfaehaaDoor

namespace Go.Proofs.YtgibkbeakfaehaaDoor
open Go.RowKit
/-- What a byte c behind a byte p becomes. -/
def piece (e : List UInt8) (p c : UInt8) : List UInt8 := if c = 10 ∧ p = 13 then [] else if c = 10 ∨ c = 13 then e else [c]
def endsP (e : List UInt8) : UInt8 → List UInt8 → List UInt8
  | _, [] => []
  | p, c :: r => piece e p c ++ endsP e c r
def endsS (e s : ByteArray) : ByteArray := txt (endsP e.data.toList 0 s.data.toList)
def prevAt (s : ByteArray) (k : Nat) : UInt8 := if k = 0 then 0 else byteAt s (k - 1)
theorem piece_none {e : List UInt8} {p c : UInt8} (h1 : c = 10) (h2 : p = 13) : piece e p c = [] := by unfold piece; rw [if_pos ⟨h1, h2⟩]
theorem piece_end {e : List UInt8} {p c : UInt8} (h1 : ¬ (c = 10 ∧ p = 13)) (h2 : c = 10 ∨ c = 13) : piece e p c = e := by unfold piece; rw [if_neg h1, if_pos h2]
theorem piece_byte {e : List UInt8} {p c : UInt8} (h1 : c ≠ 10) (h2 : c ≠ 13) : piece e p c = [c] := by
  unfold piece; rw [if_neg (fun h => h1 h.1), if_neg (fun h => h.elim h1 h2)]
theorem piece_le (e : List UInt8) (p c : UInt8) (h : e.length ≤ 2) : (piece e p c).length ≤ 2 := by
  unfold piece; split
  · simp
  · split
    · exact h
    · simp
theorem endsP_snoc (e : List UInt8) (c : UInt8) : ∀ (l : List UInt8) (p : UInt8), endsP e p (l ++ [c]) = endsP e p l ++ piece e (l.getLastD p) c
  | [], p => by simp [endsP]
  | a :: r, p => by
    have ih := endsP_snoc e c r a
    have hl : (a :: r).getLastD p = r.getLastD a := by cases r <;> rfl
    show piece e p a ++ endsP e a (r ++ [c]) = piece e p a ++ endsP e a r ++ _
    rw [ih, hl, List.append_assoc]
theorem endsP_le (e : List UInt8) (h : e.length ≤ 2) : ∀ (l : List UInt8) (p : UInt8), (endsP e p l).length ≤ 2 * l.length
  | [], p => by simp [endsP]
  | a :: r, p => by
    have ih := endsP_le e h r a
    have := piece_le e p a h
    simp only [endsP, List.length_append, List.length_cons]; omega
theorem getLastD_take (l : List UInt8) (k : Nat) (h : k < l.length) : (l.take (k + 1)).getLastD 0 = l.getD k 0 := by
  have : l.take (k + 1) = l.take k ++ [l[k]] := List.take_succ_eq_append_getElem h
  rw [this, List.getLastD_concat]
  simp [List.getD, h]
theorem last_take (s : ByteArray) (k : Nat) (h : k < s.size) : (s.data.toList.take k).getLastD 0 = prevAt s k := by
  unfold prevAt
  by_cases e : k = 0
  · subst e; simp
  · rw [if_neg e]
    obtain ⟨j, rfl⟩ : ∃ j, k = j + 1 := ⟨k - 1, by omega⟩
    exact getLastD_take _ _ (by simp; omega)
theorem endsP_take (e : List UInt8) (s : ByteArray) (k : Nat) (h : k < s.size) : endsP e 0 (s.data.toList.take (k + 1)) = endsP e 0 (s.data.toList.take k) ++ piece e (prevAt s k) (byteAt s k) := by
  rw [byteAt_take s k h, endsP_snoc, last_take s k h]
theorem take_len_le (s : ByteArray) (k : Nat) : (s.data.toList.take k).length ≤ k := List.length_take_le _ _
theorem endsP_take_le (e s : ByteArray) (k : Nat) (h : e.size ≤ 2) : (endsP e.data.toList 0 (s.data.toList.take k)).length ≤ 2 * k := by
  have := endsP_le e.data.toList (by simpa using h) (s.data.toList.take k) 0
  have := take_len_le s k
  omega
theorem take_all (s : ByteArray) : s.data.toList.take s.size = s.data.toList := List.take_of_length_le (by simp)
theorem b10 (c : UInt8) : c = 10 ↔ (c.toNat : Int) = 10 := by rw [← UInt8.toNat_inj]; simp; omega
theorem b13 (c : UInt8) : c = 13 ↔ (c.toNat : Int) = 13 := by rw [← UInt8.toNat_inj]; simp; omega
theorem prevAt_eq (s : ByteArray) (k : Nat) (h : k < s.size) (h0 : 0 < k) : s[k - 1]'(by omega) = prevAt s k := by
  unfold prevAt; rw [if_neg (by omega)]; exact byteAt_eq s (k - 1) (by omega)
def pairsS (s : ByteArray) : ByteArray := endsS ⟨#[13, 10]⟩ s
theorem endsS_size (e s : ByteArray) (h : e.size ≤ 2) : (endsS e s).size ≤ 2 * s.size := by
  unfold endsS; rw [txt_size]
  have := endsP_le e.data.toList (by simpa using h) s.data.toList 0
  simpa using this
theorem pairsS_size (s : ByteArray) : (pairsS s).size ≤ 2 * s.size := endsS_size _ _ (by decide)
end Go.Proofs.YtgibkbeakfaehaaDoor

namespace Go.Proofs.YtgibkbeakfaehaaDoor
open Go.RowKit
/-- A boundary. -/
def fitC (c : UInt8) : Bool := plainB c || c == 45
def fitL (b : List UInt8) : Bool := b.all fitC && decide (0 < b.length ∧ b.length ≤ 70)
def prsL (l : List UInt8) : List UInt8 := endsP [13, 10] 0 l
/-- A name as it is told, and read. -/
def nameB (c : UInt8) : List UInt8 := if c = 10 then [37, 48, 65] else if c = 13 then [37, 48, 68] else if c = 34 then [37, 50, 50] else [c]
def namL (l : List UInt8) : List UInt8 := l.flatMap nameB
def nameL (l : List UInt8) : List UInt8 := namL (prsL l)
/-- A type as it is told. -/
def badT (c : UInt8) : Bool := decide (c.toNat < 32 ∨ 126 < c.toNat)
def octL : List UInt8 := [97, 112, 112, 108, 105, 99, 97, 116, 105, 111, 110, 47, 111, 99, 116, 101, 116, 45, 115, 116, 114, 101, 97, 109]
def typeL (l : List UInt8) : List UInt8 := if l.any badT = true ∨ l = [] then octL else l
/-- Where a text stands first in another one. -/
def cutL (t : List UInt8) : List UInt8 → Option (List UInt8 × List UInt8)
  | [] => if t.isPrefixOf [] = true then some ([], []) else none
  | c :: r => if t.isPrefixOf (c :: r) = true then some ([], (c :: r).drop t.length) else (cutL t r).map fun p => (c :: p.1, p.2)
theorem cut_hit {t s : List UInt8} (h : t.isPrefixOf s = true) : cutL t s = some ([], s.drop t.length) := by
  cases s with
  | nil => unfold cutL; rw [if_pos h]; simp
  | cons c r => unfold cutL; rw [if_pos h]
theorem cut_miss {t r : List UInt8} {c : UInt8} (h : t.isPrefixOf (c :: r) = false) : cutL t (c :: r) = (cutL t r).map fun p => (c :: p.1, p.2) := by
  conv => lhs; unfold cutL
  rw [if_neg (by rw [h]; decide)]
theorem cut_end {t : List UInt8} (h : t ≠ []) : cutL t [] = none := by
  unfold cutL
  rw [if_neg]
  cases t with
  | nil => exact absurd rfl h
  | cons => simp
end Go.Proofs.YtgibkbeakfaehaaDoor

namespace Go.Proofs.YtgibkbeakfaehaaDoor
open Go.RowKit
def c1L : List UInt8 := [67, 111, 110, 116, 101, 110, 116, 45, 68, 105, 115, 112, 111, 115, 105, 116, 105, 111, 110, 58, 32, 102, 111, 114, 109, 45, 100, 97, 116, 97, 59, 32, 110, 97, 109, 101, 61, 34]
def c2L : List UInt8 := [59, 32, 102, 105, 108, 101, 110, 97, 109, 101, 61, 34]
def c3T : List UInt8 := [67, 111, 110, 116, 101, 110, 116, 45, 84, 121, 112, 101, 58, 32]
def c3L : List UInt8 := 13 :: 10 :: c3T
def c4L : List UInt8 := [13, 10, 13, 10]
abbrev bL (s : ByteArray) : List UInt8 := s.data.toList
/-- What stands ahead of what a part carries. -/
def headP (e : En) : List UInt8 := c1L ++ nameL (bL e.name) ++ [34] ++ (if e.file = true then c2L ++ nameL (bL e.fname) ++ [34] ++ c3L ++ typeL (bL e.typ) else [])
def valP (e : En) : List UInt8 := if e.file = true then bL e.val else prsL (bL e.val)
def partL (e : En) : List UInt8 := headP e ++ c4L ++ valP e
def endL : List UInt8 := [45, 45, 13, 10]
def fstL (b : List UInt8) : List UInt8 := 45 :: 45 :: (b ++ [13, 10])
/-- Entries told. -/
def clrL (l : List En) (b : List UInt8) : Bool := fitL b && l.all fun e => (cutL b (partL e)).isNone
def encP (l : List En) (b : List UInt8) : List UInt8 := (l.flatMap fun e => fstL b ++ partL e ++ [13, 10]) ++ 45 :: 45 :: (b ++ endL)
end Go.Proofs.YtgibkbeakfaehaaDoor

namespace Go.Proofs.YtgibkbeakfaehaaDoor
open Go.RowKit
/-- Where a text stands first, as the library's index tells it. -/
theorem ix_cons (c : UInt8) (l t : List UInt8) (h : t.isPrefixOf (c :: l) = false) : Lib.index (c :: l) t = if Lib.index l t == -1 then -1 else Lib.index l t + 1 := by
  conv => lhs; unfold Lib.index
  rw [h]; simp
theorem ix_hit {l t : List UInt8} (h : t.isPrefixOf l = true) : Lib.index l t = 0 :=
  Lib.index_first (i := 0) (Nat.zero_le _) (by simpa [Lib.occAt] using h) (fun _ h => absurd h (Nat.not_lt_zero _))
theorem ix_cut (t : List UInt8) (ht : t ≠ []) : ∀ l : List UInt8, (cutL t l = none ∧ Lib.index l t = -1) ∨ ∃ p r, cutL t l = some (p, r) ∧ Lib.index l t = (p.length : Int) ∧ l = p ++ t ++ r
  | [] => .inl ⟨cut_end ht, by
      refine Lib.index_none (fun j _ => ?_)
      cases t with
      | nil => exact absurd rfl ht
      | cons => simp [Lib.occAt]⟩
  | c :: l => by
    cases h : t.isPrefixOf (c :: l) with
    | true =>
      refine .inr ⟨[], (c :: l).drop t.length, cut_hit h, ix_hit h, ?_⟩
      obtain ⟨z, hz⟩ := List.isPrefixOf_iff_prefix.1 h
      rw [← hz]; simp
    | false =>
      rcases ix_cut t ht l with ⟨h1, h2⟩ | ⟨p, r, h1, h2, h3⟩
      · refine .inl ⟨by rw [cut_miss h, h1]; rfl, by rw [ix_cons _ _ _ h, h2]; rfl⟩
      · refine .inr ⟨c :: p, r, by rw [cut_miss h, h1]; rfl, ?_, by rw [h3]; simp⟩
        rw [ix_cons _ _ _ h, h2]
        have : ((p.length : Int) == -1) = false := by rw [beq_eq_false_iff_ne]; omega
        rw [this]
        show (p.length : Int) + 1 = ((c :: p).length : Int)
        simp
theorem has_cut (t : List UInt8) (ht : t ≠ []) (l : List UInt8) : Lib.contains l t = (cutL t l).isSome := by
  unfold Lib.contains
  rcases ix_cut t ht l with ⟨h1, h2⟩ | ⟨p, r, h1, h2, _⟩
  · rw [h1, h2]; rfl
  · rw [h1, h2]; simp
theorem fit_pos {b : List UInt8} (h : fitL b = true) : 0 < b.length ∧ b.length ≤ 70 := by
  unfold fitL at h
  rw [Bool.and_eq_true] at h
  exact of_decide_eq_true h.2
/-- Names told and read, sign by sign. -/
theorem rep_map (c : UInt8) (new : List UInt8) : ∀ l : List UInt8, repA [c] new l = l.flatMap fun x => if x = c then new else [x]
  | [] => repA_nil (by simp)
  | x :: l => by
    have ih := rep_map c new l
    rw [List.flatMap_cons]
    by_cases h : x = c
    · subst h
      rw [if_pos rfl, show x :: l = [x] ++ l from rfl, repA_hit (by simp), ih]
    · have : [c].isPrefixOf (x :: l) = false := by
        have : (c == x) = false := by rw [beq_eq_false_iff_ne]; exact fun t => h t.symm
        show (c == x && _) = false
        rw [this]; rfl
      rw [if_neg h, repA_miss (by simp) x l this, ih]; rfl
theorem rep_name (l : List UInt8) : repA [34] [37, 50, 50] (repA [13] [37, 48, 68] (repA [10] [37, 48, 65] l)) = namL l := by
  rw [rep_map, rep_map, rep_map, List.flatMap_assoc, List.flatMap_assoc]
  unfold namL
  congr 1
  funext x
  unfold nameB
  by_cases h1 : x = 10
  · rw [if_pos h1, if_pos h1]; rfl
  · rw [if_neg h1, if_neg h1]
    by_cases h2 : x = 13
    · simp [h2]
    · by_cases h3 : x = 34
      · simp [h3]
      · simp [h2, h3]
def R1 (l : List UInt8) : List UInt8 := repA [37, 48, 65] [10] l
end Go.Proofs.YtgibkbeakfaehaaDoor

namespace Go.Proofs.YtgibkbeakfaehaaDoor
open Go.Shelf Go.RowKit
set_option maxRecDepth 100000
def pctren : Go.Shelf.Ren := ⟨fun | 145 => 59 | 217 => 73 | 219 => 63 | 220 => 71 | 224 => 75 | 225 => 74 | 266 => 83 | 267 => 76 | 314 => 84 | n => n, fun | 3 => 3 | 4 => 4 | 5 => 5 | 9 => 9 | 46 => 84 | 51 => 90 | 59 => 75 | 72 => 54 | 146 => 91 | n => n, fun | 1 => 1 | n => n⟩
theorem lays145 : Go.Proofs.Lays.n145 Tryd.prog pctren := {
  mixed := by kernel_rfl
  f145 := Tryd.func59.trans (congrArg some (by kernel_rfl))
  f217 := Tryd.func73.trans (congrArg some (by kernel_rfl))
  f219 := Tryd.func63.trans (congrArg some (by kernel_rfl))
  f220 := Tryd.func71.trans (congrArg some (by kernel_rfl))
  f224 := Tryd.func75.trans (congrArg some (by kernel_rfl))
  f225 := Tryd.func74.trans (congrArg some (by kernel_rfl))
  f266 := Tryd.func83.trans (congrArg some (by kernel_rfl))
  f267 := Tryd.func76.trans (congrArg some (by kernel_rfl))
  f314 := Tryd.func84.trans (congrArg some (by kernel_rfl))
  t3 := Tryd.underlying3
  a3 := Tryd.isAgg3
  z3 := Tryd.sizeOf3
  v3 := Tryd.zeroValue3
  t4 := Tryd.underlying4
  a4 := Tryd.isAgg4
  z4 := Tryd.sizeOf4
  v4 := Tryd.zeroValue4
  t5 := Tryd.underlying5
  a5 := Tryd.isAgg5
  z5 := Tryd.sizeOf5
  v5 := Tryd.zeroValue5
  t9 := Tryd.underlying9
  a9 := Tryd.isAgg9
  z9 := Tryd.sizeOf9
  v9 := Tryd.zeroValue9
  t46 := Tryd.underlying84
  a46 := Tryd.isAgg84
  z46 := Tryd.sizeOf84
  v46 := Tryd.zeroValue84
  t51 := Tryd.underlying90
  a51 := Tryd.isAgg90
  z51 := Tryd.sizeOf90
  v51 := Tryd.zeroValue90
  t59 := Tryd.underlying75
  a59 := Tryd.isAgg75
  z59 := Tryd.sizeOf75
  v59 := Tryd.zeroValue75
  t146 := Tryd.underlying91
  a146 := Tryd.isAgg91
  z146 := Tryd.sizeOf91
  v146 := Tryd.zeroValue91
  g1 := by kernel_rfl }
def pspren : Go.Shelf.Ren := ⟨fun | 138 => 70 | 143 => 50 | 146 => 45 | 195 => 80 | 197 => 78 | 217 => 73 | 218 => 81 | 219 => 63 | 221 => 58 | 224 => 75 | 225 => 74 | 260 => 86 | 266 => 83 | 267 => 76 | 268 => 69 | 314 => 84 | n => n, fun | 0 => 0 | 3 => 3 | 4 => 4 | 5 => 5 | 9 => 9 | 21 => 21 | 31 => 23 | 46 => 84 | 51 => 90 | 72 => 54 | 105 => 86 | 119 => 100 | 138 => 102 | 139 => 103 | 146 => 91 | n => n, fun | 1 => 1 | 3 => 2 | 4 => 3 | n => n⟩
theorem lays146 : Go.Proofs.Lays.n146 Tryd.prog pspren := {
  mixed := by kernel_rfl
  f138 := Tryd.func70.trans (congrArg some (by kernel_rfl))
  f143 := Tryd.func50.trans (congrArg some (by kernel_rfl))
  f146 := Tryd.func45.trans (congrArg some (by kernel_rfl))
  f195 := Tryd.func80.trans (congrArg some (by kernel_rfl))
  f197 := Tryd.func78.trans (congrArg some (by kernel_rfl))
  f217 := Tryd.func73.trans (congrArg some (by kernel_rfl))
  f218 := Tryd.func81.trans (congrArg some (by kernel_rfl))
  f219 := Tryd.func63.trans (congrArg some (by kernel_rfl))
  f221 := Tryd.func58.trans (congrArg some (by kernel_rfl))
  f224 := Tryd.func75.trans (congrArg some (by kernel_rfl))
  f225 := Tryd.func74.trans (congrArg some (by kernel_rfl))
  f260 := Tryd.func86.trans (congrArg some (by kernel_rfl))
  f266 := Tryd.func83.trans (congrArg some (by kernel_rfl))
  f267 := Tryd.func76.trans (congrArg some (by kernel_rfl))
  f268 := Tryd.func69.trans (congrArg some (by kernel_rfl))
  f314 := Tryd.func84.trans (congrArg some (by kernel_rfl))
  t0 := Tryd.underlying0
  a0 := Tryd.isAgg0
  z0 := Tryd.sizeOf0
  v0 := Tryd.zeroValue0
  t3 := Tryd.underlying3
  a3 := Tryd.isAgg3
  z3 := Tryd.sizeOf3
  v3 := Tryd.zeroValue3
  t4 := Tryd.underlying4
  a4 := Tryd.isAgg4
  z4 := Tryd.sizeOf4
  v4 := Tryd.zeroValue4
  t5 := Tryd.underlying5
  a5 := Tryd.isAgg5
  z5 := Tryd.sizeOf5
  v5 := Tryd.zeroValue5
  t9 := Tryd.underlying9
  a9 := Tryd.isAgg9
  z9 := Tryd.sizeOf9
  v9 := Tryd.zeroValue9
  t21 := Tryd.underlying21
  a21 := Tryd.isAgg21
  z21 := Tryd.sizeOf21
  v21 := Tryd.zeroValue21
  t31 := Tryd.underlying23
  a31 := Tryd.isAgg23
  z31 := Tryd.sizeOf23
  v31 := Tryd.zeroValue23
  t46 := Tryd.underlying84
  a46 := Tryd.isAgg84
  z46 := Tryd.sizeOf84
  v46 := Tryd.zeroValue84
  t51 := Tryd.underlying90
  a51 := Tryd.isAgg90
  z51 := Tryd.sizeOf90
  v51 := Tryd.zeroValue90
  t105 := Tryd.underlying86
  a105 := Tryd.isAgg86
  z105 := Tryd.sizeOf86
  v105 := Tryd.zeroValue86
  t119 := Tryd.underlying100
  a119 := Tryd.isAgg100
  z119 := Tryd.sizeOf100
  t138 := Tryd.underlying102
  a138 := Tryd.isAgg102
  z138 := Tryd.sizeOf102
  v138 := Tryd.zeroValue102
  t139 := Tryd.underlying103
  a139 := Tryd.isAgg103
  z139 := Tryd.sizeOf103
  v139 := Tryd.zeroValue103
  t146 := Tryd.underlying91
  a146 := Tryd.isAgg91
  z146 := Tryd.sizeOf91
  v146 := Tryd.zeroValue91
  g1 := by kernel_rfl
  g3 := by kernel_rfl
  g4 := by kernel_rfl }
def pcoren : Go.Shelf.Ren := ⟨fun | 143 => 50 | 144 => 28 | 217 => 73 | 219 => 63 | 224 => 75 | 225 => 74 | 266 => 83 | 267 => 76 | 314 => 84 | n => n, fun | 3 => 3 | 4 => 4 | 5 => 5 | 9 => 9 | 46 => 84 | 51 => 90 | 72 => 54 | 146 => 91 | n => n, fun | 1 => 1 | n => n⟩
theorem lays144 : Go.Proofs.Lays.n144 Tryd.prog pcoren := {
  mixed := by kernel_rfl
  f143 := Tryd.func50.trans (congrArg some (by kernel_rfl))
  f144 := Tryd.func28.trans (congrArg some (by kernel_rfl))
  f217 := Tryd.func73.trans (congrArg some (by kernel_rfl))
  f219 := Tryd.func63.trans (congrArg some (by kernel_rfl))
  f224 := Tryd.func75.trans (congrArg some (by kernel_rfl))
  f225 := Tryd.func74.trans (congrArg some (by kernel_rfl))
  f266 := Tryd.func83.trans (congrArg some (by kernel_rfl))
  f267 := Tryd.func76.trans (congrArg some (by kernel_rfl))
  f314 := Tryd.func84.trans (congrArg some (by kernel_rfl))
  t3 := Tryd.underlying3
  a3 := Tryd.isAgg3
  z3 := Tryd.sizeOf3
  v3 := Tryd.zeroValue3
  t4 := Tryd.underlying4
  a4 := Tryd.isAgg4
  z4 := Tryd.sizeOf4
  v4 := Tryd.zeroValue4
  t5 := Tryd.underlying5
  a5 := Tryd.isAgg5
  z5 := Tryd.sizeOf5
  v5 := Tryd.zeroValue5
  t9 := Tryd.underlying9
  a9 := Tryd.isAgg9
  z9 := Tryd.sizeOf9
  v9 := Tryd.zeroValue9
  t46 := Tryd.underlying84
  a46 := Tryd.isAgg84
  z46 := Tryd.sizeOf84
  v46 := Tryd.zeroValue84
  t51 := Tryd.underlying90
  a51 := Tryd.isAgg90
  z51 := Tryd.sizeOf90
  v51 := Tryd.zeroValue90
  t146 := Tryd.underlying91
  a146 := Tryd.isAgg91
  z146 := Tryd.sizeOf91
  v146 := Tryd.zeroValue91
  g1 := by kernel_rfl }
def pcpren : Go.Shelf.Ren := ⟨fun | 103 => 42 | 206 => 67 | 210 => 56 | n => n, fun | 3 => 3 | 4 => 4 | 5 => 5 | 9 => 9 | 24 => 60 | 72 => 54 | n => n, fun  | n => n⟩
theorem lays103 : Go.Proofs.Lays.n103 Tryd.prog pcpren := {
  mixed := by kernel_rfl
  f103 := Tryd.func42.trans (congrArg some (by kernel_rfl))
  f206 := Tryd.func67.trans (congrArg some (by kernel_rfl))
  f210 := Tryd.func56.trans (congrArg some (by kernel_rfl))
  t3 := Tryd.underlying3
  a3 := Tryd.isAgg3
  z3 := Tryd.sizeOf3
  v3 := Tryd.zeroValue3
  t4 := Tryd.underlying4
  a4 := Tryd.isAgg4
  z4 := Tryd.sizeOf4
  v4 := Tryd.zeroValue4
  t9 := Tryd.underlying9
  a9 := Tryd.isAgg9
  z9 := Tryd.sizeOf9
  v9 := Tryd.zeroValue9
  t24 := Tryd.underlying60
  a24 := Tryd.isAgg60
  z24 := Tryd.sizeOf60
  v24 := Tryd.zeroValue60 }
def pcsren : Go.Shelf.Ren := ⟨fun | 104 => 43 | 207 => 68 | 211 => 57 | n => n, fun | 3 => 3 | 4 => 4 | 5 => 5 | 9 => 9 | 24 => 60 | 72 => 54 | n => n, fun  | n => n⟩
theorem lays104 : Go.Proofs.Lays.n104 Tryd.prog pcsren := {
  mixed := by kernel_rfl
  f104 := Tryd.func43.trans (congrArg some (by kernel_rfl))
  f207 := Tryd.func68.trans (congrArg some (by kernel_rfl))
  f211 := Tryd.func57.trans (congrArg some (by kernel_rfl))
  t3 := Tryd.underlying3
  a3 := Tryd.isAgg3
  z3 := Tryd.sizeOf3
  v3 := Tryd.zeroValue3
  t4 := Tryd.underlying4
  a4 := Tryd.isAgg4
  z4 := Tryd.sizeOf4
  v4 := Tryd.zeroValue4
  t9 := Tryd.underlying9
  a9 := Tryd.isAgg9
  z9 := Tryd.sizeOf9
  v9 := Tryd.zeroValue9
  t24 := Tryd.underlying60
  a24 := Tryd.isAgg60
  z24 := Tryd.sizeOf60
  v24 := Tryd.zeroValue60 }
def prpren : Go.Shelf.Ren := ⟨fun | 138 => 70 | 143 => 50 | 154 => 65 | 155 => 54 | 165 => 77 | 166 => 34 | 169 => 35 | 195 => 80 | 197 => 78 | 217 => 73 | 218 => 81 | 219 => 63 | 224 => 75 | 225 => 74 | 240 => 53 | 241 => 85 | 260 => 86 | 266 => 83 | 267 => 76 | 276 => 64 | 277 => 91 | 314 => 84 | n => n, fun | 0 => 0 | 3 => 3 | 4 => 4 | 5 => 5 | 9 => 9 | 20 => 20 | 21 => 21 | 37 => 52 | 46 => 84 | 51 => 90 | 70 => 51 | 72 => 54 | 75 => 56 | 76 => 57 | 80 => 59 | 105 => 86 | 119 => 100 | 127 => 69 | 138 => 102 | 139 => 103 | 146 => 91 | 164 => 78 | n => n, fun | 1 => 1 | 3 => 2 | 4 => 3 | n => n⟩
theorem lays155 : Go.Proofs.Lays.n155 Tryd.prog prpren := {
  mixed := by kernel_rfl
  f138 := Tryd.func70.trans (congrArg some (by kernel_rfl))
  f143 := Tryd.func50.trans (congrArg some (by kernel_rfl))
  f154 := Tryd.func65.trans (congrArg some (by kernel_rfl))
  f155 := Tryd.func54.trans (congrArg some (by kernel_rfl))
  f165 := Tryd.func77.trans (congrArg some (by kernel_rfl))
  f166 := Tryd.func34.trans (congrArg some (by kernel_rfl))
  f169 := Tryd.func35.trans (congrArg some (by kernel_rfl))
  f195 := Tryd.func80.trans (congrArg some (by kernel_rfl))
  f197 := Tryd.func78.trans (congrArg some (by kernel_rfl))
  f217 := Tryd.func73.trans (congrArg some (by kernel_rfl))
  f218 := Tryd.func81.trans (congrArg some (by kernel_rfl))
  f219 := Tryd.func63.trans (congrArg some (by kernel_rfl))
  f224 := Tryd.func75.trans (congrArg some (by kernel_rfl))
  f225 := Tryd.func74.trans (congrArg some (by kernel_rfl))
  f240 := Tryd.func53.trans (congrArg some (by kernel_rfl))
  f241 := Tryd.func85.trans (congrArg some (by kernel_rfl))
  f260 := Tryd.func86.trans (congrArg some (by kernel_rfl))
  f266 := Tryd.func83.trans (congrArg some (by kernel_rfl))
  f267 := Tryd.func76.trans (congrArg some (by kernel_rfl))
  f276 := Tryd.func64.trans (congrArg some (by kernel_rfl))
  f277 := Tryd.func91.trans (congrArg some (by kernel_rfl))
  f314 := Tryd.func84.trans (congrArg some (by kernel_rfl))
  t0 := Tryd.underlying0
  a0 := Tryd.isAgg0
  z0 := Tryd.sizeOf0
  v0 := Tryd.zeroValue0
  t3 := Tryd.underlying3
  a3 := Tryd.isAgg3
  z3 := Tryd.sizeOf3
  v3 := Tryd.zeroValue3
  t4 := Tryd.underlying4
  a4 := Tryd.isAgg4
  z4 := Tryd.sizeOf4
  v4 := Tryd.zeroValue4
  t5 := Tryd.underlying5
  a5 := Tryd.isAgg5
  z5 := Tryd.sizeOf5
  v5 := Tryd.zeroValue5
  t9 := Tryd.underlying9
  a9 := Tryd.isAgg9
  z9 := Tryd.sizeOf9
  v9 := Tryd.zeroValue9
  t20 := Tryd.underlying20
  a20 := Tryd.isAgg20
  z20 := Tryd.sizeOf20
  v20 := Tryd.zeroValue20
  t21 := Tryd.underlying21
  a21 := Tryd.isAgg21
  z21 := Tryd.sizeOf21
  v21 := Tryd.zeroValue21
  t37 := Tryd.underlying52
  a37 := Tryd.isAgg52
  z37 := Tryd.sizeOf52
  v37 := Tryd.zeroValue52
  t46 := Tryd.underlying84
  a46 := Tryd.isAgg84
  z46 := Tryd.sizeOf84
  v46 := Tryd.zeroValue84
  t51 := Tryd.underlying90
  a51 := Tryd.isAgg90
  z51 := Tryd.sizeOf90
  v51 := Tryd.zeroValue90
  t70 := Tryd.underlying51
  a70 := Tryd.isAgg51
  z70 := Tryd.sizeOf51
  v70 := Tryd.zeroValue51
  t72 := Tryd.underlying54
  a72 := Tryd.isAgg54
  z72 := Tryd.sizeOf54
  v72 := Tryd.zeroValue54
  t75 := Tryd.underlying56
  a75 := Tryd.isAgg56
  z75 := Tryd.sizeOf56
  v75 := Tryd.zeroValue56
  t76 := Tryd.underlying57
  a76 := Tryd.isAgg57
  z76 := Tryd.sizeOf57
  v76 := Tryd.zeroValue57
  t105 := Tryd.underlying86
  a105 := Tryd.isAgg86
  z105 := Tryd.sizeOf86
  v105 := Tryd.zeroValue86
  t119 := Tryd.underlying100
  a119 := Tryd.isAgg100
  z119 := Tryd.sizeOf100
  t127 := Tryd.underlying69
  a127 := Tryd.isAgg69
  z127 := Tryd.sizeOf69
  v127 := Tryd.zeroValue69
  t138 := Tryd.underlying102
  a138 := Tryd.isAgg102
  z138 := Tryd.sizeOf102
  v138 := Tryd.zeroValue102
  t139 := Tryd.underlying103
  a139 := Tryd.isAgg103
  z139 := Tryd.sizeOf103
  v139 := Tryd.zeroValue103
  t146 := Tryd.underlying91
  a146 := Tryd.isAgg91
  z146 := Tryd.sizeOf91
  v146 := Tryd.zeroValue91
  t164 := Tryd.underlying78
  a164 := Tryd.isAgg78
  z164 := Tryd.sizeOf78
  v164 := Tryd.zeroValue78
  g1 := by kernel_rfl
  g3 := by kernel_rfl
  g4 := by kernel_rfl }
theorem extraPr : Builder.Extra Tryd.prog prpren := {
  sizeBuilder := by kernel_rfl
  liesBuilder := by kernel_rfl
  t5 := Tryd.underlying5
  a5 := Tryd.isAgg5
  z5 := Tryd.sizeOf5
  v5 := Tryd.zeroValue5
  infoByte := by kernel_rfl
  cellsByte := by kernel_rfl
  sizeByte := by kernel_rfl
  neB5 := by decide }
theorem bL_ne {t : ByteArray} (h : 0 < t.size) : bL t ≠ [] := by
  intro e
  have e2 : (bL t).length = t.size := by simp
  rw [e] at e2
  simp at e2
  omega
theorem contains_any (s t : ByteArray) (w : World) (hs : s.size ≤ 1073741824) (ht : 0 < t.size) (hm : SomeMax w) :
    Calls Tryd.prog 28 #[.string s, .string t] w fun e w' => e = .returned (.bool (cutL (bL t) (bL s)).isSome) ∧ w' = w := by
  obtain ⟨m, hm⟩ := hm
  have h := Any.strings_Contains lays144 s t m w (by omega) hm
  rw [has_cut (bL t) (bL_ne ht) (bL s)] at h
  exact h
/-- Pieces in a block, one behind the other. -/
def PcsAt (w : World) (g : Nat) (ts : List (List UInt8)) : Prop := ∀ i (h : i < ts.length), w.cell? ⟨g, i, none⟩ = some (.string (txt ts[i]))
theorem PcsAt.below {w w' : World} {g : Nat} {ts : List (List UInt8)} (h : PcsAt w g ts) (hb : Below w.heap.size w w') : PcsAt w' g ts :=
  fun i hi => (hb.cell (p := ⟨g, i, none⟩) (World.block_lt_of_cell? _ _ (h i hi))).trans (h i hi)
theorem replaceP_any (l old new : List UInt8) (w : World) (hs : l.length ≤ 1073741824) (hm : SomeMax w) (h1 : 1 ≤ old.length) (h2 : new.length ≤ 3) (hne : old ≠ new) :
    Calls Tryd.prog 54 #[.string (txt l), .string (txt old), .string (txt new)] w fun e w' => e = .returned (.string (txt (repA old new l))) ∧ Below w.heap.size w w' := by
  obtain ⟨m, hm⟩ := hm
  have hc := Lib.countB_mul_le (txt old) h1 (txt l).size (txt l) (Nat.le_refl _)
  have z : (txt l).size = l.length := rfl
  have hc2 : Lib.countB (txt l) (txt old) * (txt new).size ≤ 3 * (txt l).size := by
    have a : Lib.countB (txt l) (txt old) * 1 ≤ Lib.countB (txt l) (txt old) * (txt old).size := Nat.mul_le_mul_left _ h1
    have b : Lib.countB (txt l) (txt old) * (txt new).size ≤ Lib.countB (txt l) (txt old) * 3 := Nat.mul_le_mul_left _ h2
    omega
  have := Any.strings_ReplaceAll lays155 extraPr (txt l) (txt old) (txt new) m w (by rw [z]; omega) hm h1 (by rw [z] at hc2 ⊢; omega)
  have e : Lib.replaceAll (txt l).data.toList (txt old).data.toList (txt new).data.toList = repA old new l := repA_all hne l
  rw [e] at this
  exact this
end Go.Proofs.YtgibkbeakfaehaaDoor

namespace Go.Proofs.YtgibkbeakfaehaaDoor
open Go.RowKit
set_option maxRecDepth 100000
theorem byteTypesE : ByteTypes Tryd.prog 52 5 9 := ⟨Tryd.underlying52, Tryd.underlying5, Tryd.underlying9, by kernel_rfl⟩
end Go.Proofs.YtgibkbeakfaehaaDoor

namespace Go.Proofs.YtgibkbeakfaehaaDoor
open Go.RowKit
set_option maxRecDepth 100000
theorem at_bL {s : ByteArray} {k : Nat} (h : k < s.size) : (bL s)[k]'(by simpa using h) = s[k] := by
  show s.data.toList[k]'(by simpa using h) = s[k]
  simp; rfl
theorem len_bL (s : ByteArray) : (bL s).length = s.size := by simp
theorem all_takeP (f : UInt8 → Bool) (l : List UInt8) {k : Nat} (h : k < l.length) : (l.take (k + 1)).all f = ((l.take k).all f && f l[k]) := by
  rw [List.take_succ_eq_append_getElem h, List.all_append]; simp
theorem any_takeP (f : UInt8 → Bool) (l : List UInt8) {k : Nat} (h : k < l.length) : (l.take (k + 1)).any f = ((l.take k).any f || f l[k]) := by
  rw [List.take_succ_eq_append_getElem h, List.any_append]; simp
theorem ret_txt {s t : ByteArray} (h : s = t) : Ending.returned (.string s) = .returned (.string t) := by rw [h]
theorem nam_len (l : List UInt8) (k : Nat) : (namL (l.take k)).length ≤ 3 * k := by
  unfold namL
  have h1 : ∀ l : List UInt8, (l.flatMap nameB).length ≤ 3 * l.length := by
    intro l
    induction l with
    | nil => simp
    | cons c l ih =>
      have : (nameB c).length ≤ 3 := by unfold nameB; split; simp; split; simp; split; simp; simp
      rw [List.flatMap_cons, List.length_append, List.length_cons]
      omega
  have := h1 (l.take k)
  have h2 := List.length_take_le k l
  omega
end Go.Proofs.YtgibkbeakfaehaaDoor

namespace Go.Proofs.YtgibkbeakfaehaaDoor
open Go.RowKit
set_option maxRecDepth 100000
theorem bL_app (a b : ByteArray) : bL (a ++ b) = bL a ++ bL b := by simp
theorem txt_bL (a : ByteArray) : txt (bL a) = a := rfl
theorem name_size {s : ByteArray} : (txt (nameL (bL s))).size ≤ 6 * s.size := by
  have h := nam_len (prsL (bL s)) (prsL (bL s)).length
  rw [List.take_length] at h
  have h2 := pairsS_size s
  have e2 : (pairsS s).size = (prsL (bL s)).length := rfl
  have e : (txt (nameL (bL s))).size = (namL (prsL (bL s))).length := rfl
  omega
theorem type_size {s : ByteArray} : (txt (typeL (bL s))).size ≤ s.size + 24 := by
  have e : (txt (typeL (bL s))).size = (typeL (bL s)).length := rfl
  rw [e]
  unfold typeL
  split
  · show 24 ≤ _; omega
  · rw [len_bL]; omega
/-- An entry whose texts aren't too long. -/
def EnZ (n : Nat) (e : En) : Prop := e.name.size ≤ n ∧ e.val.size ≤ n ∧ e.fname.size ≤ n ∧ e.typ.size ≤ n
theorem part_size {e : En} {n : Nat} (h : EnZ n e) : (partL e).length ≤ 16 * n + 200 := by
  have a1 := name_size (s := e.name)
  have a2 := name_size (s := e.fname)
  have a3 := type_size (s := e.typ)
  have b1 : (txt (nameL (bL e.name))).size = (nameL (bL e.name)).length := rfl
  have b2 : (txt (nameL (bL e.fname))).size = (nameL (bL e.fname)).length := rfl
  have b3 : (txt (typeL (bL e.typ))).size = (typeL (bL e.typ)).length := rfl
  have p1 := pairsS_size e.val
  have p2 : (pairsS e.val).size = (prsL (bL e.val)).length := rfl
  have z := len_bL e.val
  have l1 : c1L.length = 38 := rfl
  have l2 : c2L.length = 12 := rfl
  have l3 : c3L.length = 16 := rfl
  have l4 : c4L.length = 4 := rfl
  obtain ⟨h1, h2, h3, h4⟩ := h
  unfold partL headP valP
  cases e.file <;> simp only [Bool.false_eq_true, if_false, if_true, List.length_append, List.length_cons, List.length_nil] <;> omega
theorem sum_le' {a b : ByteArray} {m n : Nat} (h : a.size ≤ m) (g : b.size ≤ n) (q : m + n ≤ 9223372036854775807) : a.size + b.size ≤ 9223372036854775807 := by omega
theorem app_le {a b : ByteArray} {m n : Nat} (h : a.size ≤ m) (g : b.size ≤ n) : (a ++ b).size ≤ m + n := by rw [ByteArray.size_append]; omega
end Go.Proofs.YtgibkbeakfaehaaDoor

namespace Go.Proofs.YtgibkbeakfaehaaDoor
open Go.RowKit
/-- A builder in block b, of the call's own (from B on), that holds the bytes l. -/
def HoldsB (B b : Nat) (l : List UInt8) (w : World) : Prop := Lib.IsBuilder 54 5 B b (Lib.byteCells l) w
theorem HoldsB.fresh (w : World) : HoldsB w.heap.size w.heap.size [] (w.alloc (.cells #[.pointer none, .slice none 0 0] 54)) :=
  .inl ⟨Nat.le_refl _, .slice none 0 0, by simp [World.alloc, -World.alloc_eq], World.ownsRow_nil _ _ _ _, by simp [Value.ownBlock]⟩
theorem builderAt_below {T e : TypeId} {B b : Nat} {p : Value} {bs : List Value} {w w' : World} (h : Lib.BuilderAt T e B b p bs w) (hb : Below w.heap.size w w') : Lib.BuilderAt T e B b p bs w' := by
  have hlt := h.lt
  obtain ⟨h0, v, h1, h2, h3⟩ := h
  refine ⟨h0, v, by rw [hb.block b hlt]; exact h1, ?_, h3⟩
  obtain ⟨g1, g2⟩ := h2
  refine ⟨g1, ?_⟩
  rcases g2 with g2 | ⟨g, cap, cur, hv, hg, hh, r⟩
  · exact Or.inl g2
  · refine Or.inr ⟨g, cap, cur, hv, hg, ?_, r⟩
    rw [hb.block g ?_]; exact hh
    rcases Nat.lt_or_ge g w.heap.size with h' | h'
    · exact h'
    · simp [Array.getElem?_eq_none h'] at hh
/-- Another call, which changes nothing that was there, leaves the builder as it is. -/
theorem HoldsB.below {B b : Nat} {l : List UInt8} {w w' : World} (h : HoldsB B b l w) (hb : Below w.heap.size w w') : HoldsB B b l w' := by
  rcases h with h | h
  · exact .inl (builderAt_below h hb)
  · exact .inr (builderAt_below h hb)
end Go.Proofs.YtgibkbeakfaehaaDoor

namespace Go.Proofs.YtgibkbeakfaehaaDoor
open Go.Shelf Go.RowKit
set_option maxRecDepth 100000
def renBGrow : Go.Shelf.Ren := ⟨fun | 165 => 77 | 240 => 53 | 241 => 85 | 276 => 64 | 277 => 91 | n => n, fun | 0 => 0 | 3 => 3 | 4 => 4 | 5 => 5 | 9 => 9 | 20 => 20 | 37 => 52 | 70 => 51 | 72 => 54 | 164 => 78 | n => n, fun  | n => n⟩
theorem lays165 : Go.Proofs.Lays.n165 Tryd.prog renBGrow := {
  mixed := by kernel_rfl
  f165 := Tryd.func77.trans (congrArg some (by kernel_rfl))
  f240 := Tryd.func53.trans (congrArg some (by kernel_rfl))
  f241 := Tryd.func85.trans (congrArg some (by kernel_rfl))
  f276 := Tryd.func64.trans (congrArg some (by kernel_rfl))
  f277 := Tryd.func91.trans (congrArg some (by kernel_rfl))
  t0 := Tryd.underlying0
  a0 := Tryd.isAgg0
  z0 := Tryd.sizeOf0
  v0 := Tryd.zeroValue0
  t3 := Tryd.underlying3
  a3 := Tryd.isAgg3
  z3 := Tryd.sizeOf3
  v3 := Tryd.zeroValue3
  t4 := Tryd.underlying4
  a4 := Tryd.isAgg4
  z4 := Tryd.sizeOf4
  v4 := Tryd.zeroValue4
  t9 := Tryd.underlying9
  a9 := Tryd.isAgg9
  z9 := Tryd.sizeOf9
  v9 := Tryd.zeroValue9
  t20 := Tryd.underlying20
  a20 := Tryd.isAgg20
  z20 := Tryd.sizeOf20
  v20 := Tryd.zeroValue20
  t37 := Tryd.underlying52
  a37 := Tryd.isAgg52
  z37 := Tryd.sizeOf52
  v37 := Tryd.zeroValue52
  t70 := Tryd.underlying51
  a70 := Tryd.isAgg51
  z70 := Tryd.sizeOf51
  v70 := Tryd.zeroValue51
  t72 := Tryd.underlying54
  a72 := Tryd.isAgg54
  z72 := Tryd.sizeOf54
  v72 := Tryd.zeroValue54
  t164 := Tryd.underlying78
  a164 := Tryd.isAgg78
  z164 := Tryd.sizeOf78
  v164 := Tryd.zeroValue78 }
theorem extraBGrow : Builder.Extra Tryd.prog renBGrow := {
  sizeBuilder := by kernel_rfl
  liesBuilder := by kernel_rfl
  t5 := Tryd.underlying5
  a5 := Tryd.isAgg5
  z5 := Tryd.sizeOf5
  v5 := Tryd.zeroValue5
  infoByte := by kernel_rfl
  cellsByte := by kernel_rfl
  sizeByte := by kernel_rfl
  neB5 := by decide }
theorem grow_fresh (n : Nat) (w : World) (hn : n ≤ 281474976710656) :
    Calls Tryd.prog 77 #[.pointer (some ⟨w.heap.size, 0, none⟩), .int .i64 n] (w.alloc (.cells #[.pointer none, .slice none 0 0] 54)) fun e w' => e = .returned (.tuple #[]) ∧ HoldsB w.heap.size w.heap.size [] w' ∧ Below w.heap.size w w' := by
  refine (Any.Builder_Grow_fresh lays165 extraBGrow w.heap.size w.heap.size n (w.alloc (.cells #[.pointer none, .slice none 0 0] 54)) (Nat.le_refl _) (by simp [World.alloc, -World.alloc_eq]; rfl) (by simp) hn).mono ?_
  rintro e w' ⟨rfl, h, hb⟩
  exact ⟨rfl, .inr h, ((Below.refl _ w).alloc (Nat.le_refl _) _).trans hb⟩
end Go.Proofs.YtgibkbeakfaehaaDoor

namespace Go.Proofs.YtgibkbeakfaehaaDoor
open Go.Shelf Go.RowKit
set_option maxRecDepth 100000
def renBByte : Go.Shelf.Ren := ⟨fun | 167 => 79 | 240 => 53 | 276 => 64 | n => n, fun | 0 => 0 | 4 => 4 | 5 => 5 | 9 => 9 | 20 => 20 | 37 => 52 | 70 => 51 | 72 => 54 | 75 => 56 | 80 => 59 | 164 => 78 | n => n, fun  | n => n⟩
theorem lays167 : Go.Proofs.Lays.n167 Tryd.prog renBByte := {
  mixed := by kernel_rfl
  f167 := Tryd.func79.trans (congrArg some (by kernel_rfl))
  f240 := Tryd.func53.trans (congrArg some (by kernel_rfl))
  f276 := Tryd.func64.trans (congrArg some (by kernel_rfl))
  t0 := Tryd.underlying0
  a0 := Tryd.isAgg0
  z0 := Tryd.sizeOf0
  v0 := Tryd.zeroValue0
  t4 := Tryd.underlying4
  a4 := Tryd.isAgg4
  z4 := Tryd.sizeOf4
  v4 := Tryd.zeroValue4
  t5 := Tryd.underlying5
  a5 := Tryd.isAgg5
  z5 := Tryd.sizeOf5
  v5 := Tryd.zeroValue5
  t9 := Tryd.underlying9
  a9 := Tryd.isAgg9
  z9 := Tryd.sizeOf9
  v9 := Tryd.zeroValue9
  t20 := Tryd.underlying20
  a20 := Tryd.isAgg20
  z20 := Tryd.sizeOf20
  v20 := Tryd.zeroValue20
  t37 := Tryd.underlying52
  a37 := Tryd.isAgg52
  z37 := Tryd.sizeOf52
  v37 := Tryd.zeroValue52
  t70 := Tryd.underlying51
  a70 := Tryd.isAgg51
  z70 := Tryd.sizeOf51
  v70 := Tryd.zeroValue51
  t72 := Tryd.underlying54
  a72 := Tryd.isAgg54
  z72 := Tryd.sizeOf54
  v72 := Tryd.zeroValue54
  t75 := Tryd.underlying56
  a75 := Tryd.isAgg56
  z75 := Tryd.sizeOf56
  v75 := Tryd.zeroValue56
  t164 := Tryd.underlying78
  a164 := Tryd.isAgg78
  z164 := Tryd.sizeOf78
  v164 := Tryd.zeroValue78 }
theorem extraBByte : Builder.Extra Tryd.prog renBByte := {
  sizeBuilder := by kernel_rfl
  liesBuilder := by kernel_rfl
  t5 := Tryd.underlying5
  a5 := Tryd.isAgg5
  z5 := Tryd.sizeOf5
  v5 := Tryd.zeroValue5
  infoByte := by kernel_rfl
  cellsByte := by kernel_rfl
  sizeByte := by kernel_rfl
  neB5 := by decide }
theorem writeByte (B b : Nat) (l : List UInt8) (c : UInt8) (w : World) (h : HoldsB B b l w) (hlen : l.length + 1 ≤ 140737488355328) (hBw : B ≤ w.heap.size) :
    Calls Tryd.prog 79 #[.pointer (some ⟨b, 0, none⟩), .int .u8 (c.toNat : Int)] w fun e w' => e = .returned .nilIface ∧ HoldsB B b (l ++ [c]) w' ∧ Below B w w' := by
  refine (Any.Builder_WriteByte lays167 extraBByte B b (Lib.byteCells l) (c.toNat : Int) w h (by simpa [Lib.byteCells] using hlen) hBw).mono ?_
  rintro e w' ⟨rfl, h, hb⟩
  refine ⟨rfl, .inr ?_, hb⟩
  have e1 : Lib.byteCells (l ++ [c]) = Lib.byteCells l ++ [.int .u8 (c.toNat : Int)] := by simp [Lib.byteCells]
  rw [e1]; exact h
end Go.Proofs.YtgibkbeakfaehaaDoor

namespace Go.Proofs.YtgibkbeakfaehaaDoor
open Go.Shelf Go.RowKit
set_option maxRecDepth 100000
def renBText : Go.Shelf.Ren := ⟨fun | 166 => 34 | 240 => 53 | 276 => 64 | n => n, fun | 0 => 0 | 3 => 3 | 4 => 4 | 5 => 5 | 9 => 9 | 20 => 20 | 37 => 52 | 70 => 51 | 72 => 54 | 75 => 56 | 80 => 59 | 164 => 78 | n => n, fun  | n => n⟩
theorem lays166 : Go.Proofs.Lays.n166 Tryd.prog renBText := {
  mixed := by kernel_rfl
  f166 := Tryd.func34.trans (congrArg some (by kernel_rfl))
  f240 := Tryd.func53.trans (congrArg some (by kernel_rfl))
  f276 := Tryd.func64.trans (congrArg some (by kernel_rfl))
  t0 := Tryd.underlying0
  a0 := Tryd.isAgg0
  z0 := Tryd.sizeOf0
  v0 := Tryd.zeroValue0
  t3 := Tryd.underlying3
  a3 := Tryd.isAgg3
  z3 := Tryd.sizeOf3
  v3 := Tryd.zeroValue3
  t4 := Tryd.underlying4
  a4 := Tryd.isAgg4
  z4 := Tryd.sizeOf4
  v4 := Tryd.zeroValue4
  t9 := Tryd.underlying9
  a9 := Tryd.isAgg9
  z9 := Tryd.sizeOf9
  v9 := Tryd.zeroValue9
  t20 := Tryd.underlying20
  a20 := Tryd.isAgg20
  z20 := Tryd.sizeOf20
  v20 := Tryd.zeroValue20
  t37 := Tryd.underlying52
  a37 := Tryd.isAgg52
  z37 := Tryd.sizeOf52
  v37 := Tryd.zeroValue52
  t70 := Tryd.underlying51
  a70 := Tryd.isAgg51
  z70 := Tryd.sizeOf51
  v70 := Tryd.zeroValue51
  t72 := Tryd.underlying54
  a72 := Tryd.isAgg54
  z72 := Tryd.sizeOf54
  v72 := Tryd.zeroValue54
  t75 := Tryd.underlying56
  a75 := Tryd.isAgg56
  z75 := Tryd.sizeOf56
  v75 := Tryd.zeroValue56
  t164 := Tryd.underlying78
  a164 := Tryd.isAgg78
  z164 := Tryd.sizeOf78
  v164 := Tryd.zeroValue78 }
theorem extraBText : Builder.Extra Tryd.prog renBText := {
  sizeBuilder := by kernel_rfl
  liesBuilder := by kernel_rfl
  t5 := Tryd.underlying5
  a5 := Tryd.isAgg5
  z5 := Tryd.sizeOf5
  v5 := Tryd.zeroValue5
  infoByte := by kernel_rfl
  cellsByte := by kernel_rfl
  sizeByte := by kernel_rfl
  neB5 := by decide }
theorem writeString (B b : Nat) (l : List UInt8) (s : ByteArray) (w : World) (h : HoldsB B b l w) (hlen : l.length + s.size ≤ 140737488351232) (hBw : B ≤ w.heap.size) :
    Calls Tryd.prog 34 #[.pointer (some ⟨b, 0, none⟩), .string s] w fun e w' => e = .returned (.tuple #[.int .i64 s.size, .nilIface]) ∧ HoldsB B b (l ++ s.data.toList) w' ∧ Below B w w' := by
  refine (Any.Builder_WriteString lays166 extraBText B b (Lib.byteCells l) s w h (by simp [Lib.byteCells]; omega) hBw).mono ?_
  rintro e w' ⟨rfl, h, hb⟩
  refine ⟨rfl, .inr ?_, hb⟩
  have e1 : Lib.byteCells (l ++ s.data.toList) = Lib.byteCells l ++ Lib.strCells s := by simp [Lib.byteCells, Lib.strCells]
  rw [e1]; exact h
end Go.Proofs.YtgibkbeakfaehaaDoor

namespace Go.Proofs.YtgibkbeakfaehaaDoor
open Go.Shelf Go.RowKit
set_option maxRecDepth 100000
def renBString : Go.Shelf.Ren := ⟨fun | 169 => 35 | n => n, fun | 0 => 0 | 3 => 3 | 5 => 5 | 9 => 9 | 37 => 52 | 70 => 51 | 72 => 54 | 127 => 69 | n => n, fun  | n => n⟩
theorem lays169 : Go.Proofs.Lays.n169 Tryd.prog renBString := {
  mixed := by kernel_rfl
  f169 := Tryd.func35.trans (congrArg some (by kernel_rfl))
  t0 := Tryd.underlying0
  a0 := Tryd.isAgg0
  z0 := Tryd.sizeOf0
  v0 := Tryd.zeroValue0
  t3 := Tryd.underlying3
  a3 := Tryd.isAgg3
  z3 := Tryd.sizeOf3
  v3 := Tryd.zeroValue3
  t9 := Tryd.underlying9
  a9 := Tryd.isAgg9
  z9 := Tryd.sizeOf9
  v9 := Tryd.zeroValue9
  t37 := Tryd.underlying52
  a37 := Tryd.isAgg52
  z37 := Tryd.sizeOf52
  v37 := Tryd.zeroValue52
  t70 := Tryd.underlying51
  a70 := Tryd.isAgg51
  z70 := Tryd.sizeOf51
  v70 := Tryd.zeroValue51
  t72 := Tryd.underlying54
  a72 := Tryd.isAgg54
  z72 := Tryd.sizeOf54
  v72 := Tryd.zeroValue54
  t127 := Tryd.underlying69
  a127 := Tryd.isAgg69
  z127 := Tryd.sizeOf69
  v127 := Tryd.zeroValue69 }
theorem extraBString : Builder.Extra Tryd.prog renBString := {
  sizeBuilder := by kernel_rfl
  liesBuilder := by kernel_rfl
  t5 := Tryd.underlying5
  a5 := Tryd.isAgg5
  z5 := Tryd.sizeOf5
  v5 := Tryd.zeroValue5
  infoByte := by kernel_rfl
  cellsByte := by kernel_rfl
  sizeByte := by kernel_rfl
  neB5 := by decide }
theorem builderText (B b : Nat) (l : List UInt8) (w : World) (h : HoldsB B b l w) (hBw : B ≤ w.heap.size) :
    Calls Tryd.prog 35 #[.pointer (some ⟨b, 0, none⟩)] w fun e w' => e = .returned (.string (txt l)) ∧ Below B w w' :=
  Any.Builder_String_any lays169 extraBString B b l w h hBw
end Go.Proofs.YtgibkbeakfaehaaDoor

namespace Go.Proofs.YtgibkbeakfaehaaDoor
open Go.RowKit
set_option maxRecDepth 100000
set_option maxHeartbeats 400000 in
theorem withEnds_any (s e : ByteArray) (w : World) (hs : s.size ≤ 1099511627776) (he : e.size ≤ 2) :
    Calls Tryd.prog 66 #[.string s, .string e] w fun r w' => r = .returned (.string (endsS e s)) ∧ Below w.heap.size w w' := by
  go_enter Tryd.func66, Tryd.ntmps66
  go_wp2_with fail
  refine (grow_fresh s.size w (by omega)).mono ?_
  rintro r w1 ⟨rfl, h1, b1⟩
  go_wp2_with fail
  go_loopw [13] (fun i wr => ∃ k : Nat, k ≤ s.size ∧ i = .int .i64 k ∧ HoldsB w.heap.size w.heap.size (endsP e.data.toList 0 (s.data.toList.take k)) wr ∧ Below w.heap.size w wr) (fun i _ => s.size - (intOf i).toNat)
  case atStart => exact ⟨0, Nat.zero_le _, rfl, h1, b1⟩
  case round =>
    obtain ⟨k, hk, rfl, hh, hb⟩ := hrel
    by_cases hlt : k < s.size
    · have hle := endsP_take_le e s k he
      have HT := hide (endsP_take e.data.toList s k hlt)
      have hsz := hb.size
      have HE := hide (byteAt_eq s k hlt)
      go_wp2_with fail
      · have h10 : (s[k].toNat : Int) = 10 := by assumption
        have h0 : 0 < k := by assumption
        have h13 : ((((s[k - 1]'(by omega)).toNat : Int)) == 13) = true := by assumption
        rw [HE.out] at h10
        rw [prevAt_eq s k hlt h0, beq_iff_eq] at h13
        go_roundw
        case rel => exact ⟨k + 1, by omega, by go_num, by rw [HT.out, piece_none ((b10 _).2 h10) ((b13 _).2 h13), List.append_nil]; exact hh, hb⟩
        case measure => simp [intOf]; omega
      · have h10 : (s[k].toNat : Int) = 10 := by assumption
        have h0 : 0 < k := by assumption
        have h13 : ((((s[k - 1]'(by omega)).toNat : Int)) == 13) = false := by assumption
        rw [HE.out] at h10
        rw [prevAt_eq s k hlt h0, beq_eq_false_iff_ne] at h13
        have HP := hide (piece_end (e := e.data.toList) (p := prevAt s k) (c := byteAt s k) (fun h => h13 ((b13 _).1 h.2)) (.inl ((b10 _).2 h10)))
        refine (writeString _ _ _ e wr hh (by omega) hb.size).mono ?_
        rintro r w2 ⟨rfl, h2, b2⟩
        go_wp2_with fail
        go_roundw
        case rel => exact ⟨k + 1, by omega, by go_num, by rw [HT.out, HP.out]; exact h2, hb.trans b2⟩
        case measure => simp [intOf]; omega
      · have h10 : (s[k].toNat : Int) = 10 := by assumption
        have h0 : ¬ 0 < k := by assumption
        rw [HE.out] at h10
        have HP := hide (piece_end (e := e.data.toList) (p := prevAt s k) (c := byteAt s k) (fun h => by have := h.2; unfold prevAt at this; rw [if_pos (by omega)] at this; exact absurd this (by decide)) (.inl ((b10 _).2 h10)))
        refine (writeString _ _ _ e wr hh (by omega) hb.size).mono ?_
        rintro r w2 ⟨rfl, h2, b2⟩
        go_wp2_with fail
        go_roundw
        case rel => exact ⟨k + 1, by omega, by go_num, by rw [HT.out, HP.out]; exact h2, hb.trans b2⟩
        case measure => simp [intOf]; omega
      · have h10 : ¬ (s[k].toNat : Int) = 10 := by assumption
        have h13 : ((s[k].toNat : Int) == 10) = true ∨ ((s[k].toNat : Int) == 13) = true := by assumption
        rw [HE.out] at h10 h13
        rw [beq_iff_eq, beq_iff_eq] at h13
        have HP := hide (piece_end (e := e.data.toList) (p := prevAt s k) (c := byteAt s k) (fun h => h10 ((b10 _).1 h.1)) (.inr ((b13 _).2 (by omega))))
        refine (writeString _ _ _ e wr hh (by omega) hb.size).mono ?_
        rintro r w2 ⟨rfl, h2, b2⟩
        go_wp2_with fail
        go_roundw
        case rel => exact ⟨k + 1, by omega, by go_num, by rw [HT.out, HP.out]; exact h2, hb.trans b2⟩
        case measure => simp [intOf]; omega
      · have h10 : ¬ (s[k].toNat : Int) = 10 := by assumption
        have h13 : ((s[k].toNat : Int) == 10) = false ∧ ((s[k].toNat : Int) == 13) = false := by assumption
        rw [HE.out] at h10 h13
        rw [beq_eq_false_iff_ne, beq_eq_false_iff_ne] at h13
        have HP := hide (piece_byte (e := e.data.toList) (p := prevAt s k) (c := byteAt s k) (fun h => h10 ((b10 _).1 h)) (fun h => h13.2 ((b13 _).1 h)))
        rw [HE.out]
        refine (writeByte _ _ _ (byteAt s k) wr hh (by omega) hb.size).mono ?_
        rintro r w2 ⟨rfl, h2, b2⟩
        go_wp2_with fail
        go_roundw
        case rel => exact ⟨k + 1, by omega, by go_num, by rw [HT.out, HP.out]; exact h2, hb.trans b2⟩
        case measure => simp [intOf]; omega
    · have e : k = s.size := by omega
      subst e
      rw [take_all] at hh
      go_wp2_with fail
      refine (builderText _ _ _ _ hh hb.size).mono ?_
      rintro r w2 ⟨rfl, b2⟩
      go_wp2_with fail
      go_ret
      exact ⟨rfl, hb.trans b2⟩
end Go.Proofs.YtgibkbeakfaehaaDoor

namespace Go.Proofs.YtgibkbeakfaehaaDoor
open Go.RowKit
set_option maxRecDepth 100000
set_option maxHeartbeats 400000 in
theorem pairs_any (s : ByteArray) (w : World) (hs : s.size ≤ 1099511627776) :
    Calls Tryd.prog 55 #[.string s] w fun r w' => r = .returned (.string (pairsS s)) ∧ Below w.heap.size w w' := by
  go_enter Tryd.func55, Tryd.ntmps55
  go_wp2_with fail
  refine (withEnds_any s ⟨#[13, 10]⟩ _ hs (by decide)).mono ?_
  rintro r w1 ⟨rfl, b1⟩
  go_wp2_with fail
  go_ret
  exact ⟨rfl, b1⟩
end Go.Proofs.YtgibkbeakfaehaaDoor

namespace Go.Proofs.YtgibkbeakfaehaaDoor
open Go.RowKit
set_option maxRecDepth 100000
/-- The table of signs. -/
structure SgP (w : World) : Prop where
  c0 : w.cell? ⟨0, 0, none⟩ = some (.string ⟨#[10]⟩)
  c1 : w.cell? ⟨0, 1, none⟩ = some (.string ⟨#[37, 48, 65]⟩)
  c2 : w.cell? ⟨0, 2, none⟩ = some (.string ⟨#[13]⟩)
  c3 : w.cell? ⟨0, 3, none⟩ = some (.string ⟨#[37, 48, 68]⟩)
  c4 : w.cell? ⟨0, 4, none⟩ = some (.string ⟨#[34]⟩)
  c5 : w.cell? ⟨0, 5, none⟩ = some (.string ⟨#[37, 50, 50]⟩)
theorem SgP.below {w w' : World} (h : SgP w) (hb : Below w.heap.size w w') : SgP w' := ⟨cell_below h.c0 hb, cell_below h.c1 hb, cell_below h.c2 hb, cell_below h.c3 hb, cell_below h.c4 hb, cell_below h.c5 hb⟩
/-- What the program's road of layer 20 names. -/
structure PtTabs (w : World) : Prop where
  sg : SgP w
  mx : SomeMax w
theorem PtTabs.below {w w' : World} (h : PtTabs w) (hb : Below w.heap.size w w') : PtTabs w' := ⟨h.sg.below hb, h.mx.below hb⟩
theorem txt_is (s : ByteArray) : txt (bL s) = s := by
  show (⟨s.data.toList.toArray⟩ : ByteArray) = s
  rw [Array.toArray_toList]
set_option maxHeartbeats 8000000 in
theorem mayStand_any (c : UInt8) (w : World) :
    Calls Tryd.prog 25 #[.int .u8 (c.toNat : Int)] w fun e w' => e = .returned (.bool (fitC c)) ∧ w' = w := by
  have E : Hid (fitC c = (decide (48 ≤ c.toNat ∧ c.toNat ≤ 57 ∨ 65 ≤ c.toNat ∧ c.toNat ≤ 90 ∨ 97 ≤ c.toNat ∧ c.toNat ≤ 122) || c == 45)) := rfl
  have Q : (c == 45) = decide (c.toNat = 45) := by
    rw [Bool.eq_iff_iff, beq_iff_eq, decide_eq_true_eq]
    exact ⟨fun h => by rw [h]; rfl, fun h => UInt8.toNat_inj.1 h⟩
  rw [Q] at E
  generalize fitC c = R at *
  generalize c.toNat = x at *
  clear Q
  have YES : Hid ((97 ≤ x ∧ x ≤ 122) ∨ (65 ≤ x ∧ x ≤ 90) ∨ (48 ≤ x ∧ x ≤ 57) ∨ x = 45 → true = R) := fun h => by
    rw [E.out]
    symm
    simp only [Bool.or_eq_true, decide_eq_true_eq]
    omega
  have NO : Hid (¬ ((97 ≤ x ∧ x ≤ 122) ∨ (65 ≤ x ∧ x ≤ 90) ∨ (48 ≤ x ∧ x ≤ 57) ∨ x = 45) → false = R) := fun h => by
    rw [E.out]
    symm
    rw [Bool.or_eq_false_iff]
    exact ⟨decide_eq_false (by omega), decide_eq_false (by omega)⟩
  clear E
  by_cases a1 : 97 ≤ x
  · have i1 : (97 : Int) ≤ (x : Int) := by omega
    have d1 : decide ((97 : Int) ≤ (x : Int)) = true := decide_eq_true i1
    by_cases a2 : x ≤ 122
    · have i2 : (x : Int) ≤ 122 := by omega
      have d2 : decide ((x : Int) ≤ 122) = true := decide_eq_true i2
      have RR := hide (YES.out (by omega))
      clear YES NO a1 a2
      go_enter Tryd.func25, Tryd.ntmps25
      go_wp2_with fail
      go_ret
      exact ⟨ret_bool RR.out, rfl⟩
    · have i2 : ¬ (x : Int) ≤ 122 := by omega
      have d2 : decide ((x : Int) ≤ 122) = false := decide_eq_false i2
      have i3 : (65 : Int) ≤ (x : Int) := by omega
      have i4 : ¬ (x : Int) ≤ 90 := by omega
      have i5 : (48 : Int) ≤ (x : Int) := by omega
      have i6 : ¬ (x : Int) ≤ 57 := by omega
      have i7 : ((x : Int) == 45) = false := by rw [beq_eq_false_iff_ne]; omega
      have d3 : decide ((65 : Int) ≤ (x : Int)) = true := decide_eq_true i3
      have d4 : decide ((x : Int) ≤ 90) = false := decide_eq_false i4
      have d5 : decide ((48 : Int) ≤ (x : Int)) = true := decide_eq_true i5
      have d6 : decide ((x : Int) ≤ 57) = false := decide_eq_false i6
      have RR := hide (NO.out (by omega))
      clear YES NO a1 a2
      go_enter Tryd.func25, Tryd.ntmps25
      go_wp2_with fail
      go_ret
      exact ⟨ret_bool RR.out, rfl⟩
  · have i1 : ¬ (97 : Int) ≤ (x : Int) := by omega
    have d1 : decide ((97 : Int) ≤ (x : Int)) = false := decide_eq_false i1
    by_cases a3 : 65 ≤ x
    · have i3 : (65 : Int) ≤ (x : Int) := by omega
      have d3 : decide ((65 : Int) ≤ (x : Int)) = true := decide_eq_true i3
      by_cases a4 : x ≤ 90
      · have i4 : (x : Int) ≤ 90 := by omega
        have d4 : decide ((x : Int) ≤ 90) = true := decide_eq_true i4
        have RR := hide (YES.out (by omega))
        clear YES NO a1 a3 a4
        go_enter Tryd.func25, Tryd.ntmps25
        go_wp2_with fail
        go_ret
        exact ⟨ret_bool RR.out, rfl⟩
      · have i4 : ¬ (x : Int) ≤ 90 := by omega
        have d4 : decide ((x : Int) ≤ 90) = false := decide_eq_false i4
        have i5 : (48 : Int) ≤ (x : Int) := by omega
        have i6 : ¬ (x : Int) ≤ 57 := by omega
        have d5 : decide ((48 : Int) ≤ (x : Int)) = true := decide_eq_true i5
        have d6 : decide ((x : Int) ≤ 57) = false := decide_eq_false i6
        have i7 : ((x : Int) == 45) = false := by rw [beq_eq_false_iff_ne]; omega
        have RR := hide (NO.out (by omega))
        clear YES NO a1 a3 a4
        go_enter Tryd.func25, Tryd.ntmps25
        go_wp2_with fail
        go_ret
        exact ⟨ret_bool RR.out, rfl⟩
    · have i3 : ¬ (65 : Int) ≤ (x : Int) := by omega
      have d3 : decide ((65 : Int) ≤ (x : Int)) = false := decide_eq_false i3
      by_cases a5 : 48 ≤ x
      · have i5 : (48 : Int) ≤ (x : Int) := by omega
        have d5 : decide ((48 : Int) ≤ (x : Int)) = true := decide_eq_true i5
        by_cases a6 : x ≤ 57
        · have i6 : (x : Int) ≤ 57 := by omega
          have d6 : decide ((x : Int) ≤ 57) = true := decide_eq_true i6
          have RR := hide (YES.out (by omega))
          clear YES NO a1 a3 a5 a6
          go_enter Tryd.func25, Tryd.ntmps25
          go_wp2_with fail
          go_ret
          exact ⟨ret_bool RR.out, rfl⟩
        · have i6 : ¬ (x : Int) ≤ 57 := by omega
          have d6 : decide ((x : Int) ≤ 57) = false := decide_eq_false i6
          have i7 : ((x : Int) == 45) = false := by rw [beq_eq_false_iff_ne]; omega
          have RR := hide (NO.out (by omega))
          clear YES NO a1 a3 a5 a6
          go_enter Tryd.func25, Tryd.ntmps25
          go_wp2_with fail
          go_ret
          exact ⟨ret_bool RR.out, rfl⟩
      · have i5 : ¬ (48 : Int) ≤ (x : Int) := by omega
        have d5 : decide ((48 : Int) ≤ (x : Int)) = false := decide_eq_false i5
        by_cases a7 : x = 45
        · have i7 : ((x : Int) == 45) = true := by rw [beq_iff_eq]; omega
          have RR := hide (YES.out (by omega))
          clear YES NO a1 a3 a5 a7
          go_enter Tryd.func25, Tryd.ntmps25
          go_wp2_with fail
          go_ret
          exact ⟨ret_bool RR.out, rfl⟩
        · have i7 : ((x : Int) == 45) = false := by rw [beq_eq_false_iff_ne]; omega
          have RR := hide (NO.out (by omega))
          clear YES NO a1 a3 a5 a7
          go_enter Tryd.func25, Tryd.ntmps25
          go_wp2_with fail
          go_ret
          exact ⟨ret_bool RR.out, rfl⟩
set_option maxHeartbeats 8000000 in
theorem ptFitW_any (b : ByteArray) (w : World) (hs : b.size ≤ 1099511627776) :
    Calls Tryd.prog 10 #[.string b] w fun e w' => e = .returned (.bool (fitL (bL b))) ∧ w' = w := by
  have LB := hide (len_bL b)
  have E : Hid (fitL (bL b) = ((bL b).all fitC && decide (0 < (bL b).length ∧ (bL b).length ≤ 70))) := rfl
  rw [LB.out] at E
  by_cases h0 : b.size = 0
  · have n1 : b.toList = [] := by rw [ByteArray.toList_eq]; exact List.eq_nil_of_length_eq_zero (by rw [← h0, ← LB.out])
    have n2 : b.toList.isEmpty = true := by rw [n1]; rfl
    rw [decide_eq_false (fun t => by omega), Bool.and_false] at E
    clear LB h0
    go_enter Tryd.func10, Tryd.ntmps10
    go_wp2_with fail
    go_ret
    exact ⟨ret_bool E.out.symm, rfl⟩
  · have n1 : ¬ b.toList = [] := by
      rw [ByteArray.toList_eq]; intro e
      have := LB.out
      have e : bL b = [] := e
      rw [e] at this
      exact h0 this.symm
    have n2 : b.toList.isEmpty = false := by
      cases g : b.toList.isEmpty with
      | false => rfl
      | true => exact absurd (List.isEmpty_iff.1 g) n1
    by_cases h7 : 70 < b.size
    · have d7 : decide ((70 : Int) < (b.size : Int)) = true := decide_eq_true (by omega)
      rw [decide_eq_false (fun t => by omega), Bool.and_false] at E
      clear LB h0 h7
      go_enter Tryd.func10, Tryd.ntmps10
      go_wp2_with fail
      go_ret
      exact ⟨ret_bool E.out.symm, rfl⟩
    · have d7 : decide ((70 : Int) < (b.size : Int)) = false := decide_eq_false (by omega)
      rw [decide_eq_true ⟨by omega, by omega⟩, Bool.and_true] at E
      go_enter Tryd.func10, Tryd.ntmps10
      go_wp2_with fail
      go_loop [13] (fun iv => ∃ k : Nat, k ≤ b.size ∧ iv = .int .i64 k ∧ Hid (((bL b).take k).all fitC = true)) (fun iv => b.size - (intOf iv).toNat)
      case atStart => exact ⟨0, Nat.zero_le _, rfl, rfl⟩
      case round =>
        obtain ⟨k, hk, rfl, HA⟩ := hrel
        by_cases g : k < b.size
        · have k1 : (k : Int) < (b.size : Int) := by omega
          have k0 : (0 : Int) ≤ (k : Int) := by omega
          have hl : k < (bL b).length := by rw [LB.out]; exact g
          have TK := hide (all_takeP fitC (bL b) hl)
          rw [at_bL g, HA.out, Bool.true_and] at TK
          have NO : Hid (fitC b[k] = false → fitL (bL b) = false) := fun t => by
            rw [E.out]
            exact List.all_eq_false.2 ⟨(bL b)[k], List.getElem_mem hl, by rw [at_bL g, t]; decide⟩
          have HM := hide (fun W => mayStand_any b[k] W)
          clear HA E LB
          cases p : fitC b[k] with
          | true =>
            rw [p] at HM TK
            clear NO p
            go_wp2_with fail
            refine (HM.out _).mono ?_
            rintro e w1 ⟨rfl, hu⟩
            obtain rfl := hu.symm
            go_wp2_with fail
            go_round
            case rel => exact ⟨k + 1, by omega, by go_num, TK⟩
            case measure => simp [intOf]; omega
          | false =>
            rw [p] at HM
            have RN := hide (NO.out p)
            clear NO p TK
            go_wp2_with fail
            refine (HM.out _).mono ?_
            rintro e w1 ⟨rfl, hu⟩
            obtain rfl := hu.symm
            go_wp2_with fail
            go_ret
            exact ⟨ret_bool RN.out.symm, rfl⟩
        · obtain rfl : k = b.size := by omega
          rw [List.take_of_length_le (by rw [LB.out]; omega)] at HA
          rw [HA.out] at E
          clear HA LB
          go_wp2_with fail
          go_ret
          exact ⟨ret_bool E.out.symm, rfl⟩
set_option maxHeartbeats 8000000 in
theorem toldType_any (s : ByteArray) (w : World) (hs : s.size ≤ 1099511627776) :
    Calls Tryd.prog 39 #[.string s] w fun e w' => e = .returned (.string (txt (typeL (bL s)))) ∧ w' = w := by
  have LB := hide (len_bL s)
  have EB : Hid ((bL s).any badT = true ∨ bL s = [] → txt (typeL (bL s)) = ⟨#[97, 112, 112, 108, 105, 99, 97, 116, 105, 111, 110, 47, 111, 99, 116, 101, 116, 45, 115, 116, 114, 101, 97, 109]⟩) := fun h => by unfold typeL; rw [if_pos h]; rfl
  have EG : Hid (¬ ((bL s).any badT = true ∨ bL s = []) → txt (typeL (bL s)) = s) := fun h => by unfold typeL; rw [if_neg h]; rfl
  by_cases h0 : s.size = 0
  · have n1 : s.toList = [] := by rw [ByteArray.toList_eq]; exact List.eq_nil_of_length_eq_zero (by rw [← h0, ← LB.out])
    have n2 : s.toList.isEmpty = true := by rw [n1]; rfl
    have R1 := hide (EB.out (.inr (List.eq_nil_of_length_eq_zero (by rw [LB.out]; exact h0))))
    clear EB EG LB h0
    go_enter Tryd.func39, Tryd.ntmps39
    go_wp2_with fail
    go_ret
    exact ⟨ret_txt R1.out.symm, rfl⟩
  · have n1 : ¬ s.toList = [] := by
      rw [ByteArray.toList_eq]; intro e
      have := LB.out
      have e : bL s = [] := e
      rw [e] at this
      exact h0 this.symm
    have n2 : s.toList.isEmpty = false := by
      cases g : s.toList.isEmpty with
      | false => rfl
      | true => exact absurd (List.isEmpty_iff.1 g) n1
    go_enter Tryd.func39, Tryd.ntmps39
    go_wp2_with fail
    go_loop [8] (fun iv => ∃ k : Nat, k ≤ s.size ∧ iv = .int .i64 k ∧ Hid (((bL s).take k).any badT = false)) (fun iv => s.size - (intOf iv).toNat)
    case atStart => exact ⟨0, Nat.zero_le _, rfl, rfl⟩
    case round =>
      obtain ⟨k, hk, rfl, HA⟩ := hrel
      by_cases g : k < s.size
      · have k1 : (k : Int) < (s.size : Int) := by omega
        have k0 : (0 : Int) ≤ (k : Int) := by omega
        have hl : k < (bL s).length := by rw [LB.out]; exact g
        have TK := hide (any_takeP badT (bL s) hl)
        rw [at_bL g, HA.out, Bool.false_or] at TK
        have YES : Hid (badT s[k] = true → txt (typeL (bL s)) = ⟨#[97, 112, 112, 108, 105, 99, 97, 116, 105, 111, 110, 47, 111, 99, 116, 101, 116, 45, 115, 116, 114, 101, 97, 109]⟩) := fun t => EB.out (.inl (List.any_eq_true.2 ⟨(bL s)[k], List.getElem_mem hl, by rw [at_bL g]; exact t⟩))
        have EC : Hid (badT s[k] = decide (s[k].toNat < 32 ∨ 126 < s[k].toNat)) := rfl
        clear HA EB EG LB
        by_cases q0 : s[k].toNat < 32
        · have d0 : decide ((s[k].toNat : Int) < 32) = true := decide_eq_true (by omega)
          have i0 : (s[k].toNat : Int) < 32 := by omega
          have R1 := hide (YES.out (by rw [EC.out]; exact decide_eq_true (.inl q0)))
          clear YES EC TK q0
          go_wp2_with fail
          go_ret
          exact ⟨ret_txt R1.out.symm, rfl⟩
        · have d0 : decide ((s[k].toNat : Int) < 32) = false := decide_eq_false (by omega)
          have i0 : ¬ (s[k].toNat : Int) < 32 := by omega
          by_cases q1 : 126 < s[k].toNat
          · have d1 : decide (126 < (s[k].toNat : Int)) = true := decide_eq_true (by omega)
            have i1 : 126 < (s[k].toNat : Int) := by omega
            have R1 := hide (YES.out (by rw [EC.out]; exact decide_eq_true (.inr q1)))
            clear YES EC TK q0 q1
            go_wp2_with fail
            go_ret
            exact ⟨ret_txt R1.out.symm, rfl⟩
          · have d1 : decide (126 < (s[k].toNat : Int)) = false := decide_eq_false (by omega)
            have i1 : ¬ 126 < (s[k].toNat : Int) := by omega
            rw [EC.out, decide_eq_false (fun t => t.elim q0 q1)] at TK
            clear YES EC q0 q1
            go_wp2_with fail
            go_round
            case rel => exact ⟨k + 1, by omega, by go_num, TK⟩
            case measure => simp [intOf]; omega
      · obtain rfl : k = s.size := by omega
        rw [List.take_of_length_le (by rw [LB.out]; omega)] at HA
        have R1 := hide (EG.out (fun t => by
          rcases t with t | t
          · rw [HA.out] at t; cases t
          · exact h0 (by rw [← LB.out, t]; rfl)))
        clear EB EG HA LB h0
        go_wp2_with fail
        go_ret
        exact ⟨ret_txt R1.out.symm, rfl⟩
theorem val_file {e : En} (h : e.file = true) : txt (valP e) = e.val := by
  unfold valP; rw [if_pos h]; exact txt_is _
theorem val_text {e : En} (h : e.file = false) : txt (valP e) = pairsS e.val := by
  unfold valP; rw [h]; rfl
set_option maxHeartbeats 8000000 in
theorem carried_any (e0 : En) (w : World) (hs : e0.val.size ≤ 1099511627776) :
    Calls Tryd.prog 38 #[.agg #[.string e0.name, .string e0.val, .bool e0.file, .string e0.fname, .string e0.typ]] w fun e w' => e = .returned (.string (txt (valP e0))) ∧ Below w.heap.size w w' := by
  have HP := hide (fun W => pairs_any e0.val W hs)
  have K := hide (Bk.new w [.string e0.name, .string e0.val, .bool e0.file, .string e0.fname, .string e0.typ] 44)
  have B0 : Hid (Below w.heap.size w (w.alloc (.cells #[.string e0.name, .string e0.val, .bool e0.file, .string e0.fname, .string e0.typ] 44))) := (Below.refl _ w).alloc (Nat.le_refl _) _
  have E1 := hide (fun h => val_file (e := e0) h)
  have E2 := hide (fun h => val_text (e := e0) h)
  generalize txt (valP e0) = RES at *
  generalize pairsS e0.val = p0 at *
  generalize e0.name = t0 at *
  generalize e0.val = t1 at *
  generalize e0.fname = t2 at *
  generalize e0.typ = t3 at *
  cases hf : e0.file with
  | true =>
    rw [hf] at K B0 E1 E2
    have R1 := hide (E1.out rfl)
    clear E1 E2
    have x2 := K.out.cell 2 rfl
    have x1 := K.out.cell 1 rfl
    rw [hf] at *
    clear hf
    go_enter Tryd.func38, Tryd.ntmps38
    go_wp2_with fail
    go_ret
    exact ⟨ret_txt R1.out.symm, B0.out⟩
  | false =>
    rw [hf] at K B0 E1 E2
    have R1 := hide (E2.out rfl)
    clear E1 E2
    have x2 := K.out.cell 2 rfl
    have x1 := K.out.cell 1 rfl
    clear hf
    go_enter Tryd.func38, Tryd.ntmps38
    go_wp2_with fail
    refine (HP.out _).mono ?_
    rintro e w1 ⟨rfl, b1⟩
    have B1 := hide (chain B0.out b1)
    clear b1
    go_wp2_with fail
    go_ret
    exact ⟨ret_txt R1.out.symm, B1.out⟩

end Go.Proofs.YtgibkbeakfaehaaDoor
