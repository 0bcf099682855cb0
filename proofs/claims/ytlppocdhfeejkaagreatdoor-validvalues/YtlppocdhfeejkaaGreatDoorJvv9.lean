/- Facts of no program. Small letters of texts, as lists of bytes. What kind a node is, as a function of its name and its attributes. Blanks at the ends of texts, as lists of bytes. Runs of blanks within a text, as lists of bytes. -/
import Derived.Test.YtlppocdhfeejkaaGreatDoorJvv2
import Derived.Test.YtlppocdhfeejkaaGreatDoorJvv7
import Derived.Test.YtlppocdhfeejkaaGreatDoorJvv8
import Derived.Laws.BytesArg
import Derived.Lib.ConvBytes
import Derived.Lib.AppendStr
import Derived.Lib.SlTrimSet

namespace Go.Proofs.YtlppocdhfeejkaaGreatDoor
open Go.RowKit
/-- The types of bytes, of slices of bytes and of texts. -/
structure ByteTypes (P : Program) (t e st : TypeId) : Prop where
  sl : P.underlying t = some (.slice e)
  el : P.underlying e = some (.int .u8)
  str : P.underlying st = some .string
  info : (P.info? e).map (fun i => (i.zero, i.size, i.bytes)) = some (some (.int .u8 0), 1, 1)
/-- A byte, as a cell holds it. -/
def cellB (c : UInt8) : Value := .int .u8 (c.toNat : Int)
def txt (l : List UInt8) : ByteArray := ⟨l.toArray⟩
theorem txt_data (l : List UInt8) : (txt l).data.toList = l := rfl
theorem txt_toList (s : ByteArray) : txt s.data.toList = s := rfl
theorem txt_size (l : List UInt8) : (txt l).size = l.length := rfl
/-- The value v is a slice of the call's own (its block from 'base' on) that holds the bytes l. -/
def OwnsB (e : TypeId) (base : Nat) (w : World) (v : Value) (l : List UInt8) : Prop := w.ownsRow base e 1 v l.length (l.map cellB)
theorem OwnsB.nil (e : TypeId) (base : Nat) (w : World) : OwnsB e base w (.slice none 0 0) [] := World.ownsRow_nil w base e 1
theorem OwnsB.below {e : TypeId} {base : Nat} {w w' : World} {v : Value} {l : List UInt8} (h : OwnsB e base w v l) (hb : Below w.heap.size w w') : OwnsB e base w' v l := by
  obtain ⟨h1, h2⟩ := h
  refine ⟨h1, ?_⟩
  rcases h2 with h2 | ⟨g, cap, cur, hv, hg, hh, r⟩
  · exact Or.inl h2
  · refine Or.inr ⟨g, cap, cur, hv, hg, ?_, r⟩
    rw [hb.block g ?_]; exact hh
    rcases Nat.lt_or_ge g w.heap.size with h' | h'
    · exact h'
    · simp [Array.getElem?_eq_none h'] at hh
theorem OwnsB.mono {e : TypeId} {base base' : Nat} {w : World} {v : Value} {l : List UInt8} (h : OwnsB e base w v l) (hb : base' ≤ base) : OwnsB e base' w v l := by
  obtain ⟨h1, h2⟩ := h
  refine ⟨h1, ?_⟩
  rcases h2 with h2 | ⟨g, cap, cur, hv, hg, r⟩
  · exact Or.inl h2
  · exact Or.inr ⟨g, cap, cur, hv, by omega, r⟩
theorem strOfNums_bytes (l : List UInt8) : strOfNums (l.map fun c => (c.toNat : Int)) = txt l := by
  unfold strOfNums txt
  rw [List.map_map]
  have : ((fun n : Int => UInt8.ofNat n.toNat) ∘ fun c : UInt8 => (c.toNat : Int)) = id := by
    funext c; simp
  rw [this, List.map_id]
/-- 'string(b)' of such a slice. -/
theorem OwnsB.text {P : Program} {t e st : TypeId} (bt : ByteTypes P t e st) {base : Nat} {w : World} {v : Value} {l : List UInt8} (h : OwnsB e base w v l) :
    (convert t st v).run P w = .ok (.string (txt l)) w := by
  rcases h.2 with ⟨rfl, hn⟩ | ⟨g, cap, cur, rfl, hg, hh, r⟩
  · have : l = [] := List.eq_nil_of_length_eq_zero hn
    subst this
    exact run_convert_bytes_nil (P := P) w t e bt.sl bt.el 0 0 st bt.str
  · have hl : (l.map fun c => (c.toNat : Int)).length = l.length := by simp
    have := run_convert_bytes_arg (P := P) w t e bt.sl bt.el g 0 l.length cap _ hl (fun i hi => by
      rw [Nat.zero_add, World.ownsRow.cellAt h i (by omega)]
      simp [cellB, hi]) st bt.str
    rw [this, strOfNums_bytes]
theorem grown_below {e : TypeId} {base : Nat} {w w' : World} {v : Value} {n : Nat} {xs : List Value} (h : w.ownsRow base e 1 v n xs) (hg : w.grownBy w' v.ownBlock) (hB : base ≤ w.heap.size) : Below base w w' :=
  (Below.refl base w).grown hg hB fun k hk => (h.lt k hk).1
/-- 'out = append(out, c)': the byte was laid in a block of its own first. -/
theorem wpList_append_byte {P : Program} {t e st : TypeId} (bt : ByteTypes P t e st) {ops : Array Oper} {rest : List Oper} {o : Oper} {a : Act} {Q : Exit → Act → World → Prop} (w : World) (y : Int)
    (hgd : o.guard = none) (s x : Operand) (ho : o.op = .call { callee := .builtin .append, args := #[s, x], argTypes := #[t, t] })
    (base : Nat) (v : Value) (l : List UInt8) (c : UInt8) (hy : y = (c.toNat : Int)) (hs : a.eval s = v) (hown : OwnsB e base w v l)
    (hx : a.eval x = .slice (some ⟨w.heap.size, 0, none⟩) 1 1) (hlen : l.length ≤ 70368744177664) (hbase : base ≤ w.heap.size)
    (h : ∀ v' w', OwnsB e base w' v' (l ++ [c]) → Below base w w' → wpList P ops Q rest (a.put o.dst v') w') : wpList P ops Q (o :: rest) a (w.alloc (.cells #[.int .u8 y] e)) := by
  subst hy
  obtain ⟨i, hi, hz0, hz1, hz2⟩ := info_parts bt.info
  have hown' : (w.alloc (.cells #[.int .u8 (c.toNat : Int)] e)).ownsRow base e 1 v l.length (l.map cellB) := World.ownsRow.alloc hown _
  refine wpList_append_own (P := P) _ hgd s x t ho base e i (.int .u8 0) 1 1 bt.sl hi hz0 hz1 hz2 rfl (by decide) v l.length (l.map cellB) hs hown' ⟨w.heap.size, 0, none⟩ 1 1 [cellB c] hx rfl (cell_one_new _ _ _) (fun u hu => by simp at hu; subst hu; rfl) (by unfold maxLen; omega) (by omega) (by simp; omega) ?_
  intro v' w' h1 h2 _
  refine h v' w' ?_ (((Below.refl base w).alloc hbase _).trans (grown_below hown' h2 (by simp; omega)))
  simpa [OwnsB] using h1
/-- 'out = append(out, s...)', s a text. -/
theorem wpList_append_text {P : Program} {t e st : TypeId} (bt : ByteTypes P t e st) {ops : Array Oper} {rest : List Oper} {o : Oper} {a : Act} {Q : Exit → Act → World → Prop} (w : World)
    (hgd : o.guard = none) (sl x : Operand) (ho : o.op = .call { callee := .builtin .append, args := #[sl, x], argTypes := #[t, st] })
    (base : Nat) (v : Value) (l : List UInt8) (s : ByteArray) (hs : a.eval sl = v) (hown : OwnsB e base w v l)
    (hx : a.eval x = .string s) (hlen : l.length + s.size ≤ 70368744177664) (hbase : base ≤ w.heap.size)
    (h : ∀ v' w', OwnsB e base w' v' (l ++ s.data.toList) → Below base w w' → wpList P ops Q rest (a.put o.dst v') w') : wpList P ops Q (o :: rest) a w := by
  obtain ⟨i, hi, hz0, hz1, hz2⟩ := info_parts bt.info
  refine Lib.wpList_append_own_string (P := P) w hgd sl x t st ho base e i bt.sl bt.str hi hz0 hz1 hz2 v l.length (l.map cellB) hs hown s hx (by unfold maxLen; omega) (by omega) hbase ?_
  intro v' w' h1 h2 _
  refine h v' w' ?_ (grown_below hown h2 hbase)
  have e1 : Lib.strCells s = s.data.toList.map cellB := by simp [Lib.strCells, cellB]
  have e2 : s.size = s.data.toList.length := by simp
  rw [e1, e2, ← List.map_append, ← List.length_append] at h1
  exact h1
/-- The types of texts and of slices of texts. -/
structure TextTypes (P : Program) (t e : TypeId) : Prop where
  sl : P.underlying t = some (.slice e)
  el : P.underlying e = some .string
  info : (P.info? e).map (fun i => (i.zero, i.size, i.bytes)) = some (some (.string ⟨#[]⟩), 1, 16)
/-- A text, as a cell holds it. -/
def cellT (l : List UInt8) : Value := .string (txt l)
/-- The value v is a slice of the call's own (its block from 'base' on) that holds the texts ws. -/
def OwnsT (e : TypeId) (base : Nat) (w : World) (v : Value) (ws : List (List UInt8)) : Prop := w.ownsRow base e 1 v ws.length (ws.map cellT)
theorem OwnsT.nil (e : TypeId) (base : Nat) (w : World) : OwnsT e base w (.slice none 0 0) [] := World.ownsRow_nil w base e 1
theorem ownsRow_below {e : TypeId} {base n : Nat} {w w' : World} {v : Value} {xs : List Value} (h : w.ownsRow base e 1 v n xs) (hb : Below w.heap.size w w') : w'.ownsRow base e 1 v n xs := by
  obtain ⟨h1, h2⟩ := h
  refine ⟨h1, ?_⟩
  rcases h2 with h2 | ⟨g, cap, cur, hv, hg, hh, r⟩
  · exact Or.inl h2
  · refine Or.inr ⟨g, cap, cur, hv, hg, ?_, r⟩
    rw [hb.block g ?_]; exact hh
    rcases Nat.lt_or_ge g w.heap.size with h' | h'
    · exact h'
    · simp [Array.getElem?_eq_none h'] at hh
theorem OwnsT.below {e : TypeId} {base : Nat} {w w' : World} {v : Value} {ws : List (List UInt8)} (h : OwnsT e base w v ws) (hb : Below w.heap.size w w') : OwnsT e base w' v ws := ownsRow_below h hb
/-- 'out = append(out, s)', s a text: it was laid in a block of its own first. -/
theorem wpList_append_item {P : Program} {t e : TypeId} (tt : TextTypes P t e) {ops : Array Oper} {rest : List Oper} {o : Oper} {a : Act} {Q : Exit → Act → World → Prop} (w : World) (y : ByteArray)
    (hgd : o.guard = none) (s x : Operand) (ho : o.op = .call { callee := .builtin .append, args := #[s, x], argTypes := #[t, t] })
    (base : Nat) (v : Value) (l : List (List UInt8)) (c : List UInt8) (hy : y = txt c) (hs : a.eval s = v) (hown : OwnsT e base w v l)
    (hx : a.eval x = .slice (some ⟨w.heap.size, 0, none⟩) 1 1) (hlen : l.length ≤ 4398046511104) (hbase : base ≤ w.heap.size)
    (h : ∀ v' w', OwnsT e base w' v' (l ++ [c]) → Below base w w' → wpList P ops Q rest (a.put o.dst v') w') : wpList P ops Q (o :: rest) a (w.alloc (.cells #[.string y] e)) := by
  subst hy
  obtain ⟨i, hi, hz0, hz1, hz2⟩ := info_parts tt.info
  have hown' : (w.alloc (.cells #[.string (txt c)] e)).ownsRow base e 1 v l.length (l.map cellT) := World.ownsRow.alloc hown _
  refine wpList_append_own (P := P) _ hgd s x t ho base e i (.string ⟨#[]⟩) 1 16 tt.sl hi hz0 hz1 hz2 rfl (by decide) v l.length (l.map cellT) hs hown' ⟨w.heap.size, 0, none⟩ 1 1 [cellT c] hx rfl (cell_one_new _ _ _) (fun u hu => by simp at hu; subst hu; rfl) (by unfold maxLen; omega) (by omega) (by simp; omega) ?_
  intro v' w' h1 h2 _
  refine h v' w' ?_ (((Below.refl base w).alloc hbase _).trans (grown_below hown' h2 (by simp; omega)))
  simpa [OwnsT] using h1
/-- The world behind '[]byte(s)'. -/
theorem bytes_below (w : World) (e : TypeId) (s : ByteArray) : Below w.heap.size w (Lib.bytesWorld w e s) :=
  ⟨rfl, rfl, rfl, by rw [Lib.bytesWorld_size]; omega, fun k hk => Lib.bytesWorld_at_old w e s k hk⟩
theorem bytes_free (w : World) (e : TypeId) (s : ByteArray) (j : Nat) (hj : j < s.size) : (Lib.bytesWorld w e s).frozen? ⟨w.heap.size, j, none⟩ = false := by
  have hs : j < (Lib.bytesCells w e s).size := by
    simp [Lib.bytesCells]; omega
  simp [World.frozen?, Lib.bytesWorld_at_new]
  omega
end Go.Proofs.YtlppocdhfeejkaaGreatDoor

namespace Go.Proofs.YtlppocdhfeejkaaGreatDoor
open Go.RowKit
/-- The small letter of a byte. -/
def lowB (c : UInt8) : UInt8 := if 65 ≤ c.toNat ∧ c.toNat ≤ 90 then c + 32 else c
def lowL (l : List UInt8) : List UInt8 := l.map lowB
def lowS (s : ByteArray) : ByteArray := txt (lowL s.data.toList)
def byteAt (s : ByteArray) (j : Nat) : UInt8 := s.data.toList.getD j 0
theorem byteAt_eq (s : ByteArray) (j : Nat) (h : j < s.size) : s[j] = byteAt s j := by
  unfold byteAt; simp [List.getD, h]; rfl
theorem byteAt_take (s : ByteArray) (k : Nat) (h : k < s.size) : s.data.toList.take (k + 1) = s.data.toList.take k ++ [byteAt s k] := by
  rw [List.take_succ_eq_append_getElem (by simpa using h), ← byteAt_eq s k h]; rfl
theorem lowB_yes (c : UInt8) (h1 : 65 ≤ c.toNat) (h2 : c.toNat ≤ 90) : (lowB c).toNat = c.toNat + 32 := by
  unfold lowB; rw [if_pos ⟨h1, h2⟩]; simp; omega
theorem lowB_no (c : UInt8) (h : ¬ (65 ≤ c.toNat ∧ c.toNat ≤ 90)) : lowB c = c := by
  unfold lowB; rw [if_neg h]
theorem lowL_length (l : List UInt8) : (lowL l).length = l.length := by simp [lowL]
theorem lowL_take (s : ByteArray) (k : Nat) (h : k < s.size) : lowL (s.data.toList.take (k + 1)) = lowL (s.data.toList.take k) ++ [lowB (byteAt s k)] := by
  rw [byteAt_take s k h]; simp [lowL]
end Go.Proofs.YtlppocdhfeejkaaGreatDoor

namespace Go.Proofs.YtlppocdhfeejkaaGreatDoor
open Go.RowKit
def tyS : ByteArray := ⟨#[116, 121, 112, 101]⟩
/-- The text that tells the type, in small letters. -/
def tyOf (ax : List (ByteArray × ByteArray)) : Option ByteArray := (findA ax tyS).map fun i => lowS (ax.getD i at0).2
def byT (o : Option ByteArray) (f l : Nat) (z : Int) : Int := match o with
  | none => z
  | some t => kInt (seekR t f l 30 0) z
def kOf (name : ByteArray) (o : Option ByteArray) : Int :=
  if name = ⟨#[105, 110, 112, 117, 116]⟩ then byT o 1 22 2 else if name = ⟨#[115, 101, 108, 101, 99, 116]⟩ then 23 else if name = ⟨#[116, 101, 120, 116, 97, 114, 101, 97]⟩ then 24 else if name = ⟨#[98, 117, 116, 116, 111, 110]⟩ then byT o 25 27 25 else
  match seekL name 8 0 with
  | none => 0
  | some i => 28 + (i : Int)
theorem seek_step (t : ByteArray) (f l k : Nat) (h : k < 30) : seekR t f l (30 - k) k = if (Nat.ble f k && (Nat.ble k l && decide (typeN k = t))) = true then some k else seekR t f l (30 - (k + 1)) (k + 1) := by
  rw [show 30 - k = (30 - (k + 1)) + 1 by omega]; rfl
theorem seekL_step (t : ByteArray) (k : Nat) (h : k < 8) : seekL t (8 - k) k = if lastN k = t then some k else seekL t (8 - (k + 1)) (k + 1) := by
  rw [show 8 - k = (8 - (k + 1)) + 1 by omega]; rfl
theorem btw_nat (k f l : Nat) : btwB (k : Int) (f : Int) (l : Int) = (Nat.ble f k && Nat.ble k l) := by
  unfold btwB
  rw [Bool.eq_iff_iff, decide_eq_true_eq, Bool.and_eq_true, Nat.ble_eq, Nat.ble_eq]
  omega
theorem seek_hit {t : ByteArray} {f l k : Nat} {A : Option Nat} (h : k < 30) (hs : seekR t f l (30 - k) k = A) (hb : btwB (k : Int) f l = true) (he : typeN k = t) : A = some k := by
  rw [btw_nat, Bool.and_eq_true] at hb
  rw [← hs, seek_step t f l k h, hb.1, hb.2, decide_eq_true he]; rfl
theorem seek_miss {t : ByteArray} {f l k : Nat} {A : Option Nat} (h : k < 30) (hs : seekR t f l (30 - k) k = A) (hb : btwB (k : Int) f l = false ∨ ¬ typeN k = t) : seekR t f l (30 - (k + 1)) (k + 1) = A := by
  rw [← hs, seek_step t f l k h, if_neg]
  rw [Bool.and_eq_true, Bool.and_eq_true, decide_eq_true_eq]
  rintro ⟨q1, q2, q3⟩
  rcases hb with r | r
  · rw [btw_nat, q1, q2] at r; cases r
  · exact r q3
theorem typeS_nat {k : Nat} (h : k < 30) : typeS (k : Int) = typeN k := by
  unfold typeS
  rw [if_pos (by omega), Int.toNat_natCast]
theorem seek_from (t : ByteArray) : seekR t 1 22 (30 - 1) 1 = seekR t 1 22 30 0 := rfl
theorem seek_to (t : ByteArray) : seekR t 1 22 (30 - 23) 23 = none := rfl
theorem seek_empty : seekR ⟨#[]⟩ 1 22 30 0 = none := by decide +kernel
theorem seek_button (t : ByteArray) : kInt (seekR t 25 27 30 0) 25 = if t = ⟨#[114, 101, 115, 101, 116]⟩ then 26 else if t = ⟨#[98, 117, 116, 116, 111, 110]⟩ then 27 else 25 := by
  have e : seekR t 25 27 30 0 = (if decide (typeN 25 = t) = true then some 25 else if decide (typeN 26 = t) = true then some 26 else if decide (typeN 27 = t) = true then some 27 else none) := rfl
  have d6 : typeN 26 = ⟨#[114, 101, 115, 101, 116]⟩ := rfl
  have d7 : typeN 27 = ⟨#[98, 117, 116, 116, 111, 110]⟩ := rfl
  have n1 : ¬ typeN 25 = typeN 26 := by decide +kernel
  have n2 : ¬ typeN 25 = typeN 27 := by decide +kernel
  have n3 : ¬ typeN 26 = typeN 27 := by decide +kernel
  rw [e, ← d6, ← d7]
  by_cases h5 : typeN 25 = t
  · rw [decide_eq_true h5, if_pos (show true = true from rfl), if_neg (show ¬ t = typeN 26 from fun q => n1 (h5.trans q)), if_neg (show ¬ t = typeN 27 from fun q => n2 (h5.trans q))]; rfl
  · rw [decide_eq_false h5, if_neg (show ¬ false = true by decide)]
    by_cases h6 : typeN 26 = t
    · rw [decide_eq_true h6, if_pos (show true = true from rfl), if_pos (show t = typeN 26 from h6.symm)]; rfl
    · rw [decide_eq_false h6, if_neg (show ¬ false = true by decide), if_neg (show ¬ t = typeN 26 from fun q => h6 q.symm)]
      by_cases h7 : typeN 27 = t
      · rw [decide_eq_true h7, if_pos (show true = true from rfl), if_pos (show t = typeN 27 from h7.symm)]; rfl
      · rw [decide_eq_false h7, if_neg (show ¬ false = true by decide), if_neg (show ¬ t = typeN 27 from fun q => h7 q.symm)]; rfl
theorem lit_dec (a : ByteArray) (l : List UInt8) : (a.toList == l) = decide (a = ⟨l.toArray⟩) := by
  by_cases h : a = ⟨l.toArray⟩
  · rw [decide_eq_true h, lit_yes h]
  · rw [decide_eq_false h, lit_no h]
end Go.Proofs.YtlppocdhfeejkaaGreatDoor

namespace Go.Proofs.YtlppocdhfeejkaaGreatDoor
open Go.RowKit
def blanks : List UInt8 := [9, 10, 12, 13, 32]
def isBl (c : UInt8) : Bool := blanks.contains c
def stripL (l : List UInt8) : List UInt8 := Lib.trimS l blanks
def stripS (s : ByteArray) : ByteArray := txt (stripL s.data.toList)
theorem isBl_iff (c : UInt8) : isBl c = true ↔ (c.toNat : Int) = 9 ∨ (c.toNat : Int) = 10 ∨ (c.toNat : Int) = 12 ∨ (c.toNat : Int) = 13 ∨ (c.toNat : Int) = 32 := by
  have e : ∀ d : UInt8, c = d ↔ (c.toNat : Int) = (d.toNat : Int) := fun d => by rw [← UInt8.toNat_inj]; omega
  have : isBl c = true ↔ c = 9 ∨ c = 10 ∨ c = 12 ∨ c = 13 ∨ c = 32 := by
    unfold isBl blanks; simp
  rw [this, e 9, e 10, e 12, e 13, e 32]; rfl
/-- No blank at either end. -/
def EndsB (l : List UInt8) : Prop := (∀ b, l.head? = some b → isBl b = false) ∧ (∀ b, l.getLast? = some b → isBl b = false)
theorem trimLeft_head (l : List UInt8) : ∀ b, (Lib.trimLeftS l blanks).head? = some b → isBl b = false := by
  intro b hb
  unfold Lib.trimLeftS at hb
  have := List.head?_dropWhile_not (p := fun x => blanks.contains x) l
  rw [hb] at this
  simpa [isBl] using this
theorem trimRight_last (l : List UInt8) : ∀ b, (Lib.trimRightS l blanks).getLast? = some b → isBl b = false := by
  intro b hb
  unfold Lib.trimRightS at hb
  rw [List.getLast?_reverse] at hb
  exact trimLeft_head l.reverse b hb
theorem trimLeft_suffix (l : List UInt8) : Lib.trimLeftS l blanks <:+ l := List.dropWhile_suffix _
theorem last_of_suffix {l m : List UInt8} (h : m <:+ l) {b : UInt8} (hb : m.getLast? = some b) : l.getLast? = some b := by
  obtain ⟨t, rfl⟩ := h
  rw [List.getLast?_append, hb]; rfl
theorem stripL_ends (l : List UInt8) : EndsB (stripL l) :=
  ⟨trimLeft_head _, fun b hb => trimRight_last l b (last_of_suffix (trimLeft_suffix _) hb)⟩
theorem stripL_le (l : List UInt8) : (stripL l).length ≤ l.length := by
  have h1 : (stripL l).length ≤ (Lib.trimRightS l blanks).length := (trimLeft_suffix _).length_le
  have h2 : (Lib.trimRightS l blanks).length ≤ l.length := by
    unfold Lib.trimRightS
    have := (List.dropWhile_suffix (fun x => blanks.contains x) (l := l.reverse)).length_le
    simpa using this
  omega
theorem stripS_size (s : ByteArray) : (stripS s).size ≤ s.size := by
  unfold stripS; rw [txt_size]; have := stripL_le s.data.toList; simpa using this
theorem at_some (s : ByteArray) (k : Nat) (h : k < s.size) : s.data.toList[k]? = some s[k] := by
  rw [List.getElem?_eq_getElem (by simpa using h)]; rfl
end Go.Proofs.YtlppocdhfeejkaaGreatDoor

namespace Go.Proofs.YtlppocdhfeejkaaGreatDoor
open Go.RowKit
/-- Byte by byte: 0: nothing was told yet; 1: within a word; 2: blanks behind a word. -/
def colF : Nat → List UInt8 → List UInt8
  | _, [] => []
  | st, c :: r => if isBl c then colF (if st = 0 then 0 else 2) r else (if st = 2 then [32, c] else [c]) ++ colF 1 r
def collapseL (l : List UInt8) : List UInt8 := colF 0 l
def collapseS (s : ByteArray) : ByteArray := txt (collapseL s.data.toList)
theorem colF_bl {st : Nat} {c : UInt8} {r : List UInt8} (h : isBl c = true) : colF st (c :: r) = colF (if st = 0 then 0 else 2) r := by
  show (if isBl c then _ else _) = _; rw [if_pos h]
theorem colF_no {st : Nat} {c : UInt8} {r : List UInt8} (h : isBl c = false) : colF st (c :: r) = (if st = 2 then [32, c] else [c]) ++ colF 1 r := by
  show (if isBl c then _ else _) = _; rw [if_neg (by rw [h]; decide)]
theorem colF_snoc {b : UInt8} (h : isBl b = true) : ∀ (l : List UInt8) (st : Nat), colF st (l ++ [b]) = colF st l
  | [], st => by rw [List.nil_append, colF_bl h]; rfl
  | c :: r, st => by
    cases hc : isBl c with
    | true => rw [List.cons_append, colF_bl hc, colF_bl hc, colF_snoc h r]
    | false => rw [List.cons_append, colF_no hc, colF_no hc, colF_snoc h r]
theorem colF_right (st : Nat) : ∀ m : List UInt8, colF st (m.dropWhile (fun x => blanks.contains x)).reverse = colF st m.reverse
  | [] => rfl
  | b :: r => by
    rw [List.dropWhile_cons]
    cases hb : blanks.contains b with
    | true => rw [if_pos rfl, colF_right st r, List.reverse_cons, colF_snoc hb]
    | false => rw [if_neg (by decide)]
theorem colF_left : ∀ m : List UInt8, colF 0 (m.dropWhile (fun x => blanks.contains x)) = colF 0 m
  | [] => rfl
  | b :: r => by
    rw [List.dropWhile_cons]
    cases hb : blanks.contains b with
    | true => rw [if_pos rfl, colF_left r, colF_bl hb, if_pos rfl]
    | false => rw [if_neg (by decide)]
theorem collapse_strip (l : List UInt8) : collapseL (stripL l) = collapseL l := by
  unfold collapseL stripL Lib.trimS Lib.trimLeftS Lib.trimRightS
  rw [colF_left]
  have := colF_right 0 l.reverse
  rw [List.reverse_reverse] at this
  exact this
/-- What the program tells at a byte c behind a byte p. -/
def cpiece (p c : UInt8) : List UInt8 := if isBl c then (if isBl p then [] else [32]) else [c]
def colP : UInt8 → List UInt8 → List UInt8
  | _, [] => []
  | p, c :: r => cpiece p c ++ colP c r
theorem colP_snoc (c : UInt8) : ∀ (l : List UInt8) (p : UInt8), colP p (l ++ [c]) = colP p l ++ cpiece (l.getLastD p) c
  | [], p => by simp [colP]
  | a :: r, p => by
    have ih := colP_snoc c r a
    have hl : (a :: r).getLastD p = r.getLastD a := by cases r <;> rfl
    show cpiece p a ++ colP a (r ++ [c]) = cpiece p a ++ colP a r ++ _
    rw [ih, hl, List.append_assoc]
def LastNo (l : List UInt8) : Prop := ∀ b, l.getLast? = some b → isBl b = false
theorem lastNo_tail {c : UInt8} {r : List UInt8} (h : LastNo (c :: r)) : LastNo r := fun b hb => h b (last_of_suffix (List.suffix_cons c r) hb)
theorem lastNo_ne {c : UInt8} {r : List UInt8} (h : LastNo (c :: r)) (hc : isBl c = true) : r ≠ [] := by
  intro e; subst e; have := h c rfl; rw [hc] at this; cases this
theorem colF_colP : ∀ (l : List UInt8) (p : UInt8), LastNo l → (isBl p = false → colF 1 l = colP p l) ∧ (isBl p = true → l ≠ [] → colF 2 l = 32 :: colP p l)
  | [], p, _ => ⟨fun _ => rfl, fun _ h => absurd rfl h⟩
  | c :: r, p, h => by
    have ih := colF_colP r c (lastNo_tail h)
    cases hc : isBl c with
    | true =>
      have hne := lastNo_ne h hc
      constructor
      · intro hp
        rw [colF_bl hc, if_neg (by decide), ih.2 hc hne]
        show _ = cpiece p c ++ colP c r
        unfold cpiece; rw [if_pos hc, if_neg (by rw [hp]; decide)]; rfl
      · intro hp _
        rw [colF_bl hc, if_neg (by decide), ih.2 hc hne]
        show _ = 32 :: (cpiece p c ++ colP c r)
        unfold cpiece; rw [if_pos hc, if_pos hp]; rfl
    | false =>
      constructor
      · intro hp
        rw [colF_no hc, if_neg (by decide), ih.1 hc]
        show _ = cpiece p c ++ colP c r
        unfold cpiece; rw [if_neg (by rw [hc]; decide)]
      · intro hp _
        rw [colF_no hc, if_pos rfl, ih.1 hc]
        show _ = 32 :: (cpiece p c ++ colP c r)
        unfold cpiece; rw [if_neg (by rw [hc]; decide)]; rfl
theorem colP_strip (l : List UInt8) (p : UInt8) : colP p (stripL l) = collapseL l := by
  rw [← collapse_strip]
  have he := stripL_ends l
  generalize stripL l = m at *
  unfold collapseL
  cases m with
  | nil => rfl
  | cons c r =>
    have hc := he.1 c rfl
    rw [colF_no hc, if_neg (by decide), ((colF_colP r c (lastNo_tail he.2)).1 hc)]
    show cpiece p c ++ colP c r = _
    unfold cpiece; rw [if_neg (by rw [hc]; decide)]
theorem colF_le : ∀ (l : List UInt8) (st : Nat), (colF st l).length ≤ 2 * l.length
  | [], _ => by simp [colF]
  | c :: r, st => by
    cases hc : isBl c with
    | true => rw [colF_bl hc]; have := colF_le r (if st = 0 then 0 else 2); simp only [List.length_cons]; omega
    | false =>
      rw [colF_no hc]
      have := colF_le r 1
      have h2 : (if st = 2 then [32, c] else [c]).length ≤ 2 := by split <;> simp
      simp only [List.length_append, List.length_cons]; omega
/-- The words: runs of bytes that are no blanks; 'cur': the one that is being read. -/
def wordsG : List UInt8 → List UInt8 → List (List UInt8)
  | cur, [] => if cur = [] then [] else [cur]
  | cur, c :: r => if isBl c then (if cur = [] then wordsG [] r else cur :: wordsG [] r) else wordsG (cur ++ [c]) r
def sepJ (ws : List (List UInt8)) : List UInt8 := ws.flatMap fun x => 32 :: x
def joinW : List (List UInt8) → List UInt8
  | [] => []
  | x :: ws => x ++ sepJ ws
theorem words_col : ∀ (l : List UInt8), (∀ cur, cur ≠ [] → ∃ h t, wordsG cur l = (cur ++ h) :: t ∧ colF 1 l = h ++ sepJ t) ∧ (joinW (wordsG [] l) = colF 0 l ∧ sepJ (wordsG [] l) = colF 2 l)
  | [] => ⟨fun cur hc => ⟨[], [], by simp [wordsG, hc], rfl⟩, rfl, rfl⟩
  | c :: r => by
    have ih := words_col r
    cases hc : isBl c with
    | true =>
      refine ⟨fun cur hcur => ⟨[], wordsG [] r, ?_, ?_⟩, ?_, ?_⟩
      · show (if isBl c then _ else _) = _; rw [if_pos hc, if_neg hcur, List.append_nil]
      · rw [colF_bl hc, if_neg (by decide), List.nil_append, ih.2.2]
      · rw [colF_bl hc, if_pos rfl, ← ih.2.1]; show joinW (if isBl c then _ else _) = _; rw [if_pos hc, if_pos rfl]
      · rw [colF_bl hc, if_neg (by decide), ← ih.2.2]; show sepJ (if isBl c then _ else _) = _; rw [if_pos hc, if_pos rfl]
    | false =>
      have hw : ∀ cur, wordsG cur (c :: r) = wordsG (cur ++ [c]) r := fun cur => by show (if isBl c then _ else _) = _; rw [if_neg (by rw [hc]; decide)]
      refine ⟨fun cur hcur => ?_, ?_⟩
      · obtain ⟨h, t, e1, e2⟩ := ih.1 (cur ++ [c]) (by simp)
        refine ⟨c :: h, t, by rw [hw, e1]; simp, ?_⟩
        rw [colF_no hc, if_neg (by decide), e2]; rfl
      · obtain ⟨h, t, e1, e2⟩ := ih.1 ([] ++ [c]) (by simp)
        rw [hw, e1, colF_no hc, colF_no hc, if_neg (by decide), if_pos rfl, e2]
        exact ⟨rfl, by simp [sepJ]⟩
theorem join_words (l : List UInt8) : joinW (wordsG [] l) = collapseL l := (words_col l).2.1
theorem sepJ_snoc (ws : List (List UInt8)) (x : List UInt8) : sepJ (ws ++ [x]) = sepJ ws ++ 32 :: x := by simp [sepJ]
theorem joinW_snoc (ws : List (List UInt8)) (x : List UInt8) (h : ws ≠ []) : joinW (ws ++ [x]) = joinW ws ++ [32] ++ x := by
  cases ws with
  | nil => exact absurd rfl h
  | cons a t => show a ++ sepJ (t ++ [x]) = a ++ sepJ t ++ [32] ++ x; rw [sepJ_snoc]; simp
def prevAt32 (s : ByteArray) (k : Nat) : UInt8 := if k = 0 then 32 else byteAt s (k - 1)
theorem last_take32 (s : ByteArray) (k : Nat) (h : k < s.size) : (s.data.toList.take k).getLastD 32 = prevAt32 s k := by
  unfold prevAt32
  by_cases e : k = 0
  · subst e; simp
  · rw [if_neg e]
    obtain ⟨j, rfl⟩ : ∃ j, k = j + 1 := ⟨k - 1, by omega⟩
    have hj : j < s.data.toList.length := by simp; omega
    rw [List.take_succ_eq_append_getElem hj, List.getLastD_concat]
    unfold byteAt; rw [Nat.add_sub_cancel, List.getD, List.getElem?_eq_getElem hj]; rfl
theorem colP_take (s : ByteArray) (k : Nat) (h : k < s.size) : colP 32 (s.data.toList.take (k + 1)) = colP 32 (s.data.toList.take k) ++ cpiece (prevAt32 s k) (byteAt s k) := by
  rw [byteAt_take s k h, colP_snoc, last_take32 s k h]
theorem colP_le : ∀ (l : List UInt8) (p : UInt8), (colP p l).length ≤ l.length
  | [], _ => by simp [colP]
  | c :: r, p => by
    have := colP_le r c
    have h2 : (cpiece p c).length ≤ 1 := by unfold cpiece; split; split <;> simp; simp
    simp only [colP, List.length_append, List.length_cons]; omega
theorem colP_take_le (s : ByteArray) (k : Nat) : (colP 32 (s.data.toList.take k)).length ≤ k := by
  have h1 := colP_le (s.data.toList.take k) 32
  have h2 : (s.data.toList.take k).length ≤ k := List.length_take_le _ _
  omega
theorem take_all32 (s : ByteArray) : s.data.toList.take s.size = s.data.toList := List.take_of_length_le (by simp)
theorem cpiece_no {p c : UInt8} (h : isBl c = false) : cpiece p c = [c] := by unfold cpiece; rw [if_neg (by rw [h]; decide)]
theorem cpiece_one {p c : UInt8} (h : isBl c = true) (g : isBl p = false) : cpiece p c = [32] := by unfold cpiece; rw [if_pos h, if_neg (by rw [g]; decide)]
theorem cpiece_nil {p c : UInt8} (h : isBl c = true) (g : isBl p = true) : cpiece p c = [] := by unfold cpiece; rw [if_pos h, if_pos g]
theorem prev32_eq (s : ByteArray) (k : Nat) (h : 0 < k) (hk : k - 1 < s.size) : s[k - 1] = prevAt32 s k := by
  unfold prevAt32; rw [if_neg (by omega)]; exact byteAt_eq s (k - 1) hk
theorem first_no (s : ByteArray) (k : Nat) (he : EndsB s.data.toList) (hk : k < s.size) (hc : isBl s[k] = true) : 0 < k := by
  rcases Nat.eq_zero_or_pos k with h | h
  · subst h
    have := he.1 s[0] (by rw [List.head?_eq_getElem?]; exact at_some s 0 hk)
    rw [hc] at this; cases this
  · exact h

end Go.Proofs.YtlppocdhfeejkaaGreatDoor
