/- Facts of no program. Ends of lines in texts, as lists of bytes. Entries told by a text and read again, as functions of lists. Entries told as plain lines, and a text's lines, as functions of lists. The document's Pairs of layer 1, Long and Plain of layer 19. The document's Encode, Split of layer 21. A strings.Builder that a call has made itself, and the bytes that it holds. What Grow does to a fresh strings.Builder that the call has made itself. What WriteByte does to a strings.Builder that the call has made itself. What WriteString does to a strings.Builder that the call has made itself. What String answers of a strings.Builder that the call has made itself. -/
import Derived.Test.YtmnpnpmopbkabaaRows
import Derived.Test.YtmnpnpmopbkabaaProg
import Derived.Test.YtmnpnpmopbkabaaJpn3
import Derived.Test.YtmnpnpmopbkabaaJpn4
import Derived.Test.YtmnpnpmopbkabaaJpn5
import Derived.Lib.SlTrimSet
import Derived.Deep.AppendLies
import Derived.Maps.AppendAt
import Derived.Laws.OwnMore
import Derived.Lib.Builder
import Derived.Lib.UnsafeStr
import Derived.Shelf.Strings.Builder2
import Derived.Shelf.Strings.Builder1

namespace Go.Proofs.Ytmnpnpmopbkabaa
open Go.RowKit
/-- A byte, as a cell holds it. -/
def cellB (c : UInt8) : Value := .int .u8 (c.toNat : Int)
def txt (l : List UInt8) : ByteArray := ⟨l.toArray⟩
theorem txt_size (l : List UInt8) : (txt l).size = l.length := rfl
/-- The value v is a slice of the call's own (its block from 'base' on) that holds the bytes l. -/
def OwnsB (e : TypeId) (base : Nat) (w : World) (v : Value) (l : List UInt8) : Prop := w.ownsRow base e 1 v l.length (l.map cellB)
theorem OwnsB.nil (e : TypeId) (base : Nat) (w : World) : OwnsB e base w (.slice none 0 0) [] := World.ownsRow_nil w base e 1
theorem OwnsB.below {e : TypeId} {base : Nat} {w w' : World} {v : Value} {l : List UInt8} (h : OwnsB e base w v l) (hb : Below w.heap.size w w') : OwnsB e base w' v l := by
  obtain ⟨h1, h2⟩ := h
  refine ⟨h1, ?_⟩
  rcases h2 with h2 | ⟨g, cap, cur, hv, hg, hh, r⟩
  · exact Or.inl h2
  · refine Or.inr ⟨g, cap, cur, hv, hg, ?_, r⟩
    rw [hb.block g ?_]; exact hh
    rcases Nat.lt_or_ge g w.heap.size with h' | h'
    · exact h'
    · simp [Array.getElem?_eq_none h'] at hh
theorem OwnsB.mono {e : TypeId} {base base' : Nat} {w : World} {v : Value} {l : List UInt8} (h : OwnsB e base w v l) (hb : base' ≤ base) : OwnsB e base' w v l := by
  obtain ⟨h1, h2⟩ := h
  refine ⟨h1, ?_⟩
  rcases h2 with h2 | ⟨g, cap, cur, hv, hg, r⟩
  · exact Or.inl h2
  · exact Or.inr ⟨g, cap, cur, hv, by omega, r⟩
theorem grown_below {e : TypeId} {base : Nat} {w w' : World} {v : Value} {n : Nat} {xs : List Value} (h : w.ownsRow base e 1 v n xs) (hg : w.grownBy w' v.ownBlock) (hB : base ≤ w.heap.size) : Below base w w' :=
  (Below.refl base w).grown hg hB fun k hk => (h.lt k hk).1
/-- A text, as a cell holds it. -/
def cellT (l : List UInt8) : Value := .string (txt l)
/-- The value v is a slice of the call's own (its block from 'base' on) that holds the texts ws. -/
def OwnsT (e : TypeId) (base : Nat) (w : World) (v : Value) (ws : List (List UInt8)) : Prop := w.ownsRow base e 1 v ws.length (ws.map cellT)
theorem OwnsT.nil (e : TypeId) (base : Nat) (w : World) : OwnsT e base w (.slice none 0 0) [] := World.ownsRow_nil w base e 1
theorem ownsRow_below {e : TypeId} {base n : Nat} {w w' : World} {v : Value} {xs : List Value} (h : w.ownsRow base e 1 v n xs) (hb : Below w.heap.size w w') : w'.ownsRow base e 1 v n xs := by
  obtain ⟨h1, h2⟩ := h
  refine ⟨h1, ?_⟩
  rcases h2 with h2 | ⟨g, cap, cur, hv, hg, hh, r⟩
  · exact Or.inl h2
  · refine Or.inr ⟨g, cap, cur, hv, hg, ?_, r⟩
    rw [hb.block g ?_]; exact hh
    rcases Nat.lt_or_ge g w.heap.size with h' | h'
    · exact h'
    · simp [Array.getElem?_eq_none h'] at hh
theorem OwnsT.below {e : TypeId} {base : Nat} {w w' : World} {v : Value} {ws : List (List UInt8)} (h : OwnsT e base w v ws) (hb : Below w.heap.size w w') : OwnsT e base w' v ws := ownsRow_below h hb
end Go.Proofs.Ytmnpnpmopbkabaa

namespace Go.Proofs.Ytmnpnpmopbkabaa
open Go.RowKit
/-- What a byte c behind a byte p becomes. -/
def piece (e : List UInt8) (p c : UInt8) : List UInt8 := if c = 10 ∧ p = 13 then [] else if c = 10 ∨ c = 13 then e else [c]
def endsP (e : List UInt8) : UInt8 → List UInt8 → List UInt8
  | _, [] => []
  | p, c :: r => piece e p c ++ endsP e c r
def endsS (e s : ByteArray) : ByteArray := txt (endsP e.data.toList 0 s.data.toList)
def prevAt (s : ByteArray) (k : Nat) : UInt8 := if k = 0 then 0 else byteAt s (k - 1)
theorem piece_none {e : List UInt8} {p c : UInt8} (h1 : c = 10) (h2 : p = 13) : piece e p c = [] := by unfold piece; rw [if_pos ⟨h1, h2⟩]
theorem piece_end {e : List UInt8} {p c : UInt8} (h1 : ¬ (c = 10 ∧ p = 13)) (h2 : c = 10 ∨ c = 13) : piece e p c = e := by unfold piece; rw [if_neg h1, if_pos h2]
theorem piece_byte {e : List UInt8} {p c : UInt8} (h1 : c ≠ 10) (h2 : c ≠ 13) : piece e p c = [c] := by
  unfold piece; rw [if_neg (fun h => h1 h.1), if_neg (fun h => h.elim h1 h2)]
theorem piece_le (e : List UInt8) (p c : UInt8) (h : e.length ≤ 2) : (piece e p c).length ≤ 2 := by
  unfold piece; split
  · simp
  · split
    · exact h
    · simp
theorem endsP_snoc (e : List UInt8) (c : UInt8) : ∀ (l : List UInt8) (p : UInt8), endsP e p (l ++ [c]) = endsP e p l ++ piece e (l.getLastD p) c
  | [], p => by simp [endsP]
  | a :: r, p => by
    have ih := endsP_snoc e c r a
    have hl : (a :: r).getLastD p = r.getLastD a := by cases r <;> rfl
    show piece e p a ++ endsP e a (r ++ [c]) = piece e p a ++ endsP e a r ++ _
    rw [ih, hl, List.append_assoc]
theorem endsP_le (e : List UInt8) (h : e.length ≤ 2) : ∀ (l : List UInt8) (p : UInt8), (endsP e p l).length ≤ 2 * l.length
  | [], p => by simp [endsP]
  | a :: r, p => by
    have ih := endsP_le e h r a
    have := piece_le e p a h
    simp only [endsP, List.length_append, List.length_cons]; omega
theorem getLastD_take (l : List UInt8) (k : Nat) (h : k < l.length) : (l.take (k + 1)).getLastD 0 = l.getD k 0 := by
  have : l.take (k + 1) = l.take k ++ [l[k]] := List.take_succ_eq_append_getElem h
  rw [this, List.getLastD_concat]
  simp [List.getD, h]
theorem last_take (s : ByteArray) (k : Nat) (h : k < s.size) : (s.data.toList.take k).getLastD 0 = prevAt s k := by
  unfold prevAt
  by_cases e : k = 0
  · subst e; simp
  · rw [if_neg e]
    obtain ⟨j, rfl⟩ : ∃ j, k = j + 1 := ⟨k - 1, by omega⟩
    exact getLastD_take _ _ (by simp; omega)
theorem endsP_take (e : List UInt8) (s : ByteArray) (k : Nat) (h : k < s.size) : endsP e 0 (s.data.toList.take (k + 1)) = endsP e 0 (s.data.toList.take k) ++ piece e (prevAt s k) (byteAt s k) := by
  rw [byteAt_take s k h, endsP_snoc, last_take s k h]
theorem take_len_le (s : ByteArray) (k : Nat) : (s.data.toList.take k).length ≤ k := List.length_take_le _ _
theorem endsP_take_le (e s : ByteArray) (k : Nat) (h : e.size ≤ 2) : (endsP e.data.toList 0 (s.data.toList.take k)).length ≤ 2 * k := by
  have := endsP_le e.data.toList (by simpa using h) (s.data.toList.take k) 0
  have := take_len_le s k
  omega
theorem take_all (s : ByteArray) : s.data.toList.take s.size = s.data.toList := List.take_of_length_le (by simp)
theorem b10 (c : UInt8) : c = 10 ↔ (c.toNat : Int) = 10 := by rw [← UInt8.toNat_inj]; simp; omega
theorem b13 (c : UInt8) : c = 13 ↔ (c.toNat : Int) = 13 := by rw [← UInt8.toNat_inj]; simp; omega
theorem prevAt_eq (s : ByteArray) (k : Nat) (h : k < s.size) (h0 : 0 < k) : s[k - 1]'(by omega) = prevAt s k := by
  unfold prevAt; rw [if_neg (by omega)]; exact byteAt_eq s (k - 1) (by omega)
def pairsS (s : ByteArray) : ByteArray := endsS ⟨#[13, 10]⟩ s
theorem endsS_size (e s : ByteArray) (h : e.size ≤ 2) : (endsS e s).size ≤ 2 * s.size := by
  unfold endsS; rw [txt_size]
  have := endsP_le e.data.toList (by simpa using h) s.data.toList 0
  simpa using this
theorem pairsS_size (s : ByteArray) : (pairsS s).size ≤ 2 * s.size := endsS_size _ _ (by decide)
end Go.Proofs.Ytmnpnpmopbkabaa

namespace Go.Proofs.Ytmnpnpmopbkabaa
open Go.RowKit
/-- What an entry tells. -/
def plE (e : En) : En := ⟨pairsS e.name, pairsS (if e.file = true then e.fname else e.val), false, ⟨#[]⟩, ⟨#[]⟩⟩
def plainU (l : List En) : List En := l.map plE
/-- How long texts become. -/
structure EnsOK (n : Nat) (l : List En) : Prop where
  len : l.length ≤ 200
  ent : ∀ e ∈ l, e.name.size ≤ n ∧ e.val.size ≤ n ∧ e.fname.size ≤ n ∧ e.typ.size ≤ n
theorem pl_size {e : En} {n : Nat} (h : e.name.size ≤ n ∧ e.val.size ≤ n ∧ e.fname.size ≤ n ∧ e.typ.size ≤ n) : (plE e).name.size ≤ 2 * n ∧ (plE e).val.size ≤ 2 * n := by
  constructor
  · exact Nat.le_trans (pairsS_size e.name) (by omega)
  · refine Nat.le_trans (pairsS_size _) ?_
    split <;> omega
end Go.Proofs.Ytmnpnpmopbkabaa

namespace Go.Proofs.Ytmnpnpmopbkabaa
open Go.RowKit
def plnL (e : En) : List UInt8 := bL e.name ++ 61 :: bL e.val
def encN (l : List En) : List UInt8 := (plainU l).flatMap fun e => plnL e ++ [13, 10]
theorem pln_len (e : En) : (plnL e).length = e.name.size + e.val.size + 1 := by
  unfold plnL
  rw [List.length_append, List.length_cons]
  simp
  omega
end Go.Proofs.Ytmnpnpmopbkabaa

namespace Go.Proofs.Ytmnpnpmopbkabaa
open Go.RowKit
set_option maxRecDepth 100000
theorem plain_take (l : List En) {k : Nat} (h : k < l.length) : plainU (l.take (k + 1)) = plainU (l.take k) ++ [plE l[k]] := by
  unfold plainU
  rw [List.take_succ_eq_append_getElem h, List.map_append]; rfl
theorem plain_len (l : List En) (k : Nat) (h : k ≤ l.length) : (plainU (l.take k)).length = k := by unfold plainU; rw [List.length_map, List.length_take]; omega
end Go.Proofs.Ytmnpnpmopbkabaa

namespace Go.Proofs.Ytmnpnpmopbkabaa
open Go.RowKit
set_option maxRecDepth 100000
/-- .. as one step of a statement that draws its order. -/
def enN (p : List En) (k : Nat) : List UInt8 := (p.take k).flatMap fun e => plnL e ++ [13, 10]
theorem enN_next {p : List En} {k : Nat} (h : k < p.length) : enN p (k + 1) = (((enN p k ++ bL p[k].name) ++ [61]) ++ bL p[k].val) ++ [13, 10] := by
  unfold enN
  rw [List.take_succ_eq_append_getElem h, List.flatMap_append]
  show _ ++ (plnL p[k] ++ [13, 10] ++ []) = _
  unfold plnL
  simp
theorem enN_len {p : List En} {m : Nat} (hp : ∀ e ∈ p, e.name.size ≤ m ∧ e.val.size ≤ m) (hl : p.length ≤ 200) (k : Nat) : (enN p k).length ≤ 200 * (2 * m + 3) := by
  have A : ∀ q : List En, (∀ e ∈ q, e.name.size ≤ m ∧ e.val.size ≤ m) → (q.flatMap fun e => plnL e ++ [13, 10]).length ≤ q.length * (2 * m + 3) := by
    intro q
    induction q with
    | nil => intro _; simp
    | cons e q ih =>
      intro hq
      have i1 := ih (fun x hx => hq x (List.mem_cons_of_mem _ hx))
      have i2 := hq e List.mem_cons_self
      have i3 := pln_len e
      have i4 : (e :: q).length * (2 * m + 3) = q.length * (2 * m + 3) + 1 * (2 * m + 3) := Nat.add_mul _ _ _
      rw [List.flatMap_cons, List.length_append, List.length_append, i3, i4]
      show _ + 2 + _ ≤ _
      omega
  have h1 := A (p.take k) (fun e he => hp e (List.mem_of_mem_take he))
  have h2 : (p.take k).length ≤ 200 := by rw [List.length_take]; omega
  exact Nat.le_trans h1 (Nat.mul_le_mul_right _ h2)
theorem plain_sizesN {l : List En} {n : Nat} (h : EnsOK n l) : ∀ e ∈ plainU l, e.name.size ≤ 2 * n ∧ e.val.size ≤ 2 * n := by
  intro e he
  obtain ⟨x, hx, rfl⟩ := List.mem_map.1 he
  exact pl_size (h.ent x hx)
end Go.Proofs.Ytmnpnpmopbkabaa

namespace Go.Proofs.Ytmnpnpmopbkabaa
open Go.RowKit
/-- A builder in block b, of the call's own (from B on), that holds the bytes l. -/
def HoldsB (B b : Nat) (l : List UInt8) (w : World) : Prop := Lib.IsBuilder 36 5 B b (Lib.byteCells l) w
theorem HoldsB.fresh (w : World) : HoldsB w.heap.size w.heap.size [] (w.alloc (.cells #[.pointer none, .slice none 0 0] 36)) :=
  .inl ⟨Nat.le_refl _, .slice none 0 0, by simp [World.alloc, -World.alloc_eq], World.ownsRow_nil _ _ _ _, by simp [Value.ownBlock]⟩
theorem builderAt_below {T e : TypeId} {B b : Nat} {p : Value} {bs : List Value} {w w' : World} (h : Lib.BuilderAt T e B b p bs w) (hb : Below w.heap.size w w') : Lib.BuilderAt T e B b p bs w' := by
  have hlt := h.lt
  obtain ⟨h0, v, h1, h2, h3⟩ := h
  refine ⟨h0, v, by rw [hb.block b hlt]; exact h1, ?_, h3⟩
  obtain ⟨g1, g2⟩ := h2
  refine ⟨g1, ?_⟩
  rcases g2 with g2 | ⟨g, cap, cur, hv, hg, hh, r⟩
  · exact Or.inl g2
  · refine Or.inr ⟨g, cap, cur, hv, hg, ?_, r⟩
    rw [hb.block g ?_]; exact hh
    rcases Nat.lt_or_ge g w.heap.size with h' | h'
    · exact h'
    · simp [Array.getElem?_eq_none h'] at hh
/-- Another call, which changes nothing that was there, leaves the builder as it is. -/
theorem HoldsB.below {B b : Nat} {l : List UInt8} {w w' : World} (h : HoldsB B b l w) (hb : Below w.heap.size w w') : HoldsB B b l w' := by
  rcases h with h | h
  · exact .inl (builderAt_below h hb)
  · exact .inr (builderAt_below h hb)
end Go.Proofs.Ytmnpnpmopbkabaa

namespace Go.Proofs.Ytmnpnpmopbkabaa
open Go.Shelf Go.RowKit
set_option maxRecDepth 100000
def renBGrow : Go.Shelf.Ren := ⟨fun | 165 => 27 | 240 => 22 | 241 => 29 | 276 => 26 | 277 => 34 | n => n, fun | 0 => 0 | 3 => 3 | 4 => 4 | 5 => 5 | 9 => 9 | 20 => 20 | 37 => 34 | 70 => 33 | 72 => 36 | 164 => 48 | n => n, fun  | n => n⟩
theorem lays165 : Go.Proofs.Lays.n165 Try.prog renBGrow := {
  mixed := by kernel_rfl
  f165 := Try.func27.trans (congrArg some (by kernel_rfl))
  f240 := Try.func22.trans (congrArg some (by kernel_rfl))
  f241 := Try.func29.trans (congrArg some (by kernel_rfl))
  f276 := Try.func26.trans (congrArg some (by kernel_rfl))
  f277 := Try.func34.trans (congrArg some (by kernel_rfl))
  t0 := Try.underlying0
  a0 := Try.isAgg0
  z0 := Try.sizeOf0
  v0 := Try.zeroValue0
  t3 := Try.underlying3
  a3 := Try.isAgg3
  z3 := Try.sizeOf3
  v3 := Try.zeroValue3
  t4 := Try.underlying4
  a4 := Try.isAgg4
  z4 := Try.sizeOf4
  v4 := Try.zeroValue4
  t9 := Try.underlying9
  a9 := Try.isAgg9
  z9 := Try.sizeOf9
  v9 := Try.zeroValue9
  t20 := Try.underlying20
  a20 := Try.isAgg20
  z20 := Try.sizeOf20
  v20 := Try.zeroValue20
  t37 := Try.underlying34
  a37 := Try.isAgg34
  z37 := Try.sizeOf34
  v37 := Try.zeroValue34
  t70 := Try.underlying33
  a70 := Try.isAgg33
  z70 := Try.sizeOf33
  v70 := Try.zeroValue33
  t72 := Try.underlying36
  a72 := Try.isAgg36
  z72 := Try.sizeOf36
  v72 := Try.zeroValue36
  t164 := Try.underlying48
  a164 := Try.isAgg48
  z164 := Try.sizeOf48
  v164 := Try.zeroValue48 }
theorem extraBGrow : Builder.Extra Try.prog renBGrow := {
  sizeBuilder := by kernel_rfl
  liesBuilder := by kernel_rfl
  t5 := Try.underlying5
  a5 := Try.isAgg5
  z5 := Try.sizeOf5
  v5 := Try.zeroValue5
  infoByte := by kernel_rfl
  cellsByte := by kernel_rfl
  sizeByte := by kernel_rfl
  neB5 := by decide }
theorem grow_fresh (n : Nat) (w : World) (hn : n ≤ 281474976710656) :
    Calls Try.prog 27 #[.pointer (some ⟨w.heap.size, 0, none⟩), .int .i64 n] (w.alloc (.cells #[.pointer none, .slice none 0 0] 36)) fun e w' => e = .returned (.tuple #[]) ∧ HoldsB w.heap.size w.heap.size [] w' ∧ Below w.heap.size w w' := by
  refine (Any.Builder_Grow_fresh lays165 extraBGrow w.heap.size w.heap.size n (w.alloc (.cells #[.pointer none, .slice none 0 0] 36)) (Nat.le_refl _) (by simp [World.alloc, -World.alloc_eq]; rfl) (by simp) hn).mono ?_
  rintro e w' ⟨rfl, h, hb⟩
  exact ⟨rfl, .inr h, ((Below.refl _ w).alloc (Nat.le_refl _) _).trans hb⟩
end Go.Proofs.Ytmnpnpmopbkabaa

namespace Go.Proofs.Ytmnpnpmopbkabaa
open Go.Shelf Go.RowKit
set_option maxRecDepth 100000
def renBByte : Go.Shelf.Ren := ⟨fun | 167 => 16 | 240 => 22 | 276 => 26 | n => n, fun | 0 => 0 | 4 => 4 | 5 => 5 | 9 => 9 | 20 => 20 | 37 => 34 | 70 => 33 | 72 => 36 | 75 => 38 | 80 => 42 | 164 => 48 | n => n, fun  | n => n⟩
theorem lays167 : Go.Proofs.Lays.n167 Try.prog renBByte := {
  mixed := by kernel_rfl
  f167 := Try.func16.trans (congrArg some (by kernel_rfl))
  f240 := Try.func22.trans (congrArg some (by kernel_rfl))
  f276 := Try.func26.trans (congrArg some (by kernel_rfl))
  t0 := Try.underlying0
  a0 := Try.isAgg0
  z0 := Try.sizeOf0
  v0 := Try.zeroValue0
  t4 := Try.underlying4
  a4 := Try.isAgg4
  z4 := Try.sizeOf4
  v4 := Try.zeroValue4
  t5 := Try.underlying5
  a5 := Try.isAgg5
  z5 := Try.sizeOf5
  v5 := Try.zeroValue5
  t9 := Try.underlying9
  a9 := Try.isAgg9
  z9 := Try.sizeOf9
  v9 := Try.zeroValue9
  t20 := Try.underlying20
  a20 := Try.isAgg20
  z20 := Try.sizeOf20
  v20 := Try.zeroValue20
  t37 := Try.underlying34
  a37 := Try.isAgg34
  z37 := Try.sizeOf34
  v37 := Try.zeroValue34
  t70 := Try.underlying33
  a70 := Try.isAgg33
  z70 := Try.sizeOf33
  v70 := Try.zeroValue33
  t72 := Try.underlying36
  a72 := Try.isAgg36
  z72 := Try.sizeOf36
  v72 := Try.zeroValue36
  t75 := Try.underlying38
  a75 := Try.isAgg38
  z75 := Try.sizeOf38
  v75 := Try.zeroValue38
  t164 := Try.underlying48
  a164 := Try.isAgg48
  z164 := Try.sizeOf48
  v164 := Try.zeroValue48 }
theorem extraBByte : Builder.Extra Try.prog renBByte := {
  sizeBuilder := by kernel_rfl
  liesBuilder := by kernel_rfl
  t5 := Try.underlying5
  a5 := Try.isAgg5
  z5 := Try.sizeOf5
  v5 := Try.zeroValue5
  infoByte := by kernel_rfl
  cellsByte := by kernel_rfl
  sizeByte := by kernel_rfl
  neB5 := by decide }
theorem writeByte (B b : Nat) (l : List UInt8) (c : UInt8) (w : World) (h : HoldsB B b l w) (hlen : l.length + 1 ≤ 140737488355328) (hBw : B ≤ w.heap.size) :
    Calls Try.prog 16 #[.pointer (some ⟨b, 0, none⟩), .int .u8 (c.toNat : Int)] w fun e w' => e = .returned .nilIface ∧ HoldsB B b (l ++ [c]) w' ∧ Below B w w' := by
  refine (Any.Builder_WriteByte lays167 extraBByte B b (Lib.byteCells l) (c.toNat : Int) w h (by simpa [Lib.byteCells] using hlen) hBw).mono ?_
  rintro e w' ⟨rfl, h, hb⟩
  refine ⟨rfl, .inr ?_, hb⟩
  have e1 : Lib.byteCells (l ++ [c]) = Lib.byteCells l ++ [.int .u8 (c.toNat : Int)] := by simp [Lib.byteCells]
  rw [e1]; exact h
end Go.Proofs.Ytmnpnpmopbkabaa

namespace Go.Proofs.Ytmnpnpmopbkabaa
open Go.Shelf Go.RowKit
set_option maxRecDepth 100000
def renBText : Go.Shelf.Ren := ⟨fun | 166 => 15 | 240 => 22 | 276 => 26 | n => n, fun | 0 => 0 | 3 => 3 | 4 => 4 | 5 => 5 | 9 => 9 | 20 => 20 | 37 => 34 | 70 => 33 | 72 => 36 | 75 => 38 | 80 => 42 | 164 => 48 | n => n, fun  | n => n⟩
theorem lays166 : Go.Proofs.Lays.n166 Try.prog renBText := {
  mixed := by kernel_rfl
  f166 := Try.func15.trans (congrArg some (by kernel_rfl))
  f240 := Try.func22.trans (congrArg some (by kernel_rfl))
  f276 := Try.func26.trans (congrArg some (by kernel_rfl))
  t0 := Try.underlying0
  a0 := Try.isAgg0
  z0 := Try.sizeOf0
  v0 := Try.zeroValue0
  t3 := Try.underlying3
  a3 := Try.isAgg3
  z3 := Try.sizeOf3
  v3 := Try.zeroValue3
  t4 := Try.underlying4
  a4 := Try.isAgg4
  z4 := Try.sizeOf4
  v4 := Try.zeroValue4
  t9 := Try.underlying9
  a9 := Try.isAgg9
  z9 := Try.sizeOf9
  v9 := Try.zeroValue9
  t20 := Try.underlying20
  a20 := Try.isAgg20
  z20 := Try.sizeOf20
  v20 := Try.zeroValue20
  t37 := Try.underlying34
  a37 := Try.isAgg34
  z37 := Try.sizeOf34
  v37 := Try.zeroValue34
  t70 := Try.underlying33
  a70 := Try.isAgg33
  z70 := Try.sizeOf33
  v70 := Try.zeroValue33
  t72 := Try.underlying36
  a72 := Try.isAgg36
  z72 := Try.sizeOf36
  v72 := Try.zeroValue36
  t75 := Try.underlying38
  a75 := Try.isAgg38
  z75 := Try.sizeOf38
  v75 := Try.zeroValue38
  t164 := Try.underlying48
  a164 := Try.isAgg48
  z164 := Try.sizeOf48
  v164 := Try.zeroValue48 }
theorem extraBText : Builder.Extra Try.prog renBText := {
  sizeBuilder := by kernel_rfl
  liesBuilder := by kernel_rfl
  t5 := Try.underlying5
  a5 := Try.isAgg5
  z5 := Try.sizeOf5
  v5 := Try.zeroValue5
  infoByte := by kernel_rfl
  cellsByte := by kernel_rfl
  sizeByte := by kernel_rfl
  neB5 := by decide }
theorem writeString (B b : Nat) (l : List UInt8) (s : ByteArray) (w : World) (h : HoldsB B b l w) (hlen : l.length + s.size ≤ 140737488351232) (hBw : B ≤ w.heap.size) :
    Calls Try.prog 15 #[.pointer (some ⟨b, 0, none⟩), .string s] w fun e w' => e = .returned (.tuple #[.int .i64 s.size, .nilIface]) ∧ HoldsB B b (l ++ s.data.toList) w' ∧ Below B w w' := by
  refine (Any.Builder_WriteString lays166 extraBText B b (Lib.byteCells l) s w h (by simp [Lib.byteCells]; omega) hBw).mono ?_
  rintro e w' ⟨rfl, h, hb⟩
  refine ⟨rfl, .inr ?_, hb⟩
  have e1 : Lib.byteCells (l ++ s.data.toList) = Lib.byteCells l ++ Lib.strCells s := by simp [Lib.byteCells, Lib.strCells]
  rw [e1]; exact h
end Go.Proofs.Ytmnpnpmopbkabaa

namespace Go.Proofs.Ytmnpnpmopbkabaa
open Go.Shelf Go.RowKit
set_option maxRecDepth 100000
def renBString : Go.Shelf.Ren := ⟨fun | 169 => 17 | n => n, fun | 0 => 0 | 3 => 3 | 5 => 5 | 9 => 9 | 37 => 34 | 70 => 33 | 72 => 36 | 127 => 46 | n => n, fun  | n => n⟩
theorem lays169 : Go.Proofs.Lays.n169 Try.prog renBString := {
  mixed := by kernel_rfl
  f169 := Try.func17.trans (congrArg some (by kernel_rfl))
  t0 := Try.underlying0
  a0 := Try.isAgg0
  z0 := Try.sizeOf0
  v0 := Try.zeroValue0
  t3 := Try.underlying3
  a3 := Try.isAgg3
  z3 := Try.sizeOf3
  v3 := Try.zeroValue3
  t9 := Try.underlying9
  a9 := Try.isAgg9
  z9 := Try.sizeOf9
  v9 := Try.zeroValue9
  t37 := Try.underlying34
  a37 := Try.isAgg34
  z37 := Try.sizeOf34
  v37 := Try.zeroValue34
  t70 := Try.underlying33
  a70 := Try.isAgg33
  z70 := Try.sizeOf33
  v70 := Try.zeroValue33
  t72 := Try.underlying36
  a72 := Try.isAgg36
  z72 := Try.sizeOf36
  v72 := Try.zeroValue36
  t127 := Try.underlying46
  a127 := Try.isAgg46
  z127 := Try.sizeOf46
  v127 := Try.zeroValue46 }
theorem extraBString : Builder.Extra Try.prog renBString := {
  sizeBuilder := by kernel_rfl
  liesBuilder := by kernel_rfl
  t5 := Try.underlying5
  a5 := Try.isAgg5
  z5 := Try.sizeOf5
  v5 := Try.zeroValue5
  infoByte := by kernel_rfl
  cellsByte := by kernel_rfl
  sizeByte := by kernel_rfl
  neB5 := by decide }
theorem builderText (B b : Nat) (l : List UInt8) (w : World) (h : HoldsB B b l w) (hBw : B ≤ w.heap.size) :
    Calls Try.prog 17 #[.pointer (some ⟨b, 0, none⟩)] w fun e w' => e = .returned (.string (txt l)) ∧ Below B w w' :=
  Any.Builder_String_any lays169 extraBString B b l w h hBw

end Go.Proofs.Ytmnpnpmopbkabaa
