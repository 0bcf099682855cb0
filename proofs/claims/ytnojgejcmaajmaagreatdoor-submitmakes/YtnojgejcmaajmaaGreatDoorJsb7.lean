/- The shelf's strings.Cut, laid at this program. The library's variable MaxLen holds some number. Escapes of texts, as lists of bytes. Entries told as parts, and parts read, as functions of lists. Parts made of entries and read again. Texts searched, cut, split and replaced, in the words of parts. What strings.Cut answers of any text. A strings.Builder that a call has made itself, and the bytes that it holds. A strings.Builder that a call has made itself, written and read, and what the call has laid besides stays. The program's Query of layer 24. States of controls as they lie in the world, behind a slice. Entries in a row of the call's own. The document's Clear, Choose, Encode of layer 20. The program's Escapes and the document's answer by the same function of a set and a byte. What the program's two tables hold, cell by cell, where they read as its text lays them. The program's Encode of layer 19. What strings.Contains, Cut, Split, CutPrefix, CutSuffix, ReplaceAll answer. The program's Fit, toldType, breaks, carried, quote, unquote of layer 20. The tables that layer 21's road names. The program's Form, Elements, Default, Control, Disabled of layer 16. The example of layer 15's statements, and how long the states are that its functions answer. The program's fix of layer 15. The program's copying of states. The program's functions of layer 24 that its laws call, by the names that the laws' walks use, over the tables that each law's road names. The document's Copied of layer 10. Stage 24's wakes and its laws SubmitSettings, SubmitQueries, SubmitEnters, walked. The program's two tables of layer 11, as its text lays them. -/
import Derived.Test.YtnojgejcmaajmaaGreatDoorJsb6
import Derived.Test.YtnojgejcmaajmaaGreatDoorJsb8
import Derived.Shelf.Strings.Cut
import Derived.Lib.Replace
import Derived.Lib.SplitLaws
import Derived.Lib.IndexAny
import Derived.Lib.CutLaws
import Derived.Shelf.Strings.BuilderK
import Derived.Laws.Concat
import Derived.Shelf.Small.Strs
import Derived.Lib.LaidU8
import Derived.Shelf.Strings.Builder2
import Derived.Lib.Join
import Derived.Deep.RegionLaw
import Derived.Shelf.Strings.Replace
import Derived.Shelf.Strings.Split
import Derived.Shelf.Strings.PiecesUse
import Derived.Shelf.Strings.Search3
import Derived.Shelf.Small.Wraps
import Derived.Shelf.Strings.IndexAnyAll
import Derived.Laws.RangeAny
import Derived.Laws.Runes
import Derived.WalkSmall
import Derived.Lib.RuneCount
import Derived.Lib.OthersKept
import Derived.Laws.CopyRow
import Derived.Laws.EntriesVeiled
import Derived.RangeFuncNested
import Derived.RangeFuncBound
import Derived.RangeFuncCalls
import Derived.RangeFuncLeaves
import Derived.RangeFuncBox
import Derived.Shelf.RegionOpen
import Derived.OwnWalkIn
import Derived.TacticsInMore
import Derived.LoopNIn
import Derived.LoopIn
import Derived.Shelf.Strings.SlTrimAscii
import Derived.Deep.DrawnRows
import Derived.LaidMore

namespace Go.Proofs.YtnojgejcmaajmaaGreatDoor
open Go.Shelf Go.RowKit
set_option maxRecDepth 100000
def pctren : Go.Shelf.Ren := ⟨fun | 145 => 44 | 217 => 208 | 219 => 160 | 220 => 96 | 224 => 210 | 225 => 209 | 266 => 238 | 267 => 211 | 314 => 239 | n => n, fun | 3 => 3 | 4 => 4 | 5 => 5 | 9 => 9 | 46 => 171 | 51 => 184 | 59 => 77 | 72 => 94 | 146 => 185 | n => n, fun | 1 => 2 | n => n⟩
theorem lays145 : Go.Proofs.Lays.n145 Tryz.prog pctren := {
  mixed := by kernel_rfl
  f145 := Tryz.func44.trans (congrArg some (by kernel_rfl))
  f217 := Tryz.func208.trans (congrArg some (by kernel_rfl))
  f219 := Tryz.func160.trans (congrArg some (by kernel_rfl))
  f220 := Tryz.func96.trans (congrArg some (by kernel_rfl))
  f224 := Tryz.func210.trans (congrArg some (by kernel_rfl))
  f225 := Tryz.func209.trans (congrArg some (by kernel_rfl))
  f266 := Tryz.func238.trans (congrArg some (by kernel_rfl))
  f267 := Tryz.func211.trans (congrArg some (by kernel_rfl))
  f314 := Tryz.func239.trans (congrArg some (by kernel_rfl))
  t3 := Tryz.underlying3
  a3 := Tryz.isAgg3
  z3 := Tryz.sizeOf3
  v3 := Tryz.zeroValue3
  t4 := Tryz.underlying4
  a4 := Tryz.isAgg4
  z4 := Tryz.sizeOf4
  v4 := Tryz.zeroValue4
  t5 := Tryz.underlying5
  a5 := Tryz.isAgg5
  z5 := Tryz.sizeOf5
  v5 := Tryz.zeroValue5
  t9 := Tryz.underlying9
  a9 := Tryz.isAgg9
  z9 := Tryz.sizeOf9
  v9 := Tryz.zeroValue9
  t46 := Tryz.underlying171
  a46 := Tryz.isAgg171
  z46 := Tryz.sizeOf171
  v46 := Tryz.zeroValue171
  t51 := Tryz.underlying184
  a51 := Tryz.isAgg184
  z51 := Tryz.sizeOf184
  v51 := Tryz.zeroValue184
  t59 := Tryz.underlying77
  a59 := Tryz.isAgg77
  z59 := Tryz.sizeOf77
  v59 := Tryz.zeroValue77
  t146 := Tryz.underlying185
  a146 := Tryz.isAgg185
  z146 := Tryz.sizeOf185
  v146 := Tryz.zeroValue185
  g1 := by kernel_rfl }
end Go.Proofs.YtnojgejcmaajmaaGreatDoor

namespace Go.Proofs.YtnojgejcmaajmaaGreatDoor
open Go.RowKit
/-- The library's variable MaxLen holds some number. -/
def SomeMax (w : World) : Prop := ∃ m, w.cell? ⟨2, 0, none⟩ = some (.int .i64 m)
theorem SomeMax.below {w w' : World} (h : SomeMax w) (hb : Below w.heap.size w w') : SomeMax w' := by
  obtain ⟨m, hm⟩ := h
  exact ⟨m, (hb.cell (World.block_lt_of_cell? _ _ hm)).trans hm⟩
end Go.Proofs.YtnojgejcmaajmaaGreatDoor

namespace Go.Proofs.YtnojgejcmaajmaaGreatDoor
open Go.RowKit
def repA (old new s : List UInt8) : List UInt8 := Lib.replaceK old new (Lib.count s old) s
def pathSg : List UInt8 := [32, 34, 35, 60, 62, 63, 94, 123, 125, 96]
def userSg : List UInt8 := [32, 34, 35, 60, 62, 63, 94, 123, 125, 96, 47, 58, 59, 61, 64, 91, 92, 93, 124]
def partSg : List UInt8 := [32, 34, 35, 60, 62, 63, 94, 123, 125, 96, 47, 58, 59, 61, 64, 91, 92, 93, 124, 36, 37, 38, 43, 44]
def signsOf : Nat → List UInt8
  | 1 => [32, 34, 60, 62, 96]
  | 2 => [32, 34, 35, 60, 62]
  | 3 => [32, 34, 35, 60, 62, 39]
  | 4 => pathSg
  | 5 => userSg
  | 6 => partSg
  | _ => []
def hexD (n : Nat) : UInt8 := if n < 10 then UInt8.ofNat (48 + n) else UInt8.ofNat (55 + n)
end Go.Proofs.YtnojgejcmaajmaaGreatDoor

namespace Go.Proofs.YtnojgejcmaajmaaGreatDoor
open Go.RowKit
/-- Where a text stands first in another one. -/
def cutL (t : List UInt8) : List UInt8 → Option (List UInt8 × List UInt8)
  | [] => if t.isPrefixOf [] = true then some ([], []) else none
  | c :: r => if t.isPrefixOf (c :: r) = true then some ([], (c :: r).drop t.length) else (cutL t r).map fun p => (c :: p.1, p.2)
theorem cut_hit {t s : List UInt8} (h : t.isPrefixOf s = true) : cutL t s = some ([], s.drop t.length) := by
  cases s with
  | nil => unfold cutL; rw [if_pos h]; simp
  | cons c r => unfold cutL; rw [if_pos h]
theorem cut_miss {t r : List UInt8} {c : UInt8} (h : t.isPrefixOf (c :: r) = false) : cutL t (c :: r) = (cutL t r).map fun p => (c :: p.1, p.2) := by
  conv => lhs; unfold cutL
  rw [if_neg (by rw [h]; decide)]
theorem cut_end {t : List UInt8} (h : t ≠ []) : cutL t [] = none := by
  unfold cutL
  rw [if_neg]
  cases t with
  | nil => exact absurd rfl h
  | cons => simp
theorem pre_app (t s : List UInt8) : t.isPrefixOf (t ++ s) = true := by simp
end Go.Proofs.YtnojgejcmaajmaaGreatDoor

namespace Go.Proofs.YtnojgejcmaajmaaGreatDoor
open Go.RowKit
abbrev bL (s : ByteArray) : List UInt8 := s.data.toList
end Go.Proofs.YtnojgejcmaajmaaGreatDoor

namespace Go.Proofs.YtnojgejcmaajmaaGreatDoor
open Go.RowKit
/-- Where a text stands first, as the library's index tells it. -/
theorem ix_cons (c : UInt8) (l t : List UInt8) (h : t.isPrefixOf (c :: l) = false) : Lib.index (c :: l) t = if Lib.index l t == -1 then -1 else Lib.index l t + 1 := by
  conv => lhs; unfold Lib.index
  rw [h]; simp
theorem ix_hit {l t : List UInt8} (h : t.isPrefixOf l = true) : Lib.index l t = 0 :=
  Lib.index_first (i := 0) (Nat.zero_le _) (by simpa [Lib.occAt] using h) (fun _ h => absurd h (Nat.not_lt_zero _))
theorem ix_cut (t : List UInt8) (ht : t ≠ []) : ∀ l : List UInt8, (cutL t l = none ∧ Lib.index l t = -1) ∨ ∃ p r, cutL t l = some (p, r) ∧ Lib.index l t = (p.length : Int) ∧ l = p ++ t ++ r
  | [] => .inl ⟨cut_end ht, by
      refine Lib.index_none (fun j _ => ?_)
      cases t with
      | nil => exact absurd rfl ht
      | cons => simp [Lib.occAt]⟩
  | c :: l => by
    cases h : t.isPrefixOf (c :: l) with
    | true =>
      refine .inr ⟨[], (c :: l).drop t.length, cut_hit h, ix_hit h, ?_⟩
      obtain ⟨z, hz⟩ := List.isPrefixOf_iff_prefix.1 h
      rw [← hz]; simp
    | false =>
      rcases ix_cut t ht l with ⟨h1, h2⟩ | ⟨p, r, h1, h2, h3⟩
      · refine .inl ⟨by rw [cut_miss h, h1]; rfl, by rw [ix_cons _ _ _ h, h2]; rfl⟩
      · refine .inr ⟨c :: p, r, by rw [cut_miss h, h1]; rfl, ?_, by rw [h3]; simp⟩
        rw [ix_cons _ _ _ h, h2]
        have : ((p.length : Int) == -1) = false := by rw [beq_eq_false_iff_ne]; omega
        rw [this]
        show (p.length : Int) + 1 = ((c :: p).length : Int)
        simp
theorem cut_lib (t : List UInt8) (ht : t ≠ []) (l : List UInt8) : Lib.cut l t = match cutL t l with | none => (l, [], false) | some (p, r) => (p, r, true) := by
  unfold Lib.cut
  rcases ix_cut t ht l with ⟨h1, h2⟩ | ⟨p, r, h1, h2, h3⟩
  · rw [h1, h2]; rfl
  · rw [h1, h2, if_pos (by omega)]
    show (l.take p.length, l.drop (p.length + t.length), true) = (p, r, true)
    have e1 : l.take p.length = p := by rw [h3, List.append_assoc, List.take_left' rfl]
    have e2 : l.drop (p.length + t.length) = r := by rw [h3]; exact List.drop_left' (by simp)
    rw [e1, e2]
/-- A text cut at its first place: what is ahead doesn't hold it, not even where it would reach beyond. -/
theorem cut_some {t : List UInt8} (ht : t ≠ []) : ∀ {s p r : List UInt8}, cutL t s = some (p, r) → s = p ++ (t ++ r) ∧ ∀ y z, s = y ++ (t ++ z) → p.length ≤ y.length
  | [], p, r, h => by rw [cut_end ht] at h; cases h
  | c :: s, p, r, h => by
    cases w : t.isPrefixOf (c :: s) with
    | true =>
      rw [cut_hit w] at h
      cases h
      obtain ⟨z, hz⟩ := List.isPrefixOf_iff_prefix.1 w
      exact ⟨by rw [← hz]; simp, fun _ _ _ => Nat.zero_le _⟩
    | false =>
      rw [cut_miss w] at h
      cases v : cutL t s with
      | none => rw [v] at h; cases h
      | some pr =>
        obtain ⟨p', r'⟩ := pr
        rw [v] at h
        cases h
        obtain ⟨i1, i2⟩ := cut_some ht v
        refine ⟨by rw [i1]; simp, fun y z e => ?_⟩
        cases y with
        | nil =>
          exfalso
          have : t.isPrefixOf (c :: s) = true := by rw [e]; exact pre_app _ _
          rw [w] at this; cases this
        | cons d y =>
          have := i2 y z (by rw [List.cons_append] at e; exact (List.cons.inj e).2)
          simp only [List.length_cons]
          omega
def R1 (l : List UInt8) : List UInt8 := repA [37, 48, 65] [10] l
def cutT (t l : List UInt8) : List UInt8 × List UInt8 × Bool := match cutL t l with | none => (l, [], false) | some (p, r) => (p, r, true)
theorem cutT_len (t l : List UInt8) : (cutT t l).1.length ≤ l.length ∧ (cutT t l).2.1.length ≤ l.length := by
  unfold cutT
  cases c : cutL t l with
  | none => exact ⟨Nat.le_refl _, Nat.zero_le _⟩
  | some pr =>
    obtain ⟨p, r⟩ := pr
    by_cases ht : t = []
    · subst ht
      cases l with
      | nil => cases c; exact ⟨Nat.le_refl _, Nat.le_refl _⟩
      | cons x l =>
        rw [cut_hit (by rfl)] at c
        cases c
        exact ⟨Nat.zero_le _, Nat.le_refl _⟩
    · have := congrArg List.length (cut_some ht c).1
      simp only [List.length_append] at this
      show p.length ≤ _ ∧ r.length ≤ _
      omega
end Go.Proofs.YtnojgejcmaajmaaGreatDoor

namespace Go.Proofs.YtnojgejcmaajmaaGreatDoor
open Go.Shelf Go.RowKit
set_option maxRecDepth 100000
theorem cut_anyT (t l : List UInt8) (w : World) (hs : l.length ≤ 1073741824) (ht : t ≠ []) (hm : SomeMax w) :
    Calls Tryz.prog 44 #[.string (txt l), .string (txt t)] w fun e w' => e = .returned (.tuple #[.string (txt (cutT t l).1), .string (txt (cutT t l).2.1), .bool (cutT t l).2.2]) ∧ Below w.heap.size w w' := by
  obtain ⟨m, hm⟩ := hm
  have := Any.strings_Cut lays145 (txt l) (txt t) m w (by show l.length < _; omega) hm
  have e1 : Lib.cut (txt l).data.toList (txt t).data.toList = cutT t l := cut_lib t ht l
  rw [e1] at this
  refine this.mono ?_
  rintro e w' ⟨rfl, n, rfl⟩
  exact ⟨rfl, ⟨rfl, rfl, rfl, Nat.le_refl _, fun _ _ => rfl⟩⟩
end Go.Proofs.YtnojgejcmaajmaaGreatDoor

namespace Go.Proofs.YtnojgejcmaajmaaGreatDoor
open Go.RowKit
/-- A builder in block b, of the call's own (from B on), that holds the bytes l. -/
def HoldsB (B b : Nat) (l : List UInt8) (w : World) : Prop := Lib.IsBuilder 94 5 B b (Lib.byteCells l) w
theorem HoldsB.fresh (w : World) : HoldsB w.heap.size w.heap.size [] (w.alloc (.cells #[.pointer none, .slice none 0 0] 94)) :=
  .inl ⟨Nat.le_refl _, .slice none 0 0, by simp [World.alloc, -World.alloc_eq], World.ownsRow_nil _ _ _ _, by simp [Value.ownBlock]⟩
theorem builderAt_below {T e : TypeId} {B b : Nat} {p : Value} {bs : List Value} {w w' : World} (h : Lib.BuilderAt T e B b p bs w) (hb : Below w.heap.size w w') : Lib.BuilderAt T e B b p bs w' := by
  have hlt := h.lt
  obtain ⟨h0, v, h1, h2, h3⟩ := h
  refine ⟨h0, v, by rw [hb.block b hlt]; exact h1, ?_, h3⟩
  obtain ⟨g1, g2⟩ := h2
  refine ⟨g1, ?_⟩
  rcases g2 with g2 | ⟨g, cap, cur, hv, hg, hh, r⟩
  · exact Or.inl g2
  · refine Or.inr ⟨g, cap, cur, hv, hg, ?_, r⟩
    rw [hb.block g ?_]; exact hh
    rcases Nat.lt_or_ge g w.heap.size with h' | h'
    · exact h'
    · simp [Array.getElem?_eq_none h'] at hh
/-- Another call, which changes nothing that was there, leaves the builder as it is. -/
theorem HoldsB.below {B b : Nat} {l : List UInt8} {w w' : World} (h : HoldsB B b l w) (hb : Below w.heap.size w w') : HoldsB B b l w' := by
  rcases h with h | h
  · exact .inl (builderAt_below h hb)
  · exact .inr (builderAt_below h hb)
end Go.Proofs.YtnojgejcmaajmaaGreatDoor

namespace Go.Proofs.YtnojgejcmaajmaaGreatDoor
open Go.Shelf Go.RowKit
set_option maxRecDepth 100000
/-- A builder in block b, of the call's own (from B on), that holds the bytes l. -/
def HoldsK (B b : Nat) (l : List UInt8) (w : World) : Prop := Lib.IsBuilderF 94 5 B b (Lib.byteCells l) w
/-- What is not the builder in block b and no row of bytes lies as it lay. -/
def OthK (b : Nat) (w w' : World) : Prop := Lib.OthersKept 5 (some b) w w'
theorem OthK.refl (b : Nat) (w : World) : OthK b w w := Lib.OthersKept.refl _ _ _
theorem OthK.trans {b : Nat} {u v w : World} (h : OthK b u v) (k : OthK b v w) : OthK b u w := Lib.OthersKept.trans h k
theorem OthK.of {b : Nat} {w w' : World} (h : Below w.heap.size w w') : OthK b w w' := fun k o hk _ _ => by
  rw [h.block k (Array.getElem?_eq_some_iff.1 hk).1]; exact hk
theorem HoldsK.new (w : World) : HoldsK w.heap.size w.heap.size [] (w.alloc (.cells #[.pointer none, .slice none 0 0] 94)) := Lib.IsBuilderF.of (HoldsB.fresh w)
theorem builderAtF_below {T e : TypeId} {B b : Nat} {p : Value} {bs : List Value} {w w' : World} (h : Lib.BuilderAtF T e B b p bs w) (hb : Below w.heap.size w w') : Lib.BuilderAtF T e B b p bs w' := by
  have hlt := h.lt
  obtain ⟨h0, v, h1, h2, h3⟩ := h
  refine ⟨h0, v, by rw [hb.block b hlt]; exact h1, ?_, h3⟩
  obtain ⟨g1, g2⟩ := h2
  refine ⟨g1, ?_⟩
  rcases g2 with g2 | ⟨g, cap, cur, fz, hv, hg, hh, r⟩
  · exact Or.inl g2
  · refine Or.inr ⟨g, cap, cur, fz, hv, hg, ?_, r⟩
    rw [hb.block g (Array.getElem?_eq_some_iff.1 hh).1]; exact hh
/-- Another call, which changes nothing that was there, leaves the builder as it is. -/
theorem HoldsK.below {B b : Nat} {l : List UInt8} {w w' : World} (h : HoldsK B b l w) (hb : Below w.heap.size w w') : HoldsK B b l w' := by
  rcases h with h | h
  · exact .inl (builderAtF_below h hb)
  · exact .inr (builderAtF_below h hb)
theorem writeByteK (B b : Nat) (l : List UInt8) (c : UInt8) (w : World) (h : HoldsK B b l w) (hlen : l.length + 1 ≤ 140737488355328) (hBw : B ≤ w.heap.size) :
    Calls Tryz.prog 71 #[.pointer (some ⟨b, 0, none⟩), .int .u8 (c.toNat : Int)] w fun e w' => e = .returned .nilIface ∧ HoldsK B b (l ++ [c]) w' ∧ Below B w w' ∧ OthK b w w' := by
  refine (Any.Builder_WriteByte_k lays167 extraBByte B b (Lib.byteCells l) (c.toNat : Int) w h (by simpa [Lib.byteCells] using hlen) hBw).mono ?_
  rintro e w' ⟨rfl, h, hb, hk⟩
  refine ⟨rfl, .inr ?_, hb, hk⟩
  have e1 : Lib.byteCells (l ++ [c]) = Lib.byteCells l ++ [.int .u8 (c.toNat : Int)] := by simp [Lib.byteCells]
  rw [e1]; exact h
theorem writeStringK (B b : Nat) (l : List UInt8) (s : ByteArray) (w : World) (h : HoldsK B b l w) (hlen : l.length + s.size ≤ 140737488351232) (hBw : B ≤ w.heap.size) :
    Calls Tryz.prog 70 #[.pointer (some ⟨b, 0, none⟩), .string s] w fun e w' => e = .returned (.tuple #[.int .i64 s.size, .nilIface]) ∧ HoldsK B b (l ++ s.data.toList) w' ∧ Below B w w' ∧ OthK b w w' := by
  refine (Any.Builder_WriteString_k lays166 extraBText B b (Lib.byteCells l) s w h (by simp [Lib.byteCells]; omega) hBw).mono ?_
  rintro e w' ⟨rfl, h, hb, hk⟩
  refine ⟨rfl, .inr ?_, hb, hk⟩
  have e1 : Lib.byteCells (l ++ s.data.toList) = Lib.byteCells l ++ Lib.strCells s := by simp [Lib.byteCells, Lib.strCells]
  rw [e1]; exact h
theorem builderTextK (B b : Nat) (l : List UInt8) (w : World) (h : HoldsK B b l w) (hBw : B ≤ w.heap.size) :
    Calls Tryz.prog 72 #[.pointer (some ⟨b, 0, none⟩)] w fun e w' => e = .returned (.string (txt l)) ∧ HoldsK B b l w' ∧ Below B w w' ∧ OthK b w w' :=
  Any.Builder_String_any_k lays169 extraBString B b l w h hBw
end Go.Proofs.YtnojgejcmaajmaaGreatDoor

namespace Go.Proofs.YtnojgejcmaajmaaGreatDoor
open Go.RowKit
set_option maxRecDepth 100000
theorem fst_consB {c a : UInt8} {l : List UInt8} (h : ¬ a = c) : fst8 c (a :: l) = fst8 c l + 1 := by
  unfold fst8
  rw [List.takeWhile_cons_of_pos (by simp [h]), List.length_cons]
theorem fst_headB {c : UInt8} {l : List UInt8} : fst8 c (c :: l) = 0 := by
  unfold fst8
  rw [List.takeWhile_cons_of_neg (by simp)]; rfl
theorem fst_leB (c : UInt8) (l : List UInt8) : fst8 c l ≤ l.length := (List.takeWhile_prefix _).length_le
theorem cut_fst (c : UInt8) : ∀ l : List UInt8, cutL [c] l = if fst8 c l < l.length then some (l.take (fst8 c l), l.drop (fst8 c l + 1)) else none
  | [] => rfl
  | a :: t => by
    by_cases h : a = c
    · subst h
      rw [cut_hit (by simp [List.isPrefixOf]), fst_headB, if_pos (by simp)]
      simp
    · rw [cut_miss (by simp [List.isPrefixOf]; exact fun e => h e.symm), cut_fst c t, fst_consB h]
      by_cases g : fst8 c t < t.length
      · rw [if_pos g, if_pos (by rw [List.length_cons]; omega)]; simp
      · rw [if_neg g, if_neg (by rw [List.length_cons]; omega)]; rfl
theorem cutT_fst (c : UInt8) (l : List UInt8) : (cutT [c] l).1 = l.take (fst8 c l) := by
  unfold cutT
  rw [cut_fst]
  have := fst_leB c l
  by_cases g : fst8 c l < l.length
  · rw [if_pos g]
  · rw [if_neg g, List.take_of_length_le (by omega)]
theorem cutT_has (c : UInt8) (l : List UInt8) : (cutT [c] l).2.2 = decide (fst8 c l < l.length) := by
  unfold cutT
  rw [cut_fst]
  by_cases g : fst8 c l < l.length
  · rw [if_pos g, decide_eq_true g]
  · rw [if_neg g, decide_eq_false g]
theorem fst_atB {c : UInt8} : ∀ {l : List UInt8}, fst8 c l < l.length → l.drop (fst8 c l) = c :: l.drop (fst8 c l + 1)
  | [], h => by simp at h
  | a :: t, h => by
    by_cases e : a = c
    · subst e; rw [fst_headB]; rfl
    · rw [fst_consB e] at h ⊢
      rw [List.drop_succ_cons, List.drop_succ_cons]
      exact fst_atB (by rw [List.length_cons] at h; omega)
theorem cutT_rest {c : UInt8} {l : List UInt8} (h : (cutT [c] l).2.2 = true) : l.drop (fst8 c l) = c :: (cutT [c] l).2.1 := by
  rw [cutT_has, decide_eq_true_eq] at h
  rw [fst_atB h]
  unfold cutT
  rw [cut_fst, if_pos h]
theorem cutT_none {c : UInt8} {l : List UInt8} (h : (cutT [c] l).2.2 = false) : l.drop (fst8 c l) = [] := by
  rw [cutT_has, decide_eq_false_iff_not] at h
  rw [List.drop_of_length_le (by omega)]
set_option maxHeartbeats 8000000 in
theorem sbQuery_any (a q : ByteArray) (w : World) (ha : a.size ≤ 1073741824) (hq : q.size ≤ 70368744177664) (hT : SomeMax w) :
    Calls Tryz.prog 19 #[.string a, .string q] w fun e w' => e = .returned (.string (txt (qryL (bL a) (bL q)))) ∧ Below w.heap.size w w' := by
  have la : (bL a).length ≤ 1073741824 := by show a.data.toList.length ≤ _; rw [Array.length_toList]; exact ha
  have C1 := hide (cut_anyT [35] (bL a) w la (by decide) hT)
  have l1 := (cutT_len [35] (bL a))
  have C2 := hide (fun W (hb : Below w.heap.size w W) => cut_anyT [63] (cutT [35] (bL a)).1 W (Nat.le_trans l1.1 la) (by decide) (hT.below hb))
  rw [show txt (bL a) = a from rfl, show txt [35] = ⟨#[35]⟩ from rfl] at C1
  rw [show txt [63] = ⟨#[63]⟩ from rfl] at C2
  have l2 := (cutT_len [63] (cutT [35] (bL a)).1)
  have EQ : Hid (qryL (bL a) (bL q) = ((cutT [63] (cutT [35] (bL a)).1).1 ++ (63 :: bL q)) ++ (bL a).drop (fst8 35 (bL a))) := by
    show _ = _
    rw [cutT_fst 63, cutT_fst 35]; rfl
  have E1 := hide (fun h => cutT_rest (c := 35) (l := bL a) h)
  have E0 := hide (fun h => cutT_none (c := 35) (l := bL a) h)
  have lp : (cutT [63] (cutT [35] (bL a)).1).1.length ≤ 1073741824 := by omega
  have lr : (cutT [35] (bL a)).2.1.length ≤ 1073741824 := by omega
  clear la l1 l2
  generalize qryL (bL a) (bL q) = RES at *
  generalize (bL a).drop (fst8 35 (bL a)) = tl at *
  generalize cutT [63] (cutT [35] (bL a)).1 = c2 at *
  generalize cutT [35] (bL a) = c1 at *
  obtain ⟨pth, pr, pb⟩ := c2
  obtain ⟨ah, be, hb⟩ := c1
  dsimp only at *
  clear hT ha
  go_enter Tryz.func19, Tryz.ntmps19
  go_wp2_with fail
  refine C1.out.mono ?_
  rintro e w1 ⟨rfl, b1⟩
  have B1 := hide b1
  clear b1
  go_wp2_with fail
  refine (C2.out _ B1.out).mono ?_
  rintro e w2 ⟨rfl, b2⟩
  have B2 := hide (chain B1.out b2)
  have AL : Hid (Below w2.heap.size w2 (w2.alloc (.cells #[.pointer none, .slice none 0 0] 94))) := (Below.refl _ w2).alloc (Nat.le_refl _) _
  have H0 := hide (HoldsK.new w2)
  have B3 := hide (chain B2.out AL.out)
  have G3 : Hid (w2.heap.size ≤ (w2.alloc (.cells #[.pointer none, .slice none 0 0] 94)).heap.size) := by show _ ≤ _; simp
  have BA : Hid (Below w2.heap.size w2 (w2.alloc (.cells #[.pointer none, .slice none 0 0] 94))) := AL
  clear b2 B1 C1 C2
  go_wp2_with fail
  generalize w2.alloc (.cells #[.pointer none, .slice none 0 0] 94) = w3 at *
  refine (writeStringK w2.heap.size w2.heap.size [] (txt pth) w3 H0.out (by show 0 + pth.length ≤ _; omega) G3.out).mono ?_
  rintro e w4 ⟨rfl, H4, b4, _⟩
  have H4' : Hid (HoldsK w2.heap.size w2.heap.size pth w4) := H4
  have G4 := hide (Nat.le_trans G3.out b4.size)
  have B4 := hide (BA.out.trans b4)
  clear H4 b4 H0 B3 AL BA G3
  go_wp2_with fail
  refine (writeByteK w2.heap.size w2.heap.size pth 63 w4 H4'.out (by omega) G4.out).mono ?_
  rintro e w5 ⟨rfl, H5, b5, _⟩
  have H5' := hide H5
  have G5 := hide (Nat.le_trans G4.out b5.size)
  have B5 := hide (B4.out.trans b5)
  clear H5 b5 H4' B4 G4
  go_wp2_with fail
  refine (writeStringK w2.heap.size w2.heap.size (pth ++ [63]) q w5 H5'.out (by rw [List.length_append, List.length_singleton]; omega) G5.out).mono ?_
  rintro e w6 ⟨rfl, H6, b6, _⟩
  have H6' := hide H6
  have G6 := hide (Nat.le_trans G5.out b6.size)
  have B6 := hide (B5.out.trans b6)
  have L6 : Hid ((pth ++ [63] ++ q.data.toList).length ≤ 70368744177664 + 1073741824 + 1) := by
    show _ ≤ _
    rw [List.length_append, List.length_append, List.length_singleton, Array.length_toList (xs := q.data)]
    have : q.data.size = q.size := rfl
    omega
  clear H6 b6 H5' B5 G5
  cases hb with
  | false =>
    have E := E0.out rfl
    have ER : Hid (txt (pth ++ [63] ++ q.data.toList) = txt RES) := by show _ = _; rw [EQ.out, E]; simp
    clear E E0 E1 EQ
    go_wp2_with fail
    refine (builderTextK w2.heap.size w2.heap.size _ w6 H6'.out G6.out).mono ?_
    rintro e w7 ⟨rfl, _, b7, _⟩
    rw [ER.out]
    have BF := hide (chain B2.out (B6.out.trans b7))
    go_wp2_with fail
    go_ret
    exact ⟨rfl, BF.out⟩
  | true =>
    have E := E1.out rfl
    have ER : Hid (txt (pth ++ [63] ++ q.data.toList ++ [35] ++ (txt be).data.toList) = txt RES) := by
      show _ = _
      rw [EQ.out, E]
      have : (txt be).data.toList = be := rfl
      rw [this]; simp
    clear E E0 E1 EQ
    go_wp2_with fail
    refine (writeByteK w2.heap.size w2.heap.size _ 35 w6 H6'.out (by have := L6.out; omega) G6.out).mono ?_
    rintro e w7 ⟨rfl, H7, b7, _⟩
    have H7' := hide H7
    have G7 := hide (Nat.le_trans G6.out b7.size)
    have B7 := hide (B6.out.trans b7)
    clear H7 b7 H6' B6 G6
    go_wp2_with fail
    refine (writeStringK w2.heap.size w2.heap.size _ (txt be) w7 H7'.out (by
      have := L6.out
      rw [List.length_append, List.length_singleton]
      show _ + be.length ≤ _
      omega) G7.out).mono ?_
    rintro e w8 ⟨rfl, H8, b8, _⟩
    have H8' := hide H8
    have G8 := hide (Nat.le_trans G7.out b8.size)
    have B8 := hide (B7.out.trans b8)
    clear H8 b8 H7' B7 G7
    go_wp2_with fail
    refine (builderTextK w2.heap.size w2.heap.size _ w8 H8'.out G8.out).mono ?_
    rintro e w9 ⟨rfl, _, b9, _⟩
    rw [ER.out]
    have BF := hide (chain B2.out (B8.out.trans b9))
    go_wp2_with fail
    go_ret
    exact ⟨rfl, BF.out⟩
end Go.Proofs.YtnojgejcmaajmaaGreatDoor

namespace Go.Proofs.YtnojgejcmaajmaaGreatDoor
open Go.RowKit
set_option maxRecDepth 100000
/-- The cells of states, each with the slice of its files. -/
def cellsC : List Ct → List Value → List Value
  | c :: C, f :: F => ctCells c f ++ cellsC C F
  | [], _ => []
  | _ :: _, [] => []
def fv0 : Value := .slice none 0 0
def fvAt (F : List Value) (i : Nat) : Value := F.getD i fv0
theorem fvAt_cons (f : Value) (F : List Value) (i : Nat) : fvAt (f :: F) (i + 1) = fvAt F i := by unfold fvAt; simp
theorem cellsC_at : ∀ {C : List Ct} {F : List Value} {i : Nat} (_ : F.length = C.length) (h : i < C.length) {j : Nat}, j < 10 → (cellsC C F)[i * 10 + j]? = (ctCells C[i] (fvAt F i))[j]?
  | c :: C, [], _, hF, _, _, _ => by cases hF
  | c :: C, f :: F, 0, _, _, j, hj => by
    show (ctCells c f ++ cellsC C F)[0 * 10 + j]? = _
    rw [List.getElem?_append_left (by show _ < 10; omega), Nat.zero_mul, Nat.zero_add]; rfl
  | c :: C, f :: F, i + 1, hF, h, j, hj => by
    show (ctCells c f ++ cellsC C F)[(i + 1) * 10 + j]? = _
    rw [List.getElem?_append_right (by show 10 ≤ _; omega), show (i + 1) * 10 + j - (ctCells c f).length = i * 10 + j by show (i + 1) * 10 + j - 10 = _; omega, fvAt_cons]
    exact cellsC_at (C := C) (F := F) (by simpa using hF) (by simpa using h) hj
/-- The files of states lie in the world. -/
structure FilesIn (w : World) (C : List Ct) (F : List Value) : Prop where
  len : F.length = C.length
  at_ : ∀ i (h : i < C.length), FilesV w (fvAt F i) C[i].files
theorem FilesIn.below {w w' : World} {C : List Ct} {F : List Value} (h : FilesIn w C F) (hb : Below w.heap.size w w') : FilesIn w' C F := ⟨h.len, fun i hi => (h.at_ i hi).below hb⟩
/-- One state at a place of a block. -/
def CtAt (w : World) (b o : Nat) (c : Ct) (fv : Value) : Prop := ∀ j u, (ctCells c fv)[j]? = some u → w.cell? ⟨b, o + j, none⟩ = some u
theorem CtAt.below {w w' : World} {b o : Nat} {c : Ct} {fv : Value} (h : CtAt w b o c fv) (hb : Below w.heap.size w w') : CtAt w' b o c fv := fun j u hu => cell_below (h j u hu) hb
/-- States behind a slice. -/
def CtsF (w : World) (v : Value) (C : List Ct) (F : List Value) : Prop := FilesIn w C F ∧ ∃ p k, v = .slice p C.length k ∧ (C = [] ∨ ∃ b o, p = some ⟨b, o, none⟩ ∧ ∀ i (h : i < C.length), CtAt w b (o + i * 10) C[i] (fvAt F i))
theorem CtsF.below {w w' : World} {v : Value} {C : List Ct} {F : List Value} (h : CtsF w v C F) (hb : Below w.heap.size w w') : CtsF w' v C F := by
  obtain ⟨hf, p, k, e, h⟩ := h
  refine ⟨hf.below hb, p, k, e, ?_⟩
  rcases h with h | ⟨b, o, e, h⟩
  · exact .inl h
  · exact .inr ⟨b, o, e, fun i hi => (h i hi).below hb⟩
def CtsV (w : World) (v : Value) (C : List Ct) : Prop := ∃ F, CtsF w v C F
theorem CtsV.below {w w' : World} {v : Value} {C : List Ct} (h : CtsV w v C) (hb : Below w.heap.size w w') : CtsV w' v C := by
  obtain ⟨F, h⟩ := h
  exact ⟨F, h.below hb⟩
/-- States of the call's own. -/
structure CtsO (base : Nat) (w : World) (v : Value) (C : List Ct) (F : List Value) : Prop where
  len : F.length = C.length
  row : w.ownsRow base 113 10 v C.length (cellsC C F)
theorem CtsO.at_ {base : Nat} {w : World} {v : Value} {C : List Ct} {F : List Value} (h : CtsO base w v C F) {g : Nat} (hg : v.ownBlock = some g) {i : Nat} (hi : i < C.length) : CtAt w g (i * 10) C[i] (fvAt F i) := fun j u hu => by
  have hj : j < 10 := (List.getElem?_eq_some_iff.1 hu).1
  exact owns_cell h.row hg ((cellsC_at h.len hi hj).trans hu)
theorem CtsO.cts {base : Nat} {w : World} {v : Value} {C : List Ct} {F : List Value} (h : CtsO base w v C F) (hf : FilesIn w C F) : CtsV w v C := by
  refine ⟨F, hf, ?_⟩
  by_cases h0 : C = []
  · rcases h.row.2 with ⟨rfl, _⟩ | ⟨g, cap, cur, rfl, _⟩
    · exact ⟨none, 0, by rw [h0]; rfl, .inl h0⟩
    · exact ⟨_, cap, rfl, .inl h0⟩
  · obtain ⟨g, cap, e, e2, _⟩ := owns_at h.row (List.length_pos_iff.2 h0)
    exact ⟨_, cap, e, .inr ⟨g, 0, rfl, fun i hi => by rw [Nat.zero_add]; exact h.at_ e2 hi⟩⟩
theorem CtsO.kept {base : Nat} {w w' : World} {v : Value} {C : List Ct} {F : List Value} (h : CtsO base w v C F) (hb : Below w.heap.size w w') : CtsO base w' v C F :=
  ⟨h.len, owns_kept h.row (Chg.of_below hb) (fun _ _ q => by cases q)⟩
/-- A document with its states, as it lies in the world. -/
structure DocV (w : World) (nv cv : Value) (l : List Nd) (C : List Ct) : Prop where
  nds : NodesV w nv l
  cts : CtsV w cv C
theorem DocV.below {w w' : World} {nv cv : Value} {l : List Nd} {C : List Ct} (h : DocV w nv cv l C) (hb : Below w.heap.size w w') : DocV w' nv cv l C := ⟨h.nds.below hb, h.cts.below hb⟩
end Go.Proofs.YtnojgejcmaajmaaGreatDoor

namespace Go.Proofs.YtnojgejcmaajmaaGreatDoor
open Go.RowKit
set_option maxRecDepth 100000
/-- The cells of a file. -/
def enCells (e : En) : List Value := [.string e.name, .string e.val, .bool e.file, .string e.fname, .string e.typ]
def cellsE (fs : List En) : List Value := fs.flatMap enCells
theorem cellsE_at : ∀ {fs : List En} {i : Nat} (h : i < fs.length) {j : Nat}, j < 5 → (cellsE fs)[i * 5 + j]? = (enCells fs[i])[j]?
  | e :: fs, 0, _, j, hj => by
    show (enCells e ++ cellsE fs)[0 * 5 + j]? = _
    rw [Nat.zero_mul, Nat.zero_add, List.getElem?_append_left (by show j < 5; exact hj)]
    rfl
  | e :: fs, i + 1, h, j, hj => by
    show (enCells e ++ cellsE fs)[(i + 1) * 5 + j]? = _
    rw [List.getElem?_append_right (by show 5 ≤ _; omega), show (i + 1) * 5 + j - (enCells e).length = i * 5 + j by show (i + 1) * 5 + j - 5 = _; omega]
    exact cellsE_at (fs := fs) (by simpa using h) hj
theorem files_own {w : World} {base : Nat} {v : Value} {fs : List En} (h : w.ownsRow base 76 5 v fs.length (cellsE fs)) : FilesV w v fs := by
  rcases h.2 with ⟨e, q⟩ | ⟨g, cap, cur, e, hb, hg, h1, h2, _⟩
  · have : fs = [] := List.eq_nil_of_length_eq_zero q
    subst this
    exact ⟨none, 0, e, .inl rfl⟩
  · refine ⟨_, cap, e, .inr ⟨g, 0, rfl, fun i hi => ?_⟩⟩
    subst e
    have C : ∀ j u, j < 5 → (enCells fs[i])[j]? = some u → w.cell? ⟨g, 0 + i * 5 + j, none⟩ = some u := fun j u hj hu => by
      rw [Nat.zero_add]
      exact owns_cell h rfl ((cellsE_at hi hj).trans hu)
    exact ⟨C 0 _ (by omega) rfl, C 1 _ (by omega) rfl, C 2 _ (by omega) rfl, C 3 _ (by omega) rfl, C 4 _ (by omega) rfl⟩
/-- Files in a row of the call's own. -/
def OwnR (B : Nat) (w : World) (v : Value) (fs : List En) : Prop := w.ownsRow B 76 5 v fs.length (cellsE fs)
theorem OwnR.files {B : Nat} {w : World} {v : Value} {fs : List En} (h : OwnR B w v fs) : FilesV w v fs := files_own h
theorem OwnR.below {B : Nat} {w w' : World} {v : Value} {fs : List En} (h : OwnR B w v fs) (hb : Below w.heap.size w w') : OwnR B w' v fs := owns_below h hb
theorem OwnR.mono {B B' : Nat} {w : World} {v : Value} {fs : List En} (h : OwnR B w v fs) (hb : B' ≤ B) : OwnR B' w v fs := by
  refine ⟨h.1, ?_⟩
  rcases h.2 with hn' | ⟨g, cap, cur, rfl, hb', rest⟩
  · exact .inl hn'
  · exact .inr ⟨g, cap, cur, rfl, by omega, rest⟩
theorem OwnR.at_ {B : Nat} {w : World} {v : Value} {fs : List En} (h : OwnR B w v fs) (g : Nat) (hg : v.ownBlock = some g) : B ≤ g ∧ g < w.heap.size := ⟨(h.lt g hg).1, (h.lt g hg).2⟩
end Go.Proofs.YtnojgejcmaajmaaGreatDoor

namespace Go.Proofs.YtnojgejcmaajmaaGreatDoor
open Go.RowKit
set_option maxRecDepth 100000
/-- Texts behind a slice. -/
def DrawsV (w : World) (v : Value) (ds : List ByteArray) : Prop := ∃ p c, v = .slice p ds.length c ∧ (ds = [] ∨ ∃ b o, p = some ⟨b, o, none⟩ ∧ ∀ i (h : i < ds.length), w.cell? ⟨b, o + i, none⟩ = some (.string ds[i])) ∧ ds.length ≤ c
theorem DrawsV.below {w w' : World} {v : Value} {ds : List ByteArray} (h : DrawsV w v ds) (hb : Below w.heap.size w w') : DrawsV w' v ds := by
  obtain ⟨p, c, e, h, hc⟩ := h
  refine ⟨p, c, e, ?_, hc⟩
  rcases h with h | ⟨b, o, e, h⟩
  · exact .inl h
  · exact .inr ⟨b, o, e, fun i hi => cell_below (h i hi) hb⟩
end Go.Proofs.YtnojgejcmaajmaaGreatDoor

namespace Go.Proofs.YtnojgejcmaajmaaGreatDoor
open Go.Shelf Go.RowKit
set_option maxRecDepth 100000
/-- The program's table of signs. -/
def Signs (w : World) : Prop := ∀ k, k < 7 → w.cell? ⟨4, k, none⟩ = some (.string (txt (signsOf k)))
theorem Signs.below {w w' : World} (h : Signs w) (hb : Below w.heap.size w w') : Signs w' := by
  intro k hk
  have := h k hk
  exact (hb.cell (World.block_lt_of_cell? _ _ this)).trans this
end Go.Proofs.YtnojgejcmaajmaaGreatDoor

namespace Go.Proofs.YtnojgejcmaajmaaGreatDoor
open Go.RowKit
/-- The program's table of digits. -/
def Digs (w : World) : Prop := ∀ k, k < 16 → w.cell? ⟨5, k, none⟩ = some (.int .u8 ((hexD k).toNat : Int))
theorem Digs.below {w w' : World} (h : Digs w) (hb : Below w.heap.size w w') : Digs w' := by
  intro k hk
  have := h k hk
  exact (hb.cell (World.block_lt_of_cell? _ _ this)).trans this
end Go.Proofs.YtnojgejcmaajmaaGreatDoor

namespace Go.Proofs.YtnojgejcmaajmaaGreatDoor
open Go.RowKit
set_option maxRecDepth 100000
/-- The tables that layer 19's road names. -/
def UrTabs (w : World) : Prop := Signs w ∧ Digs w ∧ SomeMax w
theorem UrTabs.below {w w' : World} (h : UrTabs w) (hb : Below w.heap.size w w') : UrTabs w' := ⟨h.1.below hb, h.2.1.below hb, h.2.2.below hb⟩
theorem UrTabs.lt {w : World} (h : UrTabs w) : 4 < w.heap.size ∧ 5 < w.heap.size ∧ 2 < w.heap.size :=
  ⟨World.block_lt_of_cell? _ _ (h.1 0 (by decide)), World.block_lt_of_cell? _ _ (h.2.1 0 (by decide)), by obtain ⟨m, hm⟩ := h.2.2; exact World.block_lt_of_cell? _ _ hm⟩
/-- The tables, in a world that keeps what lies below B, where they lie. -/
structure TabsU (B : Nat) (w : World) : Prop where
  tabs : UrTabs w
  low : 4 < B ∧ 5 < B ∧ 2 < B
theorem TabsU.below {B : Nat} {w w' : World} (h : TabsU B w) (hb : Below w.heap.size w w') : TabsU B w' := ⟨h.tabs.below hb, h.low⟩
end Go.Proofs.YtnojgejcmaajmaaGreatDoor

namespace Go.Proofs.YtnojgejcmaajmaaGreatDoor
open Go.Shelf Go.RowKit
set_option maxRecDepth 100000
def pspren : Go.Shelf.Ren := ⟨fun | 138 => 167 | 143 => 103 | 146 => 52 | 195 => 215 | 197 => 214 | 217 => 208 | 218 => 216 | 219 => 160 | 221 => 104 | 224 => 210 | 225 => 209 | 260 => 241 | 266 => 238 | 267 => 211 | 268 => 166 | 314 => 239 | n => n, fun | 0 => 0 | 3 => 3 | 4 => 4 | 5 => 5 | 9 => 9 | 21 => 21 | 31 => 26 | 46 => 171 | 51 => 184 | 72 => 94 | 105 => 173 | 119 => 193 | 138 => 195 | 139 => 196 | 146 => 185 | n => n, fun | 1 => 2 | 3 => 6 | 4 => 7 | n => n⟩
theorem lays146 : Go.Proofs.Lays.n146 Tryz.prog pspren := {
  mixed := by kernel_rfl
  f138 := Tryz.func167.trans (congrArg some (by kernel_rfl))
  f143 := Tryz.func103.trans (congrArg some (by kernel_rfl))
  f146 := Tryz.func52.trans (congrArg some (by kernel_rfl))
  f195 := Tryz.func215.trans (congrArg some (by kernel_rfl))
  f197 := Tryz.func214.trans (congrArg some (by kernel_rfl))
  f217 := Tryz.func208.trans (congrArg some (by kernel_rfl))
  f218 := Tryz.func216.trans (congrArg some (by kernel_rfl))
  f219 := Tryz.func160.trans (congrArg some (by kernel_rfl))
  f221 := Tryz.func104.trans (congrArg some (by kernel_rfl))
  f224 := Tryz.func210.trans (congrArg some (by kernel_rfl))
  f225 := Tryz.func209.trans (congrArg some (by kernel_rfl))
  f260 := Tryz.func241.trans (congrArg some (by kernel_rfl))
  f266 := Tryz.func238.trans (congrArg some (by kernel_rfl))
  f267 := Tryz.func211.trans (congrArg some (by kernel_rfl))
  f268 := Tryz.func166.trans (congrArg some (by kernel_rfl))
  f314 := Tryz.func239.trans (congrArg some (by kernel_rfl))
  t0 := Tryz.underlying0
  a0 := Tryz.isAgg0
  z0 := Tryz.sizeOf0
  v0 := Tryz.zeroValue0
  t3 := Tryz.underlying3
  a3 := Tryz.isAgg3
  z3 := Tryz.sizeOf3
  v3 := Tryz.zeroValue3
  t4 := Tryz.underlying4
  a4 := Tryz.isAgg4
  z4 := Tryz.sizeOf4
  v4 := Tryz.zeroValue4
  t5 := Tryz.underlying5
  a5 := Tryz.isAgg5
  z5 := Tryz.sizeOf5
  v5 := Tryz.zeroValue5
  t9 := Tryz.underlying9
  a9 := Tryz.isAgg9
  z9 := Tryz.sizeOf9
  v9 := Tryz.zeroValue9
  t21 := Tryz.underlying21
  a21 := Tryz.isAgg21
  z21 := Tryz.sizeOf21
  v21 := Tryz.zeroValue21
  t31 := Tryz.underlying26
  a31 := Tryz.isAgg26
  z31 := Tryz.sizeOf26
  v31 := Tryz.zeroValue26
  t46 := Tryz.underlying171
  a46 := Tryz.isAgg171
  z46 := Tryz.sizeOf171
  v46 := Tryz.zeroValue171
  t51 := Tryz.underlying184
  a51 := Tryz.isAgg184
  z51 := Tryz.sizeOf184
  v51 := Tryz.zeroValue184
  t105 := Tryz.underlying173
  a105 := Tryz.isAgg173
  z105 := Tryz.sizeOf173
  v105 := Tryz.zeroValue173
  t119 := Tryz.underlying193
  a119 := Tryz.isAgg193
  z119 := Tryz.sizeOf193
  t138 := Tryz.underlying195
  a138 := Tryz.isAgg195
  z138 := Tryz.sizeOf195
  v138 := Tryz.zeroValue195
  t139 := Tryz.underlying196
  a139 := Tryz.isAgg196
  z139 := Tryz.sizeOf196
  v139 := Tryz.zeroValue196
  t146 := Tryz.underlying185
  a146 := Tryz.isAgg185
  z146 := Tryz.sizeOf185
  v146 := Tryz.zeroValue185
  g1 := by kernel_rfl
  g3 := by kernel_rfl
  g4 := by kernel_rfl }
def pcoren : Go.Shelf.Ren := ⟨fun | 143 => 103 | 144 => 51 | 217 => 208 | 219 => 160 | 224 => 210 | 225 => 209 | 266 => 238 | 267 => 211 | 314 => 239 | n => n, fun | 3 => 3 | 4 => 4 | 5 => 5 | 9 => 9 | 46 => 171 | 51 => 184 | 72 => 94 | 146 => 185 | n => n, fun | 1 => 2 | n => n⟩
theorem lays144 : Go.Proofs.Lays.n144 Tryz.prog pcoren := {
  mixed := by kernel_rfl
  f143 := Tryz.func103.trans (congrArg some (by kernel_rfl))
  f144 := Tryz.func51.trans (congrArg some (by kernel_rfl))
  f217 := Tryz.func208.trans (congrArg some (by kernel_rfl))
  f219 := Tryz.func160.trans (congrArg some (by kernel_rfl))
  f224 := Tryz.func210.trans (congrArg some (by kernel_rfl))
  f225 := Tryz.func209.trans (congrArg some (by kernel_rfl))
  f266 := Tryz.func238.trans (congrArg some (by kernel_rfl))
  f267 := Tryz.func211.trans (congrArg some (by kernel_rfl))
  f314 := Tryz.func239.trans (congrArg some (by kernel_rfl))
  t3 := Tryz.underlying3
  a3 := Tryz.isAgg3
  z3 := Tryz.sizeOf3
  v3 := Tryz.zeroValue3
  t4 := Tryz.underlying4
  a4 := Tryz.isAgg4
  z4 := Tryz.sizeOf4
  v4 := Tryz.zeroValue4
  t5 := Tryz.underlying5
  a5 := Tryz.isAgg5
  z5 := Tryz.sizeOf5
  v5 := Tryz.zeroValue5
  t9 := Tryz.underlying9
  a9 := Tryz.isAgg9
  z9 := Tryz.sizeOf9
  v9 := Tryz.zeroValue9
  t46 := Tryz.underlying171
  a46 := Tryz.isAgg171
  z46 := Tryz.sizeOf171
  v46 := Tryz.zeroValue171
  t51 := Tryz.underlying184
  a51 := Tryz.isAgg184
  z51 := Tryz.sizeOf184
  v51 := Tryz.zeroValue184
  t146 := Tryz.underlying185
  a146 := Tryz.isAgg185
  z146 := Tryz.sizeOf185
  v146 := Tryz.zeroValue185
  g1 := by kernel_rfl }
def pcpren : Go.Shelf.Ren := ⟨fun | 103 => 48 | 206 => 164 | 210 => 101 | n => n, fun | 3 => 3 | 4 => 4 | 5 => 5 | 9 => 9 | 24 => 80 | 72 => 94 | n => n, fun  | n => n⟩
theorem lays103 : Go.Proofs.Lays.n103 Tryz.prog pcpren := {
  mixed := by kernel_rfl
  f103 := Tryz.func48.trans (congrArg some (by kernel_rfl))
  f206 := Tryz.func164.trans (congrArg some (by kernel_rfl))
  f210 := Tryz.func101.trans (congrArg some (by kernel_rfl))
  t3 := Tryz.underlying3
  a3 := Tryz.isAgg3
  z3 := Tryz.sizeOf3
  v3 := Tryz.zeroValue3
  t4 := Tryz.underlying4
  a4 := Tryz.isAgg4
  z4 := Tryz.sizeOf4
  v4 := Tryz.zeroValue4
  t9 := Tryz.underlying9
  a9 := Tryz.isAgg9
  z9 := Tryz.sizeOf9
  v9 := Tryz.zeroValue9
  t24 := Tryz.underlying80
  a24 := Tryz.isAgg80
  z24 := Tryz.sizeOf80
  v24 := Tryz.zeroValue80 }
def pcsren : Go.Shelf.Ren := ⟨fun | 104 => 49 | 207 => 165 | 211 => 102 | n => n, fun | 3 => 3 | 4 => 4 | 5 => 5 | 9 => 9 | 24 => 80 | 72 => 94 | n => n, fun  | n => n⟩
theorem lays104 : Go.Proofs.Lays.n104 Tryz.prog pcsren := {
  mixed := by kernel_rfl
  f104 := Tryz.func49.trans (congrArg some (by kernel_rfl))
  f207 := Tryz.func165.trans (congrArg some (by kernel_rfl))
  f211 := Tryz.func102.trans (congrArg some (by kernel_rfl))
  t3 := Tryz.underlying3
  a3 := Tryz.isAgg3
  z3 := Tryz.sizeOf3
  v3 := Tryz.zeroValue3
  t4 := Tryz.underlying4
  a4 := Tryz.isAgg4
  z4 := Tryz.sizeOf4
  v4 := Tryz.zeroValue4
  t9 := Tryz.underlying9
  a9 := Tryz.isAgg9
  z9 := Tryz.sizeOf9
  v9 := Tryz.zeroValue9
  t24 := Tryz.underlying80
  a24 := Tryz.isAgg80
  z24 := Tryz.sizeOf80
  v24 := Tryz.zeroValue80 }
/-- Pieces in a block, one behind the other. -/
def PcsAt (w : World) (g : Nat) (ts : List (List UInt8)) : Prop := ∀ i (h : i < ts.length), w.cell? ⟨g, i, none⟩ = some (.string (txt ts[i]))
theorem PcsAt.below {w w' : World} {g : Nat} {ts : List (List UInt8)} (h : PcsAt w g ts) (hb : Below w.heap.size w w') : PcsAt w' g ts :=
  fun i hi => (hb.cell (p := ⟨g, i, none⟩) (World.block_lt_of_cell? _ _ (h i hi))).trans (h i hi)
end Go.Proofs.YtnojgejcmaajmaaGreatDoor

namespace Go.Proofs.YtnojgejcmaajmaaGreatDoor
open Go.RowKit
set_option maxRecDepth 100000
/-- The table of signs. -/
structure SgP (w : World) : Prop where
  c0 : w.cell? ⟨3, 0, none⟩ = some (.string ⟨#[10]⟩)
  c1 : w.cell? ⟨3, 1, none⟩ = some (.string ⟨#[37, 48, 65]⟩)
  c2 : w.cell? ⟨3, 2, none⟩ = some (.string ⟨#[13]⟩)
  c3 : w.cell? ⟨3, 3, none⟩ = some (.string ⟨#[37, 48, 68]⟩)
  c4 : w.cell? ⟨3, 4, none⟩ = some (.string ⟨#[34]⟩)
  c5 : w.cell? ⟨3, 5, none⟩ = some (.string ⟨#[37, 50, 50]⟩)
theorem SgP.below {w w' : World} (h : SgP w) (hb : Below w.heap.size w w') : SgP w' := ⟨cell_below h.c0 hb, cell_below h.c1 hb, cell_below h.c2 hb, cell_below h.c3 hb, cell_below h.c4 hb, cell_below h.c5 hb⟩
/-- What the program's road of layer 20 names. -/
structure PtTabs (w : World) : Prop where
  sg : SgP w
  mx : SomeMax w
theorem PtTabs.below {w w' : World} (h : PtTabs w) (hb : Below w.heap.size w w') : PtTabs w' := ⟨h.sg.below hb, h.mx.below hb⟩
end Go.Proofs.YtnojgejcmaajmaaGreatDoor

namespace Go.Proofs.YtnojgejcmaajmaaGreatDoor
open Go.RowKit
def PlTabs (w : World) : Prop := UrTabs w ∧ PtTabs w
theorem PlTabs.below {w w' : World} (h : PlTabs w) (hb : Below w.heap.size w w') : PlTabs w' := ⟨h.1.below hb, h.2.below hb⟩
end Go.Proofs.YtnojgejcmaajmaaGreatDoor

namespace Go.Proofs.YtnojgejcmaajmaaGreatDoor
open Go.RowKit
set_option maxRecDepth 100000
abbrev OwTabs (w : World) : Prop := KTabs w
theorem OwTabs.below {w w' : World} (h : OwTabs w) (hb : Below w.heap.size w w') : OwTabs w' := KTabs.below h hb
end Go.Proofs.YtnojgejcmaajmaaGreatDoor

namespace Go.Proofs.YtnojgejcmaajmaaGreatDoor
open Go.RowKit
/-- States that differ in flags alone. -/
structure Alike (C D : List Ct) : Prop where
  len : D.length = C.length
  at_ : ∀ i (h : i < D.length), ∃ c ∈ C, D[i].files = c.files ∧ D[i].val = c.val ∧ D[i].custom = c.custom
theorem Alike.trans {C D E : List Ct} (a : Alike C D) (b : Alike D E) : Alike C E := ⟨b.len.trans a.len, fun i h => by
  obtain ⟨d, hd, e1, e2, e3⟩ := b.at_ i h
  obtain ⟨j, hj, rfl⟩ := List.getElem_of_mem hd
  obtain ⟨c, hc, f1, f2, f3⟩ := a.at_ j hj
  exact ⟨c, hc, e1.trans f1, e2.trans f2, e3.trans f3⟩⟩
end Go.Proofs.YtnojgejcmaajmaaGreatDoor

namespace Go.Proofs.YtnojgejcmaajmaaGreatDoor
open Go.RowKit Go.Shelf
set_option maxRecDepth 100000
attribute [local go_sem] Oper.semAt_some
/-- What a call that works on states of the caller's own has about it. -/
structure Wrk (l : List Nd) (sel : Int) (p : Option Addr) (c base : Nat) (cv : Value) (C : List Ct) (F : List Value) (w0 w : World) : Prop where
  nds : NodesV w0 (.slice p l.length c) l
  sz : DocSz l
  tab : KTabs w0
  kind : isK l sel 23 = true
  right : Right l
  below : Below w0.heap.size w0 w
  low : w0.heap.size ≤ base
  own : CtsO base w cv C F
  len : C.length = l.length
theorem Wrk.later {l : List Nd} {sel : Int} {p : Option Addr} {c base : Nat} {cv : Value} {C : List Ct} {F : List Value} {w0 w w' : World} (h : Wrk l sel p c base cv C F w0 w) (hb : Below w.heap.size w w') : Wrk l sel p c base cv C F w0 w' :=
  ⟨h.nds, h.sz, h.tab, h.kind, h.right, chain h.below hb, h.low, h.own.kept hb, h.len⟩
end Go.Proofs.YtnojgejcmaajmaaGreatDoor

namespace Go.Proofs.YtnojgejcmaajmaaGreatDoor
open Go.RowKit
set_option maxRecDepth 100000
/-- The files of states, each in a row of the call's own. -/
structure FsO (B : Nat) (w : World) (C : List Ct) (F : List Value) : Prop where
  len : F.length = C.length
  at_ : ∀ i (h : i < C.length), OwnR B w (fvAt F i) C[i].files
theorem FsO.below {B : Nat} {w w' : World} {C : List Ct} {F : List Value} (h : FsO B w C F) (hb : Below w.heap.size w w') : FsO B w' C F := ⟨h.len, fun i hi => (h.at_ i hi).below hb⟩
theorem FsO.mono {B B' : Nat} {w : World} {C : List Ct} {F : List Value} (h : FsO B w C F) (hb : B' ≤ B) : FsO B' w C F := ⟨h.len, fun i hi => (h.at_ i hi).mono hb⟩
end Go.Proofs.YtnojgejcmaajmaaGreatDoor

namespace Go.Proofs.YtnojgejcmaajmaaGreatDoor
open Go.RowKit
abbrev SbTabs (w : World) : Prop := KTabs w ∧ PlTabs w
theorem SbTabs.below {w w' : World} (h : SbTabs w) (hb : Below w.heap.size w w') : SbTabs w' := ⟨h.1.below hb, h.2.below hb⟩
end Go.Proofs.YtnojgejcmaajmaaGreatDoor

namespace Go.Proofs.YtnojgejcmaajmaaGreatDoor
open Go.RowKit
set_option maxRecDepth 100000
set_option maxHeartbeats 4000000 in
set_option maxRecDepth 100000 in
theorem refCopied_any (v : Value) (l : List Nd) (w : World) (hv : NodesV w v l) (hz : DocSz l) :
    Calls Tryz.prog 17 #[v] w fun e w' => ∃ v' L, e = .returned v' ∧ OwnD w.heap.size w' v' L ∧ ndsOf L = l ∧ Below w.heap.size w w' := by
  obtain ⟨p, c, rfl, hv⟩ := hv
  have hlen := hz.len
  have SZ := hide hz
  clear hz
  generalize hB : w.heap.size = B
  go_enter Tryz.func17, Tryz.ntmps17
  go_wp2_with fail
  go_loopw [3, 4] (fun ov iv wr => ∃ (j : Nat) (L : List NdV), j ≤ l.length ∧ iv = .int .i64 j ∧ Hid (OwnD B wr ov L ∧ ndsOf L = l.take j ∧ Below B w wr)) (fun _ iv _ => l.length - (intOf iv).toNat)
  case atStart => exact ⟨0, [], Nat.zero_le _, rfl, ⟨World.ownsRow_nil w B _ 5, (fun _ q => by cases q), (fun _ q => by cases q), by simp [Value.ownBlock]⟩, by simp [ndsOf], Below.refl _ _⟩
  case round =>
    rename World => wr
    obtain ⟨j, L, hj, rfl, HD⟩ := hrel
    by_cases h : j < l.length
    · have i1 : (j : Int) < (l.length : Int) := by omega
      have i0 : (0 : Int) ≤ (j : Int) := by omega
      rcases hv with hv | ⟨b, o, rfl, hv⟩
      · rw [hv] at h; simp at h
      obtain ⟨va, vk, N0⟩ := hv j h
      have N1 : NodeAt wr b (o + j * 5) l[j] va vk := N0.below (by rw [hB]; exact HD.out.2.2)
      have Bw : B ≤ wr.heap.size := by have := HD.out.2.2.size; omega
      have bl : b < wr.heap.size := World.block_lt_of_cell? _ _ N1.name
      have bn : b ≠ wr.heap.size := by omega
      have bn2 : ¬ wr.heap.size = b := by omega
      have a0 := N1.name
      have a1 := N1.text
      have a3 := N1.parent
      have DB : Hid (∀ w', Chg [wr.heap.size] wr w' → NodeAt w' b (o + j * 5) l[j] va vk) := fun w' hc => N1.below (hc.none (fun k q => by rw [List.mem_singleton.1 q]; exact Nat.le_refl _))
      have HZ := hide (SZ.out.nds l[j] (List.getElem_mem _))
      have LL : Hid (L.length = j) := by
        show _ = _
        have := congrArg List.length HD.out.2.1
        rw [ndsOf_len, List.length_take] at this
        omega
      clear N0 N1 hv SZ
      obtain ⟨y, hy⟩ : ∃ y, Hid (l[j] = y) := ⟨l[j], show l[j] = l[j] from rfl⟩
      rw [hy.out] at a0 a1 a3 DB HZ
      obtain ⟨iA, hA0, hA1, hA2, hA3⟩ := info_parts infoA
      obtain ⟨iI, hI0, hI1, hI2, hI3⟩ := info_parts infoI
      obtain ⟨iN, hN0, hN1, hN2, hN3⟩ := info_parts infoN
      have za := HZ.out.attrs
      have zk := HZ.out.kids
      have OA := cellsA_one y.attrs
      have OK := cellsI_one y.kids
      obtain ⟨y0, hy0⟩ : ∃ y0, Hid (y.name = y0) := ⟨y.name, show y.name = y.name from rfl⟩
      obtain ⟨y1, hy1⟩ : ∃ y1, Hid (y.text = y1) := ⟨y.text, show y.text = y.text from rfl⟩
      obtain ⟨y3, hy3⟩ : ∃ y3, Hid (y.parent = y3) := ⟨y.parent, show y.parent = y.parent from rfl⟩
      rw [hy0.out] at a0
      rw [hy1.out] at a1
      rw [hy3.out] at a3
      go_wp2_with fail
      go_region
      generalize hw1 : (wr.alloc (.cells #[Value.string y0, Value.string y1, Value.slice none 0 0, Value.int IntKind.i64 y3, Value.slice none 0 0] 57)).drew = w1
      have NB1 : Hid (NB w1 wr.heap.size [Value.string y0, Value.string y1, Value.slice none 0 0, Value.int IntKind.i64 y3, Value.slice none 0 0] 57) := by rw [← hw1]; exact (NB.new wr _ _).drew
      have C1 : Hid (Chg [wr.heap.size] wr w1) := by rw [← hw1]; exact ((Chg.alloc wr _).trans (Chg.drew _)).nil
      have s1 : Hid (w1.heap.size = wr.heap.size + 1) := by rw [← hw1]; show (wr.alloc _).heap.size = _; simp
      clear hw1 a0 a1 a3
      have b0 := NB1.out.cell 2 rfl
      have b1 := NB1.out.free 2
      have A2 := (DB.out w1 C1.out).attrs
      have RA := hide (DB.out w1 C1.out).at_.raw
      have HB1 : Hid (B ≤ w1.heap.size) := by show _ ≤ _; rw [s1.out]; omega
      have ln := NB1.out.lt
      go_wp2_with fail
      go_region_law ((refine step_append_raw (by rfl) _ _ _ (by rfl) B 131 iA _ 2 32 Tryz.underlying54 hA0 hA1 hA2 hA3 rfl (by omega) (.slice none 0 0) 0 [] (by rfl) (World.ownsRow_nil _ _ _ _) va y.attrs.length (cellsA y.attrs) (by rfl) RA.out OA (by unfold maxLen; omega) (by omega) HB1.out ?_; intro q2 c2 w2 own2 gr2 at2; have k0 := World.grownBy.cell gr2 (a := ⟨wr.heap.size, 2, none⟩) b0 (by simp [Value.ownBlock]); have k1 := (World.grownBy.frozen_far gr2 ⟨wr.heap.size, 2, none⟩ ln (by simp [Value.ownBlock])).trans b1))
      all_goals
        rw [Nat.zero_add] at own2 at2
        rw [List.nil_append] at own2
        have C2 : Hid (Chg [wr.heap.size] w1 w2) := ((Chg.drew w1).trans (Chg.of_grown gr2)).nil
        have B2 : Hid (∀ k, (Value.slice q2 y.attrs.length c2).ownBlock = some k → k = wr.heap.size + 1 ∧ k < w2.heap.size) := by
          intro k hk
          rcases at2 with q | q
          · rw [q] at hk; cases hk
          · refine ⟨?_, (own2.lt k hk).2⟩
            rw [q] at hk
            have : w1.heap.size = k := Option.some.inj hk
            have := s1.out
            omega
        have N2 : Hid (NB w2 wr.heap.size [Value.string y0, Value.string y1, Value.slice none 0 0, Value.int IntKind.i64 y3, Value.slice none 0 0] 57) := NB1.out.chg ((Chg.drew w1).trans (Chg.of_grown gr2)) (by simp)
        have O2 := hide own2
        clear own2 at2 gr2 k0 k1 b0 b1 A2 RA HB1 ln
        generalize hw3 : w2.setCell ⟨wr.heap.size, 2, none⟩ (Value.slice q2 y.attrs.length c2) = w3
        have NB3 : Hid (NB w3 wr.heap.size [Value.string y0, Value.string y1, Value.slice q2 y.attrs.length c2, Value.int IntKind.i64 y3, Value.slice none 0 0] 57) := by rw [← hw3]; exact N2.out.set 2 _
        have C3' : Hid (Chg [wr.heap.size] w2 w3) := by rw [← hw3]; exact Chg.setB w2 _ _ _
        have C3 : Hid (Chg [wr.heap.size] wr w3) := C1.out.trans (C2.out.trans C3'.out)
        have O3 : Hid (AttrsO B w3 (Value.slice q2 y.attrs.length c2) y.attrs) := owns_kept O2.out C3'.out (fun k hk q => by
          have := (B2.out k hk).1
          have := List.mem_singleton.1 q
          omega)
        have B3 : Hid (∀ k, (Value.slice q2 y.attrs.length c2).ownBlock = some k → k = wr.heap.size + 1 ∧ k < w3.heap.size) := fun k hk => ⟨(B2.out k hk).1, Nat.lt_of_lt_of_le (B2.out k hk).2 C3'.out.size⟩
        clear hw3 N2 NB1 O2 B2 C3' C2 C1 s1
        have b0 := NB3.out.cell 4 rfl
        have b1 := NB3.out.free 4
        have A4 := (DB.out w3 C3.out).kids
        have RK := hide (DB.out w3 C3.out).ks.raw
        have ln := NB3.out.lt
        have HB3 : Hid (B ≤ w3.heap.size) := by show _ ≤ _; omega
        go_wp2_with fail
        go_region_law ((refine step_append_raw (by rfl) _ _ _ (by rfl) B 3 iI _ 1 8 Tryz.underlying55 hI0 hI1 hI2 hI3 rfl (by omega) (.slice none 0 0) 0 [] (by rfl) (World.ownsRow_nil _ _ _ _) vk y.kids.length (cellsI y.kids) (by rfl) RK.out OK (by unfold maxLen; omega) (by omega) HB3.out ?_; intro q4 c4 w4 own4 gr4 at4; have k0 := World.grownBy.cell gr4 (a := ⟨wr.heap.size, 4, none⟩) b0 (by simp [Value.ownBlock]); have k1 := (World.grownBy.frozen_far gr4 ⟨wr.heap.size, 4, none⟩ ln (by simp [Value.ownBlock])).trans b1))
        all_goals
          rw [Nat.zero_add] at own4 at4
          rw [List.nil_append] at own4
          have C4 : Hid (Chg [wr.heap.size] w3 w4) := ((Chg.drew w3).trans (Chg.of_grown gr4)).nil
          have B4 : Hid (∀ k, (Value.slice q4 y.kids.length c4).ownBlock = some k → w3.heap.size ≤ k ∧ k < w4.heap.size) := by
            intro k hk
            rcases at4 with q | q
            · rw [q] at hk; cases hk
            · refine ⟨?_, (own4.lt k hk).2⟩
              rw [q] at hk
              exact Nat.le_of_eq (Option.some.inj hk)
          have N4 : Hid (NB w4 wr.heap.size [Value.string y0, Value.string y1, Value.slice q2 y.attrs.length c2, Value.int IntKind.i64 y3, Value.slice none 0 0] 57) := NB3.out.chg ((Chg.drew w3).trans (Chg.of_grown gr4)) (by simp)
          have O4 := hide own4
          have O3' : Hid (AttrsO B w4 (Value.slice q2 y.attrs.length c2) y.attrs) := owns_kept O3.out ((Chg.drew w3).trans (Chg.of_grown gr4)) (fun k hk q => by simp at q)
          clear own4 at4 gr4 k0 k1 b0 b1 A4 RK HB3
          generalize hw5 : w4.setCell ⟨wr.heap.size, 4, none⟩ (Value.slice q4 y.kids.length c4) = w5
          have NB5 : Hid (NB w5 wr.heap.size [Value.string y0, Value.string y1, Value.slice q2 y.attrs.length c2, Value.int IntKind.i64 y3, Value.slice q4 y.kids.length c4] 57) := by rw [← hw5]; exact N4.out.set 4 _
          have C5' : Hid (Chg [wr.heap.size] w4 w5) := by rw [← hw5]; exact Chg.setB w4 _ _ _
          have C5 : Hid (Chg [wr.heap.size] wr w5) := C3.out.trans (C4.out.trans C5'.out)
          have O5a : Hid (AttrsO B w5 (Value.slice q2 y.attrs.length c2) y.attrs) := owns_kept O3'.out C5'.out (fun k hk q => by
            have := (B3.out k hk).1
            have := List.mem_singleton.1 q
            omega)
          have O5k : Hid (KidsO B w5 (Value.slice q4 y.kids.length c4) y.kids) := owns_kept O4.out C5'.out (fun k hk q => by
            have := (B4.out k hk).1
            have := List.mem_singleton.1 q
            omega)
          have B5 : Hid (∀ k, (Value.slice q4 y.kids.length c4).ownBlock = some k → w3.heap.size ≤ k ∧ k < w5.heap.size) := fun k hk => ⟨(B4.out k hk).1, Nat.lt_of_lt_of_le (B4.out k hk).2 C5'.out.size⟩
          have B5a : Hid (∀ k, (Value.slice q2 y.attrs.length c2).ownBlock = some k → k = wr.heap.size + 1 ∧ k < w3.heap.size ∧ k < w5.heap.size) := fun k hk => ⟨(B3.out k hk).1, (B3.out k hk).2, Nat.lt_of_lt_of_le (B3.out k hk).2 (Nat.le_trans C4.out.size C5'.out.size)⟩
          clear hw5 N4 NB3 O4 O3 O3' B3 B4 C5' C4 C3
          have e0 := NB5.out.cell 0 rfl
          have e1 := NB5.out.cell 1 rfl
          have e2 := NB5.out.cell 2 rfl
          have e3 := NB5.out.cell 3 rfl
          have e4 := NB5.out.cell 4 rfl
          have ln5 := NB5.out.lt
          have C6 : Hid (Chg [wr.heap.size] wr (w5.alloc (.cells #[Value.string y0, Value.string y1, Value.slice q2 y.attrs.length c2, Value.int IntKind.i64 y3, Value.slice q4 y.kids.length c4] 57))) := C5.out.trans (Chg.alloc _ _).nil
          have R6 := hide ((NB.new w5 [Value.string y0, Value.string y1, Value.slice q2 y.attrs.length c2, Value.int IntKind.i64 y3, Value.slice q4 y.kids.length c4] 57).raw 1 5 rfl 1)
          have W6 : Hid (B ≤ (w5.alloc (.cells #[Value.string y0, Value.string y1, Value.slice q2 y.attrs.length c2, Value.int IntKind.i64 y3, Value.slice q4 y.kids.length c4] 57)).heap.size) := by show _ ≤ _; simp; omega
          have OW := hide (owns_kept HD.out.1.row C6.out (fun k hk q => by
            have := (HD.out.1.row.lt k hk).2
            have := List.mem_singleton.1 q
            omega))
          have HL := LL.out
          go_wp2_with (at_builtin; refine wpList_append_raw rfl _ _ _ rfl B 57 iN _ 5 88 Tryz.underlying22 hN0 hN1 hN2 hN3 rfl (by omega) _ L.length (cellsV L) rfl OW.out _ 1 _ rfl R6.out (by simp [Value.oneCell']) (by unfold maxLen; omega) (by omega) W6.out ?_; intro q6 c6 w6 own6 gr6 at6)
          rw [LL.out] at own6 at6
          have G6 : Hid (Chg u3.ownBlock.toList w5 w6) := (Chg.alloc _ _).nil.trans (Chg.of_grown gr6)
          have U3 : Hid (∀ k, u3.ownBlock = some k → k < wr.heap.size) := fun k hk => (HD.out.1.row.lt k hk).2
          have H5 : Hid (wr.heap.size ≤ w5.heap.size) := C5.out.size
          have A6 : Hid ((Value.slice q6 (j + 1) c6).ownBlock = u3.ownBlock ∨ (Value.slice q6 (j + 1) c6).ownBlock = some (w5.heap.size + 1)) := by
            rcases at6 with q | q
            · exact .inl q
            · exact .inr (by rw [q]; simp)
          have H3 : Hid (wr.heap.size < w3.heap.size) := ln
          go_roundw
          case rel =>
            refine ⟨j + 1, L ++ [⟨y, .slice q2 y.attrs.length c2, .slice q4 y.kids.length c4⟩], by omega, by go_num, ?_⟩
            refine ⟨HD.out.1.push (((C5.out.mono (fun k q r => by have := List.mem_singleton.1 q; omega))).trans G6.out) ?_ ?_ ?_ ?_ ?_ ?_, ?_, ?_⟩
            · rw [LL.out]
              show w6.ownsRow B _ 5 _ (j + 1) (cellsV L ++ [.string y.name, .string y.text, _, .int .i64 y.parent, _])
              rw [hy0.out, hy1.out, hy3.out]; exact own6
            · exact owns_kept O5a.out G6.out (fun k hk q => by have := (B5a.out k hk).1; have := U3.out k (opt_mem.1 q); omega)
            · exact owns_kept O5k.out G6.out (fun k hk q => by have := (B5.out k hk).1; have := U3.out k (opt_mem.1 q); have := H3.out; omega)
            · show ((Value.slice q2 y.attrs.length c2).ownBlock.toList ++ (Value.slice q4 y.kids.length c4).ownBlock.toList).Nodup
              rw [List.nodup_append]
              refine ⟨by cases (Value.slice q2 y.attrs.length c2).ownBlock <;> simp, by cases (Value.slice q4 y.kids.length c4).ownBlock <;> simp, fun a ha b hb e => ?_⟩
              have := (B5a.out a (opt_mem.1 ha)).2.1
              have := (B5.out b (opt_mem.1 hb)).1
              omega
            · intro k hk
              have hk : k ∈ (Value.slice q2 y.attrs.length c2).ownBlock.toList ++ (Value.slice q4 y.kids.length c4).ownBlock.toList := hk
              have M : wr.heap.size ≤ k ∧ k < w5.heap.size := by
                have := H3.out
                rcases List.mem_append.1 hk with q | q
                · have := B5a.out k (opt_mem.1 q); omega
                · have := B5.out k (opt_mem.1 q); omega
              refine ⟨M.1, fun e => ?_⟩
              rcases A6.out with q | q
              · rw [q] at e; have := U3.out k e; omega
              · rw [q] at e; have := Option.some.inj e; omega
            · rcases A6.out with q | q
              · exact .inl q
              · exact .inr (fun k hk => by rw [q] at hk; have := Option.some.inj hk; have := H5.out; omega)
            · unfold ndsOf
              rw [List.map_append]
              have e := HD.out.2.1
              unfold ndsOf at e
              rw [e, List.take_succ_eq_append_getElem h, hy.out]
              rfl
            · exact HD.out.2.2.trans (((C5.out.mono (S' := u3.ownBlock.toList) (fun k q r => by have := List.mem_singleton.1 q; omega)).trans G6.out).below Bw (fun k q => (HD.out.1.row.lt k (opt_mem.1 q)).1))
          case measure => simp [intOf]; omega
    · obtain rfl : j = l.length := by omega
      clear hv h SZ
      go_wp2_with fail
      go_ret
      refine ⟨_, L, rfl, HD.out.1, ?_, HD.out.2.2⟩
      rw [HD.out.2.1, List.take_length]
end Go.Proofs.YtnojgejcmaajmaaGreatDoor

namespace Go.Proofs.YtnojgejcmaajmaaGreatDoor
open Go.RowKit
set_option maxRecDepth 100000
theorem sb_wake : txt (qryL (bL ⟨#[47, 97, 63, 98, 35, 99]⟩) (bL ⟨#[100, 61, 49]⟩)) = ⟨#[47, 97, 63, 100, 61, 49, 35, 99]⟩ := by kernel_rfl
set_option maxHeartbeats 8000000 in
theorem sbWakes_any (w : World) (hT : SomeMax w) :
    Calls Tryz.prog 6 #[] w fun e w' => e = .returned (.bool true) ∧ Below w.heap.size w w' := by
  have HQ := hide (sbQuery_any ⟨#[47, 97, 63, 98, 35, 99]⟩ ⟨#[100, 61, 49]⟩ w (by decide) (by decide) hT)
  rw [sb_wake] at HQ
  clear hT
  go_enter Tryz.func6, Tryz.ntmps6
  go_wp2_with fail
  refine HQ.out.mono ?_
  rintro e w1 ⟨rfl, b1⟩
  go_wp2_with fail
  go_ret
  exact ⟨rfl, b1⟩
end Go.Proofs.YtnojgejcmaajmaaGreatDoor

namespace Go.Proofs.YtnojgejcmaajmaaGreatDoor
open Go.RowKit
theorem tabs_text {P : Program} {w : World} {name : String} {g : Nat} {t e : TypeId} {n : Nat} {ts : List (List UInt8)} (hg : P.globalNamed name = some g) (hty : (P.globals[g]?).map (·.type) = some t)
    (ht : P.underlying t = some (.array n e)) (he : P.underlying e = some .string) (hce : P.cellsOf e = 1) (h : Lib.VarReads P w name (.agg (ts.map fun l => .lit (.string l)))) (k : Nat) (hk : k < n) :
    w.cell? ⟨g, k, none⟩ = some (.string (txt (ts.getD k []))) := by
  obtain ⟨g', t', cs, fuel, p, hg', hty', hvar, hd⟩ := h
  obtain rfl := Option.some.inj (hg.symm.trans hg')
  obtain rfl := Option.some.inj (hty.symm.trans hty')
  obtain ⟨fuel', d, q, hdi, hx⟩ := Lib.array_elem ht hd k hk
  rw [hce] at hx
  obtain ⟨s, hcs, hd', _⟩ := DataW.trod_string he hx
  have e1 : cs[k]? = some (.string s) := by
    have := congrArg (·[0]?) hcs
    simpa [List.getElem?_take, List.getElem?_drop] using this
  have e2 : ts[k]? = some s.data.toList := by
    have e3 : d = .lit (.string s.data.toList) := congrArg Prod.fst hd'
    rw [e3] at hdi
    simp only [List.getElem?_map, Option.map_eq_some_iff, DataW.lit.injEq, Lit.string.injEq] at hdi
    obtain ⟨l, h1, rfl⟩ := hdi
    exact h1
  rw [World.var?_cell hg hvar k, e1, List.getD, e2]
  rfl
theorem types_eq : (Rows.laid_counterfoil_kinds_types : DataW Unit) = .agg (tyL.map fun l => .lit (.string l)) := by kernel_rfl
theorem last_eq : (Rows.laid_counterfoil_kinds_lastNames : DataW Unit) = .agg (lastL.map fun l => .lit (.string l)) := by kernel_rfl
theorem ktabs_of {w : World} (h1 : Lib.VarReads Tryz.prog w "counterfoil/kinds.types" Rows.laid_counterfoil_kinds_types) (h2 : Lib.VarReads Tryz.prog w "counterfoil/kinds.lastNames" Rows.laid_counterfoil_kinds_lastNames) : KTabs w := by
  rw [types_eq] at h1
  rw [last_eq] at h2
  exact ⟨fun k hk => tabs_text (P := Tryz.prog) (g := 1) (by kernel_rfl) (by kernel_rfl) Tryz.underlying140 Tryz.underlying9 (by kernel_rfl) h1 k hk,
    fun k hk => tabs_text (P := Tryz.prog) (g := 0) (by kernel_rfl) (by kernel_rfl) Tryz.underlying103 Tryz.underlying9 (by kernel_rfl) h2 k hk⟩

end Go.Proofs.YtnojgejcmaajmaaGreatDoor
