/- Entries told as parts, and parts read, as functions of lists. Texts searched, cut, split and replaced, in the words of parts. What strings.Cut answers of any text. A strings.Builder that a call has made itself, written and read, and what the call has laid besides stays. The program's Query of layer 24. -/
import Derived.Test.YtnojgejcmaajmaaDoorJsd17
import Derived.Test.YtnojgejcmaajmaaDoorJsd19
import Derived.Test.YtnojgejcmaajmaaDoorJsd20
import Derived.Test.YtnojgejcmaajmaaDoorJsd21
import Derived.Test.YtnojgejcmaajmaaDoorJsd23
import Derived.Test.YtnojgejcmaajmaaDoorJsd24
import Derived.Test.YtnojgejcmaajmaaDoorJsd25
import Derived.Test.YtnojgejcmaajmaaDoorJsd26
import Derived.Lib.SplitLaws
import Derived.Lib.IndexAny
import Derived.Lib.CutLaws
import Derived.Shelf.Strings.BuilderK

namespace Go.Proofs.YtnojgejcmaajmaaDoor
open Go.RowKit
/-- Where a text stands first in another one. -/
def cutL (t : List UInt8) : List UInt8 → Option (List UInt8 × List UInt8)
  | [] => if t.isPrefixOf [] = true then some ([], []) else none
  | c :: r => if t.isPrefixOf (c :: r) = true then some ([], (c :: r).drop t.length) else (cutL t r).map fun p => (c :: p.1, p.2)
theorem cut_hit {t s : List UInt8} (h : t.isPrefixOf s = true) : cutL t s = some ([], s.drop t.length) := by
  cases s with
  | nil => unfold cutL; rw [if_pos h]; simp
  | cons c r => unfold cutL; rw [if_pos h]
theorem cut_miss {t r : List UInt8} {c : UInt8} (h : t.isPrefixOf (c :: r) = false) : cutL t (c :: r) = (cutL t r).map fun p => (c :: p.1, p.2) := by
  conv => lhs; unfold cutL
  rw [if_neg (by rw [h]; decide)]
theorem cut_end {t : List UInt8} (h : t ≠ []) : cutL t [] = none := by
  unfold cutL
  rw [if_neg]
  cases t with
  | nil => exact absurd rfl h
  | cons => simp
theorem pre_app (t s : List UInt8) : t.isPrefixOf (t ++ s) = true := by simp
end Go.Proofs.YtnojgejcmaajmaaDoor

namespace Go.Proofs.YtnojgejcmaajmaaDoor
open Go.RowKit
/-- Where a text stands first, as the library's index tells it. -/
theorem ix_cons (c : UInt8) (l t : List UInt8) (h : t.isPrefixOf (c :: l) = false) : Lib.index (c :: l) t = if Lib.index l t == -1 then -1 else Lib.index l t + 1 := by
  conv => lhs; unfold Lib.index
  rw [h]; simp
theorem ix_hit {l t : List UInt8} (h : t.isPrefixOf l = true) : Lib.index l t = 0 :=
  Lib.index_first (i := 0) (Nat.zero_le _) (by simpa [Lib.occAt] using h) (fun _ h => absurd h (Nat.not_lt_zero _))
theorem ix_cut (t : List UInt8) (ht : t ≠ []) : ∀ l : List UInt8, (cutL t l = none ∧ Lib.index l t = -1) ∨ ∃ p r, cutL t l = some (p, r) ∧ Lib.index l t = (p.length : Int) ∧ l = p ++ t ++ r
  | [] => .inl ⟨cut_end ht, by
      refine Lib.index_none (fun j _ => ?_)
      cases t with
      | nil => exact absurd rfl ht
      | cons => simp [Lib.occAt]⟩
  | c :: l => by
    cases h : t.isPrefixOf (c :: l) with
    | true =>
      refine .inr ⟨[], (c :: l).drop t.length, cut_hit h, ix_hit h, ?_⟩
      obtain ⟨z, hz⟩ := List.isPrefixOf_iff_prefix.1 h
      rw [← hz]; simp
    | false =>
      rcases ix_cut t ht l with ⟨h1, h2⟩ | ⟨p, r, h1, h2, h3⟩
      · refine .inl ⟨by rw [cut_miss h, h1]; rfl, by rw [ix_cons _ _ _ h, h2]; rfl⟩
      · refine .inr ⟨c :: p, r, by rw [cut_miss h, h1]; rfl, ?_, by rw [h3]; simp⟩
        rw [ix_cons _ _ _ h, h2]
        have : ((p.length : Int) == -1) = false := by rw [beq_eq_false_iff_ne]; omega
        rw [this]
        show (p.length : Int) + 1 = ((c :: p).length : Int)
        simp
theorem cut_lib (t : List UInt8) (ht : t ≠ []) (l : List UInt8) : Lib.cut l t = match cutL t l with | none => (l, [], false) | some (p, r) => (p, r, true) := by
  unfold Lib.cut
  rcases ix_cut t ht l with ⟨h1, h2⟩ | ⟨p, r, h1, h2, h3⟩
  · rw [h1, h2]; rfl
  · rw [h1, h2, if_pos (by omega)]
    show (l.take p.length, l.drop (p.length + t.length), true) = (p, r, true)
    have e1 : l.take p.length = p := by rw [h3, List.append_assoc, List.take_left' rfl]
    have e2 : l.drop (p.length + t.length) = r := by rw [h3]; exact List.drop_left' (by simp)
    rw [e1, e2]
/-- A text cut at its first place: what is ahead doesn't hold it, not even where it would reach beyond. -/
theorem cut_some {t : List UInt8} (ht : t ≠ []) : ∀ {s p r : List UInt8}, cutL t s = some (p, r) → s = p ++ (t ++ r) ∧ ∀ y z, s = y ++ (t ++ z) → p.length ≤ y.length
  | [], p, r, h => by rw [cut_end ht] at h; cases h
  | c :: s, p, r, h => by
    cases w : t.isPrefixOf (c :: s) with
    | true =>
      rw [cut_hit w] at h
      cases h
      obtain ⟨z, hz⟩ := List.isPrefixOf_iff_prefix.1 w
      exact ⟨by rw [← hz]; simp, fun _ _ _ => Nat.zero_le _⟩
    | false =>
      rw [cut_miss w] at h
      cases v : cutL t s with
      | none => rw [v] at h; cases h
      | some pr =>
        obtain ⟨p', r'⟩ := pr
        rw [v] at h
        cases h
        obtain ⟨i1, i2⟩ := cut_some ht v
        refine ⟨by rw [i1]; simp, fun y z e => ?_⟩
        cases y with
        | nil =>
          exfalso
          have : t.isPrefixOf (c :: s) = true := by rw [e]; exact pre_app _ _
          rw [w] at this; cases this
        | cons d y =>
          have := i2 y z (by rw [List.cons_append] at e; exact (List.cons.inj e).2)
          simp only [List.length_cons]
          omega
def R1 (l : List UInt8) : List UInt8 := repA [37, 48, 65] [10] l
def R2 (l : List UInt8) : List UInt8 := repA [37, 48, 68] [13] l
def R3 (l : List UInt8) : List UInt8 := repA [37, 50, 50] [34] l
def cutT (t l : List UInt8) : List UInt8 × List UInt8 × Bool := match cutL t l with | none => (l, [], false) | some (p, r) => (p, r, true)
theorem cutT_len (t l : List UInt8) : (cutT t l).1.length ≤ l.length ∧ (cutT t l).2.1.length ≤ l.length := by
  unfold cutT
  cases c : cutL t l with
  | none => exact ⟨Nat.le_refl _, Nat.zero_le _⟩
  | some pr =>
    obtain ⟨p, r⟩ := pr
    by_cases ht : t = []
    · subst ht
      cases l with
      | nil => cases c; exact ⟨Nat.le_refl _, Nat.le_refl _⟩
      | cons x l =>
        rw [cut_hit (by rfl)] at c
        cases c
        exact ⟨Nat.zero_le _, Nat.le_refl _⟩
    · have := congrArg List.length (cut_some ht c).1
      simp only [List.length_append] at this
      show p.length ≤ _ ∧ r.length ≤ _
      omega
end Go.Proofs.YtnojgejcmaajmaaDoor

namespace Go.Proofs.YtnojgejcmaajmaaDoor
open Go.Shelf Go.RowKit
set_option maxRecDepth 100000
theorem cut_anyT (t l : List UInt8) (w : World) (hs : l.length ≤ 1073741824) (ht : t ≠ []) (hm : SomeMax w) :
    Calls Tryd.prog 25 #[.string (txt l), .string (txt t)] w fun e w' => e = .returned (.tuple #[.string (txt (cutT t l).1), .string (txt (cutT t l).2.1), .bool (cutT t l).2.2]) ∧ Below w.heap.size w w' := by
  obtain ⟨m, hm⟩ := hm
  have := Any.strings_Cut lays145 (txt l) (txt t) m w (by show l.length < _; omega) hm
  have e1 : Lib.cut (txt l).data.toList (txt t).data.toList = cutT t l := cut_lib t ht l
  rw [e1] at this
  refine this.mono ?_
  rintro e w' ⟨rfl, n, rfl⟩
  exact ⟨rfl, ⟨rfl, rfl, rfl, Nat.le_refl _, fun _ _ => rfl⟩⟩
end Go.Proofs.YtnojgejcmaajmaaDoor

namespace Go.Proofs.YtnojgejcmaajmaaDoor
open Go.Shelf Go.RowKit
set_option maxRecDepth 100000
/-- A builder in block b, of the call's own (from B on), that holds the bytes l. -/
def HoldsK (B b : Nat) (l : List UInt8) (w : World) : Prop := Lib.IsBuilderF 46 5 B b (Lib.byteCells l) w
/-- What is not the builder in block b and no row of bytes lies as it lay. -/
def OthK (b : Nat) (w w' : World) : Prop := Lib.OthersKept 5 (some b) w w'
theorem OthK.refl (b : Nat) (w : World) : OthK b w w := Lib.OthersKept.refl _ _ _
theorem OthK.trans {b : Nat} {u v w : World} (h : OthK b u v) (k : OthK b v w) : OthK b u w := Lib.OthersKept.trans h k
theorem OthK.of {b : Nat} {w w' : World} (h : Below w.heap.size w w') : OthK b w w' := fun k o hk _ _ => by
  rw [h.block k (Array.getElem?_eq_some_iff.1 hk).1]; exact hk
theorem HoldsK.new (w : World) : HoldsK w.heap.size w.heap.size [] (w.alloc (.cells #[.pointer none, .slice none 0 0] 46)) := Lib.IsBuilderF.of (HoldsB.fresh w)
theorem builderAtF_below {T e : TypeId} {B b : Nat} {p : Value} {bs : List Value} {w w' : World} (h : Lib.BuilderAtF T e B b p bs w) (hb : Below w.heap.size w w') : Lib.BuilderAtF T e B b p bs w' := by
  have hlt := h.lt
  obtain ⟨h0, v, h1, h2, h3⟩ := h
  refine ⟨h0, v, by rw [hb.block b hlt]; exact h1, ?_, h3⟩
  obtain ⟨g1, g2⟩ := h2
  refine ⟨g1, ?_⟩
  rcases g2 with g2 | ⟨g, cap, cur, fz, hv, hg, hh, r⟩
  · exact Or.inl g2
  · refine Or.inr ⟨g, cap, cur, fz, hv, hg, ?_, r⟩
    rw [hb.block g (Array.getElem?_eq_some_iff.1 hh).1]; exact hh
/-- Another call, which changes nothing that was there, leaves the builder as it is. -/
theorem HoldsK.below {B b : Nat} {l : List UInt8} {w w' : World} (h : HoldsK B b l w) (hb : Below w.heap.size w w') : HoldsK B b l w' := by
  rcases h with h | h
  · exact .inl (builderAtF_below h hb)
  · exact .inr (builderAtF_below h hb)
theorem writeByteK (B b : Nat) (l : List UInt8) (c : UInt8) (w : World) (h : HoldsK B b l w) (hlen : l.length + 1 ≤ 140737488355328) (hBw : B ≤ w.heap.size) :
    Calls Tryd.prog 27 #[.pointer (some ⟨b, 0, none⟩), .int .u8 (c.toNat : Int)] w fun e w' => e = .returned .nilIface ∧ HoldsK B b (l ++ [c]) w' ∧ Below B w w' ∧ OthK b w w' := by
  refine (Any.Builder_WriteByte_k lays167 extraBByte B b (Lib.byteCells l) (c.toNat : Int) w h (by simpa [Lib.byteCells] using hlen) hBw).mono ?_
  rintro e w' ⟨rfl, h, hb, hk⟩
  refine ⟨rfl, .inr ?_, hb, hk⟩
  have e1 : Lib.byteCells (l ++ [c]) = Lib.byteCells l ++ [.int .u8 (c.toNat : Int)] := by simp [Lib.byteCells]
  rw [e1]; exact h
theorem writeStringK (B b : Nat) (l : List UInt8) (s : ByteArray) (w : World) (h : HoldsK B b l w) (hlen : l.length + s.size ≤ 140737488351232) (hBw : B ≤ w.heap.size) :
    Calls Tryd.prog 26 #[.pointer (some ⟨b, 0, none⟩), .string s] w fun e w' => e = .returned (.tuple #[.int .i64 s.size, .nilIface]) ∧ HoldsK B b (l ++ s.data.toList) w' ∧ Below B w w' ∧ OthK b w w' := by
  refine (Any.Builder_WriteString_k lays166 extraBText B b (Lib.byteCells l) s w h (by simp [Lib.byteCells]; omega) hBw).mono ?_
  rintro e w' ⟨rfl, h, hb, hk⟩
  refine ⟨rfl, .inr ?_, hb, hk⟩
  have e1 : Lib.byteCells (l ++ s.data.toList) = Lib.byteCells l ++ Lib.strCells s := by simp [Lib.byteCells, Lib.strCells]
  rw [e1]; exact h
theorem builderTextK (B b : Nat) (l : List UInt8) (w : World) (h : HoldsK B b l w) (hBw : B ≤ w.heap.size) :
    Calls Tryd.prog 28 #[.pointer (some ⟨b, 0, none⟩)] w fun e w' => e = .returned (.string (txt l)) ∧ HoldsK B b l w' ∧ Below B w w' ∧ OthK b w w' :=
  Any.Builder_String_any_k lays169 extraBString B b l w h hBw
end Go.Proofs.YtnojgejcmaajmaaDoor

namespace Go.Proofs.YtnojgejcmaajmaaDoor
open Go.RowKit
set_option maxRecDepth 100000
theorem fst_consB {c a : UInt8} {l : List UInt8} (h : ¬ a = c) : fst8 c (a :: l) = fst8 c l + 1 := by
  unfold fst8
  rw [List.takeWhile_cons_of_pos (by simp [h]), List.length_cons]
theorem fst_headB {c : UInt8} {l : List UInt8} : fst8 c (c :: l) = 0 := by
  unfold fst8
  rw [List.takeWhile_cons_of_neg (by simp)]; rfl
theorem fst_leB (c : UInt8) (l : List UInt8) : fst8 c l ≤ l.length := (List.takeWhile_prefix _).length_le
theorem cut_fst (c : UInt8) : ∀ l : List UInt8, cutL [c] l = if fst8 c l < l.length then some (l.take (fst8 c l), l.drop (fst8 c l + 1)) else none
  | [] => rfl
  | a :: t => by
    by_cases h : a = c
    · subst h
      rw [cut_hit (by simp [List.isPrefixOf]), fst_headB, if_pos (by simp)]
      simp
    · rw [cut_miss (by simp [List.isPrefixOf]; exact fun e => h e.symm), cut_fst c t, fst_consB h]
      by_cases g : fst8 c t < t.length
      · rw [if_pos g, if_pos (by rw [List.length_cons]; omega)]; simp
      · rw [if_neg g, if_neg (by rw [List.length_cons]; omega)]; rfl
theorem cutT_fst (c : UInt8) (l : List UInt8) : (cutT [c] l).1 = l.take (fst8 c l) := by
  unfold cutT
  rw [cut_fst]
  have := fst_leB c l
  by_cases g : fst8 c l < l.length
  · rw [if_pos g]
  · rw [if_neg g, List.take_of_length_le (by omega)]
theorem cutT_has (c : UInt8) (l : List UInt8) : (cutT [c] l).2.2 = decide (fst8 c l < l.length) := by
  unfold cutT
  rw [cut_fst]
  by_cases g : fst8 c l < l.length
  · rw [if_pos g, decide_eq_true g]
  · rw [if_neg g, decide_eq_false g]
theorem fst_atB {c : UInt8} : ∀ {l : List UInt8}, fst8 c l < l.length → l.drop (fst8 c l) = c :: l.drop (fst8 c l + 1)
  | [], h => by simp at h
  | a :: t, h => by
    by_cases e : a = c
    · subst e; rw [fst_headB]; rfl
    · rw [fst_consB e] at h ⊢
      rw [List.drop_succ_cons, List.drop_succ_cons]
      exact fst_atB (by rw [List.length_cons] at h; omega)
theorem cutT_rest {c : UInt8} {l : List UInt8} (h : (cutT [c] l).2.2 = true) : l.drop (fst8 c l) = c :: (cutT [c] l).2.1 := by
  rw [cutT_has, decide_eq_true_eq] at h
  rw [fst_atB h]
  unfold cutT
  rw [cut_fst, if_pos h]
theorem cutT_none {c : UInt8} {l : List UInt8} (h : (cutT [c] l).2.2 = false) : l.drop (fst8 c l) = [] := by
  rw [cutT_has, decide_eq_false_iff_not] at h
  rw [List.drop_of_length_le (by omega)]
set_option maxHeartbeats 8000000 in
theorem sbQuery_any (a q : ByteArray) (w : World) (ha : a.size ≤ 1073741824) (hq : q.size ≤ 70368744177664) (hT : SomeMax w) :
    Calls Tryd.prog 12 #[.string a, .string q] w fun e w' => e = .returned (.string (txt (qryL (bL a) (bL q)))) ∧ Below w.heap.size w w' := by
  have la : (bL a).length ≤ 1073741824 := by show a.data.toList.length ≤ _; rw [Array.length_toList]; exact ha
  have C1 := hide (cut_anyT [35] (bL a) w la (by decide) hT)
  have l1 := (cutT_len [35] (bL a))
  have C2 := hide (fun W (hb : Below w.heap.size w W) => cut_anyT [63] (cutT [35] (bL a)).1 W (Nat.le_trans l1.1 la) (by decide) (hT.below hb))
  rw [show txt (bL a) = a from rfl, show txt [35] = ⟨#[35]⟩ from rfl] at C1
  rw [show txt [63] = ⟨#[63]⟩ from rfl] at C2
  have l2 := (cutT_len [63] (cutT [35] (bL a)).1)
  have EQ : Hid (qryL (bL a) (bL q) = ((cutT [63] (cutT [35] (bL a)).1).1 ++ (63 :: bL q)) ++ (bL a).drop (fst8 35 (bL a))) := by
    show _ = _
    rw [cutT_fst 63, cutT_fst 35]; rfl
  have E1 := hide (fun h => cutT_rest (c := 35) (l := bL a) h)
  have E0 := hide (fun h => cutT_none (c := 35) (l := bL a) h)
  have lp : (cutT [63] (cutT [35] (bL a)).1).1.length ≤ 1073741824 := by omega
  have lr : (cutT [35] (bL a)).2.1.length ≤ 1073741824 := by omega
  clear la l1 l2
  generalize qryL (bL a) (bL q) = RES at *
  generalize (bL a).drop (fst8 35 (bL a)) = tl at *
  generalize cutT [63] (cutT [35] (bL a)).1 = c2 at *
  generalize cutT [35] (bL a) = c1 at *
  obtain ⟨pth, pr, pb⟩ := c2
  obtain ⟨ah, be, hb⟩ := c1
  dsimp only at *
  clear hT ha
  go_enter Tryd.func12, Tryd.ntmps12
  go_wp2_with fail
  refine C1.out.mono ?_
  rintro e w1 ⟨rfl, b1⟩
  have B1 := hide b1
  clear b1
  go_wp2_with fail
  refine (C2.out _ B1.out).mono ?_
  rintro e w2 ⟨rfl, b2⟩
  have B2 := hide (chain B1.out b2)
  have AL : Hid (Below w2.heap.size w2 (w2.alloc (.cells #[.pointer none, .slice none 0 0] 46))) := (Below.refl _ w2).alloc (Nat.le_refl _) _
  have H0 := hide (HoldsK.new w2)
  have B3 := hide (chain B2.out AL.out)
  have G3 : Hid (w2.heap.size ≤ (w2.alloc (.cells #[.pointer none, .slice none 0 0] 46)).heap.size) := by show _ ≤ _; simp
  have BA : Hid (Below w2.heap.size w2 (w2.alloc (.cells #[.pointer none, .slice none 0 0] 46))) := AL
  clear b2 B1 C1 C2
  go_wp2_with fail
  generalize w2.alloc (.cells #[.pointer none, .slice none 0 0] 46) = w3 at *
  refine (writeStringK w2.heap.size w2.heap.size [] (txt pth) w3 H0.out (by show 0 + pth.length ≤ _; omega) G3.out).mono ?_
  rintro e w4 ⟨rfl, H4, b4, _⟩
  have H4' : Hid (HoldsK w2.heap.size w2.heap.size pth w4) := H4
  have G4 := hide (Nat.le_trans G3.out b4.size)
  have B4 := hide (BA.out.trans b4)
  clear H4 b4 H0 B3 AL BA G3
  go_wp2_with fail
  refine (writeByteK w2.heap.size w2.heap.size pth 63 w4 H4'.out (by omega) G4.out).mono ?_
  rintro e w5 ⟨rfl, H5, b5, _⟩
  have H5' := hide H5
  have G5 := hide (Nat.le_trans G4.out b5.size)
  have B5 := hide (B4.out.trans b5)
  clear H5 b5 H4' B4 G4
  go_wp2_with fail
  refine (writeStringK w2.heap.size w2.heap.size (pth ++ [63]) q w5 H5'.out (by rw [List.length_append, List.length_singleton]; omega) G5.out).mono ?_
  rintro e w6 ⟨rfl, H6, b6, _⟩
  have H6' := hide H6
  have G6 := hide (Nat.le_trans G5.out b6.size)
  have B6 := hide (B5.out.trans b6)
  have L6 : Hid ((pth ++ [63] ++ q.data.toList).length ≤ 70368744177664 + 1073741824 + 1) := by
    show _ ≤ _
    rw [List.length_append, List.length_append, List.length_singleton, Array.length_toList (xs := q.data)]
    have : q.data.size = q.size := rfl
    omega
  clear H6 b6 H5' B5 G5
  cases hb with
  | false =>
    have E := E0.out rfl
    have ER : Hid (txt (pth ++ [63] ++ q.data.toList) = txt RES) := by show _ = _; rw [EQ.out, E]; simp
    clear E E0 E1 EQ
    go_wp2_with fail
    refine (builderTextK w2.heap.size w2.heap.size _ w6 H6'.out G6.out).mono ?_
    rintro e w7 ⟨rfl, _, b7, _⟩
    rw [ER.out]
    have BF := hide (chain B2.out (B6.out.trans b7))
    go_wp2_with fail
    go_ret
    exact ⟨rfl, BF.out⟩
  | true =>
    have E := E1.out rfl
    have ER : Hid (txt (pth ++ [63] ++ q.data.toList ++ [35] ++ (txt be).data.toList) = txt RES) := by
      show _ = _
      rw [EQ.out, E]
      have : (txt be).data.toList = be := rfl
      rw [this]; simp
    clear E E0 E1 EQ
    go_wp2_with fail
    refine (writeByteK w2.heap.size w2.heap.size _ 35 w6 H6'.out (by have := L6.out; omega) G6.out).mono ?_
    rintro e w7 ⟨rfl, H7, b7, _⟩
    have H7' := hide H7
    have G7 := hide (Nat.le_trans G6.out b7.size)
    have B7 := hide (B6.out.trans b7)
    clear H7 b7 H6' B6 G6
    go_wp2_with fail
    refine (writeStringK w2.heap.size w2.heap.size _ (txt be) w7 H7'.out (by
      have := L6.out
      rw [List.length_append, List.length_singleton]
      show _ + be.length ≤ _
      omega) G7.out).mono ?_
    rintro e w8 ⟨rfl, H8, b8, _⟩
    have H8' := hide H8
    have G8 := hide (Nat.le_trans G7.out b8.size)
    have B8 := hide (B7.out.trans b8)
    clear H8 b8 H7' B7 G7
    go_wp2_with fail
    refine (builderTextK w2.heap.size w2.heap.size _ w8 H8'.out G8.out).mono ?_
    rintro e w9 ⟨rfl, _, b9, _⟩
    rw [ER.out]
    have BF := hide (chain B2.out (B8.out.trans b9))
    go_wp2_with fail
    go_ret
    exact ⟨rfl, BF.out⟩

end Go.Proofs.YtnojgejcmaajmaaDoor
