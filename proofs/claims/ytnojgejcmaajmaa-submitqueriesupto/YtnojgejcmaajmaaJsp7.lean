/- Entries told as parts, and parts read, as functions of lists. Texts searched, cut, split and replaced, in the words of parts. What strings.Cut answers of any text. The program's Query of layer 24. Stage 24's wakes and its laws SubmitSettings, SubmitQueries, SubmitEnters, walked. -/
import Derived.Test.YtnojgejcmaajmaaJsp4
import Derived.Test.YtnojgejcmaajmaaJsp5
import Derived.Test.YtnojgejcmaajmaaJsp6
import Derived.Test.YtnojgejcmaajmaaJsp14
import Derived.Lib.SplitLaws
import Derived.Lib.IndexAny
import Derived.Lib.CutLaws

namespace Go.Proofs.Ytnojgejcmaajmaa
open Go.RowKit
/-- Where a text stands first in another one. -/
def cutL (t : List UInt8) : List UInt8 → Option (List UInt8 × List UInt8)
  | [] => if t.isPrefixOf [] = true then some ([], []) else none
  | c :: r => if t.isPrefixOf (c :: r) = true then some ([], (c :: r).drop t.length) else (cutL t r).map fun p => (c :: p.1, p.2)
theorem cut_hit {t s : List UInt8} (h : t.isPrefixOf s = true) : cutL t s = some ([], s.drop t.length) := by
  cases s with
  | nil => unfold cutL; rw [if_pos h]; simp
  | cons c r => unfold cutL; rw [if_pos h]
theorem cut_miss {t r : List UInt8} {c : UInt8} (h : t.isPrefixOf (c :: r) = false) : cutL t (c :: r) = (cutL t r).map fun p => (c :: p.1, p.2) := by
  conv => lhs; unfold cutL
  rw [if_neg (by rw [h]; decide)]
theorem cut_end {t : List UInt8} (h : t ≠ []) : cutL t [] = none := by
  unfold cutL
  rw [if_neg]
  cases t with
  | nil => exact absurd rfl h
  | cons => simp
theorem pre_app (t s : List UInt8) : t.isPrefixOf (t ++ s) = true := by simp
end Go.Proofs.Ytnojgejcmaajmaa

namespace Go.Proofs.Ytnojgejcmaajmaa
open Go.RowKit
/-- Where a text stands first, as the library's index tells it. -/
theorem ix_cons (c : UInt8) (l t : List UInt8) (h : t.isPrefixOf (c :: l) = false) : Lib.index (c :: l) t = if Lib.index l t == -1 then -1 else Lib.index l t + 1 := by
  conv => lhs; unfold Lib.index
  rw [h]; simp
theorem ix_hit {l t : List UInt8} (h : t.isPrefixOf l = true) : Lib.index l t = 0 :=
  Lib.index_first (i := 0) (Nat.zero_le _) (by simpa [Lib.occAt] using h) (fun _ h => absurd h (Nat.not_lt_zero _))
theorem ix_cut (t : List UInt8) (ht : t ≠ []) : ∀ l : List UInt8, (cutL t l = none ∧ Lib.index l t = -1) ∨ ∃ p r, cutL t l = some (p, r) ∧ Lib.index l t = (p.length : Int) ∧ l = p ++ t ++ r
  | [] => .inl ⟨cut_end ht, by
      refine Lib.index_none (fun j _ => ?_)
      cases t with
      | nil => exact absurd rfl ht
      | cons => simp [Lib.occAt]⟩
  | c :: l => by
    cases h : t.isPrefixOf (c :: l) with
    | true =>
      refine .inr ⟨[], (c :: l).drop t.length, cut_hit h, ix_hit h, ?_⟩
      obtain ⟨z, hz⟩ := List.isPrefixOf_iff_prefix.1 h
      rw [← hz]; simp
    | false =>
      rcases ix_cut t ht l with ⟨h1, h2⟩ | ⟨p, r, h1, h2, h3⟩
      · refine .inl ⟨by rw [cut_miss h, h1]; rfl, by rw [ix_cons _ _ _ h, h2]; rfl⟩
      · refine .inr ⟨c :: p, r, by rw [cut_miss h, h1]; rfl, ?_, by rw [h3]; simp⟩
        rw [ix_cons _ _ _ h, h2]
        have : ((p.length : Int) == -1) = false := by rw [beq_eq_false_iff_ne]; omega
        rw [this]
        show (p.length : Int) + 1 = ((c :: p).length : Int)
        simp
theorem cut_lib (t : List UInt8) (ht : t ≠ []) (l : List UInt8) : Lib.cut l t = match cutL t l with | none => (l, [], false) | some (p, r) => (p, r, true) := by
  unfold Lib.cut
  rcases ix_cut t ht l with ⟨h1, h2⟩ | ⟨p, r, h1, h2, h3⟩
  · rw [h1, h2]; rfl
  · rw [h1, h2, if_pos (by omega)]
    show (l.take p.length, l.drop (p.length + t.length), true) = (p, r, true)
    have e1 : l.take p.length = p := by rw [h3, List.append_assoc, List.take_left' rfl]
    have e2 : l.drop (p.length + t.length) = r := by rw [h3]; exact List.drop_left' (by simp)
    rw [e1, e2]
/-- A text cut at its first place: what is ahead doesn't hold it, not even where it would reach beyond. -/
theorem cut_some {t : List UInt8} (ht : t ≠ []) : ∀ {s p r : List UInt8}, cutL t s = some (p, r) → s = p ++ (t ++ r) ∧ ∀ y z, s = y ++ (t ++ z) → p.length ≤ y.length
  | [], p, r, h => by rw [cut_end ht] at h; cases h
  | c :: s, p, r, h => by
    cases w : t.isPrefixOf (c :: s) with
    | true =>
      rw [cut_hit w] at h
      cases h
      obtain ⟨z, hz⟩ := List.isPrefixOf_iff_prefix.1 w
      exact ⟨by rw [← hz]; simp, fun _ _ _ => Nat.zero_le _⟩
    | false =>
      rw [cut_miss w] at h
      cases v : cutL t s with
      | none => rw [v] at h; cases h
      | some pr =>
        obtain ⟨p', r'⟩ := pr
        rw [v] at h
        cases h
        obtain ⟨i1, i2⟩ := cut_some ht v
        refine ⟨by rw [i1]; simp, fun y z e => ?_⟩
        cases y with
        | nil =>
          exfalso
          have : t.isPrefixOf (c :: s) = true := by rw [e]; exact pre_app _ _
          rw [w] at this; cases this
        | cons d y =>
          have := i2 y z (by rw [List.cons_append] at e; exact (List.cons.inj e).2)
          simp only [List.length_cons]
          omega
def R1 (l : List UInt8) : List UInt8 := repA [37, 48, 65] [10] l
def cutT (t l : List UInt8) : List UInt8 × List UInt8 × Bool := match cutL t l with | none => (l, [], false) | some (p, r) => (p, r, true)
theorem cutT_len (t l : List UInt8) : (cutT t l).1.length ≤ l.length ∧ (cutT t l).2.1.length ≤ l.length := by
  unfold cutT
  cases c : cutL t l with
  | none => exact ⟨Nat.le_refl _, Nat.zero_le _⟩
  | some pr =>
    obtain ⟨p, r⟩ := pr
    by_cases ht : t = []
    · subst ht
      cases l with
      | nil => cases c; exact ⟨Nat.le_refl _, Nat.le_refl _⟩
      | cons x l =>
        rw [cut_hit (by rfl)] at c
        cases c
        exact ⟨Nat.zero_le _, Nat.le_refl _⟩
    · have := congrArg List.length (cut_some ht c).1
      simp only [List.length_append] at this
      show p.length ≤ _ ∧ r.length ≤ _
      omega
end Go.Proofs.Ytnojgejcmaajmaa

namespace Go.Proofs.Ytnojgejcmaajmaa
open Go.Shelf Go.RowKit
set_option maxRecDepth 100000
theorem cut_anyT (t l : List UInt8) (w : World) (hs : l.length ≤ 1073741824) (ht : t ≠ []) (hm : SomeMax w) :
    Calls Try.prog 7 #[.string (txt l), .string (txt t)] w fun e w' => e = .returned (.tuple #[.string (txt (cutT t l).1), .string (txt (cutT t l).2.1), .bool (cutT t l).2.2]) ∧ Below w.heap.size w w' := by
  obtain ⟨m, hm⟩ := hm
  have := Any.strings_Cut lays145 (txt l) (txt t) m w (by show l.length < _; omega) hm
  have e1 : Lib.cut (txt l).data.toList (txt t).data.toList = cutT t l := cut_lib t ht l
  rw [e1] at this
  refine this.mono ?_
  rintro e w' ⟨rfl, n, rfl⟩
  exact ⟨rfl, ⟨rfl, rfl, rfl, Nat.le_refl _, fun _ _ => rfl⟩⟩
end Go.Proofs.Ytnojgejcmaajmaa

namespace Go.Proofs.Ytnojgejcmaajmaa
open Go.RowKit
set_option maxRecDepth 100000
theorem fst_consB {c a : UInt8} {l : List UInt8} (h : ¬ a = c) : fst8 c (a :: l) = fst8 c l + 1 := by
  unfold fst8
  rw [List.takeWhile_cons_of_pos (by simp [h]), List.length_cons]
theorem fst_headB {c : UInt8} {l : List UInt8} : fst8 c (c :: l) = 0 := by
  unfold fst8
  rw [List.takeWhile_cons_of_neg (by simp)]; rfl
theorem fst_leB (c : UInt8) (l : List UInt8) : fst8 c l ≤ l.length := (List.takeWhile_prefix _).length_le
theorem cut_fst (c : UInt8) : ∀ l : List UInt8, cutL [c] l = if fst8 c l < l.length then some (l.take (fst8 c l), l.drop (fst8 c l + 1)) else none
  | [] => rfl
  | a :: t => by
    by_cases h : a = c
    · subst h
      rw [cut_hit (by simp [List.isPrefixOf]), fst_headB, if_pos (by simp)]
      simp
    · rw [cut_miss (by simp [List.isPrefixOf]; exact fun e => h e.symm), cut_fst c t, fst_consB h]
      by_cases g : fst8 c t < t.length
      · rw [if_pos g, if_pos (by rw [List.length_cons]; omega)]; simp
      · rw [if_neg g, if_neg (by rw [List.length_cons]; omega)]; rfl
theorem cutT_fst (c : UInt8) (l : List UInt8) : (cutT [c] l).1 = l.take (fst8 c l) := by
  unfold cutT
  rw [cut_fst]
  have := fst_leB c l
  by_cases g : fst8 c l < l.length
  · rw [if_pos g]
  · rw [if_neg g, List.take_of_length_le (by omega)]
theorem cutT_has (c : UInt8) (l : List UInt8) : (cutT [c] l).2.2 = decide (fst8 c l < l.length) := by
  unfold cutT
  rw [cut_fst]
  by_cases g : fst8 c l < l.length
  · rw [if_pos g, decide_eq_true g]
  · rw [if_neg g, decide_eq_false g]
theorem fst_atB {c : UInt8} : ∀ {l : List UInt8}, fst8 c l < l.length → l.drop (fst8 c l) = c :: l.drop (fst8 c l + 1)
  | [], h => by simp at h
  | a :: t, h => by
    by_cases e : a = c
    · subst e; rw [fst_headB]; rfl
    · rw [fst_consB e] at h ⊢
      rw [List.drop_succ_cons, List.drop_succ_cons]
      exact fst_atB (by rw [List.length_cons] at h; omega)
theorem cutT_rest {c : UInt8} {l : List UInt8} (h : (cutT [c] l).2.2 = true) : l.drop (fst8 c l) = c :: (cutT [c] l).2.1 := by
  rw [cutT_has, decide_eq_true_eq] at h
  rw [fst_atB h]
  unfold cutT
  rw [cut_fst, if_pos h]
theorem cutT_none {c : UInt8} {l : List UInt8} (h : (cutT [c] l).2.2 = false) : l.drop (fst8 c l) = [] := by
  rw [cutT_has, decide_eq_false_iff_not] at h
  rw [List.drop_of_length_le (by omega)]
set_option maxHeartbeats 8000000 in
theorem sbQuery_any (a q : ByteArray) (w : World) (ha : a.size ≤ 1073741824) (hq : q.size ≤ 70368744177664) (hT : SomeMax w) :
    Calls Try.prog 5 #[.string a, .string q] w fun e w' => e = .returned (.string (txt (qryL (bL a) (bL q)))) ∧ Below w.heap.size w w' := by
  have la : (bL a).length ≤ 1073741824 := by show a.data.toList.length ≤ _; rw [Array.length_toList]; exact ha
  have C1 := hide (cut_anyT [35] (bL a) w la (by decide) hT)
  have l1 := (cutT_len [35] (bL a))
  have C2 := hide (fun W (hb : Below w.heap.size w W) => cut_anyT [63] (cutT [35] (bL a)).1 W (Nat.le_trans l1.1 la) (by decide) (hT.below hb))
  rw [show txt (bL a) = a from rfl, show txt [35] = ⟨#[35]⟩ from rfl] at C1
  rw [show txt [63] = ⟨#[63]⟩ from rfl] at C2
  have l2 := (cutT_len [63] (cutT [35] (bL a)).1)
  have EQ : Hid (qryL (bL a) (bL q) = ((cutT [63] (cutT [35] (bL a)).1).1 ++ (63 :: bL q)) ++ (bL a).drop (fst8 35 (bL a))) := by
    show _ = _
    rw [cutT_fst 63, cutT_fst 35]; rfl
  have E1 := hide (fun h => cutT_rest (c := 35) (l := bL a) h)
  have E0 := hide (fun h => cutT_none (c := 35) (l := bL a) h)
  have lp : (cutT [63] (cutT [35] (bL a)).1).1.length ≤ 1073741824 := by omega
  have lr : (cutT [35] (bL a)).2.1.length ≤ 1073741824 := by omega
  clear la l1 l2
  generalize qryL (bL a) (bL q) = RES at *
  generalize (bL a).drop (fst8 35 (bL a)) = tl at *
  generalize cutT [63] (cutT [35] (bL a)).1 = c2 at *
  generalize cutT [35] (bL a) = c1 at *
  obtain ⟨pth, pr, pb⟩ := c2
  obtain ⟨ah, be, hb⟩ := c1
  dsimp only at *
  clear hT ha
  go_enter Try.func5, Try.ntmps5
  go_wp2_with fail
  refine C1.out.mono ?_
  rintro e w1 ⟨rfl, b1⟩
  have B1 := hide b1
  clear b1
  go_wp2_with fail
  refine (C2.out _ B1.out).mono ?_
  rintro e w2 ⟨rfl, b2⟩
  have B2 := hide (chain B1.out b2)
  have AL : Hid (Below w2.heap.size w2 (w2.alloc (.cells #[.pointer none, .slice none 0 0] 30))) := (Below.refl _ w2).alloc (Nat.le_refl _) _
  have H0 := hide (HoldsK.new w2)
  have B3 := hide (chain B2.out AL.out)
  have G3 : Hid (w2.heap.size ≤ (w2.alloc (.cells #[.pointer none, .slice none 0 0] 30)).heap.size) := by show _ ≤ _; simp
  have BA : Hid (Below w2.heap.size w2 (w2.alloc (.cells #[.pointer none, .slice none 0 0] 30))) := AL
  clear b2 B1 C1 C2
  go_wp2_with fail
  generalize w2.alloc (.cells #[.pointer none, .slice none 0 0] 30) = w3 at *
  refine (writeStringK w2.heap.size w2.heap.size [] (txt pth) w3 H0.out (by show 0 + pth.length ≤ _; omega) G3.out).mono ?_
  rintro e w4 ⟨rfl, H4, b4, _⟩
  have H4' : Hid (HoldsK w2.heap.size w2.heap.size pth w4) := H4
  have G4 := hide (Nat.le_trans G3.out b4.size)
  have B4 := hide (BA.out.trans b4)
  clear H4 b4 H0 B3 AL BA G3
  go_wp2_with fail
  refine (writeByteK w2.heap.size w2.heap.size pth 63 w4 H4'.out (by omega) G4.out).mono ?_
  rintro e w5 ⟨rfl, H5, b5, _⟩
  have H5' := hide H5
  have G5 := hide (Nat.le_trans G4.out b5.size)
  have B5 := hide (B4.out.trans b5)
  clear H5 b5 H4' B4 G4
  go_wp2_with fail
  refine (writeStringK w2.heap.size w2.heap.size (pth ++ [63]) q w5 H5'.out (by rw [List.length_append, List.length_singleton]; omega) G5.out).mono ?_
  rintro e w6 ⟨rfl, H6, b6, _⟩
  have H6' := hide H6
  have G6 := hide (Nat.le_trans G5.out b6.size)
  have B6 := hide (B5.out.trans b6)
  have L6 : Hid ((pth ++ [63] ++ q.data.toList).length ≤ 70368744177664 + 1073741824 + 1) := by
    show _ ≤ _
    rw [List.length_append, List.length_append, List.length_singleton, Array.length_toList (xs := q.data)]
    have : q.data.size = q.size := rfl
    omega
  clear H6 b6 H5' B5 G5
  cases hb with
  | false =>
    have E := E0.out rfl
    have ER : Hid (txt (pth ++ [63] ++ q.data.toList) = txt RES) := by show _ = _; rw [EQ.out, E]; simp
    clear E E0 E1 EQ
    go_wp2_with fail
    refine (builderTextK w2.heap.size w2.heap.size _ w6 H6'.out G6.out).mono ?_
    rintro e w7 ⟨rfl, _, b7, _⟩
    rw [ER.out]
    have BF := hide (chain B2.out (B6.out.trans b7))
    go_wp2_with fail
    go_ret
    exact ⟨rfl, BF.out⟩
  | true =>
    have E := E1.out rfl
    have ER : Hid (txt (pth ++ [63] ++ q.data.toList ++ [35] ++ (txt be).data.toList) = txt RES) := by
      show _ = _
      rw [EQ.out, E]
      have : (txt be).data.toList = be := rfl
      rw [this]; simp
    clear E E0 E1 EQ
    go_wp2_with fail
    refine (writeByteK w2.heap.size w2.heap.size _ 35 w6 H6'.out (by have := L6.out; omega) G6.out).mono ?_
    rintro e w7 ⟨rfl, H7, b7, _⟩
    have H7' := hide H7
    have G7 := hide (Nat.le_trans G6.out b7.size)
    have B7 := hide (B6.out.trans b7)
    clear H7 b7 H6' B6 G6
    go_wp2_with fail
    refine (writeStringK w2.heap.size w2.heap.size _ (txt be) w7 H7'.out (by
      have := L6.out
      rw [List.length_append, List.length_singleton]
      show _ + be.length ≤ _
      omega) G7.out).mono ?_
    rintro e w8 ⟨rfl, H8, b8, _⟩
    have H8' := hide H8
    have G8 := hide (Nat.le_trans G7.out b8.size)
    have B8 := hide (B7.out.trans b8)
    clear H8 b8 H7' B7 G7
    go_wp2_with fail
    refine (builderTextK w2.heap.size w2.heap.size _ w8 H8'.out G8.out).mono ?_
    rintro e w9 ⟨rfl, _, b9, _⟩
    rw [ER.out]
    have BF := hide (chain B2.out (B8.out.trans b9))
    go_wp2_with fail
    go_ret
    exact ⟨rfl, BF.out⟩
end Go.Proofs.Ytnojgejcmaajmaa

namespace Go.Proofs.Ytnojgejcmaajmaa
open Go.RowKit
set_option maxRecDepth 100000
theorem fst_app {c : UInt8} {l r : List UInt8} (h : c ∉ l) : fst8 c (l ++ r) = l.length + fst8 c r := by
  induction l with
  | nil => rw [List.nil_append, List.length_nil, Nat.zero_add]
  | cons a t ih =>
    unfold fst8 at ih ⊢
    rw [List.cons_append, List.takeWhile_cons_of_pos (by
      have : ¬ a = c := fun e => h (by rw [e]; exact List.mem_cons_self)
      simp [this]), List.length_cons, ih (fun q => h (List.mem_cons_of_mem _ q)), List.length_cons]
    omega
theorem fst_not {c : UInt8} {l : List UInt8} : c ∉ l.take (fst8 c l) := by
  unfold fst8
  rw [← List.prefix_iff_eq_take.1 (List.takeWhile_prefix _)]
  intro q
  have := List.all_eq_true.1 (List.all_takeWhile (l := l)) c q
  simp at this
theorem fst_drop {c : UInt8} {l : List UInt8} : fst8 c (l.drop (fst8 c l)) = 0 := by
  induction l with
  | nil => rfl
  | cons a t ih =>
    by_cases h : a = c
    · have e : fst8 c (a :: t) = 0 := by unfold fst8; rw [List.takeWhile_cons_of_neg (by simp [h])]; rfl
      rw [e, List.drop_zero, e]
    · have e : fst8 c (a :: t) = fst8 c t + 1 := by unfold fst8; rw [List.takeWhile_cons_of_pos (by simp [h])]; rfl
      rw [e, List.drop_succ_cons, ih]
theorem qry_again {a q : List UInt8} (h : (35 : UInt8) ∉ q) : qryL (qryL a q) q = qryL a q := by
  have n1 : (35 : UInt8) ∉ a.take (fst8 35 a) := fst_not
  have n2 : (63 : UInt8) ∉ (a.take (fst8 35 a)).take (fst8 63 (a.take (fst8 35 a))) := fst_not
  have n3 : fst8 35 (a.drop (fst8 35 a)) = 0 := fst_drop
  have E : qryL a q = (a.take (fst8 35 a)).take (fst8 63 (a.take (fst8 35 a))) ++ (63 :: q) ++ a.drop (fst8 35 a) := rfl
  rw [E]
  have n4 : (35 : UInt8) ∉ (a.take (fst8 35 a)).take (fst8 63 (a.take (fst8 35 a))) := fun t => n1 (List.mem_of_mem_take t)
  generalize (a.take (fst8 35 a)).take (fst8 63 (a.take (fst8 35 a))) = x at *
  generalize a.drop (fst8 35 a) = z at *
  have f1 : fst8 35 (x ++ (63 :: q) ++ z) = (x ++ (63 :: q)).length := by
    rw [fst_app (l := x ++ (63 :: q)) (fun t => by
      rcases List.mem_append.1 t with t | t
      · exact n4 t
      · rcases List.mem_cons.1 t with t | t
        · cases t
        · exact h t), n3, Nat.add_zero]
  have f2 : (x ++ (63 :: q) ++ z).take (x ++ (63 :: q)).length = x ++ (63 :: q) := List.take_left' rfl
  have f3 : fst8 63 (x ++ (63 :: q)) = x.length := by
    rw [fst_app n2]
    show x.length + 0 = _
    omega
  unfold qryL
  rw [f1, f2, f3, List.take_left' rfl, List.drop_left' rfl]
theorem qry_size (a q : List UInt8) : (qryL a q).length ≤ a.length + q.length + 1 + a.length := by
  unfold qryL
  rw [List.length_append, List.length_append, List.length_cons]
  have h1 := List.length_take_le (fst8 63 (a.take (fst8 35 a))) (a.take (fst8 35 a))
  have h2 : (a.take (fst8 35 a)).length ≤ a.length := by rw [List.length_take]; omega
  have h3 : ((a.take (fst8 35 a)).take (fst8 63 (a.take (fst8 35 a)))).length ≤ (a.take (fst8 35 a)).length := by rw [List.length_take]; omega
  have h4 : (a.drop (fst8 35 a)).length ≤ a.length := by rw [List.length_drop]; omega
  omega
theorem sb_wake : txt (qryL (bL ⟨#[47, 97, 63, 98, 35, 99]⟩) (bL ⟨#[100, 61, 49]⟩)) = ⟨#[47, 97, 63, 100, 61, 49, 35, 99]⟩ := by kernel_rfl
set_option maxHeartbeats 8000000 in
theorem sbWakes_any (w : World) (hT : SomeMax w) :
    Calls Try.prog 4 #[] w fun e w' => e = .returned (.bool true) ∧ Below w.heap.size w w' := by
  have HQ := hide (sbQuery_any ⟨#[47, 97, 63, 98, 35, 99]⟩ ⟨#[100, 61, 49]⟩ w (by decide) (by decide) hT)
  rw [sb_wake] at HQ
  clear hT
  go_enter Try.func4, Try.ntmps4
  go_wp2_with fail
  refine HQ.out.mono ?_
  rintro e w1 ⟨rfl, b1⟩
  go_wp2_with fail
  go_ret
  exact ⟨rfl, b1⟩
set_option maxHeartbeats 8000000 in
theorem submitQueries_walk (a q : ByteArray) (w : World) (ha : a.size ≤ 1048576) (hq : q.size ≤ 1048576) (hT : SomeMax w) :
    Calls Try.prog 3 #[.string a, .string q] w fun e w' => e = .returned (.bool true) ∧ Below w.heap.size w w' := by
  have HW := hide (sbWakes_any w hT)
  have H1 := hide (fun W (hb : Below w.heap.size w W) => sbQuery_any a q W (Nat.le_trans ha (by decide)) (Nat.le_trans hq (by decide)) (hT.below hb))
  have R1 := hide (fun W (hb : Below w.heap.size w W) => refQueryS_any a q W (Nat.le_trans ha (by decide)) (Nat.le_trans hq (by decide)))
  have ZZ : (txt (qryL (bL a) (bL q))).size ≤ 1073741824 := by
    have e : (txt (qryL (bL a) (bL q))).size = (qryL (bL a) (bL q)).length := rfl
    have := qry_size (bL a) (bL q)
    rw [len_bL, len_bL] at this
    omega
  have H2 := hide (fun W (hb : Below w.heap.size w W) => sbQuery_any (txt (qryL (bL a) (bL q))) q W ZZ (Nat.le_trans hq (by decide)) (hT.below hb))
  have AG : Hid ((∀ j (h : j < q.size), ¬ q[j] = 35) → txt (qryL (bL (txt (qryL (bL a) (bL q)))) (bL q)) = txt (qryL (bL a) (bL q))) := fun h => by
    show txt (qryL (qryL (bL a) (bL q)) (bL q)) = _
    rw [qry_again]
    intro t
    obtain ⟨j, hj, e⟩ := List.mem_iff_getElem.1 t
    have hj' : j < q.size := by rw [len_bL] at hj; exact hj
    exact h j hj' (by rw [← e]; exact (at_bL hj').symm)
  clear hT ZZ
  generalize txt (qryL (bL (txt (qryL (bL a) (bL q)))) (bL q)) = T2 at *
  generalize txt (qryL (bL a) (bL q)) = T1 at *
  go_enter Try.func3, Try.ntmps3
  go_wp2_with fail
  refine HW.out.mono ?_
  rintro e w1 ⟨rfl, b1⟩
  go_wp2_with fail
  refine (H1.out _ b1).mono ?_
  rintro e w2 ⟨rfl, b2⟩
  have B2 := hide (chain b1 b2)
  clear b1 b2
  go_wp2_with fail
  refine (R1.out _ B2.out).mono ?_
  rintro e w3 ⟨rfl, b3⟩
  have B3 := hide (chain B2.out b3)
  clear b3 B2 HW H1 R1
  go_wp2_with fail
  go_loop [19] (fun iv => ∃ k : Nat, k ≤ q.size ∧ iv = .int .i64 k ∧ Hid (∀ j (_ : j < q.size), j < k → ¬ q[j] = 35)) (fun iv => q.size - (intOf iv).toNat)
  case atStart => exact ⟨0, Nat.zero_le _, rfl, fun j _ h => by omega⟩
  case round =>
    obtain ⟨k, hk, rfl, hd⟩ := hrel
    by_cases hlt : k < q.size
    · have i1 : (k : Int) < (q.size : Int) := by omega
      by_cases hc : q[k] = 35
      · have i3 : ((q[k].toNat : Int) == 35) = true := by rw [hc]; rfl
        clear hd hc AG H2
        go_wp2_with fail
        go_ret
        exact ⟨rfl, B3.out⟩
      · have i3 : ((q[k].toNat : Int) == 35) = false := ne_intS (c := 35) hc
        have hd' : Hid (∀ j (_ : j < q.size), j < k + 1 → ¬ q[j] = 35) := by
          intro j hj hjk
          rcases Nat.lt_or_ge j k with t | t
          · exact hd.out j hj t
          · obtain rfl : j = k := by omega
            exact hc
        clear hd hc AG H2
        go_wp2_with fail
        go_round
        case rel => exact ⟨k + 1, by omega, by go_num, hd'⟩
        case measure => simp [intOf]; omega
    · obtain rfl : k = q.size := by omega
      have E := AG.out (fun j hj => hd.out j hj hj)
      rw [E] at H2
      clear hd AG E
      go_wp2_with fail
      refine (H2.out _ B3.out).mono ?_
      rintro e w4 ⟨rfl, b4⟩
      go_wp2_with fail
      go_ret
      exact ⟨rfl, chain B3.out b4⟩

end Go.Proofs.Ytnojgejcmaajmaa
