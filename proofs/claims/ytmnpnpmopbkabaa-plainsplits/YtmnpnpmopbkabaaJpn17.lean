/- Entries told as parts, and parts read, as functions of lists. Texts searched, cut, split and replaced, in the words of parts. A text's lines, found by its ends made one and cut one behind the other. The program's Lines of layer 1 alone. What strings.Cut answers of any text. The program's Encode, Split of layer 21. -/
import Derived.Test.YtmnpnpmopbkabaaJpn16
import Derived.Test.YtmnpnpmopbkabaaJpn18
import Derived.Test.YtmnpnpmopbkabaaJpn19

namespace Go.Proofs.Ytmnpnpmopbkabaa
open Go.RowKit
/-- Where a text stands first in another one. -/
def cutL (t : List UInt8) : List UInt8 → Option (List UInt8 × List UInt8)
  | [] => if t.isPrefixOf [] = true then some ([], []) else none
  | c :: r => if t.isPrefixOf (c :: r) = true then some ([], (c :: r).drop t.length) else (cutL t r).map fun p => (c :: p.1, p.2)
theorem cut_hit {t s : List UInt8} (h : t.isPrefixOf s = true) : cutL t s = some ([], s.drop t.length) := by
  cases s with
  | nil => unfold cutL; rw [if_pos h]; simp
  | cons c r => unfold cutL; rw [if_pos h]
theorem cut_miss {t r : List UInt8} {c : UInt8} (h : t.isPrefixOf (c :: r) = false) : cutL t (c :: r) = (cutL t r).map fun p => (c :: p.1, p.2) := by
  conv => lhs; unfold cutL
  rw [if_neg (by rw [h]; decide)]
theorem cut_end {t : List UInt8} (h : t ≠ []) : cutL t [] = none := by
  unfold cutL
  rw [if_neg]
  cases t with
  | nil => exact absurd rfl h
  | cons => simp
theorem pre_app (t s : List UInt8) : t.isPrefixOf (t ++ s) = true := by simp
end Go.Proofs.Ytmnpnpmopbkabaa

namespace Go.Proofs.Ytmnpnpmopbkabaa
open Go.RowKit
/-- Where a text stands first, as the library's index tells it. -/
theorem ix_cons (c : UInt8) (l t : List UInt8) (h : t.isPrefixOf (c :: l) = false) : Lib.index (c :: l) t = if Lib.index l t == -1 then -1 else Lib.index l t + 1 := by
  conv => lhs; unfold Lib.index
  rw [h]; simp
theorem ix_hit {l t : List UInt8} (h : t.isPrefixOf l = true) : Lib.index l t = 0 :=
  Lib.index_first (i := 0) (Nat.zero_le _) (by simpa [Lib.occAt] using h) (fun _ h => absurd h (Nat.not_lt_zero _))
theorem ix_cut (t : List UInt8) (ht : t ≠ []) : ∀ l : List UInt8, (cutL t l = none ∧ Lib.index l t = -1) ∨ ∃ p r, cutL t l = some (p, r) ∧ Lib.index l t = (p.length : Int) ∧ l = p ++ t ++ r
  | [] => .inl ⟨cut_end ht, by
      refine Lib.index_none (fun j _ => ?_)
      cases t with
      | nil => exact absurd rfl ht
      | cons => simp [Lib.occAt]⟩
  | c :: l => by
    cases h : t.isPrefixOf (c :: l) with
    | true =>
      refine .inr ⟨[], (c :: l).drop t.length, cut_hit h, ix_hit h, ?_⟩
      obtain ⟨z, hz⟩ := List.isPrefixOf_iff_prefix.1 h
      rw [← hz]; simp
    | false =>
      rcases ix_cut t ht l with ⟨h1, h2⟩ | ⟨p, r, h1, h2, h3⟩
      · refine .inl ⟨by rw [cut_miss h, h1]; rfl, by rw [ix_cons _ _ _ h, h2]; rfl⟩
      · refine .inr ⟨c :: p, r, by rw [cut_miss h, h1]; rfl, ?_, by rw [h3]; simp⟩
        rw [ix_cons _ _ _ h, h2]
        have : ((p.length : Int) == -1) = false := by rw [beq_eq_false_iff_ne]; omega
        rw [this]
        show (p.length : Int) + 1 = ((c :: p).length : Int)
        simp
theorem cut_lib (t : List UInt8) (ht : t ≠ []) (l : List UInt8) : Lib.cut l t = match cutL t l with | none => (l, [], false) | some (p, r) => (p, r, true) := by
  unfold Lib.cut
  rcases ix_cut t ht l with ⟨h1, h2⟩ | ⟨p, r, h1, h2, h3⟩
  · rw [h1, h2]; rfl
  · rw [h1, h2, if_pos (by omega)]
    show (l.take p.length, l.drop (p.length + t.length), true) = (p, r, true)
    have e1 : l.take p.length = p := by rw [h3, List.append_assoc, List.take_left' rfl]
    have e2 : l.drop (p.length + t.length) = r := by rw [h3]; exact List.drop_left' (by simp)
    rw [e1, e2]
/-- A text cut at its first place: what is ahead doesn't hold it, not even where it would reach beyond. -/
theorem cut_some {t : List UInt8} (ht : t ≠ []) : ∀ {s p r : List UInt8}, cutL t s = some (p, r) → s = p ++ (t ++ r) ∧ ∀ y z, s = y ++ (t ++ z) → p.length ≤ y.length
  | [], p, r, h => by rw [cut_end ht] at h; cases h
  | c :: s, p, r, h => by
    cases w : t.isPrefixOf (c :: s) with
    | true =>
      rw [cut_hit w] at h
      cases h
      obtain ⟨z, hz⟩ := List.isPrefixOf_iff_prefix.1 w
      exact ⟨by rw [← hz]; simp, fun _ _ _ => Nat.zero_le _⟩
    | false =>
      rw [cut_miss w] at h
      cases v : cutL t s with
      | none => rw [v] at h; cases h
      | some pr =>
        obtain ⟨p', r'⟩ := pr
        rw [v] at h
        cases h
        obtain ⟨i1, i2⟩ := cut_some ht v
        refine ⟨by rw [i1]; simp, fun y z e => ?_⟩
        cases y with
        | nil =>
          exfalso
          have : t.isPrefixOf (c :: s) = true := by rw [e]; exact pre_app _ _
          rw [w] at this; cases this
        | cons d y =>
          have := i2 y z (by rw [List.cons_append] at e; exact (List.cons.inj e).2)
          simp only [List.length_cons]
          omega
def cutT (t l : List UInt8) : List UInt8 × List UInt8 × Bool := match cutL t l with | none => (l, [], false) | some (p, r) => (p, r, true)
theorem cutT_len (t l : List UInt8) : (cutT t l).1.length ≤ l.length ∧ (cutT t l).2.1.length ≤ l.length := by
  unfold cutT
  cases c : cutL t l with
  | none => exact ⟨Nat.le_refl _, Nat.zero_le _⟩
  | some pr =>
    obtain ⟨p, r⟩ := pr
    by_cases ht : t = []
    · subst ht
      cases l with
      | nil => cases c; exact ⟨Nat.le_refl _, Nat.le_refl _⟩
      | cons x l =>
        rw [cut_hit (by rfl)] at c
        cases c
        exact ⟨Nat.zero_le _, Nat.le_refl _⟩
    · have := congrArg List.length (cut_some ht c).1
      simp only [List.length_append] at this
      show p.length ≤ _ ∧ r.length ≤ _
      omega
end Go.Proofs.Ytmnpnpmopbkabaa

namespace Go.Proofs.Ytmnpnpmopbkabaa
open Go.RowKit
theorem ends_no13 : ∀ (l : List UInt8) (p : UInt8), ∀ c ∈ endsP [10] p l, c ≠ 13
  | [], _, c, h => by cases h
  | d :: r, p, c, h => by
    have h' : c ∈ piece [10] p d ++ endsP [10] d r := h
    rcases List.mem_append.1 h' with g | g
    · by_cases h1 : d = 10 ∧ p = 13
      · rw [piece_none h1.1 h1.2] at g; cases g
      · by_cases h2 : d = 10 ∨ d = 13
        · rw [piece_end h1 h2, List.mem_singleton] at g
          rw [g]; decide
        · have g2 : d ≠ 13 := fun t => h2 (.inr t)
          rw [piece_byte (fun t => h2 (.inl t)) g2, List.mem_singleton] at g
          rw [g]; exact g2
    · exact ends_no13 r d c g
theorem ln_ends : ∀ (n : Nat) (l cur : List UInt8) (p : UInt8), l.length ≤ n → ¬ (p = 13 ∧ l.head? = some 10) → lnA cur (endsP [10] p l) = lnA cur l
  | _, [], cur, p, _, _ => rfl
  | 0, c :: r, _, _, hn, _ => absurd hn (by simp)
  | n + 1, c :: r, cur, p, hn, hp => by
    have hr : r.length ≤ n := by simpa using hn
    show lnA cur (piece [10] p c ++ endsP [10] c r) = _
    by_cases h1 : c = 10
    · subst h1
      have hp' : ¬ ((10 : UInt8) = 10 ∧ p = 13) := fun t => hp ⟨t.2, rfl⟩
      rw [piece_end hp' (.inl rfl)]
      show lnA cur (10 :: endsP [10] 10 r) = _
      rw [ln_10, ln_10, ln_ends n r [] 10 hr (fun t => absurd t.1 (by decide))]
    · by_cases h2 : c = 13
      · subst h2
        rw [piece_end (fun t => absurd t.1 (by decide)) (.inr rfl)]
        show lnA cur (10 :: endsP [10] 13 r) = _
        rw [ln_10]
        by_cases h3 : r.head? = some 10
        · cases r with
          | nil => cases h3
          | cons d r =>
            have : d = 10 := by simpa using h3
            subst this
            rw [ln_1310]
            show cur :: lnA [] (piece [10] 13 10 ++ endsP [10] 10 r) = _
            rw [piece_none rfl rfl, List.nil_append, ln_ends n r [] 10 (by simp at hr; omega) (fun t => absurd t.1 (by decide))]
        · rw [ln_13 h3, ln_ends n r [] 13 hr (fun t => h3 t.2)]
      · rw [piece_byte h1 h2]
        show lnA cur (c :: endsP [10] c r) = _
        rw [ln_byte h1 h2, ln_byte h1 h2, ln_ends n r _ c hr (fun t => h2 t.1)]
theorem ln_lines (s : ByteArray) : lnA [] (bL (linesS s)) = linN (bL s) := ln_ends _ (bL s) [] 0 (Nat.le_refl _) (fun t => absurd t.1 (by decide))
theorem lines_no13 (s : ByteArray) : ∀ c ∈ bL (linesS s), c ≠ 13 := ends_no13 (bL s) 0
theorem cut10_hit (r : List UInt8) : cutL [10] (10 :: r) = some ([], r) := cut_hit (by rfl)
theorem cut10_miss {c : UInt8} (r : List UInt8) (h : c ≠ 10) : cutL [10] (c :: r) = (cutL [10] r).map fun p => (c :: p.1, p.2) := cut_miss (by
  show (10 == c && _) = false
  rw [beq_eq_false_iff_ne.2 (fun e => h e.symm)]; rfl)
theorem ln_cut0 : ∀ (r cur : List UInt8), (∀ c ∈ r, c ≠ 13) → match cutL [10] r with
    | none => lnA cur r = if cur ++ r = [] then [] else [cur ++ r]
    | some (p, q) => lnA cur r = (cur ++ p) :: lnA [] q ∧ (∀ c ∈ q, c ≠ 13) ∧ q.length < r.length
  | [], cur, _ => by
    show lnA cur [] = if cur ++ [] = [] then [] else [cur ++ []]
    rw [ln_nil, List.append_nil]
  | c :: r, cur, h => by
    have hr : ∀ d ∈ r, d ≠ 13 := fun d hd => h d (List.mem_cons_of_mem _ hd)
    by_cases h1 : c = 10
    · subst h1
      rw [cut10_hit]
      refine ⟨?_, hr, by simp⟩
      rw [ln_10, List.append_nil]
    · have ih := ln_cut0 r (cur ++ [c]) hr
      rw [cut10_miss r h1]
      have e : lnA cur (c :: r) = lnA (cur ++ [c]) r := ln_byte h1 (h c List.mem_cons_self)
      cases q : cutL [10] r with
      | none =>
        rw [q] at ih
        have ih : lnA (cur ++ [c]) r = if cur ++ [c] ++ r = [] then [] else [cur ++ [c] ++ r] := ih
        show lnA cur (c :: r) = if cur ++ c :: r = [] then [] else [cur ++ c :: r]
        rw [e, ih]
        simp
      | some pq =>
        obtain ⟨p, t⟩ := pq
        rw [q] at ih
        obtain ⟨i1, i2, i3⟩ := ih
        refine ⟨?_, i2, by simp only [List.length_cons]; omega⟩
        rw [e, i1]
        simp
theorem ln_cut (r : List UInt8) (h : ∀ c ∈ r, c ≠ 13) (z : r ≠ []) : lnA [] r = (cutT [10] r).1 :: lnA [] (cutT [10] r).2.1 ∧ (∀ c ∈ (cutT [10] r).2.1, c ≠ 13) ∧ (cutT [10] r).2.1.length < r.length := by
  have g := ln_cut0 r [] h
  unfold cutT
  cases q : cutL [10] r with
  | none =>
    rw [q] at g
    have g : lnA [] r = if [] ++ r = [] then [] else [[] ++ r] := g
    rw [List.nil_append, if_neg z] at g
    refine ⟨?_, (fun c hc => by cases hc), List.length_pos_iff.2 z⟩
    show lnA [] r = r :: lnA [] []
    rw [g, ln_nil]
    rfl
  | some pq =>
    obtain ⟨p, t⟩ := pq
    rw [q] at g
    exact ⟨g.1, g.2.1, g.2.2⟩
end Go.Proofs.Ytmnpnpmopbkabaa

namespace Go.Proofs.Ytmnpnpmopbkabaa
open Go.RowKit
set_option maxRecDepth 100000
set_option maxHeartbeats 400000 in
theorem lines_any (s : ByteArray) (w : World) (hs : s.size ≤ 1099511627776) :
    Calls Try.prog 18 #[.string s] w fun r w' => r = .returned (.string (linesS s)) ∧ Below w.heap.size w w' := by
  go_enter Try.func18, Try.ntmps18
  go_wp2_with fail
  refine (withEnds_any s ⟨#[10]⟩ _ hs (by decide)).mono ?_
  rintro r w1 ⟨rfl, b1⟩
  go_wp2_with fail
  go_ret
  exact ⟨rfl, b1⟩
end Go.Proofs.Ytmnpnpmopbkabaa

namespace Go.Proofs.Ytmnpnpmopbkabaa
open Go.Shelf Go.RowKit
set_option maxRecDepth 100000
def pctren : Go.Shelf.Ren := ⟨fun | 145 => 19 | 217 => 30 | 219 => 28 | 220 => 24 | 224 => 32 | 225 => 31 | 266 => 35 | 267 => 33 | 314 => 36 | n => n, fun | 3 => 3 | 4 => 4 | 5 => 5 | 9 => 9 | 46 => 54 | 51 => 56 | 59 => 44 | 72 => 36 | 146 => 57 | n => n, fun | 1 => 0 | n => n⟩
theorem lays145 : Go.Proofs.Lays.n145 Try.prog pctren := {
  mixed := by kernel_rfl
  f145 := Try.func19.trans (congrArg some (by kernel_rfl))
  f217 := Try.func30.trans (congrArg some (by kernel_rfl))
  f219 := Try.func28.trans (congrArg some (by kernel_rfl))
  f220 := Try.func24.trans (congrArg some (by kernel_rfl))
  f224 := Try.func32.trans (congrArg some (by kernel_rfl))
  f225 := Try.func31.trans (congrArg some (by kernel_rfl))
  f266 := Try.func35.trans (congrArg some (by kernel_rfl))
  f267 := Try.func33.trans (congrArg some (by kernel_rfl))
  f314 := Try.func36.trans (congrArg some (by kernel_rfl))
  t3 := Try.underlying3
  a3 := Try.isAgg3
  z3 := Try.sizeOf3
  v3 := Try.zeroValue3
  t4 := Try.underlying4
  a4 := Try.isAgg4
  z4 := Try.sizeOf4
  v4 := Try.zeroValue4
  t5 := Try.underlying5
  a5 := Try.isAgg5
  z5 := Try.sizeOf5
  v5 := Try.zeroValue5
  t9 := Try.underlying9
  a9 := Try.isAgg9
  z9 := Try.sizeOf9
  v9 := Try.zeroValue9
  t46 := Try.underlying54
  a46 := Try.isAgg54
  z46 := Try.sizeOf54
  v46 := Try.zeroValue54
  t51 := Try.underlying56
  a51 := Try.isAgg56
  z51 := Try.sizeOf56
  v51 := Try.zeroValue56
  t59 := Try.underlying44
  a59 := Try.isAgg44
  z59 := Try.sizeOf44
  v59 := Try.zeroValue44
  t146 := Try.underlying57
  a146 := Try.isAgg57
  z146 := Try.sizeOf57
  v146 := Try.zeroValue57
  g1 := by kernel_rfl }
theorem cut_anyT (t l : List UInt8) (w : World) (hs : l.length ≤ 1073741824) (ht : t ≠ []) (hm : SomeMax w) :
    Calls Try.prog 19 #[.string (txt l), .string (txt t)] w fun e w' => e = .returned (.tuple #[.string (txt (cutT t l).1), .string (txt (cutT t l).2.1), .bool (cutT t l).2.2]) ∧ Below w.heap.size w w' := by
  obtain ⟨m, hm⟩ := hm
  have := Any.strings_Cut lays145 (txt l) (txt t) m w (by show l.length < _; omega) hm
  have e1 : Lib.cut (txt l).data.toList (txt t).data.toList = cutT t l := cut_lib t ht l
  rw [e1] at this
  refine this.mono ?_
  rintro e w' ⟨rfl, n, rfl⟩
  exact ⟨rfl, ⟨rfl, rfl, rfl, Nat.le_refl _, fun _ _ => rfl⟩⟩
end Go.Proofs.Ytmnpnpmopbkabaa

namespace Go.Proofs.Ytmnpnpmopbkabaa
open Go.RowKit
set_option maxRecDepth 100000
theorem txt_noneN (l : List UInt8) : (txt l).toList = [] ↔ l = [] := by rw [ByteArray.toList_eq]; exact Iff.rfl
theorem txt_someN {l : List UInt8} (h : l ≠ []) : (txt l).toList.isEmpty = false := by
  cases g : (txt l).toList.isEmpty with
  | false => rfl
  | true => exact absurd ((txt_noneN l).1 (List.isEmpty_iff.1 g)) h
def sizeN : Value → Nat
  | .string s => s.size
  | _ => 0
set_option maxHeartbeats 8000000 in
theorem plSplit_any (s : ByteArray) (w : World) (hs : s.size ≤ 16777216) (hT : PlTabs w) :
    Calls Try.prog 11 #[.string s] w fun e w' => ∃ v', e = .returned v' ∧ DrawsV w' v' ((linN (bL s)).map txt) ∧ Below w.heap.size w w' := by
  have HL := hide (lines_any s w (by omega))
  have h13 := lines_no13 s
  have hln := ln_lines s
  have LS : (bL (linesS s)).length ≤ 33554432 := by rw [len_bL]; have := linesS_size s; omega
  obtain ⟨r0, hr0⟩ : ∃ r, linesS s = txt r := ⟨bL (linesS s), by cases linesS s; rfl⟩
  rw [hr0] at HL h13 hln LS
  have h13 : ∀ c ∈ r0, c ≠ 13 := h13
  have hln : lnA [] r0 = linN (bL s) := hln
  have LS : r0.length ≤ 33554432 := LS
  clear hr0
  generalize linN (bL s) = X at *
  have TT := hide hT
  have H13 := hide h13
  have HX := hide hln
  clear hT h13 hln
  go_enter Try.func11, Try.ntmps11
  go_wp2_with fail
  refine HL.out.mono ?_
  rintro e w1 ⟨rfl, b1⟩
  have B1 := hide b1
  clear b1 HL
  go_wp2_with fail
  go_loopw [3, 4] (fun ov sv wr => ∃ (r : List UInt8) (done : List (List UInt8)), sv = .string (txt r) ∧ done.length + r.length ≤ 33554432 ∧ Hid (∀ c ∈ r, c ≠ 13) ∧ Hid (done ++ lnA [] r = X) ∧ OwnsT 9 w.heap.size wr ov done ∧ Hid (Below w.heap.size w wr)) (fun _ sv _ => sizeN sv)
  case atStart => exact ⟨r0, [], rfl, by simpa using LS, H13, HX, OwnsT.nil _ _ _, B1⟩
  case round =>
    rename World => wr
    obtain ⟨r, done, rfl, dn, N13, HD, OW, BW⟩ := hrel
    clear H13 HX B1
    by_cases z : r = []
    · subst z
      have n1 := (txt_noneN []).2 rfl
      have E2 : Hid (done = X) := by
        have := HD.out
        rw [ln_nil, if_pos rfl, List.append_nil] at this
        exact this
      clear HD N13 TT
      go_wp2_with fail
      go_ret
      exact ⟨_, rfl, by rw [← E2.out]; exact draws_ownN OW, BW.out⟩
    · have n1 : ¬ (txt r).toList = [] := fun h => z ((txt_noneN r).1 h)
      have n2 := txt_someN z
      have HC := hide (cut_anyT [10] r wr (by omega) (by decide) (TT.out.below BW.out))
      obtain ⟨c1, c2, c3⟩ := ln_cut r N13.out z
      have LH := (cutT_len [10] r).1
      have C1 := hide c1
      have C2 := hide c2
      have MS : sizeN (.string (txt r)) = r.length := rfl
      clear c1 c2
      generalize hc : cutT [10] r = t at *
      obtain ⟨a, q, f⟩ := t
      clear hc
      dsimp only at C1 C2 c3 LH
      have HC : Hid (Calls Try.prog 19 #[.string (txt r), .string (txt [10])] wr fun e w' => e = .returned (.tuple #[.string (txt a), .string (txt q), .bool f]) ∧ Below wr.heap.size wr w') := HC
      have HN : Hid ((done ++ [a]) ++ lnA [] q = X) := by
        show _ = _
        rw [← HD.out, C1.out, List.append_assoc]
        rfl
      have OW' := hide OW
      clear HD C1 OW
      go_wp2_with fail
      refine HC.out.mono ?_
      rintro e w2 ⟨rfl, b2⟩
      have BW2 := hide (chain BW.out b2)
      have OW2 := OW'.out.below b2
      have sw := BW2.out.size
      clear b2 HC BW OW' n1 n2
      go_wp2_with (at_builtin; refine wpList_append_item textTypesN _ _ rfl _ _ rfl w.heap.size _ _ a rfl rfl OW2 rfl (by omega) (by omega) ?_; intro v' w' o' b')
      go_roundw
      case rel => exact ⟨q, done ++ [a], rfl, by rw [List.length_append]; show _ + 1 + _ ≤ _; omega, C2, HN, o', BW2.out.trans b'⟩
      case measure => show q.length < r.length; omega

end Go.Proofs.Ytmnpnpmopbkabaa
