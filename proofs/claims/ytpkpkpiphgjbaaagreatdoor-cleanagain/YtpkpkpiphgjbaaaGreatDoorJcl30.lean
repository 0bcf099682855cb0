/- Joined texts. CleanSz: How long a cleaned text is; plain facts of no program. No condition. CleanLaws: Stage 13's wakes and long, and its five laws, walked: each returns true, and what lay in the world lies there still. Conditions: the tables that the program's road names; a row of attributes as it lies in the world. Shaped: The wrap of a row that lists variables, for a contract that wants the world's shape besides (that a variable of the library's own holds some number). No condition of its own. StepTabs: The tables of the road of layer 12, from the rows' own condition. No condition of its own. -/
import Derived.Test.YtpkpkpiphgjbaaaGreatDoorJcl8
import Derived.Test.YtpkpkpiphgjbaaaGreatDoorJcl25
import Derived.Test.YtpkpkpiphgjbaaaGreatDoorJcl27
import Derived.Test.YtpkpkpiphgjbaaaGreatDoorJcl28
import Derived.Test.YtpkpkpiphgjbaaaGreatDoorJcl29
import Derived.Handed
import Derived.Shelf.Vars
import Derived.Test.YtpkpkpiphgjbaaaGreatDoorRows
import Derived.Lib.LaidU8
import Derived.LaidMore
import Derived.Stop.LaidErr
import Derived.Test.YtpkpkpiphgjbaaaGreatDoorJcl24
namespace Go.Proofs.YtpkpkpiphgjbaaaGreatDoor
open Go.RowKit

theorem num_empty : numK 14 [] = none := by decide +kernel
theorem endsP_small : ∀ (l : List UInt8) (p : UInt8), (endsP [] p l).length ≤ l.length
  | [], _ => Nat.le_refl _
  | c :: l, p => by
    have ih := endsP_small l c
    have : (piece [] p c).length ≤ 1 := by unfold piece; split <;> (try split) <;> simp
    show (piece [] p c ++ endsP [] c l).length ≤ _
    rw [List.length_append, List.length_cons]; omega
theorem cleanM_small (l : List UInt8) : (cleanM l).length ≤ 2 * l.length + 1 := by
  have h1 := join_take_le (splitL 44 l) (splitL 44 l).length
  have h2 := split_sum 44 l
  have h3 := split_count 44 l
  rw [List.take_length] at h1
  unfold cleanM
  omega
theorem cleanL_small (l : List UInt8) : (cleanL l).length ≤ l.length + 7 := by
  unfold cleanL
  split
  · unfold lowL; rw [List.length_map]; omega
  · show (7 : Nat) ≤ _; omega
theorem clean_small {k : Int} {ax : List (ByteArray × ByteArray)} {s : ByteArray} {t : List UInt8} (h : CleanIs k ax s.data.toList t) (hs : s.size ≤ 8192) : (txt t).size ≤ 100000 := by
  have hl : s.data.toList.length = s.size := by simp
  have nb : (noBrL s.data.toList).length ≤ s.size := by have := endsP_small s.data.toList 0; unfold noBrL; omega
  have tr : (trimM s.data.toList).length ≤ s.size := by have := stripL_le (noBrL s.data.toList); unfold trimM; omega
  rw [txt_size]
  rcases h with ⟨h, rfl⟩ | ⟨h, rfl⟩ | ⟨h, q, rfl⟩ | ⟨h, q, rfl⟩ | ⟨h, q, rfl⟩ | ⟨h, q, rfl⟩ | ⟨h, q, rfl⟩ | ⟨h, n, q, ht⟩ | ⟨h, rfl⟩ | ⟨h, rfl⟩ | ⟨h, rfl⟩
  · omega
  · omega
  · have := cleanM_small s.data.toList; omega
  · omega
  · omega
  · simp
  · simp
  · have := shk_small ht; rw [txt_size] at this; omega
  · unfold rangeT
    split
    · omega
    · have r := rangeK_range ax s.data.toList
      have := shk_small (k := 14) (n := rangeK ax s.data.toList) (t := showL (rangeK ax s.data.toList)) (.inl ⟨.inr rfl, .inl ⟨r.1, r.2, rfl⟩⟩)
      rw [txt_size] at this; omega
  · have := cleanL_small s.data.toList; omega
  · omega

end Go.Proofs.YtpkpkpiphgjbaaaGreatDoor

namespace Go.Proofs.YtpkpkpiphgjbaaaGreatDoor
open Go.RowKit

theorem wake_50 : CleanIs 14 [] (⟨#[120]⟩ : ByteArray).data.toList [53, 48] := .inr (.inr (.inr (.inr (.inr (.inr (.inr (.inr (.inl ⟨rfl, by decide +kernel⟩))))))))
theorem wake_ab : CleanIs 2 [] (⟨#[97, 10, 98]⟩ : ByteArray).data.toList [97, 98] := .inl ⟨.inl rfl, by decide +kernel⟩
theorem nil_ok : AxOK [] := ⟨by decide, fun a q => by cases q⟩
theorem nil_attrs (w : World) : AttrsV w (.slice none 0 0) [] := ⟨none, 0, rfl, .inl rfl⟩
set_option maxHeartbeats 4000000 in
set_option maxRecDepth 100000 in
theorem clWakes_any (w : World) (hT : ClTabs w) :
    Calls Tryz.prog 8 #[] w fun e w' => e = .returned (.bool true) ∧ Below w.heap.size w w' := by
  have H1 := hide (clValue_any _ _ w (nil_attrs w) nil_ok wake_50 (by decide) hT)
  have H2 := hide (fun W (hb : Below w.heap.size w W) => clValue_any _ _ W (nil_attrs W) nil_ok wake_ab (by decide) (hT.below hb))
  rw [show txt [53, 48] = ⟨#[53, 48]⟩ from rfl] at H1
  rw [show txt [97, 98] = ⟨#[97, 98]⟩ from rfl] at H2
  clear hT
  go_enter Tryz.func8, Tryz.ntmps8
  go_wp2_with fail
  refine H1.out.mono ?_
  rintro e w1 ⟨rfl, b1⟩
  go_wp2_with fail
  refine (H2.out _ b1).mono ?_
  rintro e w2 ⟨rfl, b2⟩
  go_wp2_with fail
  go_ret
  exact ⟨rfl, chain b1 b2⟩

/-- Is anything longer than a statement takes? -/
def longC (ax : List (ByteArray × ByteArray)) (s : ByteArray) : Bool := decide (100 < ax.length) || (decide (8192 < s.size) || ax.any fun a => decide (8192 < a.2.size))
structure ShortC (ax : List (ByteArray × ByteArray)) (s : ByteArray) : Prop where
  ax : AxOK ax
  s : s.size ≤ 8192
theorem longC_no {ax : List (ByteArray × ByteArray)} {s : ByteArray} (h : longC ax s = false) : ShortC ax s := by
  unfold longC at h
  rw [Bool.or_eq_false_iff, Bool.or_eq_false_iff, decide_eq_false_iff_not, decide_eq_false_iff_not, List.any_eq_false] at h
  refine ⟨⟨by omega, fun a q => ?_⟩, by omega⟩
  have := h.2.2 a q
  simp only [decide_eq_true_eq] at this
  omega
set_option maxHeartbeats 4000000 in
set_option maxRecDepth 100000 in
theorem clLong_any (v : Value) (ax : List (ByteArray × ByteArray)) (s : ByteArray) (w : World) (hv : AttrsV w v ax) (hl : ax.length ≤ 4398046511104) :
    Calls Tryz.prog 9 #[v, .string s] w fun e w' => e = .returned (.bool (longC ax s)) ∧ w' = w := by
  obtain ⟨p, c, rfl, hv⟩ := hv
  by_cases h1 : 100 < ax.length
  · have E : Hid (longC ax s = true) := by show _ = _; unfold longC; rw [decide_eq_true h1]; rfl
    have g1 : (100 : Int) < (ax.length : Int) := by omega
    clear hv h1
    go_enter Tryz.func9, Tryz.ntmps9
    go_wp2_with fail
    go_ret
    exact ⟨ret_bool E.out.symm, rfl⟩
  · have g1 : ¬ (100 : Int) < (ax.length : Int) := by omega
    have d1 : decide ((100 : Int) < (ax.length : Int)) = false := decide_eq_false g1
    by_cases h2 : 8192 < s.size
    · have E : Hid (longC ax s = true) := by show _ = _; unfold longC; rw [decide_eq_true h2, Bool.true_or, Bool.or_true]
      have g2 : (8192 : Int) < (s.size : Int) := by omega
      clear hv h1 h2
      go_enter Tryz.func9, Tryz.ntmps9
      go_wp2_with fail
      go_ret
      exact ⟨ret_bool E.out.symm, rfl⟩
    · have g2 : ¬ (8192 : Int) < (s.size : Int) := by omega
      have d2 : decide ((8192 : Int) < (s.size : Int)) = false := decide_eq_false g2
      have E : Hid (longC ax s = ax.any fun a => decide (8192 < a.2.size)) := by show _ = _; unfold longC; rw [decide_eq_false h1, decide_eq_false h2]; rfl
      have HV := hide hv
      clear hv h1 h2
      go_enter Tryz.func9, Tryz.ntmps9
      go_wp2_with fail
      go_loop [16] (fun iv => ∃ k : Nat, k ≤ ax.length ∧ iv = .int .i64 k ∧ Hid (∀ j (_ : j < ax.length), j < k → ax[j].2.size ≤ 8192)) (fun iv => ax.length - (intOf iv).toNat)
      case atStart => exact ⟨0, Nat.zero_le _, rfl, fun j _ q => by omega⟩
      case round =>
        obtain ⟨k, hk, rfl, hd⟩ := hrel
        by_cases h : k < ax.length
        · have i1 : (k : Int) < (ax.length : Int) := by omega
          have i0 : (0 : Int) ≤ (k : Int) := by omega
          obtain ⟨b, o, rfl, hc⟩ : ∃ b o, p = some ⟨b, o, none⟩ ∧ ∀ i (h : i < ax.length), w.cell? ⟨b, o + i * 2, none⟩ = some (.string ax[i].1) ∧ w.cell? ⟨b, o + i * 2 + 1, none⟩ = some (.string ax[i].2) := by
            rcases HV.out with t | t
            · rw [t] at h; simp at h
            · exact t
          have x1 := (hc k h).2
          clear hc HV
          by_cases q : 8192 < ax[k].2.size
          · have q1 : (8192 : Int) < (ax[k].2.size : Int) := by omega
            have E2 : Hid (longC ax s = true) := by
              show _ = _
              rw [E.out, List.any_eq_true]
              exact ⟨_, List.getElem_mem h, decide_eq_true q⟩
            clear q hd
            generalize ax[k].2 = t at *
            go_wp2_with fail
            go_ret
            exact ⟨ret_bool E2.out.symm, rfl⟩
          · have q1 : ¬ (8192 : Int) < (ax[k].2.size : Int) := by omega
            have ND : Hid (∀ j (_ : j < ax.length), j < k + 1 → ax[j].2.size ≤ 8192) := by
              intro j hj r
              rcases Nat.lt_or_ge j k with t | t
              · exact hd.out j hj t
              · obtain rfl : j = k := by omega
                omega
            clear q hd
            generalize ax[k].2 = t at *
            go_wp2_with fail
            go_round
            case rel => exact ⟨k + 1, by omega, by go_num, ND⟩
            case measure => simp [intOf]; omega
        · obtain rfl : k = ax.length := by omega
          have E2 : Hid (longC ax s = false) := by
            show _ = _
            rw [E.out, List.any_eq_false]
            intro a ha
            obtain ⟨j, hj, rfl⟩ := List.getElem_of_mem ha
            have := hd.out j hj hj
            simp only [decide_eq_true_eq]
            omega
          clear hd h
          go_wp2_with fail
          go_ret
          exact ⟨ret_bool E2.out.symm, rfl⟩

theorem clean_14 {ax : List (ByteArray × ByteArray)} {l : List UInt8} : CleanIs 14 ax l (rangeT ax l) := .inr (.inr (.inr (.inr (.inr (.inr (.inr (.inr (.inl ⟨rfl, rfl⟩))))))))

set_option maxHeartbeats 4000000 in
set_option maxRecDepth 100000 in
theorem cleanValues_walk (k : Int) (v : Value) (ax : List (ByteArray × ByteArray)) (w : World) (hv : AttrsV w v ax) (hl : ax.length ≤ 4398046511104) (s : ByteArray) (hT : ClTabs w) :
    Calls Tryz.prog 3 #[.int .i64 k, v, .string s] w fun e w' => e = .returned (.bool true) ∧ Below w.heap.size w w' := by
  have HW := hide (clWakes_any w hT)
  have HG := hide (fun W (hb : Below w.heap.size w W) => clLong_any v ax s W (hv.below hb) hl)
  have HT := hide hT
  have HV := hide hv
  obtain ⟨pp, cc, ev, _⟩ := hv
  clear hT
  cases q : longC ax s with
  | true =>
    rw [q] at HG
    clear q HV
    subst ev
    go_enter Tryz.func3, Tryz.ntmps3
    go_wp2_with fail
    refine HW.out.mono ?_
    rintro e w1 ⟨rfl, b1⟩
    go_wp2_with fail
    refine (HG.out _ b1).mono ?_
    rintro e w2 ⟨rfl, hw2⟩
    obtain rfl : w1 = w2 := hw2.symm
    go_wp2_with fail
    go_ret
    exact ⟨rfl, b1⟩
  | false =>
    rw [q] at HG
    have S := longC_no q
    clear q
    obtain ⟨t, ht⟩ := clean_some k ax s.data.toList
    have H1 := hide (fun W (hb : Below w.heap.size w W) => clValue_any v ax W (HV.out.below hb) S.ax ht (Nat.le_trans S.s (by decide)) (HT.out.below hb))
    have H2 := hide (fun W (hb : Below w.heap.size w W) => refCleanV_any v ax W (HV.out.below hb) S.ax ht (Nat.le_trans S.s (by decide)))
    clear S ht
    generalize txt t = x at *
    subst ev
    go_enter Tryz.func3, Tryz.ntmps3
    go_wp2_with fail
    refine HW.out.mono ?_
    rintro e w1 ⟨rfl, b1⟩
    go_wp2_with fail
    refine (HG.out _ b1).mono ?_
    rintro e w2 ⟨rfl, hw2⟩
    obtain rfl : w1 = w2 := hw2.symm
    have B1 := hide b1
    clear b1
    go_wp2_with fail
    refine (H1.out _ B1.out).mono ?_
    rintro e w2' ⟨rfl, b2⟩
    have B2 := hide (chain B1.out b2)
    clear b2 B1
    go_wp2_with fail
    refine (H2.out _ B2.out).mono ?_
    rintro e w3' ⟨rfl, b3⟩
    have B3 := hide (chain B2.out b3)
    clear b3 B2
    go_wp2_with fail
    go_ret
    exact ⟨rfl, B3.out⟩

set_option maxHeartbeats 4000000 in
set_option maxRecDepth 100000 in
theorem cleanAgain_walk (k : Int) (v : Value) (ax : List (ByteArray × ByteArray)) (w : World) (hv : AttrsV w v ax) (hl : ax.length ≤ 4398046511104) (s : ByteArray) (hT : ClTabs w) :
    Calls Tryz.prog 4 #[.int .i64 k, v, .string s] w fun e w' => e = .returned (.bool true) ∧ Below w.heap.size w w' := by
  have HW := hide (clWakes_any w hT)
  have HG := hide (fun W (hb : Below w.heap.size w W) => clLong_any v ax s W (hv.below hb) hl)
  have HT := hide hT
  have HV := hide hv
  obtain ⟨pp, cc, ev, _⟩ := hv
  clear hT
  cases q : longC ax s with
  | true =>
    rw [q] at HG
    clear q HV
    subst ev
    go_enter Tryz.func4, Tryz.ntmps4
    go_wp2_with fail
    refine HW.out.mono ?_
    rintro e w1 ⟨rfl, b1⟩
    go_wp2_with fail
    refine (HG.out _ b1).mono ?_
    rintro e w2 ⟨rfl, hw2⟩
    obtain rfl : w1 = w2 := hw2.symm
    go_wp2_with fail
    go_ret
    exact ⟨rfl, b1⟩
  | false =>
    rw [q] at HG
    have S := longC_no q
    clear q
    obtain ⟨t, ht⟩ := clean_some k ax s.data.toList
    have H1 := hide (fun W (hb : Below w.heap.size w W) => clValue_any v ax W (HV.out.below hb) S.ax ht (Nat.le_trans S.s (by decide)) (HT.out.below hb))
    have sm := clean_small ht S.s
    have ag := clean_again ht
    have H2 := hide (fun W (hb : Below w.heap.size w W) => clValue_any v ax W (HV.out.below hb) S.ax (s := txt t) (by rw [txt_data]; exact ag) sm (HT.out.below hb))
    clear S ht ag
    generalize txt t = x at *
    subst ev
    go_enter Tryz.func4, Tryz.ntmps4
    go_wp2_with fail
    refine HW.out.mono ?_
    rintro e w1 ⟨rfl, b1⟩
    go_wp2_with fail
    refine (HG.out _ b1).mono ?_
    rintro e w2 ⟨rfl, hw2⟩
    obtain rfl : w1 = w2 := hw2.symm
    have B1 := hide b1
    clear b1
    go_wp2_with fail
    refine (H1.out _ B1.out).mono ?_
    rintro e w2' ⟨rfl, b2⟩
    have B2 := hide (chain B1.out b2)
    clear b2 B1
    go_wp2_with fail
    refine (H2.out _ B2.out).mono ?_
    rintro e w3' ⟨rfl, b3⟩
    have B3 := hide (chain B2.out b3)
    clear b3 B2
    go_wp2_with fail
    go_ret
    exact ⟨rfl, B3.out⟩

set_option maxHeartbeats 4000000 in
set_option maxRecDepth 100000 in
theorem cleanRange_walk (v : Value) (ax : List (ByteArray × ByteArray)) (w : World) (hv : AttrsV w v ax) (hl : ax.length ≤ 4398046511104) (s : ByteArray) (hT : ClTabs w) :
    Calls Tryz.prog 5 #[v, .string s] w fun e w' => e = .returned (.bool true) ∧ Below w.heap.size w w' := by
  have HW := hide (clWakes_any w hT)
  have HG := hide (fun W (hb : Below w.heap.size w W) => clLong_any v ax s W (hv.below hb) hl)
  have HT := hide hT
  have HV := hide hv
  obtain ⟨pp, cc, ev, _⟩ := hv
  clear hT
  cases q : longC ax s with
  | true =>
    rw [q] at HG
    clear q HV
    subst ev
    go_enter Tryz.func5, Tryz.ntmps5
    go_wp2_with fail
    refine HW.out.mono ?_
    rintro e w1 ⟨rfl, b1⟩
    go_wp2_with fail
    refine (HG.out _ b1).mono ?_
    rintro e w2 ⟨rfl, hw2⟩
    obtain rfl : w1 = w2 := hw2.symm
    go_wp2_with fail
    go_ret
    exact ⟨rfl, b1⟩
  | false =>
    rw [q] at HG
    have S := longC_no q
    clear q
    have H1 := hide (fun W (hb : Below w.heap.size w W) => clValue_any v ax W (HV.out.below hb) S.ax (clean_14 (ax := ax) (l := s.data.toList)) (Nat.le_trans S.s (by decide)) (HT.out.below hb))
    have sm := clean_small (clean_14 (ax := ax) (l := s.data.toList)) S.s
    have rn := rangeT_num ax s.data.toList
    have ri := rangeK_is ax s.data.toList
    have H2 := hide (fun W => refValue_any 14 (txt (rangeT ax s.data.toList)) W sm)
    rw [txt_data, rn, opt_some] at H2
    have H3 := hide (fun W (hb : Below w.heap.size w W) => refLeastK_any 14 v ax W (HV.out.below hb) S.ax)
    have H4 := hide (fun W (hb : Below w.heap.size w W) => refMostK_any 14 v ax W (HV.out.below hb) S.ax)
    obtain ⟨x1, e1⟩ := least14 ax
    obtain ⟨x2, e2⟩ := most14 ax
    rw [e1] at H3
    rw [e2] at H4
    obtain ⟨g1, g2, _⟩ := ri
    generalize rangeK ax s.data.toList = n at *
    generalize loK ax = lo at *
    generalize hiK ax = hi at *
    generalize txt (rangeT ax s.data.toList) = x at *
    clear S e1 e2 rn sm
    subst ev
    go_enter Tryz.func5, Tryz.ntmps5
    go_wp2_with fail
    refine HW.out.mono ?_
    rintro e w1 ⟨rfl, b1⟩
    go_wp2_with fail
    refine (HG.out _ b1).mono ?_
    rintro e w2 ⟨rfl, hw2⟩
    obtain rfl : w1 = w2 := hw2.symm
    have B1 := hide b1
    clear b1
    rcases (show n ≤ hi ∨ (¬ n ≤ hi ∧ hi < lo) by omega) with c1 | ⟨c1, c2⟩
    · clear g2
      go_wp2_with fail
      refine (H1.out _ B1.out).mono ?_
      rintro e w2' ⟨rfl, b2⟩
      have B2 := hide (chain B1.out b2)
      clear b2 B1
      go_wp2_with fail
      refine (H2.out _).mono ?_
      rintro e w3' ⟨rfl, b3⟩
      have B3 := hide (chain B2.out b3)
      clear b3 B2
      go_wp2_with fail
      refine (H3.out _ B3.out).mono ?_
      rintro e w4' ⟨rfl, b4⟩
      have B4 := hide (chain B3.out b4)
      clear b4 B3
      go_wp2_with fail
      refine (H4.out _ B4.out).mono ?_
      rintro e w5' ⟨rfl, b5⟩
      have B5 := hide (chain B4.out b5)
      clear b5 B4
      go_wp2_with fail
      go_ret
      exact ⟨rfl, B5.out⟩
    · have d1 : decide (n ≤ hi) = false := decide_eq_false c1
      clear g2
      go_wp2_with fail
      refine (H1.out _ B1.out).mono ?_
      rintro e w2' ⟨rfl, b2⟩
      have B2 := hide (chain B1.out b2)
      clear b2 B1
      go_wp2_with fail
      refine (H2.out _).mono ?_
      rintro e w3' ⟨rfl, b3⟩
      have B3 := hide (chain B2.out b3)
      clear b3 B2
      go_wp2_with fail
      refine (H3.out _ B3.out).mono ?_
      rintro e w4' ⟨rfl, b4⟩
      have B4 := hide (chain B3.out b4)
      clear b4 B3
      go_wp2_with fail
      refine (H4.out _ B4.out).mono ?_
      rintro e w5' ⟨rfl, b5⟩
      have B5 := hide (chain B4.out b5)
      clear b5 B4
      go_wp2_with fail
      go_ret
      exact ⟨rfl, B5.out⟩

/-- A range's value, cleaned, is off no step, unless its bounds are nearer than a step. -/
theorem off_range (ax : List (ByteArray × ByteArray)) (l : List UInt8) (st : Int) (hS : stepK 14 ax = some st) : (flagsK 14 ax (rangeT ax l)).2.2 = false ∨ hiK ax < loK ax ∨ hiK ax - loK ax < st := by
  rcases (rangeK_is ax l).2.2 st hS with q | q | q
  · left
    unfold flagsK
    rw [rangeT_num]
    have : ∀ (k n : Int) (L M S : Option Int) (b : Int), (flagsG k n L M S b).2.2 = offG S n b := fun k n L M S b => by
      unfold flagsG
      split <;> rfl
    show (flagsG 14 (rangeK ax l) _ _ _ _).2.2 = false
    rw [this, hS]
    show (true && !fitV (rangeK ax l) (baseK 14 ax) st) = false
    rw [q]; rfl
  · exact .inr (.inl q)
  · exact .inr (.inr q)

set_option maxHeartbeats 4000000 in
set_option maxRecDepth 100000 in
theorem cleanSteps_walk (v : Value) (ax : List (ByteArray × ByteArray)) (w : World) (hv : AttrsV w v ax) (hl : ax.length ≤ 4398046511104) (s : ByteArray) (hT : ClTabs w) :
    Calls Tryz.prog 6 #[v, .string s] w fun e w' => e = .returned (.bool true) ∧ Below w.heap.size w w' := by
  have HW := hide (clWakes_any w hT)
  have HG := hide (fun W (hb : Below w.heap.size w W) => clLong_any v ax s W (hv.below hb) hl)
  have HT := hide hT
  have HV := hide hv
  obtain ⟨pp, cc, ev, _⟩ := hv
  clear hT
  cases q : longC ax s with
  | true =>
    rw [q] at HG
    clear q HV
    subst ev
    go_enter Tryz.func6, Tryz.ntmps6
    go_wp2_with fail
    refine HW.out.mono ?_
    rintro e w1 ⟨rfl, b1⟩
    go_wp2_with fail
    refine (HG.out _ b1).mono ?_
    rintro e w2 ⟨rfl, hw2⟩
    obtain rfl : w1 = w2 := hw2.symm
    go_wp2_with fail
    go_ret
    exact ⟨rfl, b1⟩
  | false =>
    rw [q] at HG
    have S := longC_no q
    clear q
    have H1 := hide (fun W (hb : Below w.heap.size w W) => clValue_any v ax W (HV.out.below hb) S.ax (clean_14 (ax := ax) (l := s.data.toList)) (Nat.le_trans S.s (by decide)) (HT.out.below hb))
    have sm := clean_small (clean_14 (ax := ax) (l := s.data.toList)) S.s
    have rn := rangeT_num ax s.data.toList
    have ri := rangeK_is ax s.data.toList
    have H2 := hide (fun W (hb : Below w.heap.size w W) => refFlags_any 14 v ax (txt (rangeT ax s.data.toList)) W (HV.out.below hb) S.ax sm)
    have FO := hide (off_range ax s.data.toList)
    rw [← txt_data (rangeT ax s.data.toList)] at FO
    generalize flagsK 14 ax (txt (rangeT ax s.data.toList)).data.toList = f at *
    obtain ⟨f1, f2, f3⟩ := f
    rw [show flagV (f1, f2, f3) = .agg #[.bool f1, .bool f2, .bool f3] from rfl] at H2
    have H3 := hide (fun W (hb : Below w.heap.size w W) => refLeastK_any 14 v ax W (HV.out.below hb) S.ax)
    have H4 := hide (fun W (hb : Below w.heap.size w W) => refMostK_any 14 v ax W (HV.out.below hb) S.ax)
    have H5 := hide (fun W (hb : Below w.heap.size w W) => refStepK_any 14 v ax W (HV.out.below hb) S.ax)
    have r1 : -1000000000000000000 ≤ loK ax ∧ loK ax ≤ 1000000000000000000 := least_range 14 ax
    have r2 : -1000000000000000000 ≤ hiK ax ∧ hiK ax ≤ 1000000000000000000 := most_range 14 ax
    obtain ⟨x1, e1⟩ := least14 ax
    obtain ⟨x2, e2⟩ := most14 ax
    rw [e1] at H3
    rw [e2] at H4
    generalize loK ax = lo at *
    generalize hiK ax = hi at *
    generalize stepK 14 ax = St at *
    generalize txt (rangeT ax s.data.toList) = x at *
    clear S e1 e2 rn sm ri
    subst ev
    go_enter Tryz.func6, Tryz.ntmps6
    go_wp2_with fail
    refine HW.out.mono ?_
    rintro e w1 ⟨rfl, b1⟩
    go_wp2_with fail
    refine (HG.out _ b1).mono ?_
    rintro e w2 ⟨rfl, hw2⟩
    obtain rfl : w1 = w2 := hw2.symm
    have B1 := hide b1
    clear b1
    cases St with
    | none =>
      rw [opt_none] at H5
      clear FO
      go_wp2_with fail
      refine (H1.out _ B1.out).mono ?_
      rintro e w2' ⟨rfl, b2⟩
      have B2 := hide (chain B1.out b2)
      clear b2 B1
      go_wp2_with fail
      refine (H2.out _ B2.out).mono ?_
      rintro e w3' ⟨rfl, b3⟩
      have B3 := hide (chain B2.out b3)
      clear b3 B2
      have BX : Hid (Below w3'.heap.size w3' (w3'.alloc (.cells #[.bool f1, .bool f2, .bool f3] 31))) := (Below.refl _ w3').alloc (Nat.le_refl _) _
      have NX := hide (Bk.new w3' [.bool f1, .bool f2, .bool f3] 31)
      go_wp2_with fail
      generalize w3'.alloc (.cells #[.bool f1, .bool f2, .bool f3] 31) = x3 at *
      have B4 := hide (chain B3.out BX.out)
      refine (H3.out _ B4.out).mono ?_
      rintro e w5' ⟨rfl, b5⟩
      have B5 := hide (chain B4.out b5)
      have N5 := hide (NX.out.below b5)
      clear b5 B4 BX NX B3
      go_wp2_with fail
      refine (H4.out _ B5.out).mono ?_
      rintro e w6' ⟨rfl, b6⟩
      have B6 := hide (chain B5.out b6)
      have N6 := hide (N5.out.below b6)
      clear b6 B5 N5
      go_wp2_with fail
      refine (H5.out _ B6.out).mono ?_
      rintro e w7' ⟨rfl, b7⟩
      have B7 := hide (chain B6.out b7)
      have N7 := hide (N6.out.below b7)
      clear b7 B6 N6
      have r0 := N7.out.cell 2 rfl
      go_wp2_with fail
      go_ret
      exact ⟨rfl, B7.out⟩
    | some st =>
      rw [opt_some] at H5
      cases f3 with
      | false =>
        clear FO
        go_wp2_with fail
        refine (H1.out _ B1.out).mono ?_
        rintro e w2' ⟨rfl, b2⟩
        have B2 := hide (chain B1.out b2)
        clear b2 B1
        go_wp2_with fail
        refine (H2.out _ B2.out).mono ?_
        rintro e w3' ⟨rfl, b3⟩
        have B3 := hide (chain B2.out b3)
        clear b3 B2
        have BX : Hid (Below w3'.heap.size w3' (w3'.alloc (.cells #[.bool f1, .bool f2, .bool false] 31))) := (Below.refl _ w3').alloc (Nat.le_refl _) _
        have NX := hide (Bk.new w3' [.bool f1, .bool f2, .bool false] 31)
        go_wp2_with fail
        generalize w3'.alloc (.cells #[.bool f1, .bool f2, .bool false] 31) = x3 at *
        have B4 := hide (chain B3.out BX.out)
        refine (H3.out _ B4.out).mono ?_
        rintro e w5' ⟨rfl, b5⟩
        have B5 := hide (chain B4.out b5)
        have N5 := hide (NX.out.below b5)
        clear b5 B4 BX NX B3
        go_wp2_with fail
        refine (H4.out _ B5.out).mono ?_
        rintro e w6' ⟨rfl, b6⟩
        have B6 := hide (chain B5.out b6)
        have N6 := hide (N5.out.below b6)
        clear b6 B5 N5
        go_wp2_with fail
        refine (H5.out _ B6.out).mono ?_
        rintro e w7' ⟨rfl, b7⟩
        have B7 := hide (chain B6.out b7)
        have N7 := hide (N6.out.below b7)
        clear b7 B6 N6
        have r0 := N7.out.cell 2 rfl
        go_wp2_with fail
        go_ret
        exact ⟨rfl, B7.out⟩
      | true =>
        have fo : hi < lo ∨ (¬ hi < lo ∧ hi - lo < st) := by
          rcases FO.out st rfl with q | q | q
          · exact absurd (show (true : Bool) = false from q) (by decide)
          · exact .inl q
          · by_cases z : hi < lo
            · exact .inl z
            · exact .inr ⟨z, q⟩
        clear FO
        rcases fo with z | ⟨z, z2⟩
        · skip
          go_wp2_with fail
          refine (H1.out _ B1.out).mono ?_
          rintro e w2' ⟨rfl, b2⟩
          have B2 := hide (chain B1.out b2)
          clear b2 B1
          go_wp2_with fail
          refine (H2.out _ B2.out).mono ?_
          rintro e w3' ⟨rfl, b3⟩
          have B3 := hide (chain B2.out b3)
          clear b3 B2
          have BX : Hid (Below w3'.heap.size w3' (w3'.alloc (.cells #[.bool f1, .bool f2, .bool true] 31))) := (Below.refl _ w3').alloc (Nat.le_refl _) _
          have NX := hide (Bk.new w3' [.bool f1, .bool f2, .bool true] 31)
          go_wp2_with fail
          generalize w3'.alloc (.cells #[.bool f1, .bool f2, .bool true] 31) = x3 at *
          have B4 := hide (chain B3.out BX.out)
          refine (H3.out _ B4.out).mono ?_
          rintro e w5' ⟨rfl, b5⟩
          have B5 := hide (chain B4.out b5)
          have N5 := hide (NX.out.below b5)
          clear b5 B4 BX NX B3
          go_wp2_with fail
          refine (H4.out _ B5.out).mono ?_
          rintro e w6' ⟨rfl, b6⟩
          have B6 := hide (chain B5.out b6)
          have N6 := hide (N5.out.below b6)
          clear b6 B5 N5
          go_wp2_with fail
          refine (H5.out _ B6.out).mono ?_
          rintro e w7' ⟨rfl, b7⟩
          have B7 := hide (chain B6.out b7)
          have N7 := hide (N6.out.below b7)
          clear b7 B6 N6
          have r0 := N7.out.cell 2 rfl
          go_wp2_with fail
          go_ret
          exact ⟨rfl, B7.out⟩
        · have d1 : decide (hi < lo) = false := decide_eq_false z
          go_wp2_with fail
          refine (H1.out _ B1.out).mono ?_
          rintro e w2' ⟨rfl, b2⟩
          have B2 := hide (chain B1.out b2)
          clear b2 B1
          go_wp2_with fail
          refine (H2.out _ B2.out).mono ?_
          rintro e w3' ⟨rfl, b3⟩
          have B3 := hide (chain B2.out b3)
          clear b3 B2
          have BX : Hid (Below w3'.heap.size w3' (w3'.alloc (.cells #[.bool f1, .bool f2, .bool true] 31))) := (Below.refl _ w3').alloc (Nat.le_refl _) _
          have NX := hide (Bk.new w3' [.bool f1, .bool f2, .bool true] 31)
          go_wp2_with fail
          generalize w3'.alloc (.cells #[.bool f1, .bool f2, .bool true] 31) = x3 at *
          have B4 := hide (chain B3.out BX.out)
          refine (H3.out _ B4.out).mono ?_
          rintro e w5' ⟨rfl, b5⟩
          have B5 := hide (chain B4.out b5)
          have N5 := hide (NX.out.below b5)
          clear b5 B4 BX NX B3
          go_wp2_with fail
          refine (H4.out _ B5.out).mono ?_
          rintro e w6' ⟨rfl, b6⟩
          have B6 := hide (chain B5.out b6)
          have N6 := hide (N5.out.below b6)
          clear b6 B5 N5
          go_wp2_with fail
          refine (H5.out _ B6.out).mono ?_
          rintro e w7' ⟨rfl, b7⟩
          have B7 := hide (chain B6.out b7)
          have N7 := hide (N6.out.below b7)
          clear b7 B6 N6
          have r0 := N7.out.cell 2 rfl
          go_wp2_with fail
          go_ret
          exact ⟨rfl, B7.out⟩

set_option maxHeartbeats 4000000 in
set_option maxRecDepth 100000 in
theorem cleanDefaults_walk (v : Value) (ax : List (ByteArray × ByteArray)) (w : World) (hv : AttrsV w v ax) (hl : ax.length ≤ 4398046511104) (hT : ClTabs w) :
    Calls Tryz.prog 7 #[v] w fun e w' => e = .returned (.bool true) ∧ Below w.heap.size w w' := by
  have HW := hide (clWakes_any w hT)
  have HG := hide (fun W (hb : Below w.heap.size w W) => clLong_any v ax ⟨#[]⟩ W (hv.below hb) hl)
  have HT := hide hT
  have HV := hide hv
  obtain ⟨pp, cc, ev, _⟩ := hv
  clear hT
  cases q : longC ax ⟨#[]⟩ with
  | true =>
    rw [q] at HG
    clear q HV
    subst ev
    go_enter Tryz.func7, Tryz.ntmps7
    go_wp2_with fail
    refine HW.out.mono ?_
    rintro e w1 ⟨rfl, b1⟩
    go_wp2_with fail
    refine (HG.out _ b1).mono ?_
    rintro e w2 ⟨rfl, hw2⟩
    obtain rfl : w1 = w2 := hw2.symm
    go_wp2_with fail
    go_ret
    exact ⟨rfl, b1⟩
  | false =>
    rw [q] at HG
    have S := longC_no q
    clear q
    have H1 := hide (fun W (hb : Below w.heap.size w W) => clDefault_any v ax W (HV.out.below hb) S.ax (HT.out.below hb))
    have H2 := hide (fun W (hb : Below w.heap.size w W) => refDefault_any v ax W (HV.out.below hb) S.ax)
    have H3 := hide (fun W (hb : Below w.heap.size w W) => refLeastK_any 14 v ax W (HV.out.below hb) S.ax)
    have H4 := hide (fun W (hb : Below w.heap.size w W) => refMostK_any 14 v ax W (HV.out.below hb) S.ax)
    obtain ⟨x1, e1⟩ := least14 ax
    obtain ⟨x2, e2⟩ := most14 ax
    rw [e1] at H3
    rw [e2] at H4
    obtain ⟨g1, g2⟩ := def_in (loK ax) (hiK ax)
    generalize defG (loK ax) (hiK ax) = n at *
    generalize loK ax = lo at *
    generalize hiK ax = hi at *
    clear S e1 e2
    subst ev
    go_enter Tryz.func7, Tryz.ntmps7
    go_wp2_with fail
    refine HW.out.mono ?_
    rintro e w1 ⟨rfl, b1⟩
    go_wp2_with fail
    refine (HG.out _ b1).mono ?_
    rintro e w2 ⟨rfl, hw2⟩
    obtain rfl : w1 = w2 := hw2.symm
    have B1 := hide b1
    clear b1
    rcases (show n ≤ hi ∨ (¬ n ≤ hi ∧ hi < lo) by omega) with c1 | ⟨c1, c2⟩
    · clear g2
      go_wp2_with fail
      refine (H1.out _ B1.out).mono ?_
      rintro e w2' ⟨rfl, b2⟩
      have B2 := hide (chain B1.out b2)
      clear b2 B1
      go_wp2_with fail
      refine (H3.out _ B2.out).mono ?_
      rintro e w3' ⟨rfl, b3⟩
      have B3 := hide (chain B2.out b3)
      clear b3 B2
      go_wp2_with fail
      refine (H4.out _ B3.out).mono ?_
      rintro e w4' ⟨rfl, b4⟩
      have B4 := hide (chain B3.out b4)
      clear b4 B3
      go_wp2_with fail
      refine (H2.out _ B4.out).mono ?_
      rintro e w5' ⟨rfl, b5⟩
      have B5 := hide (chain B4.out b5)
      clear b5 B4
      go_wp2_with fail
      go_ret
      exact ⟨rfl, B5.out⟩
    · have d1 : decide (n ≤ hi) = false := decide_eq_false c1
      clear g2
      go_wp2_with fail
      refine (H1.out _ B1.out).mono ?_
      rintro e w2' ⟨rfl, b2⟩
      have B2 := hide (chain B1.out b2)
      clear b2 B1
      go_wp2_with fail
      refine (H3.out _ B2.out).mono ?_
      rintro e w3' ⟨rfl, b3⟩
      have B3 := hide (chain B2.out b3)
      clear b3 B2
      go_wp2_with fail
      refine (H4.out _ B3.out).mono ?_
      rintro e w4' ⟨rfl, b4⟩
      have B4 := hide (chain B3.out b4)
      clear b4 B3
      go_wp2_with fail
      refine (H2.out _ B4.out).mono ?_
      rintro e w5' ⟨rfl, b5⟩
      have B5 := hide (chain B4.out b5)
      clear b5 B4
      go_wp2_with fail
      go_ret
      exact ⟨rfl, B5.out⟩

end Go.Proofs.YtpkpkpiphgjbaaaGreatDoor

namespace Go.Proofs.YtpkpkpiphgjbaaaGreatDoor
open Go
set_option maxRecDepth 100000

theorem handed_shaped {H : Type} {enc : TypeId × Value → H} {C : Checked} {os : Os} {f : FuncId} {fn : Func} {s : ChangeSpec} {conds : List PathCond} {X : World → Array Value → Prop}
    (hX : ∀ (u v : World) (xs : Array Value), u.heap = v.heap → X u xs → X v xs) (own : ownKnob C.prog.godebug = none) (started : os.Started) (noInit : C.prog.inits.idxOf? f = none) (hfn : C.prog.funcs[f]? = some fn)
    (seen : ∃ (w : World) (tape : Tape) (i : Input), w.os = os ∧ (w.forCall tape i).Shaped C.prog ∧ i.vars = [] ∧ Input.okWide C.prog (w.forCall tape i) .any w.heap.size f i ∧
      ((s.pre enc C.prog fn conds false (w.forCall tape i).memory i.args ∧ X (w.forCall tape i).memory i.args) ∧ sizedMet enc C.prog fn (OpenSpec.ofChange s) false (w.forCall tape i).memory i.args) ∧ ({} : Assume).holds C.prog (lone (Frame.enter C.prog f i.args .normal) [] (w.forCall tape i)))
    (call : ∀ (W : World) (base : Nat) (xs : Array Value) (ds gs : List (DataW H)) (before : List MemPlace),
      (∀ (j : Nat) t v, fn.params[j]? = some t → xs[j]? = some v → Value.okWide C.prog W .any base t v) → DataW.Whole enc C.prog fn.params.toList s.vars false W xs.toList ds gs before → X W xs → W.ShapedOpen C.prog →
      Calls C.prog f xs W fun e W' => ∃ v, e = .returned v ∧ s.post enc C.prog fn false true false false W xs v W') :
    ReturnsInHanded {} C os f .any (fun w xs => (s.pre enc C.prog fn conds false w xs ∧ X w xs) ∧ sizedMet enc C.prog fn (OpenSpec.ofChange s) false w xs) (s.post enc C.prog fn false true false false) := by
  refine returnsInHanded_of_calls own started noInit seen fun w tape i _ shape _ ok pre _ => ?_
  obtain ⟨_, _, _, fn2, found, _, _, _, _, vals⟩ := ok
  cases (found.symm.trans hfn : some fn2 = some fn)
  obtain ⟨⟨⟨ds, gs, before, whole, _⟩, laid⟩, _⟩ := pre
  have whole2 := DataW.Whole.of_heap (w' := w.forCall tape i) (by rfl) whole
  refine (call (w.forCall tape i) w.heap.size i.args ds gs before vals whole2 (hX _ _ _ (by rfl) laid) shape).mono ?_
  rintro e W' ⟨v, rfl, post⟩
  exact ChangeSpec.post_blind post

theorem max_of {W : World} (h : W.ShapedOpen Tryz.prog) : ∃ m, W.cell? ⟨1, 0, none⟩ = some (.int .i64 m) :=
  cell_of_shapedOpen_int (P := Tryz.prog) (g := 1) (t := 3) (zero := #[.int .i64 0]) h (of_decide_eq_true (by kernel_rfl)) (by kernel_rfl) rfl (by kernel_rfl) (by kernel_rfl) Tryz.underlying3

end Go.Proofs.YtpkpkpiphgjbaaaGreatDoor

namespace Go.Proofs.YtpkpkpiphgjbaaaGreatDoor
open Go.RowKit

theorem tens_eq : (Rows.laid_internal_strconv_uint64pow10 : DataW Unit) = Lib.tabData .u64 Lib.pow10Tab := by kernel_rfl
theorem tens_of {W : World} (h : Lib.VarReads Tryz.prog W "internal/strconv.uint64pow10" Rows.laid_internal_strconv_uint64pow10) : Tens W := by
  rw [tens_eq] at h
  obtain ⟨g, t, cs, fuel, p, hg, hty, hvar, hd⟩ := h
  have e1 : g = 5 := Option.some.inj (hg.symm.trans (by kernel_rfl))
  subst e1
  have e2 : t = 189 := Option.some.inj (hty.symm.trans (by kernel_rfl))
  subst e2
  show W.var? Tryz.prog _ = _
  rw [hvar, ← Lib.cells_of_tab (n := 20) Tryz.underlying189 Tryz.underlying91 (by kernel_rfl) (by kernel_rfl) hd]

theorem err_star : "*" ++ "errors.errorString" = "*errors.errorString" := by decide
theorem err_row (u : TypeId) (h : Tryz.prog.typeName? 3 u = some "*errors.errorString") : u = 208 :=
  typeName_ptr_named (nm := "errors.errorString") (by rw [err_star]; kernel_rfl) (by kernel_rfl) (by decide) u (by rw [err_star]; exact h)
/-- An error that the row lists. -/
theorem err_of {n : String} {g : Nat} {text : List UInt8} {r : List (String × DataW Unit)} {W : World} (hL : laidMet Tryz.prog ((n, .iface "*errors.errorString" (.ptr (.agg [.lit (.string text)]))) :: r) W)
    (hg : Tryz.prog.globalNamed n = some g) (ht : (Tryz.prog.globals[g]?).map (·.type) = some 69) : ErrAt g W := by
  obtain ⟨a, s, hv, -, -, -⟩ := laid_sentinel hL hg ht Tryz.underlying69 err_row Tryz.underlying208 Tryz.underlying210 rfl rfl Tryz.underlying9 (by kernel_rfl) (by kernel_rfl)
  exact ⟨_, by have h0 := World.var?_cell hg hv 0; simpa using h0, .inr ⟨_, _, rfl⟩⟩
def unitL : List (Int × Int × Int) := [(1, 86400000, 86400000), (2, 1, 1), (3, 604800000, 604800000), (4, 1000, 60000), (5, 1000, 60000), (0, 1000000, 1000000), (0, 1000000, 1000000)]
theorem units_eq : (Rows.laid_counterfoil_step_units : DataW Unit) = .agg (unitL.map fun u => .agg [.lit (.int .i64 u.1), .lit (.int .i64 u.2.1), .lit (.int .i64 u.2.2)]) := by kernel_rfl
theorem unit_row (k : Nat) (hk : k < 7) : unitL[k]? = some (momK (k + 8), scaleK (k + 8), defK (k + 8)) := by
  match k, hk with
  | 0, _ => rfl
  | 1, _ => rfl
  | 2, _ => rfl
  | 3, _ => rfl
  | 4, _ => rfl
  | 5, _ => rfl
  | 6, _ => rfl
theorem one_cell {cs : List Value} {b o : Nat} {u : Value} (h : (((cs.drop b).take 3).drop o).take 1 = [u]) : cs[b + o]? = some u := by
  have e := congrArg (·[0]?) h
  have e' : ((((cs.drop b).take 3).drop o).take 1)[0]? = some u := e
  rw [List.getElem?_take, if_pos (by decide), List.getElem?_drop, List.getElem?_take] at e'
  split at e'
  · rw [List.getElem?_drop, Nat.add_zero] at e'; exact e'
  · cases e'
theorem cellsU : Tryz.prog.cellsOf 79 = 3 := by kernel_rfl
theorem cellsI1 : Tryz.prog.cellsOf 3 = 1 := by kernel_rfl
theorem cellsL1 : Tryz.prog.cellsOf 2 = 1 := by kernel_rfl
theorem units_of {w : World} (h : Lib.VarReads Tryz.prog w "counterfoil/step.units" Rows.laid_counterfoil_step_units) : Units w := by
  rw [units_eq] at h
  obtain ⟨g, t, cs, fuel, p, hg, hty, hvar, hd⟩ := h
  have e1 : g = 0 := Option.some.inj (hg.symm.trans (by kernel_rfl))
  subst e1
  have e2 : t = 119 := Option.some.inj (hty.symm.trans (by kernel_rfl))
  subst e2
  intro k hk
  obtain ⟨fuel', d, q, hdi, hx⟩ := Lib.array_elem Tryz.underlying119 hd k hk
  rw [cellsU] at hx
  obtain ⟨xs, n, _, ex, hl, hlen, hf⟩ := DataW.trod_struct Tryz.underlying79 hx
  match xs, hlen with
  | [y0, y1, y2], _ =>
    have f0 := hf 0 _ rfl
    have f1 := hf 1 _ rfl
    have f2 := hf 2 _ rfl
    obtain ⟨z0, c0, r0, _⟩ := DataW.trod_int Tryz.underlying3 f0
    obtain ⟨z1, c1, r1, _⟩ := DataW.trod_int Tryz.underlying2 f1
    obtain ⟨z2, c2, r2, _⟩ := DataW.trod_int Tryz.underlying2 f2
    subst r0 r1 r2
    have ed : d = .agg [.lit (.int .i64 z0), .lit (.int .i64 z1), .lit (.int .i64 z2)] := congrArg Prod.fst ex
    rw [ed, List.getElem?_map, unit_row k hk] at hdi
    simp only [Option.map_some, Option.some.injEq, DataW.agg.injEq, List.cons.injEq, DataW.lit.injEq, Lit.int.injEq, true_and, and_true] at hdi
    obtain ⟨h0, h1, h2⟩ := hdi
    replace c0 : (((cs.toList.drop (k * 3)).take 3).drop 0).take (Tryz.prog.cellsOf 3) = [.int .i64 z0] := c0
    replace c1 : (((cs.toList.drop (k * 3)).take 3).drop 1).take (Tryz.prog.cellsOf 2) = [.int .i64 z1] := c1
    replace c2 : (((cs.toList.drop (k * 3)).take 3).drop 2).take (Tryz.prog.cellsOf 2) = [.int .i64 z2] := c2
    rw [cellsI1] at c0
    rw [cellsL1] at c1 c2
    refine ⟨?_, ?_, ?_⟩
    · rw [World.var?_cell hg hvar, h0, ← Array.getElem?_toList]; exact one_cell (o := 0) c0
    · rw [World.var?_cell hg hvar, h1, ← Array.getElem?_toList]; exact one_cell (o := 1) c1
    · rw [World.var?_cell hg hvar, h2, ← Array.getElem?_toList]; exact one_cell (o := 2) c2
/-- What the rows of layer 12 list. -/
def stepLaid : List (String × DataW Unit) := [("math/bits.deBruijn32tab", Rows.laid_math_bits_deBruijn32tab), ("math/bits.deBruijn64tab", Rows.laid_math_bits_deBruijn64tab), ("internal/strconv.uint64pow10", Rows.laid_internal_strconv_uint64pow10), ("unicode/utf8.acceptRanges", Rows.laid_unicode_utf8_acceptRanges), ("strconv.ErrRange", Rows.laid_strconv_ErrRange), ("strconv.ErrSyntax", Rows.laid_strconv_ErrSyntax), ("counterfoil/days.lengths", Rows.laid_counterfoil_days_lengths), ("counterfoil/step.units", Rows.laid_counterfoil_step_units), ("unicode/utf8.first", Rows.laid_unicode_utf8_first)]
theorem stTabs_at {W : World} (hL : laidMet Tryz.prog stepLaid W) (hsh : W.ShapedOpen Tryz.prog) : StTabs W := by
  have h4 : laidMet Tryz.prog _ W := laidMet.tail (laidMet.tail (laidMet.tail (laidMet.tail hL)))
  refine ⟨⟨⟨⟨err_of (laidMet.tail h4) (by kernel_rfl) (by kernel_rfl), err_of h4 (by kernel_rfl) (by kernel_rfl)⟩, ?_⟩, ?_⟩, max_of hsh, ?_⟩
  · exact lens_of (Lib.laidMet.reads hL (.tail _ (.tail _ (.tail _ (.tail _ (.tail _ (.tail _ (.head _))))))))
  · exact tens_of (Lib.laidMet.reads hL (.tail _ (.tail _ (.head _))))
  · exact units_of (Lib.laidMet.reads hL (.tail _ (.tail _ (.tail _ (.tail _ (.tail _ (.tail _ (.tail _ (.head _)))))))))

end Go.Proofs.YtpkpkpiphgjbaaaGreatDoor
