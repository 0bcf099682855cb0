/- The document's Fine, groups and six of layer 8: they answer by the functions of 'Link'; what lay in the world lies there still. Condition: texts of at most 2^20 bytes. -/
import Derived.Test.YtkllknfgojjphaaDoorLinkRef2
import Derived.Test.YtkllknfgojjphaaDoorSplitRef
namespace Go.Proofs.YtkllknfgojjphaaDoor
open Go.RowKit

theorem index_lk (s : ByteArray) (i : Int) (j : Nat) (h : i = j) (hj : j < s.size) (w : World) : (Instr.index 9 (.string s) (.int .i64 i)).run Tryd.prog w = .ok (.int .u8 (s[j].toNat : Int)) w := by
  subst h
  rw [run_index_string _ _ _ _ _ Tryd.underlying9, dif_pos ⟨by omega, by omega⟩]
  rfl
theorem drop_at {s : ByteArray} {k : Nat} (hk : k < s.size) : s.data.toList.drop k = s[k] :: s.data.toList.drop (k + 1) := by
  rw [List.drop_eq_getElem_cons (by simpa using hk), at_list s k hk]
theorem fine_short {s : ByteArray} {k : Nat} (hk : k < s.size) (e : s[k] = 37) (h : s.size - k < 3) : fineB (s.data.toList.drop k) = false := by
  rw [drop_at hk, e]
  refine fineB_short ?_
  rw [List.length_drop]
  have : s.data.toList.length = s.size := by simp
  omega
theorem fine_hex {s : ByteArray} {k : Nat} (hk : k + 2 < s.size) (e : s[k] = 37) : fineB (s.data.toList.drop k) = (hexOk s[k + 1] && hexOk s[k + 2] && fineB (s.data.toList.drop (k + 3))) := by
  rw [drop_at (k := k) (by omega), e, drop_at (k := k + 1) (by omega), drop_at (k := k + 2) hk, fineB_hex]
theorem fine_sign {s : ByteArray} {k : Nat} (hk : k < s.size) (e : ¬ s[k] = 37) : fineB (s.data.toList.drop k) = (signC s[k] && fineB (s.data.toList.drop (k + 1))) := by
  rw [drop_at hk, fineB_sign _ e]
theorem fine_done {s : ByteArray} : fineB (s.data.toList.drop s.size) = true := by
  rw [List.drop_of_length_le (by simp)]; rfl
theorem fine_valid {s : ByteArray} (h : validS s = false) : fineL s.data.toList = false := by
  unfold fineL
  rw [show Lib.validD s.data.toList = validS s from rfl, h]; rfl
theorem fine_rest {s : ByteArray} (h : validS s = true) : fineL s.data.toList = fineB (s.data.toList.drop 0) := by
  unfold fineL
  rw [show Lib.validD s.data.toList = validS s from rfl, h]; rfl
theorem sign_parts (c : UInt8) : signC c = (decide (128 ≤ c.toNat) || (plainB c || hasB fineSg c)) := rfl
theorem hexOk_no {c : UInt8} (h : hexV c < 0) : hexOk c = false := decide_eq_false (by omega)
theorem hexOk_yes {c : UInt8} (h : 0 ≤ hexV c) : hexOk c = true := decide_eq_true h

set_option maxHeartbeats 2000000 in
set_option maxRecDepth 100000 in
theorem refFine_any (s : ByteArray) (w : World) (hs : s.size ≤ 1048576) :
    Calls Tryd.prog 16 #[.string s] w fun e w' => e = .returned (.bool (fineL s.data.toList)) ∧ Below w.heap.size w w' := by
  have HV := hide (refValid_any s w (by omega))
  cases hv : validS s with
  | false =>
    have E := hide (fine_valid hv)
    rw [hv] at HV
    clear hv
    go_enter Tryd.func16, Tryd.ntmps16
    go_wp2_with fail
    refine HV.out.mono ?_
    rintro e w1 ⟨rfl, b1⟩
    go_wp2_with fail
    go_ret
    exact ⟨ret_bool E.out.symm, b1⟩
  | true =>
    have E := hide (fine_rest hv)
    rw [hv] at HV
    clear hv
    have SH := hide (fun k hk e h => fine_short (s := s) (k := k) hk e h)
    have HX := hide (fun k hk e => fine_hex (s := s) (k := k) hk e)
    have SG := hide (fun k hk e => fine_sign (s := s) (k := k) hk e)
    generalize fineL s.data.toList = R at *
    go_enter Tryd.func16, Tryd.ntmps16
    go_wp2_with fail
    refine HV.out.mono ?_
    rintro e w1 ⟨rfl, b1⟩
    go_wp2_with fail
    go_loop [3] (fun i => ∃ k : Nat, k ≤ s.size ∧ i = .int .i64 k ∧ Hid (R = fineB (s.data.toList.drop k))) (fun i => s.size - (intOf i).toNat)
    case atStart => exact ⟨0, Nat.zero_le _, rfl, E.out⟩
    case round =>
      obtain ⟨k, hk, rfl, hd⟩ := hrel
      clear E HV
      by_cases hlt : k < s.size
      · have i1 : (k : Int) < (s.size : Int) := by omega
        by_cases hc : s[k] = 37
        · have c1 : ((s[k].toNat : Int) == 37) = true := by rw [hc]; rfl
          by_cases hsh : s.size - k < 3
          · have E := hide (hd.out.trans (SH.out k hlt hc hsh))
            have i2 : (s.size : Int) - (k : Int) < 3 := by omega
            clear hd SH HX SG hc hsh
            go_wp2_with fail
            go_ret
            exact ⟨ret_bool E.out.symm, b1⟩
          · have i2 : ¬ (s.size : Int) - (k : Int) < 3 := by omega
            have k1 : k + 1 < s.size := by omega
            have k2 : k + 2 < s.size := by omega
            have E := hd.out.trans (HX.out k k2 hc)
            have x1 := fun w => index_lk s ((k : Int) + 1) (k + 1) (by omega) k1 w
            have x2 := fun w => index_lk s ((k : Int) + 2) (k + 2) (by omega) k2 w
            have H1 := hide (fun w => refDigit_any s[k + 1] w)
            have H2 := hide (fun w => refDigit_any s[k + 2] w)
            clear hd SH HX SG hc hsh
            by_cases g1 : hexV s[k + 1] < 0
            · rw [hexOk_no g1, Bool.false_and, Bool.false_and] at E
              replace E := hide E
              clear H2 x2
              generalize hexV s[k + 1] = h1 at *
              generalize ((s[k + 1].toNat : Nat) : Int) = p1 at *
              go_wp2_with fail
              refine (H1.out _).mono ?_
              rintro e uu ⟨rfl, rfl⟩
              go_wp2_with fail
              go_ret
              exact ⟨ret_bool E.out.symm, b1⟩
            · rw [hexOk_yes (by omega), Bool.true_and] at E
              by_cases g2 : hexV s[k + 2] < 0
              · rw [hexOk_no g2, Bool.false_and] at E
                replace E := hide E
                generalize hexV s[k + 1] = h1 at *
                generalize hexV s[k + 2] = h2 at *
                generalize ((s[k + 1].toNat : Nat) : Int) = p1 at *
                generalize ((s[k + 2].toNat : Nat) : Int) = p2 at *
                go_wp2_with fail
                refine (H1.out _).mono ?_
                rintro e uu ⟨rfl, rfl⟩
                go_wp2_with fail
                refine (H2.out _).mono ?_
                rintro e uu ⟨rfl, rfl⟩
                go_wp2_with fail
                go_ret
                exact ⟨ret_bool E.out.symm, b1⟩
              · rw [hexOk_yes (by omega), Bool.true_and] at E
                replace E := hide E
                generalize hexV s[k + 1] = h1 at *
                generalize hexV s[k + 2] = h2 at *
                generalize ((s[k + 1].toNat : Nat) : Int) = p1 at *
                generalize ((s[k + 2].toNat : Nat) : Int) = p2 at *
                go_wp2_with fail
                refine (H1.out _).mono ?_
                rintro e uu ⟨rfl, rfl⟩
                go_wp2_with fail
                refine (H2.out _).mono ?_
                rintro e uu ⟨rfl, rfl⟩
                go_wp2_with fail
                go_round
                case rel => exact ⟨k + 3, by omega, by go_num, E⟩
                case measure => simp [intOf]; omega
        · have c1 : ((s[k].toNat : Int) == 37) = false := by
            rw [beq_eq_false_iff_ne]
            exact fun e => hc (UInt8.toNat_inj.1 (by show s[k].toNat = 37; omega))
          have E := hd.out.trans (SG.out k hlt hc)
          rw [sign_parts] at E
          have H1 := hide (fun w => refPlain_any s[k] w)
          have H2 := hide (fun w => refIn_any s[k] ⟨#[33, 36, 38, 39, 40, 41, 42, 43, 44, 45, 46, 47, 58, 59, 61, 63, 64, 95, 126]⟩ w (by decide))
          rw [show (⟨#[33, 36, 38, 39, 40, 41, 42, 43, 44, 45, 46, 47, 58, 59, 61, 63, 64, 95, 126]⟩ : ByteArray).data.toList = fineSg from rfl] at H2
          clear hd SH HX SG hc
          by_cases g : 128 ≤ s[k].toNat
          · rw [decide_eq_true g, Bool.true_or, Bool.true_and] at E
            replace E := hide E
            have gi : ¬ (s[k].toNat : Int) < 128 := by omega
            clear g H1 H2
            go_wp2_with fail
            go_round
            case rel => exact ⟨k + 1, by omega, by go_num, E⟩
            case measure => simp [intOf]; omega
          · rw [decide_eq_false g, Bool.false_or] at E
            have gi : (s[k].toNat : Int) < 128 := by omega
            clear g
            cases hp : plainB s[k] with
            | true =>
              rw [hp] at H1
              rw [hp, Bool.true_or, Bool.true_and] at E
              replace E := hide E
              clear hp H2
              go_wp2_with fail
              refine (H1.out _).mono ?_
              rintro e uu ⟨rfl, rfl⟩
              go_wp2_with fail
              go_round
              case rel => exact ⟨k + 1, by omega, by go_num, E⟩
              case measure => simp [intOf]; omega
            | false =>
              rw [hp] at H1
              rw [hp, Bool.false_or] at E
              cases hi : hasB fineSg s[k] with
              | true =>
                rw [hi] at H2
                rw [hi, Bool.true_and] at E
                replace E := hide E
                clear hp hi
                go_wp2_with fail
                refine (H1.out _).mono ?_
                rintro e uu ⟨rfl, rfl⟩
                go_wp2_with fail
                refine (H2.out _).mono ?_
                rintro e uu ⟨rfl, rfl⟩
                go_wp2_with fail
                go_round
                case rel => exact ⟨k + 1, by omega, by go_num, E⟩
                case measure => simp [intOf]; omega
              | false =>
                rw [hi] at H2
                rw [hi, Bool.false_and] at E
                replace E := hide E
                clear hp hi
                go_wp2_with fail
                refine (H1.out _).mono ?_
                rintro e uu ⟨rfl, rfl⟩
                go_wp2_with fail
                refine (H2.out _).mono ?_
                rintro e uu ⟨rfl, rfl⟩
                go_wp2_with fail
                go_ret
                exact ⟨ret_bool E.out.symm, b1⟩
      · obtain rfl : k = s.size := by omega
        have E := hide (hd.out.trans (fine_done (s := s)))
        clear hd SH HX SG hlt
        go_wp2_with fail
        go_ret
        exact ⟨ret_bool E.out.symm, b1⟩

theorem grp_nil {s : ByteArray} (h : s.size = 0) : groupsL s.data.toList = 0 := by
  have : s.data.toList = [] := List.eq_nil_of_length_eq_zero (by simpa using h)
  unfold groupsL
  rw [if_pos this]
theorem grp_some {s : ByteArray} (h : ¬ s.size = 0) : groupsL s.data.toList = if (splitL 58 s.data.toList).all groupOk then ((splitL 58 s.data.toList).length : Int) else -1 := by
  have : ¬ s.data.toList = [] := fun e => h (by have := congrArg List.length e; simpa using this)
  unfold groupsL
  rw [if_neg this]
theorem grp_size {p : List UInt8} (h : ¬ (1 ≤ p.length ∧ p.length ≤ 4)) : groupOk p = false := by
  unfold groupOk
  rw [decide_eq_false h]; rfl
theorem grp_hex {t : ByteArray} {k : Nat} (hk : k < t.size) (h : hexV t[k] < 0) : groupOk t.data.toList = false := by
  unfold groupOk
  rw [List.all_eq_false.2 ⟨t[k], mem_at hk, by rw [hexOk_no h]; simp⟩, Bool.and_false]
theorem grp_ok {t : ByteArray} (h1 : 1 ≤ t.size ∧ t.size ≤ 4) (h : ∀ k (_ : k < t.size), 0 ≤ hexV t[k]) : groupOk t.data.toList = true := by
  have hl : t.data.toList.length = t.size := by simp
  unfold groupOk
  rw [decide_eq_true (by omega), Bool.true_and, List.all_eq_true]
  intro c m
  obtain ⟨j, hj, e⟩ := List.getElem_of_mem m
  rw [← e, at_list t j (by omega)]
  exact hexOk_yes (h j (by omega))
theorem grp_bd (l : List UInt8) : -1 ≤ groupsL l ∧ groupsL l ≤ (l.length : Int) + 1 := by
  unfold groupsL
  split
  · omega
  · split
    · have := split_count 58 l; omega
    · omega

set_option maxHeartbeats 2000000 in
set_option maxRecDepth 100000 in
theorem refGroups_any (s : ByteArray) (w : World) (hs : s.size ≤ 1048576) :
    Calls Tryd.prog 52 #[.string s] w fun e w' => e = .returned (.int .i64 (groupsL s.data.toList)) ∧ Below w.heap.size w w' := by
  by_cases hz : s.size = 0
  · have E := hide (grp_nil hz)
    have i0 : ((s.size : Int) == 0) = true := by rw [beq_iff_eq]; omega
    clear hz
    go_enter Tryd.func52, Tryd.ntmps52
    go_wp2_with fail
    go_ret
    exact ⟨ret_int E.out.symm, Below.refl _ _⟩
  · have i0 : ((s.size : Int) == 0) = false := by rw [beq_eq_false_iff_ne]; omega
    have E := grp_some hz
    have HS := hide (refSplit_any s 58 w (by omega))
    have hne := split_ne 58 s.data.toList
    have hcnt := split_count 58 s.data.toList
    have hls : s.data.toList.length = s.size := by simp
    have hmem := hide (fun p hp => Nat.le_trans (split_mem (c := 58) (l := s.data.toList) (p := p) hp) (show s.data.toList.length ≤ 1048576 by omega))
    rw [hls] at hcnt
    clear hz hls
    generalize splitL 58 s.data.toList = ws at *
    generalize groupsL s.data.toList = G at *
    replace E := hide E
    go_enter Tryd.func52, Tryd.ntmps52
    go_wp2_with fail
    refine HS.out.mono ?_
    rintro e w1 ⟨v, rfl, hv, b1⟩
    obtain ⟨g, cap, rfl, hg, hcells⟩ := row_form hv hne
    have HC := hide hcells
    clear hcells hv HS
    go_wp2_with fail
    go_loop [4, 5] (fun i _ => ∃ j : Nat, j ≤ ws.length ∧ i = .int .i64 j ∧ Hid (∀ m (_ : m < ws.length), m < j → groupOk ws[m] = true)) (fun i _ => ws.length - (intOf i).toNat)
    case atStart => exact ⟨0, Nat.zero_le _, rfl, fun m _ h => by omega⟩
    case round =>
      obtain ⟨j, hj, rfl, hd⟩ := hrel
      by_cases hjl : j < ws.length
      · have hc := HC.out j hjl
        have hm := hmem.out ws[j] (List.getElem_mem _)
        have j1 : (j : Int) < (ws.length : Int) := by omega
        have BAD := hide (fun (h : groupOk ws[j] = false) => E.out.trans (if_neg (by rw [all_at hjl h]; simp)))
        have NX : groupOk ws[j] = true → Hid (∀ m (_ : m < ws.length), m < j + 1 → groupOk ws[m] = true) := by
          intro h m hm2 hmj
          rcases Nat.lt_or_ge m j with q | q
          · exact hd.out m hm2 q
          · obtain rfl : m = j := by omega
            exact h
        have hT : ∃ t : ByteArray, txt ws[j] = t ∧ t.data.toList = ws[j] ∧ t.size = ws[j].length := ⟨_, rfl, rfl, txt_size _⟩
        obtain ⟨t, e1, e2, e3⟩ := hT
        rw [e1] at hc
        rw [← e2] at BAD NX
        have ht : t.size ≤ 1048576 := by omega
        clear e1 e2 e3 hd HC hmem hm
        by_cases h1 : t.size < 1
        · have E2 := hide (BAD.out (grp_size (by have : t.data.toList.length = t.size := by simp
                                                 omega)))
          have t1 : (t.size : Int) < 1 := by omega
          clear BAD NX h1
          go_wp2_with fail
          go_ret
          exact ⟨ret_int E2.out.symm, b1⟩
        · by_cases h2 : 4 < t.size
          · have E2 := hide (BAD.out (grp_size (by have : t.data.toList.length = t.size := by simp
                                                   omega)))
            have t1 : ¬ (t.size : Int) < 1 := by omega
            have t2 : (4 : Int) < (t.size : Int) := by omega
            clear BAD NX h1 h2
            go_wp2_with fail
            go_ret
            exact ⟨ret_int E2.out.symm, b1⟩
          · have t1 : ¬ (t.size : Int) < 1 := by omega
            have t2 : ¬ (4 : Int) < (t.size : Int) := by omega
            have BH := hide (fun k hk h => BAD.out (grp_hex (t := t) (k := k) hk h))
            have NG := hide (fun h => NX (grp_ok (t := t) (by omega) h))
            clear BAD NX h1 h2
            go_wp2_with fail
            go_loop [5] (fun i => ∃ k : Nat, k ≤ t.size ∧ i = .int .i64 k ∧ Hid (∀ m (_ : m < t.size), m < k → 0 ≤ hexV t[m])) (fun i => t.size - (intOf i).toNat)
            case atStart => exact ⟨0, Nat.zero_le _, rfl, fun m _ h => by omega⟩
            case round =>
              obtain ⟨k, hk, rfl, hd⟩ := hrel
              by_cases hlt : k < t.size
              · have i1 : (k : Int) < (t.size : Int) := by omega
                have H1 := hide (fun w => refDigit_any t[k] w)
                by_cases gx : hexV t[k] < 0
                · have E2 := hide (BH.out k hlt gx)
                  clear hd BH NG
                  generalize hexV t[k] = h1 at *
                  go_wp2_with fail
                  refine (H1.out _).mono ?_
                  rintro e uu ⟨rfl, rfl⟩
                  go_wp2_with fail
                  go_ret
                  exact ⟨ret_int E2.out.symm, b1⟩
                · have hd' : Hid (∀ m (_ : m < t.size), m < k + 1 → 0 ≤ hexV t[m]) := by
                    intro m hm hmk
                    rcases Nat.lt_or_ge m k with q | q
                    · exact hd.out m hm q
                    · obtain rfl : m = k := by omega
                      omega
                  clear hd BH NG
                  generalize hexV t[k] = h1 at *
                  go_wp2_with fail
                  refine (H1.out _).mono ?_
                  rintro e uu ⟨rfl, rfl⟩
                  go_wp2_with fail
                  go_round
                  case rel => exact ⟨k + 1, by omega, by go_num, hd'⟩
                  case measure => simp [intOf]; omega
              · obtain rfl : k = t.size := by omega
                have hn := NG.out (fun m hm => hd.out m hm hm)
                clear hd BH NG hlt
                go_wp2_with fail
                go_round
                case rel => exact ⟨j + 1, by omega, by go_num, hn⟩
                case measure => simp [intOf]; omega
      · obtain rfl : j = ws.length := by omega
        have E2 : Hid (G = (ws.length : Int)) := by
          refine E.out.trans (if_pos ?_)
          rw [List.all_eq_true]
          intro p hp
          obtain ⟨m, hm, e⟩ := List.getElem_of_mem hp
          rw [← e]
          exact hd.out m hm hm
        clear hd HC hmem hjl E
        go_wp2_with fail
        go_ret
        exact ⟨ret_int E2.out.symm, b1⟩

end Go.Proofs.YtkllknfgojjphaaDoor
