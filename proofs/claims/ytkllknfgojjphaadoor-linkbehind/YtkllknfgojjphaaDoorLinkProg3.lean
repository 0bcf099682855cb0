/- The program's isName, Host, isHostWithPort, isSite of layer 8: they answer by the functions of 'Link'; what lay in the world lies there still. Conditions: texts of at most 100000 bytes; the library's tables hold what the program's text lays. -/
import Derived.Test.YtkllknfgojjphaaDoorLinkProg2
namespace Go.Proofs.YtkllknfgojjphaaDoor
open Go.RowKit

set_option maxHeartbeats 4000000 in
theorem isName_any (l : List UInt8) (w : World) (hs : l.length ≤ 100000) (hT : LinkTabs w) :
    Calls Tryd.prog 27 #[.string (txt l)] w fun e w' => e = .returned (.bool (nameL l)) ∧ Below w.heap.size w w' := by
  have HS := hide (split_any 46 l w (by omega) hT.max)
  have hcnt := split_count 46 l
  have hm0 := fun p hp => Nat.le_trans (split_mem (c := 46) (l := l) (p := p) hp) hs
  have hne := split_ne 46 l
  have EO := fun h => name_open (l := l) h
  have EE := fun h => name_ended (l := l) h
  generalize splitL 46 l = ws at *
  have HT := hide hT
  clear hT
  cases he : endedB ws with
  | true =>
    have ⟨h1, h2⟩ := of_decide_eq_true he
    obtain ⟨k, hlen⟩ : ∃ k, ws.length = k + 1 + 1 := ⟨ws.length - 2, by omega⟩
    have E := EE he
    clear EO EE he hne
    rw [hlen] at HS hcnt
    rw [hlen, show k + 1 + 1 - 1 = k + 1 by omega] at h2 E
    have h3 : k + 1 < ws.length := by omega
    rw [show ws.getD (k + 1) [] = ws[k + 1] by simp [List.getD, h3]] at h2
    have y0 : (txt ws[k + 1]).toList = [] := by rw [ByteArray.toList_eq, txt_data, h2]
    obtain ⟨qs, eq⟩ : ∃ qs, ws.take (k + 1) = qs := ⟨_, rfl⟩
    have hq : qs.length = k + 1 := by rw [← eq, List.length_take]; omega
    have hm : Hid (∀ p ∈ qs, p.length ≤ 100000) := fun p hp => hm0 p (List.mem_of_mem_take (by rw [eq]; exact hp))
    rw [eq] at E
    replace E := hide E
    clear hm0 h1 h2
    generalize txt l = t at *
    go_enter Tryd.func27, Tryd.ntmps27
    go_wp2_with fail
    refine HS.out.mono ?_
    rintro e w1 ⟨g, rfl, hg, hr, b1⟩
    clear HS
    have hc := hr (k + 1) h3
    have R : Hid (TextsAt w1 g qs) := by rw [← eq]; exact hr.take (k + 1)
    clear hr eq
    generalize txt ws[k + 1] = tm at *
    go_wp2_with fail
    go_loopw [28] (fun i wr => ∃ j : Nat, j ≤ k + 1 ∧ i = .int .i64 j ∧ Hid (∀ q (_ : q < j) (_ : q < qs.length), labV qs[q] = true) ∧ Below w1.heap.size w1 wr) (fun i _ => k + 1 - (intOf i).toNat)
    case atStart => exact ⟨0, Nat.zero_le _, rfl, fun q h => by omega, Below.refl _ _⟩
    case round =>
      obtain ⟨j, hj, rfl, hd, hb⟩ := hrel
      rename World => wr
      by_cases hjl : j < k + 1
      · have hj2 : j < qs.length := by omega
        have hc := R.out.below hb j hj2
        have HL := hide (isLabel_any (txt qs[j]) wr (by rw [txt_size]; exact hm.out _ (List.getElem_mem _)) (HT.out.below (chain b1 hb)))
        rw [txt_data] at HL
        have j1 : (j : Int) < (k : Int) + 1 := by omega
        have BAD := all_bad (f := labV) (ts := qs) (j := j) hj2
        have NX := next_good hd hj2
        clear hd
        cases hv : labV qs[j] with
        | false =>
          have E2 := hide (E.out.trans (by unfold nameQ; rw [BAD hv]; rfl : nameQ qs true = false))
          rw [hv] at HL
          clear hv BAD NX
          generalize txt qs[j] = tj at *
          go_wp2_with fail
          refine HL.out.mono ?_
          rintro e u ⟨rfl, b2⟩
          go_wp2_with fail
          go_ret
          exact ⟨ret_bool E2.out.symm, chain b1 (chain hb b2)⟩
        | true =>
          have hd' := NX hv
          rw [hv] at HL
          clear hv BAD NX
          generalize txt qs[j] = tj at *
          go_wp2_with fail
          refine HL.out.mono ?_
          rintro e u ⟨rfl, b2⟩
          go_wp2_with fail
          go_roundw
          case rel => exact ⟨j + 1, by omega, by go_num, hd', chain hb b2⟩
          case measure => simp [intOf]; omega
      · obtain rfl : j = k + 1 := by omega
        have A := all_good (f := labV) (ts := qs) (fun q hq2 => hd.out q (by omega) hq2)
        have hk2 : k < qs.length := by omega
        have hc := R.out.below hb k hk2
        have E2 : nameL l = (!(qs[k].all isDg) || (!true && (qs.all numOk && decide (qs.length = 4)))) := by
          rw [E.out]
          unfold nameQ
          rw [A, Bool.true_and, hq, show k + 1 - 1 = k by omega, show qs.getD k [] = qs[k] by simp [List.getD, hk2]]
        have HM := hide (fun w => madeOf_new (txt qs[k]) [digT] 1 _ 9 w rfl rfl (by decide) (by rw [txt_size]; exact hm.out _ (List.getElem_mem _)))
        rw [txt_data, all_dig] at HM
        clear hd A
        cases hv : qs[k].all isDg with
        | false =>
          rw [hv] at HM E2
          replace E2 : Hid (nameL l = true) := E2
          clear hv
          generalize txt qs[k] = tk at *
          go_wp2_with fail
          refine (HM.out _).mono ?_
          rintro e u ⟨rfl, b2⟩
          go_wp2_with fail
          go_ret
          exact ⟨ret_bool E2.out.symm, chain b1 (chain hb b2)⟩
        | true =>
          rw [hv] at HM E2
          clear hv
          replace E2 : Hid (nameL l = false) := E2
          generalize txt qs[k] = tk at *
          go_wp2_with fail
          refine (HM.out _).mono ?_
          rintro e u ⟨rfl, b2⟩
          go_wp2_with fail
          go_ret
          exact ⟨ret_bool E2.out.symm, chain b1 (chain hb b2)⟩
  | false =>
    have h1 := of_decide_eq_false he
    obtain ⟨k, hlen⟩ : ∃ k, ws.length = k + 1 := ⟨ws.length - 1, by have := List.length_pos_iff.2 hne; omega⟩
    have E := hide (EO he)
    clear EO EE he hne
    rw [hlen] at HS hcnt
    rw [hlen, show k + 1 - 1 = k by omega] at h1
    have h3 : k < ws.length := by omega
    rw [show ws.getD k [] = ws[k] by simp [List.getD, h3]] at h1
    have hm := hide hm0
    clear hm0
    rename List (List UInt8) => qs
    have hq := hlen
    by_cases hk0 : k = 0
    · have k0 : ¬ 0 < (k : Int) := by omega
      clear h1 h3 hk0
      generalize txt l = t at *
      go_enter Tryd.func27, Tryd.ntmps27
      go_wp2_with fail
      refine HS.out.mono ?_
      rintro e w1 ⟨g, rfl, hg, hr, b1⟩
      clear HS
      have R : Hid (TextsAt w1 g qs) := hr
      clear hr
      go_wp2_with fail
      go_loopw [28] (fun i wr => ∃ j : Nat, j ≤ k + 1 ∧ i = .int .i64 j ∧ Hid (∀ q (_ : q < j) (_ : q < qs.length), labV qs[q] = true) ∧ Below w1.heap.size w1 wr) (fun i _ => k + 1 - (intOf i).toNat)
      case atStart => exact ⟨0, Nat.zero_le _, rfl, fun q h => by omega, Below.refl _ _⟩
      case round =>
        obtain ⟨j, hj, rfl, hd, hb⟩ := hrel
        rename World => wr
        by_cases hjl : j < k + 1
        · have hj2 : j < qs.length := by omega
          have hc := R.out.below hb j hj2
          have HL := hide (isLabel_any (txt qs[j]) wr (by rw [txt_size]; exact hm.out _ (List.getElem_mem _)) (HT.out.below (chain b1 hb)))
          rw [txt_data] at HL
          have j1 : (j : Int) < (k : Int) + 1 := by omega
          have BAD := all_bad (f := labV) (ts := qs) (j := j) hj2
          have NX := next_good hd hj2
          clear hd
          cases hv : labV qs[j] with
          | false =>
            have E2 := hide (E.out.trans (by unfold nameQ; rw [BAD hv]; rfl : nameQ qs false = false))
            rw [hv] at HL
            clear hv BAD NX
            generalize txt qs[j] = tj at *
            go_wp2_with fail
            refine HL.out.mono ?_
            rintro e u ⟨rfl, b2⟩
            go_wp2_with fail
            go_ret
            exact ⟨ret_bool E2.out.symm, chain b1 (chain hb b2)⟩
          | true =>
            have hd' := NX hv
            rw [hv] at HL
            clear hv BAD NX
            generalize txt qs[j] = tj at *
            go_wp2_with fail
            refine HL.out.mono ?_
            rintro e u ⟨rfl, b2⟩
            go_wp2_with fail
            go_roundw
            case rel => exact ⟨j + 1, by omega, by go_num, hd', chain hb b2⟩
            case measure => simp [intOf]; omega
        · obtain rfl : j = k + 1 := by omega
          have A := all_good (f := labV) (ts := qs) (fun q hq2 => hd.out q (by omega) hq2)
          have hk2 : k < qs.length := by omega
          have hc := R.out.below hb k hk2
          have E2 : nameL l = (!(qs[k].all isDg) || (!false && (qs.all numOk && decide (qs.length = 4)))) := by
            rw [E.out]
            unfold nameQ
            rw [A, Bool.true_and, hq, show k + 1 - 1 = k by omega, show qs.getD k [] = qs[k] by simp [List.getD, hk2]]
          have HM := hide (fun w => madeOf_new (txt qs[k]) [digT] 1 _ 9 w rfl rfl (by decide) (by rw [txt_size]; exact hm.out _ (List.getElem_mem _)))
          rw [txt_data, all_dig] at HM
          have HN := hide (fun w' (bb : Below wr.heap.size wr w') => isNumbers_any qs g (k + 1) w' (R.out.below (chain hb bb)) (by omega) (fun p hp => hm.out p hp))
          rw [hq] at HN E2
          clear hd A
          cases hv : qs[k].all isDg with
          | false =>
            rw [hv] at HM E2
            replace E2 : Hid (nameL l = true) := E2
            clear hv
            generalize txt qs[k] = tk at *
            go_wp2_with fail
            refine (HM.out _).mono ?_
            rintro e u ⟨rfl, b2⟩
            go_wp2_with fail
            go_ret
            exact ⟨ret_bool E2.out.symm, chain b1 (chain hb b2)⟩
          | true =>
            rw [hv] at HM E2
            clear hv
            replace E2 : Hid (nameL l = (qs.all numOk && decide (k + 1 = 4))) := E2
            generalize (qs.all numOk && decide (k + 1 = 4)) = r at *
            generalize txt qs[k] = tk at *
            go_wp2_with fail
            refine (HM.out _).mono ?_
            rintro e u ⟨rfl, b2⟩
            go_wp2_with fail
            refine (HN.out _ b2).mono ?_
            rintro e u3 ⟨rfl, b3⟩
            go_wp2_with fail
            go_ret
            exact ⟨ret_bool E2.out.symm, chain b1 (chain hb (chain b2 b3))⟩
    · have k0 : 0 < (k : Int) := by omega
      have ⟨y0, y1⟩ := empty_list (l := qs[k]) (fun x => h1 ⟨by omega, x⟩)
      clear h1 hk0
      generalize txt l = t at *
      go_enter Tryd.func27, Tryd.ntmps27
      go_wp2_with fail
      refine HS.out.mono ?_
      rintro e w1 ⟨g, rfl, hg, hr, b1⟩
      clear HS
      have hc := hr k h3
      have R : Hid (TextsAt w1 g qs) := hr
      clear hr
      have ⟨tm, etm⟩ : ∃ tm, txt qs[k] = tm := ⟨_, rfl⟩
      rw [etm] at hc y0 y1
      clear etm
      go_wp2_with fail
      clear hc y0 y1 h3
      go_loopw [28] (fun i wr => ∃ j : Nat, j ≤ k + 1 ∧ i = .int .i64 j ∧ Hid (∀ q (_ : q < j) (_ : q < qs.length), labV qs[q] = true) ∧ Below w1.heap.size w1 wr) (fun i _ => k + 1 - (intOf i).toNat)
      case atStart => exact ⟨0, Nat.zero_le _, rfl, fun q h => by omega, Below.refl _ _⟩
      case round =>
        obtain ⟨j, hj, rfl, hd, hb⟩ := hrel
        rename World => wr
        by_cases hjl : j < k + 1
        · have hj2 : j < qs.length := by omega
          have hc := R.out.below hb j hj2
          have HL := hide (isLabel_any (txt qs[j]) wr (by rw [txt_size]; exact hm.out _ (List.getElem_mem _)) (HT.out.below (chain b1 hb)))
          rw [txt_data] at HL
          have j1 : (j : Int) < (k : Int) + 1 := by omega
          have BAD := all_bad (f := labV) (ts := qs) (j := j) hj2
          have NX := next_good hd hj2
          clear hd
          cases hv : labV qs[j] with
          | false =>
            have E2 := hide (E.out.trans (by unfold nameQ; rw [BAD hv]; rfl : nameQ qs false = false))
            rw [hv] at HL
            clear hv BAD NX
            generalize txt qs[j] = tj at *
            go_wp2_with fail
            refine HL.out.mono ?_
            rintro e u ⟨rfl, b2⟩
            go_wp2_with fail
            go_ret
            exact ⟨ret_bool E2.out.symm, chain b1 (chain hb b2)⟩
          | true =>
            have hd' := NX hv
            rw [hv] at HL
            clear hv BAD NX
            generalize txt qs[j] = tj at *
            go_wp2_with fail
            refine HL.out.mono ?_
            rintro e u ⟨rfl, b2⟩
            go_wp2_with fail
            go_roundw
            case rel => exact ⟨j + 1, by omega, by go_num, hd', chain hb b2⟩
            case measure => simp [intOf]; omega
        · obtain rfl : j = k + 1 := by omega
          have A := all_good (f := labV) (ts := qs) (fun q hq2 => hd.out q (by omega) hq2)
          have hk2 : k < qs.length := by omega
          have hc := R.out.below hb k hk2
          have E2 : nameL l = (!(qs[k].all isDg) || (!false && (qs.all numOk && decide (qs.length = 4)))) := by
            rw [E.out]
            unfold nameQ
            rw [A, Bool.true_and, hq, show k + 1 - 1 = k by omega, show qs.getD k [] = qs[k] by simp [List.getD, hk2]]
          have HM := hide (fun w => madeOf_new (txt qs[k]) [digT] 1 _ 9 w rfl rfl (by decide) (by rw [txt_size]; exact hm.out _ (List.getElem_mem _)))
          rw [txt_data, all_dig] at HM
          have HN := hide (fun w' (bb : Below wr.heap.size wr w') => isNumbers_any qs g (k + 1) w' (R.out.below (chain hb bb)) (by omega) (fun p hp => hm.out p hp))
          rw [hq] at HN E2
          clear hd A
          cases hv : qs[k].all isDg with
          | false =>
            rw [hv] at HM E2
            replace E2 : Hid (nameL l = true) := E2
            clear hv
            generalize txt qs[k] = tk at *
            go_wp2_with fail
            refine (HM.out _).mono ?_
            rintro e u ⟨rfl, b2⟩
            go_wp2_with fail
            go_ret
            exact ⟨ret_bool E2.out.symm, chain b1 (chain hb b2)⟩
          | true =>
            rw [hv] at HM E2
            clear hv
            replace E2 : Hid (nameL l = (qs.all numOk && decide (k + 1 = 4))) := E2
            generalize (qs.all numOk && decide (k + 1 = 4)) = r at *
            generalize txt qs[k] = tk at *
            go_wp2_with fail
            refine (HM.out _).mono ?_
            rintro e u ⟨rfl, b2⟩
            go_wp2_with fail
            refine (HN.out _ b2).mono ?_
            rintro e u3 ⟨rfl, b3⟩
            go_wp2_with fail
            go_ret
            exact ⟨ret_bool E2.out.symm, chain b1 (chain hb (chain b2 b3))⟩

end Go.Proofs.YtkllknfgojjphaaDoor
