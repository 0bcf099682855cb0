/- The program's Scheme and Absolute of layer 8: they answer by the functions of 'Link'; what lay in the world lies there still. Conditions: texts of at most 100000 bytes; the library's tables hold what the program's text lays. -/
import Derived.Test.YtkllknfgojjphaaDoorLinkProg4
namespace Go.Proofs.YtkllknfgojjphaaDoor
open Go.RowKit

set_option maxHeartbeats 2000000 in
theorem special_list (l : List UInt8) (w : World) (hs : l.length ≤ 100000) (hT : LinkTabs w) :
    Calls Tryd.prog 39 #[.string (txt l)] w fun e w' => e = .returned (.bool (specQ l)) ∧ Below w.heap.size w w' := by
  have E : specQ l = (twoB l && (serverL (nameOf l) && fineL (pathOf l))) := rfl
  cases hv : twoB l with
  | false =>
    have HC := hide (cutSite_no l w hv)
    rw [hv, Bool.false_and] at E
    replace E := hide E
    clear hv hT
    generalize txt l = tl at *
    go_enter Tryd.func39, Tryd.ntmps39
    go_wp2_with fail
    refine (HC.out).mono ?_
    rintro e u1 ⟨rfl, rfl⟩
    go_wp2_with fail
    go_ret
    exact ⟨ret_bool E.out.symm, Below.refl _ _⟩
  | true =>
    have HC := hide (cutSite_yes l w hs hv)
    rw [hv, Bool.true_and] at E
    have h1 := nameOf_len l
    have h2 := pathOf_len l
    have HS := hide (fun w' (bb : Below w.heap.size w w') => site_list (nameOf l) w' (by omega) (hT.below bb))
    have HF := hide (fun w' (bb : Below w.heap.size w w') => fine_list (pathOf l) w' (by omega) (hT.below bb))
    clear hv hT h1 h2
    generalize serverL (nameOf l) = r1 at *
    generalize fineL (pathOf l) = r2 at *
    generalize txt l = tl at *
    generalize txt (nameOf l) = tn at *
    generalize txt (pathOf l) = tp at *
    cases r1 with
    | false =>
      rw [Bool.false_and] at E
      replace E := hide E
      go_enter Tryd.func39, Tryd.ntmps39
      go_wp2_with fail
      refine (HC.out).mono ?_
      rintro e u1 ⟨rfl, b1⟩
      go_wp2_with fail
      refine (HS.out _ b1).mono ?_
      rintro e u2 ⟨rfl, c2⟩
      have b2 := chain b1 c2
      clear c2
      go_wp2_with fail
      go_ret
      exact ⟨ret_bool E.out.symm, b2⟩
    | true =>
      rw [Bool.true_and] at E
      replace E := hide E
      go_enter Tryd.func39, Tryd.ntmps39
      go_wp2_with fail
      refine (HC.out).mono ?_
      rintro e u1 ⟨rfl, b1⟩
      go_wp2_with fail
      refine (HS.out _ b1).mono ?_
      rintro e u2 ⟨rfl, c2⟩
      have b2 := chain b1 c2
      clear c2
      go_wp2_with fail
      refine (HF.out _ b2).mono ?_
      rintro e u3 ⟨rfl, c3⟩
      have b3 := chain b2 c3
      clear c3
      go_wp2_with fail
      go_ret
      exact ⟨ret_bool E.out.symm, b3⟩

set_option maxHeartbeats 2000000 in
theorem local_list (l : List UInt8) (w : World) (hs : l.length ≤ 100000) (hT : LinkTabs w) :
    Calls Tryd.prog 40 #[.string (txt l)] w fun e w' => e = .returned (.bool (loclQ l)) ∧ Below w.heap.size w w' := by
  have E : loclQ l = if twoB l then ((nameOf l).isEmpty || hostL (nameOf l)) && fineL (pathOf l) else Lib.hasPrefix l [47] && fineL l := rfl
  cases hv : twoB l with
  | false =>
    have HC := hide (cutSite_no l w hv)
    rw [hv, if_neg (by simp)] at E
    have HF := hide (fun w' (bb : Below w.heap.size w w') => fine_list l w' hs (hT.below bb))
    have HP := hide (fun w => hasPre_is l [47] w)
    clear hv hT
    generalize fineL l = r2 at *
    generalize txt l = tl at *
    cases hp : Lib.hasPrefix l [47] with
    | false =>
      rw [hp] at HP
      rw [hp, Bool.false_and] at E
      replace E := hide E
      clear hp
      go_enter Tryd.func40, Tryd.ntmps40
      go_wp2_with fail
      refine (HC.out).mono ?_
      rintro e u1 ⟨rfl, rfl⟩
      go_wp2_with fail
      refine (HP.out _).mono ?_
      rintro e u2 ⟨rfl, rfl⟩
      go_wp2_with fail
      go_ret
      exact ⟨ret_bool E.out.symm, Below.refl _ _⟩
    | true =>
      rw [hp] at HP
      rw [hp, Bool.true_and] at E
      replace E := hide E
      clear hp
      go_enter Tryd.func40, Tryd.ntmps40
      go_wp2_with fail
      refine (HC.out).mono ?_
      rintro e u1 ⟨rfl, rfl⟩
      go_wp2_with fail
      refine (HP.out _).mono ?_
      rintro e u2 ⟨rfl, rfl⟩
      go_wp2_with fail
      refine (HF.out _ (Below.refl _ _)).mono ?_
      rintro e u3 ⟨rfl, b3⟩
      go_wp2_with fail
      go_ret
      exact ⟨ret_bool E.out.symm, b3⟩
  | true =>
    have HC := hide (cutSite_yes l w hs hv)
    rw [hv, if_pos rfl] at E
    have h1 := nameOf_len l
    have h2 := pathOf_len l
    have HS := hide (fun w' (bb : Below w.heap.size w w') => host_list (nameOf l) w' (by omega) (hT.below bb))
    have HF := hide (fun w' (bb : Below w.heap.size w w') => fine_list (pathOf l) w' (by omega) (hT.below bb))
    clear hv hT h1 h2
    by_cases hz : nameOf l = []
    · have z0 : (txt (nameOf l)).toList = [] := by rw [ByteArray.toList_eq, txt_data, hz]
      rw [hz, show ([] : List UInt8).isEmpty = true from rfl, Bool.true_or, Bool.true_and] at E
      replace E := hide E
      clear hz HS
      generalize fineL (pathOf l) = r2 at *
      generalize txt l = tl at *
      generalize txt (nameOf l) = tn at *
      generalize txt (pathOf l) = tp at *
      go_enter Tryd.func40, Tryd.ntmps40
      go_wp2_with fail
      refine (HC.out).mono ?_
      rintro e u1 ⟨rfl, b1⟩
      go_wp2_with fail
      refine (HF.out _ b1).mono ?_
      rintro e u2 ⟨rfl, c2⟩
      have b2 := chain b1 c2
      clear c2
      go_wp2_with fail
      go_ret
      exact ⟨ret_bool E.out.symm, b2⟩
    · have ⟨z0, z1⟩ := empty_list hz
      have z2 : (nameOf l).isEmpty = false := by
        cases hx : nameOf l with
        | nil => exact absurd hx hz
        | cons => rfl
      rw [z2, Bool.false_or] at E
      clear hz z2
      generalize hostL (nameOf l) = r1 at *
      generalize fineL (pathOf l) = r2 at *
      generalize txt l = tl at *
      generalize txt (nameOf l) = tn at *
      generalize txt (pathOf l) = tp at *
      cases r1 with
      | false =>
        rw [Bool.false_and] at E
        replace E := hide E
        go_enter Tryd.func40, Tryd.ntmps40
        go_wp2_with fail
        refine (HC.out).mono ?_
        rintro e u1 ⟨rfl, b1⟩
        go_wp2_with fail
        refine (HS.out _ b1).mono ?_
        rintro e u2 ⟨rfl, c2⟩
        have b2 := chain b1 c2
        clear c2
        go_wp2_with fail
        go_ret
        exact ⟨ret_bool E.out.symm, b2⟩
      | true =>
        rw [Bool.true_and] at E
        replace E := hide E
        go_enter Tryd.func40, Tryd.ntmps40
        go_wp2_with fail
        refine (HC.out).mono ?_
        rintro e u1 ⟨rfl, b1⟩
        go_wp2_with fail
        refine (HS.out _ b1).mono ?_
        rintro e u2 ⟨rfl, c2⟩
        have b2 := chain b1 c2
        clear c2
        go_wp2_with fail
        refine (HF.out _ b2).mono ?_
        rintro e u3 ⟨rfl, c3⟩
        have b3 := chain b2 c3
        clear c3
        go_wp2_with fail
        go_ret
        exact ⟨ret_bool E.out.symm, b3⟩

set_option maxHeartbeats 2000000 in
theorem other_list (l : List UInt8) (w : World) (hs : l.length ≤ 100000) (hT : LinkTabs w) :
    Calls Tryd.prog 41 #[.string (txt l)] w fun e w' => e = .returned (.bool (othQ l)) ∧ Below w.heap.size w w' := by
  have E : othQ l = if twoB l then ((nameOf l).isEmpty || serverL (nameOf l)) && fineL (pathOf l) else fineL l := rfl
  cases hv : twoB l with
  | false =>
    have HC := hide (cutSite_no l w hv)
    rw [hv, if_neg (by simp)] at E
    have HF := hide (fun w' (bb : Below w.heap.size w w') => fine_list l w' hs (hT.below bb))
    replace E := hide E
    clear hv hT
    generalize fineL l = r2 at *
    generalize txt l = tl at *
    go_enter Tryd.func41, Tryd.ntmps41
    go_wp2_with fail
    refine (HC.out).mono ?_
    rintro e u1 ⟨rfl, rfl⟩
    go_wp2_with fail
    refine (HF.out _ (Below.refl _ _)).mono ?_
    rintro e u2 ⟨rfl, b2⟩
    go_wp2_with fail
    go_ret
    exact ⟨ret_bool E.out.symm, b2⟩
  | true =>
    have HC := hide (cutSite_yes l w hs hv)
    rw [hv, if_pos rfl] at E
    have h1 := nameOf_len l
    have h2 := pathOf_len l
    have HS := hide (fun w' (bb : Below w.heap.size w w') => site_list (nameOf l) w' (by omega) (hT.below bb))
    have HF := hide (fun w' (bb : Below w.heap.size w w') => fine_list (pathOf l) w' (by omega) (hT.below bb))
    clear hv hT h1 h2
    by_cases hz : nameOf l = []
    · have z0 : (txt (nameOf l)).toList = [] := by rw [ByteArray.toList_eq, txt_data, hz]
      rw [hz, show ([] : List UInt8).isEmpty = true from rfl, Bool.true_or, Bool.true_and] at E
      replace E := hide E
      clear hz HS
      generalize fineL (pathOf l) = r2 at *
      generalize txt l = tl at *
      generalize txt (nameOf l) = tn at *
      generalize txt (pathOf l) = tp at *
      go_enter Tryd.func41, Tryd.ntmps41
      go_wp2_with fail
      refine (HC.out).mono ?_
      rintro e u1 ⟨rfl, b1⟩
      go_wp2_with fail
      refine (HF.out _ b1).mono ?_
      rintro e u2 ⟨rfl, c2⟩
      have b2 := chain b1 c2
      clear c2
      go_wp2_with fail
      go_ret
      exact ⟨ret_bool E.out.symm, b2⟩
    · have ⟨z0, z1⟩ := empty_list hz
      have z2 : (nameOf l).isEmpty = false := by
        cases hx : nameOf l with
        | nil => exact absurd hx hz
        | cons => rfl
      rw [z2, Bool.false_or] at E
      clear hz z2
      generalize serverL (nameOf l) = r1 at *
      generalize fineL (pathOf l) = r2 at *
      generalize txt l = tl at *
      generalize txt (nameOf l) = tn at *
      generalize txt (pathOf l) = tp at *
      cases r1 with
      | false =>
        rw [Bool.false_and] at E
        replace E := hide E
        go_enter Tryd.func41, Tryd.ntmps41
        go_wp2_with fail
        refine (HC.out).mono ?_
        rintro e u1 ⟨rfl, b1⟩
        go_wp2_with fail
        refine (HS.out _ b1).mono ?_
        rintro e u2 ⟨rfl, c2⟩
        have b2 := chain b1 c2
        clear c2
        go_wp2_with fail
        go_ret
        exact ⟨ret_bool E.out.symm, b2⟩
      | true =>
        rw [Bool.true_and] at E
        replace E := hide E
        go_enter Tryd.func41, Tryd.ntmps41
        go_wp2_with fail
        refine (HC.out).mono ?_
        rintro e u1 ⟨rfl, b1⟩
        go_wp2_with fail
        refine (HS.out _ b1).mono ?_
        rintro e u2 ⟨rfl, c2⟩
        have b2 := chain b1 c2
        clear c2
        go_wp2_with fail
        refine (HF.out _ b2).mono ?_
        rintro e u3 ⟨rfl, c3⟩
        have b3 := chain b2 c3
        clear c3
        go_wp2_with fail
        go_ret
        exact ⟨ret_bool E.out.symm, b3⟩

theorem schP_none {l : List UInt8} (h : hasB l 58 = false) : schOk l = false := sch_none (fun m => by rw [(has_iff l 58).2 m] at h; cases h)
theorem schP_is {l : List UInt8} (h : hasB l 58 = true) : schOk l = (!(headL 58 l).isEmpty && (alphaB ((headL 58 l).getD 0 0) && (headL 58 l).all schC)) ∧ (schOk l = true → schL l = lowL (headL 58 l)) := by
  rcases first_cases 58 l with m | ⟨a, b, rfl, ha⟩
  · rw [has_no m] at h; cases h
  · rw [(head_cut b ha).1]
    exact ⟨(sch_cut b ha).1, fun ok => schL_cut b ha ok⟩
set_option maxHeartbeats 4000000 in
theorem scheme_list (l : List UInt8) (w : World) (hs : l.length ≤ 100000) (hT : LinkTabs w) :
    Calls Tryd.prog 11 #[.string (txt l)] w fun e w' => e = .returned (schV (txt l)) ∧ Below w.heap.size w w' := by
  have HC := hide (cutc_is 58 l w (by omega) hT.max)
  have NO := fun h => schV_no (s := txt l) h
  have YES := fun t h h2 => schV_yes (s := txt l) (t := t) h h2
  rw [txt_data] at NO YES
  have hl := head_len 58 l
  clear hT
  cases hv : hasB l 58 with
  | false =>
    have E := hide (NO (schP_none hv))
    rw [hv] at HC
    clear hv NO YES hl
    generalize schV (txt l) = R at *
    generalize txt l = tl at *
    generalize txt (headL 58 l) = th at *
    generalize txt (tailL 58 l) = tt at *
    go_enter Tryd.func11, Tryd.ntmps11
    go_wp2_with fail
    refine (HC.out).mono ?_
    rintro e u1 ⟨rfl, b1⟩
    go_wp2_with fail
    go_ret2
    exact ⟨by rw [E.out]; rfl, b1⟩
  | true =>
    obtain ⟨E1, E2⟩ := schP_is hv
    rw [hv] at HC
    clear hv
    generalize headL 58 l = a at *
    generalize tailL 58 l = b at *
    by_cases hz : a = []
    · have E := hide (NO (by rw [E1, hz]; rfl))
      have z0 : (txt a).toList = [] := by rw [ByteArray.toList_eq, txt_data, hz]
      clear hz E1 E2 NO YES hl
      generalize schV (txt l) = R at *
      generalize txt l = tl at *
      generalize txt a = th at *
      generalize txt b = tt at *
      go_enter Tryd.func11, Tryd.ntmps11
      go_wp2_with fail
      refine (HC.out).mono ?_
      rintro e u1 ⟨rfl, b1⟩
      go_wp2_with fail
      go_ret2
      exact ⟨by rw [E.out]; rfl, b1⟩
    · have ⟨z0, z1⟩ := empty_list hz
      have hpos : 0 < (txt a).size := by
        have := List.length_pos_iff.2 hz
        exact this
      have e0 : a.getD 0 0 = (txt a)[0] := (byteAt_eq (txt a) 0 hpos).symm
      have ze : a.isEmpty = false := by
        cases hx : a with
        | nil => exact absurd hx hz
        | cons => rfl
      rw [ze, Bool.not_false, Bool.true_and, e0] at E1
      have HO := hide (fun w => oneOf_new (txt a)[0] [letT] 1 _ 9 w rfl rfl (by decide))
      rw [any_alpha] at HO
      have HM := hide (fun w => madeOf_new (txt a) [letT, digT, [43, 45, 46]] 3 _ 9 w rfl rfl (by decide) (by rw [txt_size]; omega))
      rw [txt_data, all_sch] at HM
      have HL := hide (fun w => lower_any (txt a) w (by rw [txt_size]; unfold maxLen; omega))
      have YE := fun ok => YES (lowS (txt a)) ok ((E2 ok).trans (lowS_data (txt a)).symm)
      clear hz ze e0 E2 YES hl
      cases h1 : alphaB (txt a)[0] with
      | false =>
        rw [h1] at HO
        rw [h1, Bool.false_and] at E1
        have E := hide (NO E1)
        clear h1 E1 NO YE HM HL
        generalize schV (txt l) = R at *
        generalize txt l = tl at *
        generalize txt a = th at *
        generalize txt b = tt at *
        go_enter Tryd.func11, Tryd.ntmps11
        go_wp2_with fail
        refine (HC.out).mono ?_
        rintro e u1 ⟨rfl, b1⟩
        go_wp2_with fail
        refine (HO.out _).mono ?_
        rintro e u2 ⟨rfl, c2⟩
        have b2 := chain b1 c2
        clear c2
        go_wp2_with fail
        go_ret2
        exact ⟨by rw [E.out]; rfl, b2⟩
      | true =>
        rw [h1] at HO
        rw [h1, Bool.true_and] at E1
        cases h2 : a.all schC with
        | false =>
          rw [h2] at HM
          rw [h2] at E1
          have E := hide (NO E1)
          clear h1 h2 E1 NO YE HL
          generalize schV (txt l) = R at *
          generalize txt l = tl at *
          generalize txt a = th at *
          generalize txt b = tt at *
          go_enter Tryd.func11, Tryd.ntmps11
          go_wp2_with fail
          refine (HC.out).mono ?_
          rintro e u1 ⟨rfl, b1⟩
          go_wp2_with fail
          refine (HO.out _).mono ?_
          rintro e u2 ⟨rfl, c2⟩
          have b2 := chain b1 c2
          clear c2
          go_wp2_with fail
          refine (HM.out _).mono ?_
          rintro e u3 ⟨rfl, c3⟩
          have b3 := chain b2 c3
          clear c3
          go_wp2_with fail
          go_ret2
          exact ⟨by rw [E.out]; rfl, b3⟩
        | true =>
          rw [h2] at HM
          rw [h2] at E1
          have E := hide (YE E1)
          clear h1 h2 E1 NO YE
          generalize schV (txt l) = R at *
          generalize lowS (txt a) = lo at *
          generalize txt l = tl at *
          generalize txt a = th at *
          generalize txt b = tt at *
          go_enter Tryd.func11, Tryd.ntmps11
          go_wp2_with fail
          refine (HC.out).mono ?_
          rintro e u1 ⟨rfl, b1⟩
          go_wp2_with fail
          refine (HO.out _).mono ?_
          rintro e u2 ⟨rfl, c2⟩
          have b2 := chain b1 c2
          clear c2
          go_wp2_with fail
          refine (HM.out _).mono ?_
          rintro e u3 ⟨rfl, c3⟩
          have b3 := chain b2 c3
          clear c3
          go_wp2_with fail
          refine (HL.out _).mono ?_
          rintro e u4 ⟨rfl, c4⟩
          have b4 := chain b3 c4
          clear c4
          go_wp2_with fail
          go_ret2
          exact ⟨by rw [E.out]; rfl, b4⟩

theorem linkScheme_any (s : ByteArray) (w : World) (hs : s.size ≤ 100000) (hT : LinkTabs w) :
    Calls Tryd.prog 11 #[.string s] w fun e w' => e = .returned (schV s) ∧ Below w.heap.size w w' := scheme_list s.data.toList w (by simpa using hs) hT

theorem absP_ok {l : List UInt8} (h : schOk l = true) : absL l = bodyL (schL l) (l.drop (firstL 58 l + 1)) ∧ (schL l).length = firstL 58 l ∧ firstL 58 l + 1 ≤ l.length := by
  have h2 := h
  unfold schOk at h2
  rw [Bool.and_eq_true] at h2
  have h3 := of_decide_eq_true h2.1
  refine ⟨by unfold absL; rw [h]; rfl, ?_, by omega⟩
  unfold schL
  rw [if_pos h, lowL_length, List.length_take]
  omega
set_option maxHeartbeats 8000000 in
theorem abs_list (l : List UInt8) (w : World) (hs : l.length ≤ 100000) (hT : LinkTabs w) :
    Calls Tryd.prog 17 #[.string (txt l)] w fun e w' => e = .returned (.bool (absL l)) ∧ Below w.heap.size w w' := by
  have HS := hide (scheme_list l w hs hT)
  cases hok : schOk l with
  | false =>
    rw [schV_no (s := txt l) hok] at HS
    have E := hide (abs_none hok)
    clear hok hT
    generalize txt l = tl at *
    go_enter Tryd.func17, Tryd.ntmps17
    go_wp2_with fail
    refine (HS.out).mono ?_
    rintro e u1 ⟨rfl, b1⟩
    go_wp2_with fail
    go_ret
    exact ⟨ret_bool E.out.symm, b1⟩
  | true =>
    obtain ⟨E, el, eb⟩ := absP_ok hok
    obtain ⟨sc, f1, f2⟩ : ∃ sc : ByteArray, sc = txt (schL l) ∧ sc.data.toList = schL l := ⟨_, rfl, rfl⟩
    have f3 : sc.size = firstL 58 l := by rw [f1, txt_size]; exact el
    rw [schV_yes (s := txt l) (t := sc) hok f2.symm] at HS
    rw [← f2, ← f3, body_is] at E
    have hz : (txt l).size = l.length := rfl
    have hsc : sc.size + 1 ≤ (txt l).size := by omega
    have hsz : (txt l).size ≤ 100000 := by omega
    clear hok el eb f1 f2 f3
    have hr : (l.drop (sc.size + 1)).length ≤ 100000 := by rw [List.length_drop]; omega
    have H1 := hide (fun w' (bb : Below w.heap.size w w') => cutc_is 35 (l.drop (sc.size + 1)) w' (by omega) (hT.below bb).max)
    rw [← ex_drop] at H1
    clear hz
    generalize l.drop (sc.size + 1) = r at *
    have h1 := head_len 35 r
    have h2 := tail_len 35 r
    have F1 := hide (fun w' (bb : Below w.heap.size w w') => fine_list (tailL 35 r) w' (by omega) (hT.below bb))
    generalize headL 35 r = r1 at *
    generalize tailL 35 r = t1 at *
    have H2 := hide (fun w' (bb : Below w.heap.size w w') => cutc_is 63 r1 w' (by omega) (hT.below bb).max)
    have h3 := head_len 63 r1
    have h4 := tail_len 63 r1
    have F2 := hide (fun w' (bb : Below w.heap.size w w') => fine_list (tailL 63 r1) w' (by omega) (hT.below bb))
    have HSp := hide (fun w' (bb : Below w.heap.size w w') => special_list (headL 63 r1) w' (by omega) (hT.below bb))
    have HLo := hide (fun w' (bb : Below w.heap.size w w') => local_list (headL 63 r1) w' (by omega) (hT.below bb))
    have HOt := hide (fun w' (bb : Below w.heap.size w w') => other_list (headL 63 r1) w' (by omega) (hT.below bb))
    have C1 := core_spec (sc := sc.data.toList) (headL 63 r1)
    have C2 := core_locl (sc := sc.data.toList) (headL 63 r1)
    have C3 := core_oth (sc := sc.data.toList) (headL 63 r1)
    clear hT h1 h2 h3 h4 hr
    generalize headL 63 r1 = p at *
    generalize tailL 63 r1 = t2 at *
    generalize hasB r 35 = o1 at *
    generalize hasB r1 63 = o2 at *
    generalize coreL sc.data.toList p = core at *
    generalize specQ p = q1 at *
    generalize loclQ p = q2 at *
    generalize othQ p = q3 at *
    generalize absL l = R at *
    generalize txt l = tl at *
    generalize txt r1 = x1 at *
    generalize txt p = xp at *
    generalize fineL t1 = g1 at *
    generalize fineL t2 = g2 at *
    generalize txt t1 = y1 at *
    generalize txt t2 = y2 at *
    cases g1 with
    | false =>
      rw [Bool.false_and] at E
      replace E := hide E
      clear C1 C2 C3 HSp HLo HOt
      go_enter Tryd.func17, Tryd.ntmps17
      go_wp2_with fail
      refine (HS.out).mono ?_
      rintro e u1 ⟨rfl, b1⟩
      go_wp2_with fail
      refine (H1.out _ b1).mono ?_
      rintro e u2 ⟨rfl, c2⟩
      have b2 := chain b1 c2
      clear c2
      go_wp2_with fail
      refine (H2.out _ b2).mono ?_
      rintro e u3 ⟨rfl, c3⟩
      have b3 := chain b2 c3
      clear c3
      go_wp2_with fail
      refine (F1.out _ b3).mono ?_
      rintro e u4 ⟨rfl, c4⟩
      have b4 := chain b3 c4
      clear c4
      go_wp2_with fail
      go_ret
      exact ⟨ret_bool E.out.symm, b4⟩
    | true =>
      rw [Bool.true_and] at E
      cases g2 with
      | false =>
        rw [Bool.false_and] at E
        replace E := hide E
        clear C1 C2 C3 HSp HLo HOt
        go_enter Tryd.func17, Tryd.ntmps17
        go_wp2_with fail
        refine (HS.out).mono ?_
        rintro e u1 ⟨rfl, b1⟩
        go_wp2_with fail
        refine (H1.out _ b1).mono ?_
        rintro e u2 ⟨rfl, c2⟩
        have b2 := chain b1 c2
        clear c2
        go_wp2_with fail
        refine (H2.out _ b2).mono ?_
        rintro e u3 ⟨rfl, c3⟩
        have b3 := chain b2 c3
        clear c3
        go_wp2_with fail
        refine (F1.out _ b3).mono ?_
        rintro e u4 ⟨rfl, c4⟩
        have b4 := chain b3 c4
        clear c4
        go_wp2_with fail
        refine (F2.out _ b4).mono ?_
        rintro e u5 ⟨rfl, c5⟩
        have b5 := chain b4 c5
        clear c5
        go_wp2_with fail
        go_ret
        exact ⟨ret_bool E.out.symm, b5⟩
      | true =>
        rw [Bool.true_and] at E
        have sp : spec sc.data.toList = (sc.toList == [102, 116, 112] || (sc.toList == [104, 116, 116, 112] || (sc.toList == [104, 116, 116, 112, 115] || (sc.toList == [119, 115] || sc.toList == [119, 115, 115])))) := by
          unfold spec
          rw [ByteArray.toList_eq]
        have lo : locl sc.data.toList = (sc.toList == [102, 105, 108, 101]) := by
          unfold locl
          rw [ByteArray.toList_eq]
        cases z1 : (sc.toList == [102, 116, 112]) with
        | true =>
          have E := hide (E.trans (C1 (by rw [sp, z1]; simp)))
          clear C1 C2 C3 sp lo HLo HOt
          go_enter Tryd.func17, Tryd.ntmps17
          go_wp2_with fail
          refine (HS.out).mono ?_
          rintro e u1 ⟨rfl, b1⟩
          go_wp2_with fail
          refine (H1.out _ b1).mono ?_
          rintro e u2 ⟨rfl, c2⟩
          have b2 := chain b1 c2
          clear c2
          go_wp2_with fail
          refine (H2.out _ b2).mono ?_
          rintro e u3 ⟨rfl, c3⟩
          have b3 := chain b2 c3
          clear c3
          go_wp2_with fail
          refine (F1.out _ b3).mono ?_
          rintro e u4 ⟨rfl, c4⟩
          have b4 := chain b3 c4
          clear c4
          go_wp2_with fail
          refine (F2.out _ b4).mono ?_
          rintro e u5 ⟨rfl, c5⟩
          have b5 := chain b4 c5
          clear c5
          go_wp2_with fail
          refine (HSp.out _ b5).mono ?_
          rintro e u6 ⟨rfl, c6⟩
          have b6 := chain b5 c6
          clear c6
          go_wp2_with fail
          go_ret
          exact ⟨ret_bool E.out.symm, b6⟩
        | false =>
          cases z2 : (sc.toList == [104, 116, 116, 112]) with
          | true =>
            have E := hide (E.trans (C1 (by rw [sp, z1, z2]; simp)))
            clear C1 C2 C3 sp lo HLo HOt
            go_enter Tryd.func17, Tryd.ntmps17
            go_wp2_with fail
            refine (HS.out).mono ?_
            rintro e u1 ⟨rfl, b1⟩
            go_wp2_with fail
            refine (H1.out _ b1).mono ?_
            rintro e u2 ⟨rfl, c2⟩
            have b2 := chain b1 c2
            clear c2
            go_wp2_with fail
            refine (H2.out _ b2).mono ?_
            rintro e u3 ⟨rfl, c3⟩
            have b3 := chain b2 c3
            clear c3
            go_wp2_with fail
            refine (F1.out _ b3).mono ?_
            rintro e u4 ⟨rfl, c4⟩
            have b4 := chain b3 c4
            clear c4
            go_wp2_with fail
            refine (F2.out _ b4).mono ?_
            rintro e u5 ⟨rfl, c5⟩
            have b5 := chain b4 c5
            clear c5
            go_wp2_with fail
            refine (HSp.out _ b5).mono ?_
            rintro e u6 ⟨rfl, c6⟩
            have b6 := chain b5 c6
            clear c6
            go_wp2_with fail
            go_ret
            exact ⟨ret_bool E.out.symm, b6⟩
          | false =>
            cases z3 : (sc.toList == [104, 116, 116, 112, 115]) with
            | true =>
              have E := hide (E.trans (C1 (by rw [sp, z1, z2, z3]; simp)))
              clear C1 C2 C3 sp lo HLo HOt
              go_enter Tryd.func17, Tryd.ntmps17
              go_wp2_with fail
              refine (HS.out).mono ?_
              rintro e u1 ⟨rfl, b1⟩
              go_wp2_with fail
              refine (H1.out _ b1).mono ?_
              rintro e u2 ⟨rfl, c2⟩
              have b2 := chain b1 c2
              clear c2
              go_wp2_with fail
              refine (H2.out _ b2).mono ?_
              rintro e u3 ⟨rfl, c3⟩
              have b3 := chain b2 c3
              clear c3
              go_wp2_with fail
              refine (F1.out _ b3).mono ?_
              rintro e u4 ⟨rfl, c4⟩
              have b4 := chain b3 c4
              clear c4
              go_wp2_with fail
              refine (F2.out _ b4).mono ?_
              rintro e u5 ⟨rfl, c5⟩
              have b5 := chain b4 c5
              clear c5
              go_wp2_with fail
              refine (HSp.out _ b5).mono ?_
              rintro e u6 ⟨rfl, c6⟩
              have b6 := chain b5 c6
              clear c6
              go_wp2_with fail
              go_ret
              exact ⟨ret_bool E.out.symm, b6⟩
            | false =>
              cases z4 : (sc.toList == [119, 115]) with
              | true =>
                have E := hide (E.trans (C1 (by rw [sp, z1, z2, z3, z4]; simp)))
                clear C1 C2 C3 sp lo HLo HOt
                go_enter Tryd.func17, Tryd.ntmps17
                go_wp2_with fail
                refine (HS.out).mono ?_
                rintro e u1 ⟨rfl, b1⟩
                go_wp2_with fail
                refine (H1.out _ b1).mono ?_
                rintro e u2 ⟨rfl, c2⟩
                have b2 := chain b1 c2
                clear c2
                go_wp2_with fail
                refine (H2.out _ b2).mono ?_
                rintro e u3 ⟨rfl, c3⟩
                have b3 := chain b2 c3
                clear c3
                go_wp2_with fail
                refine (F1.out _ b3).mono ?_
                rintro e u4 ⟨rfl, c4⟩
                have b4 := chain b3 c4
                clear c4
                go_wp2_with fail
                refine (F2.out _ b4).mono ?_
                rintro e u5 ⟨rfl, c5⟩
                have b5 := chain b4 c5
                clear c5
                go_wp2_with fail
                refine (HSp.out _ b5).mono ?_
                rintro e u6 ⟨rfl, c6⟩
                have b6 := chain b5 c6
                clear c6
                go_wp2_with fail
                go_ret
                exact ⟨ret_bool E.out.symm, b6⟩
              | false =>
                cases z5 : (sc.toList == [119, 115, 115]) with
                | true =>
                  have E := hide (E.trans (C1 (by rw [sp, z1, z2, z3, z4, z5]; simp)))
                  clear C1 C2 C3 sp lo HLo HOt
                  go_enter Tryd.func17, Tryd.ntmps17
                  go_wp2_with fail
                  refine (HS.out).mono ?_
                  rintro e u1 ⟨rfl, b1⟩
                  go_wp2_with fail
                  refine (H1.out _ b1).mono ?_
                  rintro e u2 ⟨rfl, c2⟩
                  have b2 := chain b1 c2
                  clear c2
                  go_wp2_with fail
                  refine (H2.out _ b2).mono ?_
                  rintro e u3 ⟨rfl, c3⟩
                  have b3 := chain b2 c3
                  clear c3
                  go_wp2_with fail
                  refine (F1.out _ b3).mono ?_
                  rintro e u4 ⟨rfl, c4⟩
                  have b4 := chain b3 c4
                  clear c4
                  go_wp2_with fail
                  refine (F2.out _ b4).mono ?_
                  rintro e u5 ⟨rfl, c5⟩
                  have b5 := chain b4 c5
                  clear c5
                  go_wp2_with fail
                  refine (HSp.out _ b5).mono ?_
                  rintro e u6 ⟨rfl, c6⟩
                  have b6 := chain b5 c6
                  clear c6
                  go_wp2_with fail
                  go_ret
                  exact ⟨ret_bool E.out.symm, b6⟩
                | false =>
                  cases z6 : (sc.toList == [102, 105, 108, 101]) with
                  | true =>
                    have E := hide (E.trans (C2 (by rw [sp, z1, z2, z3, z4, z5]; rfl) (by rw [lo, z6])))
                    clear C1 C2 C3 sp lo HSp HOt
                    go_enter Tryd.func17, Tryd.ntmps17
                    go_wp2_with fail
                    refine (HS.out).mono ?_
                    rintro e u1 ⟨rfl, b1⟩
                    go_wp2_with fail
                    refine (H1.out _ b1).mono ?_
                    rintro e u2 ⟨rfl, c2⟩
                    have b2 := chain b1 c2
                    clear c2
                    go_wp2_with fail
                    refine (H2.out _ b2).mono ?_
                    rintro e u3 ⟨rfl, c3⟩
                    have b3 := chain b2 c3
                    clear c3
                    go_wp2_with fail
                    refine (F1.out _ b3).mono ?_
                    rintro e u4 ⟨rfl, c4⟩
                    have b4 := chain b3 c4
                    clear c4
                    go_wp2_with fail
                    refine (F2.out _ b4).mono ?_
                    rintro e u5 ⟨rfl, c5⟩
                    have b5 := chain b4 c5
                    clear c5
                    go_wp2_with fail
                    refine (HLo.out _ b5).mono ?_
                    rintro e u6 ⟨rfl, c6⟩
                    have b6 := chain b5 c6
                    clear c6
                    go_wp2_with fail
                    go_ret
                    exact ⟨ret_bool E.out.symm, b6⟩
                  | false =>
                    have E := hide (E.trans (C3 (by rw [sp, z1, z2, z3, z4, z5]; rfl) (by rw [lo, z6])))
                    clear C1 C2 C3 sp lo HSp HLo
                    go_enter Tryd.func17, Tryd.ntmps17
                    go_wp2_with fail
                    refine (HS.out).mono ?_
                    rintro e u1 ⟨rfl, b1⟩
                    go_wp2_with fail
                    refine (H1.out _ b1).mono ?_
                    rintro e u2 ⟨rfl, c2⟩
                    have b2 := chain b1 c2
                    clear c2
                    go_wp2_with fail
                    refine (H2.out _ b2).mono ?_
                    rintro e u3 ⟨rfl, c3⟩
                    have b3 := chain b2 c3
                    clear c3
                    go_wp2_with fail
                    refine (F1.out _ b3).mono ?_
                    rintro e u4 ⟨rfl, c4⟩
                    have b4 := chain b3 c4
                    clear c4
                    go_wp2_with fail
                    refine (F2.out _ b4).mono ?_
                    rintro e u5 ⟨rfl, c5⟩
                    have b5 := chain b4 c5
                    clear c5
                    go_wp2_with fail
                    refine (HOt.out _ b5).mono ?_
                    rintro e u6 ⟨rfl, c6⟩
                    have b6 := chain b5 c6
                    clear c6
                    go_wp2_with fail
                    go_ret
                    exact ⟨ret_bool E.out.symm, b6⟩

theorem linkAbs_any (s : ByteArray) (w : World) (hs : s.size ≤ 100000) (hT : LinkTabs w) :
    Calls Tryd.prog 17 #[.string s] w fun e w' => e = .returned (.bool (absL s.data.toList)) ∧ Below w.heap.size w w' := abs_list s.data.toList w (by simpa using hs) hT

end Go.Proofs.YtkllknfgojjphaaDoor
