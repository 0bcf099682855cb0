/- The document's Absolute of layer 8: it answers by the function of 'Link'; what lay in the world lies there still. Condition: texts of at most 2^20 bytes. -/
import Derived.Deep.DeepCutAuto
import Derived.Test.YtkllknfgojjphaaDoorLinkRef6
namespace Go.Proofs.YtkllknfgojjphaaDoor
open Go.RowKit

theorem abs_ok {l : List UInt8} (h : schOk l = true) : absL l = bodyL (schL l) (l.drop (firstL 58 l + 1)) ∧ (schL l).length = firstL 58 l ∧ firstL 58 l + 1 ≤ l.length := by
  have h2 := h
  unfold schOk at h2
  rw [Bool.and_eq_true] at h2
  have h3 := of_decide_eq_true h2.1
  refine ⟨by unfold absL; rw [h]; rfl, ?_, by omega⟩
  unfold schL
  rw [if_pos h, lowL_length, List.length_take]
  omega
theorem schV_ok {s : ByteArray} (h : schOk s.data.toList = true) : schV s = .tuple #[.string (txt (schL s.data.toList)), .bool true] := by
  unfold schV
  rw [h]
theorem body_parts (sc r : List UInt8) : bodyL sc r = (tailOk 35 r && (tailOk 63 (r.take (firstL 35 r)) && coreL sc ((r.take (firstL 35 r)).take (firstL 63 (r.take (firstL 35 r)))))) := rfl
theorem tail_at {c : UInt8} {r : ByteArray} {k : Nat} (hk : firstL c r.data.toList = k) (h : k < r.size) : tailOk c r.data.toList = fineL (r.extract (k + 1) r.size).data.toList := by
  have hl : r.data.toList.length = r.size := by simp
  unfold tailOk
  rw [hk, decide_eq_false (by omega), Bool.false_or, sub_end]
theorem tail_end {c : UInt8} {r : ByteArray} {k : Nat} (hk : firstL c r.data.toList = k) (h : ¬ k < r.size) : tailOk c r.data.toList = true := by
  have hl : r.data.toList.length = r.size := by simp
  unfold tailOk
  rw [hk, decide_eq_true (by omega), Bool.true_or]
theorem two_no {p : ByteArray} (h : ¬ 1 < p.size ∨ (∃ h : 0 < p.size, ¬ p[0] = 47) ∨ (∃ h : 1 < p.size, ¬ p[1] = 47)) : twoB p.data.toList = false := by
  have hl : p.data.toList.length = p.size := by simp
  unfold twoB
  rcases h with h | ⟨h, g⟩ | ⟨h, g⟩
  · rw [hl, decide_eq_false h]; rfl
  · rw [getD_is p 0 h, show (p[0] == 47) = false by rw [beq_eq_false_iff_ne]; exact g]; simp
  · rw [getD_is p 1 h, show (p[1] == 47) = false by rw [beq_eq_false_iff_ne]; exact g]; simp
theorem two_yes {p : ByteArray} (h : 1 < p.size) (g0 : p[0] = 47) (g1 : p[1] = 47) : twoB p.data.toList = true := by
  have hl : p.data.toList.length = p.size := by simp
  unfold twoB
  rw [hl, decide_eq_true h, getD_is p 0 (by omega), getD_is p 1 h, g0, g1]; rfl
theorem core_two {sc : List UInt8} {p d : ByteArray} {k : Nat} (h : twoB p.data.toList = true) (hd : p.extract 2 p.size = d) (hk : firstL 47 d.data.toList = k) : coreL sc p.data.toList = (fineL (p.extract (k + 2) p.size).data.toList && (if spec sc then serverL (p.extract 2 (k + 2)).data.toList else if locl sc then (p.extract 2 (k + 2)).data.toList.isEmpty || hostL (p.extract 2 (k + 2)).data.toList else (p.extract 2 (k + 2)).data.toList.isEmpty || serverL (p.extract 2 (k + 2)).data.toList)) := by
  have e0 : p.data.toList.drop 2 = d.data.toList := by rw [← hd, sub_end]
  have e1 : nameOf p.data.toList = (p.extract 2 (k + 2)).data.toList := by
    unfold nameOf
    rw [e0, hk, slice_cut, ← e0, List.drop_take]
    rw [show k + 2 - 2 = k by omega]
  have e2 : pathOf p.data.toList = (p.extract (k + 2) p.size).data.toList := by
    unfold pathOf
    rw [e0, hk, sub_end, ← e0, List.drop_drop, Nat.add_comm 2 k]
  unfold coreL
  rw [if_pos h, e1, e2]
theorem core_one {sc : List UInt8} {p : ByteArray} (h : twoB p.data.toList = false) : coreL sc p.data.toList = (fineL p.data.toList && (if spec sc then false else if locl sc then !p.data.toList.isEmpty && p.data.toList.getD 0 0 == 47 else true)) := by
  unfold coreL
  rw [if_neg (by rw [h]; simp)]

set_option maxHeartbeats 8000000 in
set_option maxRecDepth 100000 in
theorem refAbs_any (s : ByteArray) (w : World) (hs : s.size ≤ 1048576) :
    Calls Tryd.prog 18 #[.string s] w fun e w' => e = .returned (.bool (absL s.data.toList)) ∧ Below w.heap.size w w' := by
  have HS := hide (refScheme_any s w hs)
  cases hok : schOk s.data.toList with
  | false =>
    rw [schV_no hok] at HS
    have E := hide (abs_none hok)
    clear hok
    go_enter Tryd.func18, Tryd.ntmps18
    go_wp2_with fail
    refine HS.out.mono ?_
    rintro e w1 ⟨rfl, b1⟩
    go_wp2_with fail
    go_ret
    exact ⟨ret_bool E.out.symm, b1⟩
  | true =>
    rw [schV_ok hok] at HS
    obtain ⟨E, el, eb⟩ := abs_ok hok
    have hl : s.data.toList.length = s.size := by simp
    obtain ⟨sc, f1, f2, f3⟩ := txt_ex (schL s.data.toList)
    rw [f1] at HS
    rw [← f2, ← el, ← sub_end] at E
    have hsc : sc.size + 1 ≤ s.size := by omega
    rw [← f3] at E
    obtain ⟨r, er⟩ : ∃ r, s.extract (sc.size + 1) s.size = r := ⟨_, rfl⟩
    rw [er, body_parts] at E
    have hr : r.size ≤ 1048576 := by rw [← er, ByteArray.size_extract]; omega
    clear hok el eb hl f1 f2 f3
    generalize absL s.data.toList = R at *
    -- the place of #
    have H1 := hide (fun w => refFirst_any r 35 w hr)
    have hk1 : firstL 35 r.data.toList ≤ r.size := by have := first_le 35 r.data.toList; simpa using this
    obtain ⟨k1, ek1⟩ : ∃ k1, firstL 35 r.data.toList = k1 := ⟨_, rfl⟩
    rw [ek1] at H1 hk1 E
    rw [← sub_head] at E
    obtain ⟨r1, er1⟩ : ∃ r1, r.extract 0 k1 = r1 := ⟨_, rfl⟩
    rw [er1] at E
    have hr1 : r1.size ≤ 1048576 := by rw [← er1, ByteArray.size_extract]; omega
    -- the place of ?
    have H2 := hide (fun w => refFirst_any r1 63 w hr1)
    have hk2 : firstL 63 r1.data.toList ≤ r1.size := by have := first_le 63 r1.data.toList; simpa using this
    obtain ⟨k2, ek2⟩ : ∃ k2, firstL 63 r1.data.toList = k2 := ⟨_, rfl⟩
    rw [ek2] at H2 hk2 E
    rw [← sub_head] at E
    obtain ⟨p, ep⟩ : ∃ p, r1.extract 0 k2 = p := ⟨_, rfl⟩
    rw [ep] at E
    have hp : p.size ≤ 1048576 := by rw [← ep, ByteArray.size_extract]; omega
    obtain ⟨h1, eh1⟩ : ∃ h1, r.extract (k1 + 1) r.size = h1 := ⟨_, rfl⟩
    have hh1 : h1.size ≤ 1048576 := by rw [← eh1, ByteArray.size_extract]; omega
    obtain ⟨h2, eh2⟩ : ∃ h2, r1.extract (k2 + 1) r1.size = h2 := ⟨_, rfl⟩
    have hh2 : h2.size ≤ 1048576 := by rw [← eh2, ByteArray.size_extract]; omega
    have F1 := hide (fun w => refFine_any h1 w hh1)
    have F2 := hide (fun w => refFine_any h2 w hh2)
    have T1a := fun h => tail_at (c := 35) (r := r) ek1 h
    have T1b := fun h => tail_end (c := 35) (r := r) ek1 h
    have T2a := fun h => tail_at (c := 63) (r := r1) ek2 h
    have T2b := fun h => tail_end (c := 63) (r := r1) ek2 h
    rw [eh1] at T1a
    rw [eh2] at T2a
    clear ek1 ek2
    generalize tailOk 35 r.data.toList = t1 at *
    generalize tailOk 63 r1.data.toList = t2 at *
    have CORE3 : ∃ (T : Bool) (N Pt : ByteArray), T = twoB p.data.toList ∧ N.size ≤ 1048576 ∧ Pt.size ≤ 1048576 ∧
        coreL sc.data.toList p.data.toList = (fineL Pt.data.toList && (if T = true then (if spec sc.data.toList then serverL N.data.toList else if locl sc.data.toList then N.data.toList.isEmpty || hostL N.data.toList else N.data.toList.isEmpty || serverL N.data.toList) else (if spec sc.data.toList then false else if locl sc.data.toList then !p.data.toList.isEmpty && p.data.toList.getD 0 0 == 47 else true))) ∧
        ((T = false → N = ⟨#[]⟩ ∧ Pt = p) ∧ (T = true → ∃ (d : ByteArray) (k3 : Nat), 1 < p.size ∧ p.extract 2 p.size = d ∧ d.size ≤ 1048576 ∧ k3 + 2 ≤ p.size ∧ firstL 47 d.data.toList = k3 ∧ p.extract 2 (k3 + 2) = N ∧ p.extract (k3 + 2) p.size = Pt)) := by
      cases hT : twoB p.data.toList with
      | false => exact ⟨false, ⟨#[]⟩, p, rfl, by decide, hp, by rw [core_one hT]; rfl, fun _ => ⟨rfl, rfl⟩, fun h => by cases h⟩
      | true =>
        obtain ⟨d, ed⟩ : ∃ d, p.extract 2 p.size = d := ⟨_, rfl⟩
        have h1 : 1 < p.size := by
          unfold twoB at hT
          rw [Bool.and_eq_true] at hT
          have := of_decide_eq_true hT.1
          simpa using this
        have hdz : d.size = p.size - 2 := by rw [← ed, ByteArray.size_extract]; omega
        have hk : firstL 47 d.data.toList ≤ d.size := by have := first_le 47 d.data.toList; simpa using this
        refine ⟨true, p.extract 2 (firstL 47 d.data.toList + 2), p.extract (firstL 47 d.data.toList + 2) p.size, rfl, by rw [ByteArray.size_extract]; omega, by rw [ByteArray.size_extract]; omega, ?_, (fun h => by cases h), (fun _ => ⟨d, _, h1, ed, by omega, by omega, rfl, rfl, rfl⟩)⟩
        rw [core_two hT ed rfl]; rfl
    go_enter Tryd.func18, Tryd.ntmps18
    go_wp2_with fail
    refine (HS.out).mono ?_
    rintro e w1 ⟨rfl, b1⟩
    go_wp2_with fail
    refine (H1.out _).mono ?_
    rintro e uu ⟨rfl, rfl⟩
    clear HS H1
    go_upto_region 6 with fail
    go_cut [34] (fun t wx => t = .bool (!t1) ∧ Below w.heap.size w wx)
    case first =>
      by_cases g1 : k1 < r.size
      · have g1i : (k1 : Int) < (r.size : Int) := by omega
        have T := T1a g1
        clear T1a T1b T2a T2b CORE3
        go_wp2_with fail
        refine (F1.out _).mono ?_
        rintro e w2 ⟨rfl, b2⟩
        go_wp2_with fail
        go_meet
        case rel => exact ⟨by rw [T], chain b1 b2⟩
      · have g1i : ¬ (k1 : Int) < (r.size : Int) := by omega
        have T := T1b g1
        clear T1a T1b T2a T2b CORE3
        go_wp2_with fail
        go_meet
        case rel => exact ⟨by rw [T]; rfl, b1⟩
    case rest =>
    obtain ⟨rfl, b2⟩ := hcut
    clear b1 F1 T1a T1b
    cases t1 with
    | false =>
      rw [Bool.false_and] at E
      replace E := hide E
      clear T2a T2b CORE3
      go_wp2_with fail
      go_ret
      exact ⟨ret_bool E.out.symm, b2⟩
    | true =>
      rw [Bool.true_and] at E
      go_wp2_with fail
      refine (H2.out _).mono ?_
      rintro e uu ⟨rfl, rfl⟩
      clear H2
      go_upto_region 10 with fail
      go_cut [51] (fun t wx => t = .bool (!t2) ∧ Below w.heap.size w wx)
      case first =>
        by_cases g2 : k2 < r1.size
        · have g2i : (k2 : Int) < (r1.size : Int) := by omega
          have T := T2a g2
          clear T2a T2b CORE3
          go_wp2_with fail
          refine (F2.out _).mono ?_
          rintro e w3 ⟨rfl, b3⟩
          go_wp2_with fail
          go_meet
          case rel => exact ⟨by rw [T], chain b2 b3⟩
        · have g2i : ¬ (k2 : Int) < (r1.size : Int) := by omega
          have T := T2b g2
          clear T2a T2b CORE3
          go_wp2_with fail
          go_meet
          case rel => exact ⟨by rw [T]; rfl, b2⟩
      case rest =>
      obtain ⟨rfl, b3⟩ := hcut
      clear b2 F2 T2a T2b
      cases t2 with
      | false =>
        rw [Bool.false_and] at E
        replace E := hide E
        clear CORE3
        go_wp2_with fail
        go_ret
        exact ⟨ret_bool E.out.symm, b3⟩
      | true =>
        rw [Bool.true_and] at E
        obtain ⟨T, N, Pt, eT, hN, hPt, EC, TN⟩ := CORE3
        rw [EC] at E
        clear EC
        go_upto_region 13 with fail
        go_cut [6] (fun t wx => t = .bool T ∧ Below w.heap.size w wx)
        case first =>
          by_cases q1 : 1 < p.size
          · have q1i : (1 : Int) < (p.size : Int) := by omega
            have q0 : 0 < p.size := by omega
            have p0 := beq_byte p[0] 47
            have p1 := beq_byte p[1] 47
            by_cases d0 : p[0] = 47
            · by_cases d1 : p[1] = 47
              · rw [d0] at p0
                rw [d1] at p1
                have eT2 := eT.trans (two_yes q1 d0 d1)
                have p0 : ((p[0].toNat : Int) == 47) = true := by rw [d0]; rfl
                have p1 : ((p[1].toNat : Int) == 47) = true := by rw [d1]; rfl
                clear d0 d1 E TN eT
                go_wp2_with fail
                go_meet
                case rel => exact ⟨by rw [eT2], b3⟩
              · have eT2 := eT.trans (two_no (.inr (.inr ⟨q1, d1⟩)))
                have p0 : ((p[0].toNat : Int) == 47) = true := by rw [d0]; rfl
                have p1 : ((p[1].toNat : Int) == 47) = false := ne_int (c := 47) d1
                clear d0 d1 E TN eT
                go_wp2_with fail
                go_meet
                case rel => exact ⟨by rw [eT2], b3⟩
            · have eT2 := eT.trans (two_no (.inr (.inl ⟨q0, d0⟩)))
              have p0 : ((p[0].toNat : Int) == 47) = false := ne_int (c := 47) d0
              clear d0 E TN eT p1
              go_wp2_with fail
              go_meet
              case rel => exact ⟨by rw [eT2], b3⟩
          · have q1i : ¬ (1 : Int) < (p.size : Int) := by omega
            have eT2 := eT.trans (two_no (.inl q1))
            clear E TN eT
            go_wp2_with fail
            go_meet
            case rel => exact ⟨by rw [eT2], b3⟩
        case rest =>
        obtain ⟨rfl, b4⟩ := hcut
        clear b3 eT
        go_upto_if 69 with fail
        go_cut [5, 7, 8] (fun _ nm pt wx => nm = .string N ∧ pt = .string Pt ∧ Below w.heap.size w wx)
        case first =>
          cases T with
          | false =>
            obtain ⟨rfl, rfl⟩ := TN.1 rfl
            clear E TN
            go_wp2_with fail
            go_meet
            case rel => exact ⟨rfl, rfl, b4⟩
          | true =>
            obtain ⟨d, k3, q1, ed, hd, hk3, ek3, eN, eP⟩ := TN.2 rfl
            have H3 := hide (fun w => refFirst_any d 47 w hd)
            rw [ek3] at H3
            clear E TN ek3
            go_wp2_with fail
            refine (H3.out _).mono ?_
            rintro e uu ⟨rfl, rfl⟩
            go_wp2_with fail
            go_meet
            case rel => exact ⟨by first | rfl | rw [eN], by first | rfl | rw [eP], b4⟩
        case rest =>
        obtain ⟨rfl, rfl, b5⟩ := hcut
        clear b4 TN
        have HP := hide (fun w => refFine_any Pt w hPt)
        have HSv := hide (fun w => refServer_any N w hN)
        have HHo := hide (fun w => refHost_any N w hN)
        cases fp : fineL Pt.data.toList with
        | false =>
          rw [fp] at HP
          rw [fp, Bool.false_and] at E
          replace E := hide E
          clear fp HSv HHo
          go_wp2_with fail
          refine (HP.out _).mono ?_
          rintro e w5 ⟨rfl, b6⟩
          go_wp2_with fail
          go_ret
          exact ⟨ret_bool E.out.symm, chain b5 b6⟩
        | true =>
          rw [fp] at HP
          rw [fp, Bool.true_and, empty_size] at E
          clear fp
          cases z1 : (sc.toList == [102, 116, 112]) with
          | true =>
            have sp : spec sc.data.toList = true := by
              unfold spec
              rw [← ByteArray.toList_eq]
              simp [z1]
            cases T with
            | false =>
              rw [if_neg (by simp), if_pos sp] at E
              replace E := hide E
              clear sp HSv HHo
              go_wp2_with fail
              refine (HP.out _).mono ?_
              rintro e w5 ⟨rfl, b6⟩
              go_wp2_with fail
              go_ret
              exact ⟨ret_bool E.out.symm, chain b5 b6⟩
            | true =>
              rw [if_pos rfl, if_pos sp] at E
              replace E := hide E
              clear sp HHo
              generalize serverL N.data.toList = sv at *
              go_wp2_with fail
              refine (HP.out _).mono ?_
              rintro e w5 ⟨rfl, b6⟩
              go_wp2_with fail
              refine (HSv.out _).mono ?_
              rintro e w6 ⟨rfl, b7⟩
              go_wp2_with fail
              go_ret
              exact ⟨ret_bool E.out.symm, chain b5 (chain b6 b7)⟩
          | false =>
            cases z2 : (sc.toList == [104, 116, 116, 112]) with
            | true =>
              have sp : spec sc.data.toList = true := by
                unfold spec
                rw [← ByteArray.toList_eq]
                simp [z1, z2]
              cases T with
              | false =>
                rw [if_neg (by simp), if_pos sp] at E
                replace E := hide E
                clear sp HSv HHo
                go_wp2_with fail
                refine (HP.out _).mono ?_
                rintro e w5 ⟨rfl, b6⟩
                go_wp2_with fail
                go_ret
                exact ⟨ret_bool E.out.symm, chain b5 b6⟩
              | true =>
                rw [if_pos rfl, if_pos sp] at E
                replace E := hide E
                clear sp HHo
                generalize serverL N.data.toList = sv at *
                go_wp2_with fail
                refine (HP.out _).mono ?_
                rintro e w5 ⟨rfl, b6⟩
                go_wp2_with fail
                refine (HSv.out _).mono ?_
                rintro e w6 ⟨rfl, b7⟩
                go_wp2_with fail
                go_ret
                exact ⟨ret_bool E.out.symm, chain b5 (chain b6 b7)⟩
            | false =>
              cases z3 : (sc.toList == [104, 116, 116, 112, 115]) with
              | true =>
                have sp : spec sc.data.toList = true := by
                  unfold spec
                  rw [← ByteArray.toList_eq]
                  simp [z1, z2, z3]
                cases T with
                | false =>
                  rw [if_neg (by simp), if_pos sp] at E
                  replace E := hide E
                  clear sp HSv HHo
                  go_wp2_with fail
                  refine (HP.out _).mono ?_
                  rintro e w5 ⟨rfl, b6⟩
                  go_wp2_with fail
                  go_ret
                  exact ⟨ret_bool E.out.symm, chain b5 b6⟩
                | true =>
                  rw [if_pos rfl, if_pos sp] at E
                  replace E := hide E
                  clear sp HHo
                  generalize serverL N.data.toList = sv at *
                  go_wp2_with fail
                  refine (HP.out _).mono ?_
                  rintro e w5 ⟨rfl, b6⟩
                  go_wp2_with fail
                  refine (HSv.out _).mono ?_
                  rintro e w6 ⟨rfl, b7⟩
                  go_wp2_with fail
                  go_ret
                  exact ⟨ret_bool E.out.symm, chain b5 (chain b6 b7)⟩
              | false =>
                cases z4 : (sc.toList == [119, 115]) with
                | true =>
                  have sp : spec sc.data.toList = true := by
                    unfold spec
                    rw [← ByteArray.toList_eq]
                    simp [z1, z2, z3, z4]
                  cases T with
                  | false =>
                    rw [if_neg (by simp), if_pos sp] at E
                    replace E := hide E
                    clear sp HSv HHo
                    go_wp2_with fail
                    refine (HP.out _).mono ?_
                    rintro e w5 ⟨rfl, b6⟩
                    go_wp2_with fail
                    go_ret
                    exact ⟨ret_bool E.out.symm, chain b5 b6⟩
                  | true =>
                    rw [if_pos rfl, if_pos sp] at E
                    replace E := hide E
                    clear sp HHo
                    generalize serverL N.data.toList = sv at *
                    go_wp2_with fail
                    refine (HP.out _).mono ?_
                    rintro e w5 ⟨rfl, b6⟩
                    go_wp2_with fail
                    refine (HSv.out _).mono ?_
                    rintro e w6 ⟨rfl, b7⟩
                    go_wp2_with fail
                    go_ret
                    exact ⟨ret_bool E.out.symm, chain b5 (chain b6 b7)⟩
                | false =>
                  cases z5 : (sc.toList == [119, 115, 115]) with
                  | true =>
                    have sp : spec sc.data.toList = true := by
                      unfold spec
                      rw [← ByteArray.toList_eq]
                      simp [z1, z2, z3, z4, z5]
                    cases T with
                    | false =>
                      rw [if_neg (by simp), if_pos sp] at E
                      replace E := hide E
                      clear sp HSv HHo
                      go_wp2_with fail
                      refine (HP.out _).mono ?_
                      rintro e w5 ⟨rfl, b6⟩
                      go_wp2_with fail
                      go_ret
                      exact ⟨ret_bool E.out.symm, chain b5 b6⟩
                    | true =>
                      rw [if_pos rfl, if_pos sp] at E
                      replace E := hide E
                      clear sp HHo
                      generalize serverL N.data.toList = sv at *
                      go_wp2_with fail
                      refine (HP.out _).mono ?_
                      rintro e w5 ⟨rfl, b6⟩
                      go_wp2_with fail
                      refine (HSv.out _).mono ?_
                      rintro e w6 ⟨rfl, b7⟩
                      go_wp2_with fail
                      go_ret
                      exact ⟨ret_bool E.out.symm, chain b5 (chain b6 b7)⟩
                  | false =>
                    cases z6 : (sc.toList == [102, 105, 108, 101]) with
                    | true =>
                      have sp : ¬ spec sc.data.toList = true := by
                        unfold spec
                        rw [← ByteArray.toList_eq]
                        simp [z1, z2, z3, z4, z5]
                      have lo : locl sc.data.toList = true := by
                        unfold locl
                        rw [← ByteArray.toList_eq]
                        simp [z6]
                      cases T with
                      | false =>
                        rw [if_neg (by simp), if_neg sp, if_pos lo] at E
                        clear sp lo HSv HHo
                        by_cases q0 : 0 < p.size
                        · have q0i : (0 : Int) < (p.size : Int) := by omega
                          have p0 := beq_byte p[0] 47
                          rw [getD_is p 0 q0, empty_size p, decide_eq_false (show ¬ p.size = 0 by omega), Bool.not_false, Bool.true_and] at E
                          rw [← p0] at E
                          replace E := hide E
                          clear p0
                          go_wp2_with fail
                          refine (HP.out _).mono ?_
                          rintro e w5 ⟨rfl, b6⟩
                          go_wp2_with fail
                          go_ret
                          exact ⟨ret_bool E.out.symm, chain b5 b6⟩
                        · have q0i : ¬ (0 : Int) < (p.size : Int) := by omega
                          rw [empty_size p, decide_eq_true (show p.size = 0 by omega), Bool.not_true, Bool.false_and] at E
                          replace E := hide E
                          go_wp2_with fail
                          refine (HP.out _).mono ?_
                          rintro e w5 ⟨rfl, b6⟩
                          go_wp2_with fail
                          go_ret
                          exact ⟨ret_bool E.out.symm, chain b5 b6⟩
                      | true =>
                        rw [if_pos rfl, if_neg sp, if_pos lo] at E
                        clear sp lo HSv
                        by_cases n0 : N.size = 0
                        · have n0i : ((N.size : Int) == 0) = true := by rw [beq_iff_eq]; omega
                          rw [decide_eq_true n0, Bool.true_or] at E
                          replace E := hide E
                          clear n0 HHo
                          go_wp2_with fail
                          refine (HP.out _).mono ?_
                          rintro e w5 ⟨rfl, b6⟩
                          go_wp2_with fail
                          go_ret
                          exact ⟨ret_bool E.out.symm, chain b5 b6⟩
                        · have n0i : ((N.size : Int) == 0) = false := by rw [beq_eq_false_iff_ne]; omega
                          rw [decide_eq_false n0, Bool.false_or] at E
                          replace E := hide E
                          clear n0
                          generalize hostL N.data.toList = sv at *
                          go_wp2_with fail
                          refine (HP.out _).mono ?_
                          rintro e w5 ⟨rfl, b6⟩
                          go_wp2_with fail
                          refine (HHo.out _).mono ?_
                          rintro e w6 ⟨rfl, b7⟩
                          go_wp2_with fail
                          go_ret
                          exact ⟨ret_bool E.out.symm, chain b5 (chain b6 b7)⟩
                    | false =>
                      have sp : ¬ spec sc.data.toList = true := by
                        unfold spec
                        rw [← ByteArray.toList_eq]
                        simp [z1, z2, z3, z4, z5]
                      have lo : ¬ locl sc.data.toList = true := by
                        unfold locl
                        rw [← ByteArray.toList_eq]
                        simp [z6]
                      cases T with
                      | false =>
                        rw [if_neg (by simp), if_neg sp, if_neg lo] at E
                        replace E := hide E
                        clear sp lo HSv HHo
                        go_wp2_with fail
                        refine (HP.out _).mono ?_
                        rintro e w5 ⟨rfl, b6⟩
                        go_wp2_with fail
                        go_ret
                        exact ⟨ret_bool E.out.symm, chain b5 b6⟩
                      | true =>
                        rw [if_pos rfl, if_neg sp, if_neg lo] at E
                        clear sp lo HHo
                        by_cases n0 : N.size = 0
                        · have n0i : ((N.size : Int) == 0) = true := by rw [beq_iff_eq]; omega
                          rw [decide_eq_true n0, Bool.true_or] at E
                          replace E := hide E
                          clear n0 HSv
                          go_wp2_with fail
                          refine (HP.out _).mono ?_
                          rintro e w5 ⟨rfl, b6⟩
                          go_wp2_with fail
                          go_ret
                          exact ⟨ret_bool E.out.symm, chain b5 b6⟩
                        · have n0i : ((N.size : Int) == 0) = false := by rw [beq_eq_false_iff_ne]; omega
                          rw [decide_eq_false n0, Bool.false_or] at E
                          replace E := hide E
                          clear n0
                          generalize serverL N.data.toList = sv at *
                          go_wp2_with fail
                          refine (HP.out _).mono ?_
                          rintro e w5 ⟨rfl, b6⟩
                          go_wp2_with fail
                          refine (HSv.out _).mono ?_
                          rintro e w6 ⟨rfl, b7⟩
                          go_wp2_with fail
                          go_ret
                          exact ⟨ret_bool E.out.symm, chain b5 (chain b6 b7)⟩

end Go.Proofs.YtkllknfgojjphaaDoor
