/- The document's spared and Disabled of layer 16. What a person's key in a node does, as a function of documents. -/
import Derived.Test.YtnojgejcmaajmaaGreatDoorJsb56

namespace Go.Proofs.YtnojgejcmaajmaaGreatDoor
open Go.RowKit
set_option maxRecDepth 100000
def spG (l : List Nd) (i : Int) (o : Option Int) : Bool := match o with
  | none => false
  | some k => decide (k = i) || withinB l i k
theorem spare_is (l : List Nd) (i set : Int) : spareP l i set = spG l i (legP l set) := by
  unfold spareP spG
  cases legP l set <;> rfl
set_option maxHeartbeats 8000000 in
theorem refSpared_any (v : Value) (l : List Nd) (m f : Nat) (w : World) (hv : NodesV w v l) (hI : Is l (m : Int) m) (hf : f < l.length) :
    Calls Tryz.prog 131 #[v, .int .i64 (m : Int), .int .i64 (f : Int)] w fun e w' => e = .returned (.bool (spareP l (m : Int) (f : Int))) ∧ w' = w := by
  have hR := hI.right
  have hL := right_linked hR
  have hlen := hR.len.2
  have h0 := hI.lt
  have HWi := hide (fun (k : Int) => refWithin_any v l (m : Int) m k w hv hI)
  have ES : Hid (spareP l (m : Int) (f : Int) = spG l (m : Int) (l[f].kids.find? fun k => decide (nmI l k = oLeg))) := by
    show _ = _
    rw [spare_is]
    unfold legP
    rw [Int.toNat_natCast, nd_at hf]
  have RNG : Hid (∀ i (h : i < l[f].kids.length), 0 ≤ l[f].kids[i] ∧ l[f].kids[i] < (l.length : Int)) := fun i h => (hL.kidI ⟨by omega, by omega⟩ (k := (f : Int)) (c := l[f].kids[i]) (by unfold kidsI; rw [Int.toNat_natCast, nd_at hf]; exact List.getElem_mem h)).1
  have KL : l[f].kids.length ≤ 400 := by
    have := kids_few hR hf
    rwa [nd_at hf] at this
  obtain ⟨p, c, rfl⟩ : ∃ p c, v = .slice p l.length c := by obtain ⟨p, c, e, _⟩ := hv; exact ⟨p, c, e⟩
  obtain ⟨b, o, rfl, va, vk, N0⟩ := nd_open hv hf
  have HN : Hid (∀ i (h : i < l.length), ∃ va vk, NodeAt w b (o + i * 5) l[i] va vk) := by
    obtain ⟨p', c', e, h⟩ := hv
    cases e
    rcases h with h | ⟨b', o', e, h⟩
    · rw [h] at hf; cases hf
    · cases e; exact h
  obtain ⟨pk, ck, rfl, hkc⟩ := N0.ks
  have HKC := hide hkc
  have a4 := N0.kids
  have f0 : (0 : Int) ≤ (f : Int) := by omega
  have f1 : (f : Int) < (l.length : Int) := by omega
  clear hv hI hR hL N0 hkc
  generalize spareP l (m : Int) (f : Int) = RES at *
  generalize hKS : l[f].kids = KS at *
  clear hKS
  go_enter Tryz.func131, Tryz.ntmps131
  go_wp2_with fail
  go_loop [7] (fun iv => ∃ k : Nat, k ≤ KS.length ∧ iv = .int .i64 k ∧ Hid (RES = spG l (m : Int) ((KS.drop k).find? fun k => decide (nmI l k = oLeg)))) (fun iv => KS.length - (intOf iv).toNat)
  case atStart => exact ⟨0, Nat.zero_le _, rfl, by show _ = _; rw [List.drop_zero]; exact ES.out⟩
  case round =>
    obtain ⟨k, hk, rfl, HE⟩ := hrel
    by_cases g : k < KS.length
    · have k1 : (k : Int) < (KS.length : Int) := by omega
      have k0 : (0 : Int) ≤ (k : Int) := by omega
      obtain ⟨kb, ko, rfl, hkc⟩ : ∃ kb ko, pk = some ⟨kb, ko, none⟩ ∧ ∀ i (h : i < KS.length), w.cell? ⟨kb, ko + i, none⟩ = some (.int .i64 KS[i]) := by
        rcases HKC.out with t | t
        · rw [t] at g; simp at g
        · exact t
      have x0 := hkc k g
      have rx := RNG.out k g
      obtain ⟨q, eq, hq⟩ := nat_of (z := KS[k]) (n := l.length) (by omega) rx.2
      rw [eq] at x0
      obtain ⟨va', vk', M0⟩ := HN.out q hq
      have n0 := M0.name
      have q0 : (0 : Int) ≤ (q : Int) := by omega
      have q1 : (q : Int) < (l.length : Int) := by omega
      have en : nmI l (q : Int) = l[q].name := nmI_at hq
      have HWq := hide (HWi.out (q : Int))
      have FN := hide (find_noW (p := fun k => decide (nmI l k = oLeg)) g)
      have FY := hide (find_yesW (p := fun k => decide (nmI l k = oLeg)) g)
      rw [eq] at FN FY
      clear hkc HKC RNG rx eq M0 ES HWi HN
      by_cases ff : l[q].name = oLeg
      · have t1 : (l[q].name.toList == [108, 101, 103, 101, 110, 100]) = true := lit_yes ff
        have E1 : Hid (RES = (decide ((q : Int) = (m : Int)) || withinB l (m : Int) (q : Int))) := by
          show _ = _
          rw [HE.out, FY.out (decide_eq_true (by rw [en]; exact ff))]
          rfl
        clear FN FY HE ff en
        generalize withinB l (m : Int) (q : Int) = wb at *
        by_cases qm : (q : Int) = (m : Int)
        · have d1 : ((q : Int) == (m : Int)) = true := beq_iff_eq.2 qm
          rw [decide_eq_true qm, Bool.true_or] at E1
          clear qm
          go_wp2_with fail
          go_ret
          exact ⟨ret_bool E1.out.symm, rfl⟩
        · have d1 : ((q : Int) == (m : Int)) = false := beq_eq_false_iff_ne.2 qm
          rw [decide_eq_false qm, Bool.false_or] at E1
          go_wp2_with fail
          refine HWq.out.mono ?_
          rintro e u ⟨rfl, hu⟩
          obtain rfl : w = u := hu.symm
          go_wp2_with fail
          go_ret
          exact ⟨ret_bool E1.out.symm, rfl⟩
      · have t1 : (l[q].name.toList == [108, 101, 103, 101, 110, 100]) = false := lit_no ff
        have E1 : Hid (RES = spG l (m : Int) ((KS.drop (k + 1)).find? fun k => decide (nmI l k = oLeg))) := by
          show _ = _
          rw [HE.out, FN.out (decide_eq_false (by rw [en]; exact ff))]
        clear FN FY HE ff en
        go_wp2_with fail
        go_round
        case rel => exact ⟨k + 1, by omega, by go_num, E1⟩
        case measure => simp [intOf]; omega
    · obtain rfl : k = KS.length := by omega
      have E1 : Hid (RES = false) := by show _ = _; rw [HE.out, List.drop_length]; rfl
      clear HE
      go_wp2_with fail
      go_ret
      exact ⟨ret_bool E1.out.symm, rfl⟩
set_option maxHeartbeats 8000000 in
theorem refDisabled_any (v : Value) (l : List Nd) (id : Int) (w : World) (hv : NodesV w v l) (hz : DocSz l) :
    Calls Tryz.prog 67 #[v, .int .i64 id] w fun e w' => e = .returned (.bool (disabledP l id)) ∧ Below w.heap.size w w' := by
  have HH := hide (refHas_any v l id w hv hz)
  cases h : hasN l id with
  | false =>
    have E : Hid (disabledP l id = false) := by show _ = _; unfold disabledP; rw [h, Bool.false_and]
    rw [h] at HH
    obtain ⟨p, c, rfl, _⟩ := hv
    clear h hz
    go_enter Tryz.func67, Tryz.ntmps67
    go_wp2_with fail
    refine HH.out.mono ?_
    rintro e w1 ⟨rfl, b1⟩
    go_wp2_with fail
    go_ret
    exact ⟨ret_bool E.out.symm, b1⟩
  | true =>
    obtain ⟨m, hI⟩ := Is.of h
    obtain ⟨rfl, h0⟩ := (⟨hI.eq, hI.lt⟩ : id = (m : Int) ∧ m < l.length)
    have hR := hide hI.right
    have hlen := hI.right.len.2
    have ED : Hid (disabledP l (m : Int) = ((subB (kI l (m : Int)) || decide (kI l (m : Int) = 29)) && (hasA l[m] oDis || (List.range l.length).any (barsB l (m : Int))))) := by
      show _ = _
      unfold disabledP
      rw [h, Bool.true_and, Int.toNat_natCast, nd_at h0]
    rw [h] at HH
    have hv' := hide hv
    have HK := hide (fun W (hb : Below w.heap.size w W) => refKind_any v l m W (hv'.out.below hb) hR.out h0)
    have HL := hide (fun W => refIs_2 (kI l (m : Int)) W)
    have HWi := hide (fun (k : Int) W (hb : Below w.heap.size w W) => refWithin_any v l (m : Int) m k W (hv'.out.below hb) hI)
    have HSp := hide (fun (f : Nat) W (hf : f < l.length) (hb : Below w.heap.size w W) => refSpared_any v l m f W (hv'.out.below hb) hI hf)
    have HAs : Hid (∀ (i : Nat) (hi : i < l.length) (va vk : Value) W, AttrsV W va l[i].attrs → Calls Tryz.prog 87 #[.agg #[.string l[i].name, .string l[i].text, va, .int .i64 l[i].parent, vk], .string ⟨#[100, 105, 115, 97, 98, 108, 101, 100]⟩] W fun e w' => e = .returned (.bool (hasA l[i] oDis)) ∧ Below W.heap.size W w') := fun i hi va vk W ha =>
      refOHas_any l[i] va vk oDis W ha (hz.nds l[i] (List.getElem_mem _)).attrs
    have HP : Hid (∀ k (hk : k < l.length), barsB l (m : Int) k = (decide (l[k].name = oSet) && (hasA l[k] oDis && (withinB l (m : Int) (k : Int) && !spareP l (m : Int) (k : Int))))) := fun k hk => by unfold barsB; rw [nd_at hk]
    obtain ⟨p, c, rfl⟩ : ∃ p c, v = .slice p l.length c := by obtain ⟨p, c, e, _⟩ := hv; exact ⟨p, c, e⟩
    obtain ⟨b, o, rfl, va, vk, N0⟩ := nd_open hv h0
    have HN : Hid (∀ i (h : i < l.length), ∃ va vk, NodeAt w b (o + i * 5) l[i] va vk) := by
      obtain ⟨p', c', e, h⟩ := hv
      cases e
      rcases h with h | ⟨b', o', e, h⟩
      · rw [h] at h0; cases h0
      · cases e; exact h
    have N1 := hide N0
    have HA := hide (fun W (hb : Below w.heap.size w W) => HAs.out m h0 va vk W (N1.out.at_.below hb))
    obtain ⟨pa, ka, rfl, _⟩ := N0.at_
    obtain ⟨pk, kk, rfl, _⟩ := N0.ks
    have i0 : (0 : Int) ≤ (m : Int) := by omega
    have i1 : (m : Int) < (l.length : Int) := by omega
    clear h hI hv hz hv' hR N0
    generalize disabledP l (m : Int) = RES at *
    generalize barsB l (m : Int) = P at *
    have KC : (subB (kI l (m : Int)) = true) ∨ (subB (kI l (m : Int)) = false ∧ kI l (m : Int) = 29) ∨ (subB (kI l (m : Int)) = false ∧ ¬ kI l (m : Int) = 29) := by
      cases subB (kI l (m : Int)) with
      | true => exact .inl rfl
      | false => exact .inr (if q : kI l (m : Int) = 29 then .inl ⟨rfl, q⟩ else .inr ⟨rfl, q⟩)
    rcases KC with sb | ⟨sb, k29⟩ | ⟨sb, k29⟩
    · rw [sb, Bool.true_or, Bool.true_and] at ED
      rw [sb] at HL
      clear sb
      generalize kI l (m : Int) = kq at *
      cases hd : hasA l[m] oDis with
      | true =>
        rw [hd, Bool.true_or] at ED
        rw [hd] at HA
        clear hd HAs HWi HSp HP HN
        go_enter Tryz.func67, Tryz.ntmps67
        go_wp2_with fail
        refine HH.out.mono ?_
        rintro e w1 ⟨rfl, b1⟩
        go_wp2_with fail
        refine (HK.out _ b1).mono ?_
        rintro e w2 ⟨rfl, b2⟩
        have B2 := hide (chain b1 b2)
        clear b1 b2
        go_wp2_with fail
        refine (HL.out _).mono ?_
        rintro e u ⟨rfl, hu⟩
        obtain rfl : w2 = u := hu.symm
        have a0 := cell_below N1.out.name B2.out
        have a1 := cell_below N1.out.text B2.out
        have a2 := cell_below N1.out.attrs B2.out
        have a3 := cell_below N1.out.parent B2.out
        have a4 := cell_below N1.out.kids B2.out
        go_wp2_with fail
        refine (HA.out _ B2.out).mono ?_
        rintro e w3 ⟨rfl, b3⟩
        have B3 := hide (chain B2.out b3)
        clear b3 a0 a1 a2 a3 a4
        go_wp2_with fail
        go_ret
        exact ⟨ret_bool ED.out.symm, B3.out⟩
      | false =>
        rw [hd, Bool.false_or] at ED
        rw [hd] at HA
        have ER := ED
        clear hd ED
        go_enter Tryz.func67, Tryz.ntmps67
        go_wp2_with fail
        refine HH.out.mono ?_
        rintro e w1 ⟨rfl, b1⟩
        go_wp2_with fail
        refine (HK.out _ b1).mono ?_
        rintro e w2 ⟨rfl, b2⟩
        have B2 := hide (chain b1 b2)
        clear b1 b2
        go_wp2_with fail
        refine (HL.out _).mono ?_
        rintro e u ⟨rfl, hu⟩
        obtain rfl : w2 = u := hu.symm
        have a0 := cell_below N1.out.name B2.out
        have a1 := cell_below N1.out.text B2.out
        have a2 := cell_below N1.out.attrs B2.out
        have a3 := cell_below N1.out.parent B2.out
        have a4 := cell_below N1.out.kids B2.out
        go_wp2_with fail
        refine (HA.out _ B2.out).mono ?_
        rintro e w3 ⟨rfl, b3⟩
        have B3 := hide (chain B2.out b3)
        clear b3 a0 a1 a2 a3 a4
        clear HA N1 HK HL HH
        go_wp2_with fail
        go_loopw [6] (fun iv wr => ∃ k : Nat, k ≤ l.length ∧ iv = .int .i64 k ∧ Hid (RES = ((List.range l.length).drop k).any P) ∧ Hid (Below w3.heap.size w3 wr)) (fun iv _ => l.length - (intOf iv).toNat)
        case atStart => exact ⟨0, Nat.zero_le _, rfl, by show _ = _; rw [List.drop_zero]; exact ER.out, Below.refl _ _⟩
        case round =>
          rename World => wr
          obtain ⟨k, hk, rfl, HE, BW⟩ := hrel
          have BWW := hide (chain B3.out BW.out)
          by_cases g : k < l.length
          · have k1 : (k : Int) < (l.length : Int) := by omega
            have k0 : (0 : Int) ≤ (k : Int) := by omega
            have ED : Hid (((List.range l.length).drop k).any P = (P k || ((List.range l.length).drop (k + 1)).any P)) := by
              show _ = _
              rw [List.drop_eq_getElem_cons (by rw [List.length_range]; exact g), List.any_cons, List.getElem_range]
            obtain ⟨va', vk', M0⟩ := HN.out k g
            have M1 := hide (M0.below BWW.out)
            have n0 := M1.out.name
            have n1 := M1.out.text
            have n2 := M1.out.attrs
            have n3 := M1.out.parent
            have n4 := M1.out.kids
            have HAk := hide (fun W (hb : Below w.heap.size w W) => HAs.out k g va' vk' W (M0.at_.below hb))
            have HWk := hide (fun W hb => HWi.out (k : Int) W hb)
            have HSk := hide (fun W hb => HSp.out k W g hb)
            have PK := hide (HP.out k g)
            obtain ⟨pa', ka', rfl, _⟩ := M0.at_
            obtain ⟨pk', kk', rfl, _⟩ := M0.ks
            clear HN HAs HWi HSp HP M0 ER
            have GO : Hid (P k = false → RES = ((List.range l.length).drop (k + 1)).any P) := fun q => by rw [HE.out, ED.out, q, Bool.false_or]
            have HIT : Hid (P k = true → RES = true) := fun q => by rw [HE.out, ED.out, q, Bool.true_or]
            clear HE ED
            by_cases ff : l[k].name = oSet
            · have t1 : (l[k].name.toList == [102, 105, 101, 108, 100, 115, 101, 116]) = true := lit_yes ff
              rw [decide_eq_true ff, Bool.true_and] at PK
              cases ha : hasA l[k] oDis with
              | false =>
                rw [ha, Bool.false_and] at PK
                rw [ha] at HAk
                have E1 := hide (GO.out PK.out)
                clear ff ha PK GO HIT
                go_wp2_with fail
                refine (HAk.out _ BWW.out).mono ?_
                rintro e w4 ⟨rfl, b4⟩
                go_wp2_with fail
                go_roundw
                case rel => exact ⟨k + 1, by omega, by go_num, E1, chain BW.out b4⟩
                case measure => simp [intOf]; omega
              | true =>
                rw [ha, Bool.true_and] at PK
                rw [ha] at HAk
                cases hw : withinB l (m : Int) (k : Int) with
                | false =>
                  rw [hw, Bool.false_and] at PK
                  rw [hw] at HWk
                  have E1 := hide (GO.out PK.out)
                  clear ff ha hw PK GO HIT
                  go_wp2_with fail
                  refine (HAk.out _ BWW.out).mono ?_
                  rintro e w4 ⟨rfl, b4⟩
                  have B4 := hide (chain BWW.out b4)
                  have C4 := hide (chain BW.out b4)
                  go_wp2_with fail
                  refine (HWk.out _ B4.out).mono ?_
                  rintro e u ⟨rfl, hu⟩
                  obtain rfl : w4 = u := hu.symm
                  go_wp2_with fail
                  go_roundw
                  case rel => exact ⟨k + 1, by omega, by go_num, E1, C4⟩
                  case measure => simp [intOf]; omega
                | true =>
                  rw [hw, Bool.true_and] at PK
                  rw [hw] at HWk
                  cases hs : spareP l (m : Int) (k : Int) with
                  | true =>
                    rw [hs] at PK HSk
                    have E1 := hide (GO.out PK.out)
                    clear ff ha hw hs PK GO HIT
                    go_wp2_with fail
                    refine (HAk.out _ BWW.out).mono ?_
                    rintro e w4 ⟨rfl, b4⟩
                    have B4 := hide (chain BWW.out b4)
                    have C4 := hide (chain BW.out b4)
                    go_wp2_with fail
                    refine (HWk.out _ B4.out).mono ?_
                    rintro e u ⟨rfl, hu⟩
                    obtain rfl : w4 = u := hu.symm
                    go_wp2_with fail
                    refine (HSk.out _ B4.out).mono ?_
                    rintro e u ⟨rfl, hu⟩
                    obtain rfl : w4 = u := hu.symm
                    go_wp2_with fail
                    go_roundw
                    case rel => exact ⟨k + 1, by omega, by go_num, E1, C4⟩
                    case measure => simp [intOf]; omega
                  | false =>
                    rw [hs] at PK HSk
                    have E1 := hide (HIT.out PK.out)
                    clear ff ha hw hs PK GO HIT
                    go_wp2_with fail
                    refine (HAk.out _ BWW.out).mono ?_
                    rintro e w4 ⟨rfl, b4⟩
                    have B4 := hide (chain BWW.out b4)
                    go_wp2_with fail
                    refine (HWk.out _ B4.out).mono ?_
                    rintro e u ⟨rfl, hu⟩
                    obtain rfl : w4 = u := hu.symm
                    go_wp2_with fail
                    refine (HSk.out _ B4.out).mono ?_
                    rintro e u ⟨rfl, hu⟩
                    obtain rfl : w4 = u := hu.symm
                    go_wp2_with fail
                    go_ret
                    exact ⟨ret_bool E1.out.symm, B4.out⟩
            · have t1 : (l[k].name.toList == [102, 105, 101, 108, 100, 115, 101, 116]) = false := lit_no ff
              rw [decide_eq_false ff, Bool.false_and] at PK
              have E1 := hide (GO.out PK.out)
              clear ff PK GO HIT
              go_wp2_with fail
              go_roundw
              case rel => exact ⟨k + 1, by omega, by go_num, E1, BW⟩
              case measure => simp [intOf]; omega
          · obtain rfl : k = l.length := by omega
            have E1 : Hid (RES = false) := by show _ = _; rw [HE.out, List.drop_eq_nil_of_le (by rw [List.length_range]; exact Nat.le_refl _)]; rfl
            clear HE
            go_wp2_with fail
            go_ret
            exact ⟨ret_bool E1.out.symm, BWW.out⟩
    · rw [k29, decide_eq_true rfl, Bool.or_true, Bool.true_and] at ED
      rw [sb, k29] at HL
      rw [k29] at HK
      clear sb k29
      cases hd : hasA l[m] oDis with
      | true =>
        rw [hd, Bool.true_or] at ED
        rw [hd] at HA
        clear hd HAs HWi HSp HP HN
        go_enter Tryz.func67, Tryz.ntmps67
        go_wp2_with fail
        refine HH.out.mono ?_
        rintro e w1 ⟨rfl, b1⟩
        go_wp2_with fail
        refine (HK.out _ b1).mono ?_
        rintro e w2 ⟨rfl, b2⟩
        have B2 := hide (chain b1 b2)
        clear b1 b2
        go_wp2_with fail
        refine (HL.out _).mono ?_
        rintro e u ⟨rfl, hu⟩
        obtain rfl : w2 = u := hu.symm
        have a0 := cell_below N1.out.name B2.out
        have a1 := cell_below N1.out.text B2.out
        have a2 := cell_below N1.out.attrs B2.out
        have a3 := cell_below N1.out.parent B2.out
        have a4 := cell_below N1.out.kids B2.out
        go_wp2_with fail
        refine (HA.out _ B2.out).mono ?_
        rintro e w3 ⟨rfl, b3⟩
        have B3 := hide (chain B2.out b3)
        clear b3 a0 a1 a2 a3 a4
        go_wp2_with fail
        go_ret
        exact ⟨ret_bool ED.out.symm, B3.out⟩
      | false =>
        rw [hd, Bool.false_or] at ED
        rw [hd] at HA
        have ER := ED
        clear hd ED
        go_enter Tryz.func67, Tryz.ntmps67
        go_wp2_with fail
        refine HH.out.mono ?_
        rintro e w1 ⟨rfl, b1⟩
        go_wp2_with fail
        refine (HK.out _ b1).mono ?_
        rintro e w2 ⟨rfl, b2⟩
        have B2 := hide (chain b1 b2)
        clear b1 b2
        go_wp2_with fail
        refine (HL.out _).mono ?_
        rintro e u ⟨rfl, hu⟩
        obtain rfl : w2 = u := hu.symm
        have a0 := cell_below N1.out.name B2.out
        have a1 := cell_below N1.out.text B2.out
        have a2 := cell_below N1.out.attrs B2.out
        have a3 := cell_below N1.out.parent B2.out
        have a4 := cell_below N1.out.kids B2.out
        go_wp2_with fail
        refine (HA.out _ B2.out).mono ?_
        rintro e w3 ⟨rfl, b3⟩
        have B3 := hide (chain B2.out b3)
        clear b3 a0 a1 a2 a3 a4
        clear HA N1 HK HL HH
        go_wp2_with fail
        go_loopw [6] (fun iv wr => ∃ k : Nat, k ≤ l.length ∧ iv = .int .i64 k ∧ Hid (RES = ((List.range l.length).drop k).any P) ∧ Hid (Below w3.heap.size w3 wr)) (fun iv _ => l.length - (intOf iv).toNat)
        case atStart => exact ⟨0, Nat.zero_le _, rfl, by show _ = _; rw [List.drop_zero]; exact ER.out, Below.refl _ _⟩
        case round =>
          rename World => wr
          obtain ⟨k, hk, rfl, HE, BW⟩ := hrel
          have BWW := hide (chain B3.out BW.out)
          by_cases g : k < l.length
          · have k1 : (k : Int) < (l.length : Int) := by omega
            have k0 : (0 : Int) ≤ (k : Int) := by omega
            have ED : Hid (((List.range l.length).drop k).any P = (P k || ((List.range l.length).drop (k + 1)).any P)) := by
              show _ = _
              rw [List.drop_eq_getElem_cons (by rw [List.length_range]; exact g), List.any_cons, List.getElem_range]
            obtain ⟨va', vk', M0⟩ := HN.out k g
            have M1 := hide (M0.below BWW.out)
            have n0 := M1.out.name
            have n1 := M1.out.text
            have n2 := M1.out.attrs
            have n3 := M1.out.parent
            have n4 := M1.out.kids
            have HAk := hide (fun W (hb : Below w.heap.size w W) => HAs.out k g va' vk' W (M0.at_.below hb))
            have HWk := hide (fun W hb => HWi.out (k : Int) W hb)
            have HSk := hide (fun W hb => HSp.out k W g hb)
            have PK := hide (HP.out k g)
            obtain ⟨pa', ka', rfl, _⟩ := M0.at_
            obtain ⟨pk', kk', rfl, _⟩ := M0.ks
            clear HN HAs HWi HSp HP M0 ER
            have GO : Hid (P k = false → RES = ((List.range l.length).drop (k + 1)).any P) := fun q => by rw [HE.out, ED.out, q, Bool.false_or]
            have HIT : Hid (P k = true → RES = true) := fun q => by rw [HE.out, ED.out, q, Bool.true_or]
            clear HE ED
            by_cases ff : l[k].name = oSet
            · have t1 : (l[k].name.toList == [102, 105, 101, 108, 100, 115, 101, 116]) = true := lit_yes ff
              rw [decide_eq_true ff, Bool.true_and] at PK
              cases ha : hasA l[k] oDis with
              | false =>
                rw [ha, Bool.false_and] at PK
                rw [ha] at HAk
                have E1 := hide (GO.out PK.out)
                clear ff ha PK GO HIT
                go_wp2_with fail
                refine (HAk.out _ BWW.out).mono ?_
                rintro e w4 ⟨rfl, b4⟩
                go_wp2_with fail
                go_roundw
                case rel => exact ⟨k + 1, by omega, by go_num, E1, chain BW.out b4⟩
                case measure => simp [intOf]; omega
              | true =>
                rw [ha, Bool.true_and] at PK
                rw [ha] at HAk
                cases hw : withinB l (m : Int) (k : Int) with
                | false =>
                  rw [hw, Bool.false_and] at PK
                  rw [hw] at HWk
                  have E1 := hide (GO.out PK.out)
                  clear ff ha hw PK GO HIT
                  go_wp2_with fail
                  refine (HAk.out _ BWW.out).mono ?_
                  rintro e w4 ⟨rfl, b4⟩
                  have B4 := hide (chain BWW.out b4)
                  have C4 := hide (chain BW.out b4)
                  go_wp2_with fail
                  refine (HWk.out _ B4.out).mono ?_
                  rintro e u ⟨rfl, hu⟩
                  obtain rfl : w4 = u := hu.symm
                  go_wp2_with fail
                  go_roundw
                  case rel => exact ⟨k + 1, by omega, by go_num, E1, C4⟩
                  case measure => simp [intOf]; omega
                | true =>
                  rw [hw, Bool.true_and] at PK
                  rw [hw] at HWk
                  cases hs : spareP l (m : Int) (k : Int) with
                  | true =>
                    rw [hs] at PK HSk
                    have E1 := hide (GO.out PK.out)
                    clear ff ha hw hs PK GO HIT
                    go_wp2_with fail
                    refine (HAk.out _ BWW.out).mono ?_
                    rintro e w4 ⟨rfl, b4⟩
                    have B4 := hide (chain BWW.out b4)
                    have C4 := hide (chain BW.out b4)
                    go_wp2_with fail
                    refine (HWk.out _ B4.out).mono ?_
                    rintro e u ⟨rfl, hu⟩
                    obtain rfl : w4 = u := hu.symm
                    go_wp2_with fail
                    refine (HSk.out _ B4.out).mono ?_
                    rintro e u ⟨rfl, hu⟩
                    obtain rfl : w4 = u := hu.symm
                    go_wp2_with fail
                    go_roundw
                    case rel => exact ⟨k + 1, by omega, by go_num, E1, C4⟩
                    case measure => simp [intOf]; omega
                  | false =>
                    rw [hs] at PK HSk
                    have E1 := hide (HIT.out PK.out)
                    clear ff ha hw hs PK GO HIT
                    go_wp2_with fail
                    refine (HAk.out _ BWW.out).mono ?_
                    rintro e w4 ⟨rfl, b4⟩
                    have B4 := hide (chain BWW.out b4)
                    go_wp2_with fail
                    refine (HWk.out _ B4.out).mono ?_
                    rintro e u ⟨rfl, hu⟩
                    obtain rfl : w4 = u := hu.symm
                    go_wp2_with fail
                    refine (HSk.out _ B4.out).mono ?_
                    rintro e u ⟨rfl, hu⟩
                    obtain rfl : w4 = u := hu.symm
                    go_wp2_with fail
                    go_ret
                    exact ⟨ret_bool E1.out.symm, B4.out⟩
            · have t1 : (l[k].name.toList == [102, 105, 101, 108, 100, 115, 101, 116]) = false := lit_no ff
              rw [decide_eq_false ff, Bool.false_and] at PK
              have E1 := hide (GO.out PK.out)
              clear ff PK GO HIT
              go_wp2_with fail
              go_roundw
              case rel => exact ⟨k + 1, by omega, by go_num, E1, BW⟩
              case measure => simp [intOf]; omega
          · obtain rfl : k = l.length := by omega
            have E1 : Hid (RES = false) := by show _ = _; rw [HE.out, List.drop_eq_nil_of_le (by rw [List.length_range]; exact Nat.le_refl _)]; rfl
            clear HE
            go_wp2_with fail
            go_ret
            exact ⟨ret_bool E1.out.symm, BWW.out⟩
    · rw [sb, decide_eq_false k29, Bool.or_false, Bool.false_and] at ED
      rw [sb] at HL
      have b29 : (kI l (m : Int) == 29) = false := beq_eq_false_iff_ne.2 k29
      clear sb
      generalize kI l (m : Int) = kq at *
      go_enter Tryz.func67, Tryz.ntmps67
      go_wp2_with fail
      refine HH.out.mono ?_
      rintro e w1 ⟨rfl, b1⟩
      go_wp2_with fail
      refine (HK.out _ b1).mono ?_
      rintro e w2 ⟨rfl, b2⟩
      have B2 := hide (chain b1 b2)
      clear b1 b2
      go_wp2_with fail
      refine (HL.out _).mono ?_
      rintro e u ⟨rfl, hu⟩
      obtain rfl : w2 = u := hu.symm
      go_wp2_with fail
      go_ret
      exact ⟨ret_bool ED.out.symm, B2.out⟩
end Go.Proofs.YtnojgejcmaajmaaGreatDoor

namespace Go.Proofs.YtnojgejcmaajmaaGreatDoor
open Go.RowKit
def blkN (l : List Nd) (ks : List Int) : Nat := (ks.filter fun k => blockB (kI l k)).length
def entP (l : List Nd) (id : Int) : Int × Int :=
  if formP l id < 0 ∨ blockB (kI l id) = false ∨ disabledP l id = true then (-1, 0)
  else if 0 ≤ defaultP l (formP l id) then (if disabledP l (defaultP l (formP l id)) = true then (-1, 0) else (defaultP l (formP l id), 1))
  else if blkN l (elementsP l (formP l id)) ≤ 1 then (formP l id, 2) else (-1, 0)
theorem form_has {l : List Nd} {id : Int} (h : ¬ formP l id < 0) : hasN l id = true := by
  apply Classical.byContradiction
  intro q
  apply h
  unfold formP
  rw [if_neg (fun t => q t.1)]; decide
theorem el_few {l : List Nd} {f : Int} : (elementsP l f).length ≤ 400 ∧ ∀ x ∈ elementsP l f, 0 ≤ x ∧ x < (l.length : Int) := by
  unfold elementsP
  split
  · rename_i h
    have hh : hasN l f = true := by unfold isK at h; rw [Bool.and_eq_true] at h; exact h.1
    obtain ⟨m, hI⟩ := Is.of hh
    obtain ⟨rfl, h0⟩ := (⟨hI.eq, hI.lt⟩ : f = (m : Int) ∧ m < l.length)
    obtain ⟨t, et, ht⟩ := top_in hI.right h0
    rw [et]
    refine ⟨Nat.le_trans (List.length_filter_le _ _) (order_few hI.right ht), fun x hx => ?_⟩
    have := (order_mem hI.right (by omega) (by omega) x).1 (List.mem_filter.1 hx).1
    exact ⟨this.1, this.2.1⟩
  · exact ⟨Nat.zero_le _, fun x hx => by cases hx⟩
theorem lin_yes {l : List Nd} {ks : List Int} {k : Nat} (h : k < ks.length) (e : blockB (kI l ks[k]) = true) : blkN l (ks.take (k + 1)) = blkN l (ks.take k) + 1 := by
  unfold blkN
  rw [List.take_succ_eq_append_getElem h, List.filter_append, List.length_append]
  simp [e]
theorem lin_no {l : List Nd} {ks : List Int} {k : Nat} (h : k < ks.length) (e : blockB (kI l ks[k]) = false) : blkN l (ks.take (k + 1)) = blkN l (ks.take k) := by
  unfold blkN
  rw [List.take_succ_eq_append_getElem h, List.filter_append, List.length_append]
  simp [e]
theorem ret_two {a b c d : Int} (h : a = b) (g : c = d) : Ending.returned (.tuple #[.int .i64 a, .int .i64 c]) = .returned (.tuple #[.int .i64 b, .int .i64 d]) := by rw [h, g]

end Go.Proofs.YtnojgejcmaajmaaGreatDoor
