/- The document's Enter of layer 24. -/
import Derived.Test.YtnojgejcmaajmaaGreatDoorJsb59

namespace Go.Proofs.YtnojgejcmaajmaaGreatDoor
open Go.RowKit
set_option maxRecDepth 100000
set_option maxHeartbeats 8000000 in
theorem refEnterS_any (v : Value) (l : List Nd) (id : Int) (w : World) (hv : NodesV w v l) (hz : DocSz l) :
    Calls Tryz.prog 18 #[v, .int .i64 id] w fun e w' => e = .returned (.tuple #[.int .i64 (entP l id).1, .int .i64 (entP l id).2]) ∧ Below w.heap.size w w' := by
  have hl := hz.len
  have HFm := hide (refForm_any v l id w hv hz)
  by_cases f0 : formP l id < 0
  · have E : entP l id = (-1, 0) := by unfold entP; rw [if_pos (.inl f0)]
    have d0 : decide (formP l id < 0) = true := decide_eq_true f0
    have R1 : Hid ((entP l id).1 = -1) := by show _ = _; rw [E]
    have R2 : Hid ((entP l id).2 = 0) := by show _ = _; rw [E]
    generalize (entP l id).1 = RA at *
    generalize (entP l id).2 = RB at *
    clear E
    obtain ⟨p, c, rfl, hvv⟩ := hv
    clear hvv hz
    generalize formP l id = f at *
    go_enter Tryz.func18, Tryz.ntmps18
    go_wp2_with fail
    refine HFm.out.mono ?_
    rintro e w1 ⟨rfl, b1⟩
    have B1 := hide b1
    clear b1 HFm
    go_wp2_with fail
    go_ret2
    exact ⟨ret_two R1.out.symm R2.out.symm, B1.out⟩
  · obtain ⟨m, hI⟩ := Is.of (form_has f0)
    obtain ⟨rfl, hm⟩ := (⟨hI.eq, hI.lt⟩ : id = (m : Int) ∧ m < l.length)
    have d0 : decide (formP l (m : Int) < 0) = false := decide_eq_false f0
    have HD := hide (fun W (hb : Below w.heap.size w W) => refDisabled_any v l (m : Int) W (hv.below hb) hz)
    have HDf := hide (fun W (hb : Below w.heap.size w W) => refDefault_any v l (formP l (m : Int)) W (hv.below hb) hz)
    have HD2 := hide (fun W (hb : Below w.heap.size w W) => refDisabled_any v l (defaultP l (formP l (m : Int))) W (hv.below hb) hz)
    have HEl := hide (fun W (hb : Below w.heap.size w W) => refElements_any v l (formP l (m : Int)) W (hv.below hb) hz)
    have HS := hide (fun W => refIs_6 (kI l (m : Int)) W)
    have hv' := hide hv
    have hz' := hide hz
    obtain ⟨p, c, rfl, hvv⟩ := hv
    obtain ⟨b, o, rfl, hnn⟩ : ∃ b o, p = some ⟨b, o, none⟩ ∧ ∀ i (h : i < l.length), ∃ va vk, NodeAt w b (o + i * 5) l[i] va vk := by
      rcases hvv with t | t
      · rw [t] at hm; simp at hm
      · exact t
    obtain ⟨va, vk, N⟩ := hnn m hm
    have nz := hz.nds _ (List.getElem_mem hm)
    have HO := hide (fun W (hb : Below w.heap.size w W) => refOf_any l[m] va vk W (N.at_.below hb) nz.attrs nz.tx)
    have EK : kOf l[m].name (tyOf l[m].attrs) = kI l (m : Int) := by unfold kI kN; rw [Int.toNat_natCast, nd_at hm]
    rw [EK] at HO
    have HA := hide (fun a W (hb : Below w.heap.size w W) => refAttrS_any va l[m].attrs a W (N.at_.below hb) nz.attrs)
    have HH := hide (fun a W (hb : Below w.heap.size w W) => refOHas_any l[m] va vk a W (N.at_.below hb) nz.attrs)
    obtain ⟨pva, cva, rfl, hxx⟩ := N.at_
    clear hxx
    obtain ⟨pvk, cvk, rfl, hxx⟩ := N.ks
    clear hxx
    have c0 := hide N.name
    have c1 := hide N.text
    have c2 := hide N.attrs
    have c3 := hide N.parent
    have c4 := hide N.kids
    have m0 : (0 : Int) ≤ (m : Int) := by omega
    have m1 : (m : Int) < (l.length : Int) := by omega
    clear N nz EK
    clear hvv HA HH hI
    cases hb : blockB (kI l (m : Int)) with
    | false =>
      have E : entP l (m : Int) = (-1, 0) := by unfold entP; rw [if_pos (.inr (.inl hb))]
      rw [hb] at HS
      have R1 : Hid ((entP l (m : Int)).1 = -1) := by show _ = _; rw [E]
      have R2 : Hid ((entP l (m : Int)).2 = 0) := by show _ = _; rw [E]
      generalize (entP l (m : Int)).1 = RA at *
      generalize (entP l (m : Int)).2 = RB at *
      clear E
      clear hnn hz hz' hv' HD HDf HD2 HEl hb
      generalize kI l (m : Int) = kk at *
      generalize formP l (m : Int) = f at *
      go_enter Tryz.func18, Tryz.ntmps18
      go_wp2_with fail
      refine HFm.out.mono ?_
      rintro e w1 ⟨rfl, b1⟩
      have B1 := hide b1
      clear b1 HFm
      have u0 := cell_below c0.out B1.out
      have u1 := cell_below c1.out B1.out
      have u2 := cell_below c2.out B1.out
      have u3 := cell_below c3.out B1.out
      have u4 := cell_below c4.out B1.out
      go_wp2_with fail
      refine (HO.out _ B1.out).mono ?_
      rintro e w2 ⟨rfl, b2⟩
      have B2 := hide (chain B1.out b2)
      clear b2 B1 HO u0 u1 u2 u3 u4
      go_wp2_with fail
      refine (HS.out _).mono ?_
      rintro e w3 ⟨rfl, hu⟩
      obtain rfl : w2 = w3 := hu.symm
      clear HS
      go_wp2_with fail
      go_ret2
      exact ⟨ret_two R1.out.symm R2.out.symm, B2.out⟩
    | true =>
      rw [hb] at HS
      cases hd : disabledP l (m : Int) with
      | true =>
        have E : entP l (m : Int) = (-1, 0) := by unfold entP; rw [if_pos (.inr (.inr hd))]
        rw [hd] at HD
        have R1 : Hid ((entP l (m : Int)).1 = -1) := by show _ = _; rw [E]
        have R2 : Hid ((entP l (m : Int)).2 = 0) := by show _ = _; rw [E]
        generalize (entP l (m : Int)).1 = RA at *
        generalize (entP l (m : Int)).2 = RB at *
        clear E
        clear hnn hz hz' hv' HDf HD2 HEl hb hd
        generalize kI l (m : Int) = kk at *
        generalize formP l (m : Int) = f at *
        go_enter Tryz.func18, Tryz.ntmps18
        go_wp2_with fail
        refine HFm.out.mono ?_
        rintro e w1 ⟨rfl, b1⟩
        have B1 := hide b1
        clear b1 HFm
        have u0 := cell_below c0.out B1.out
        have u1 := cell_below c1.out B1.out
        have u2 := cell_below c2.out B1.out
        have u3 := cell_below c3.out B1.out
        have u4 := cell_below c4.out B1.out
        go_wp2_with fail
        refine (HO.out _ B1.out).mono ?_
        rintro e w2 ⟨rfl, b2⟩
        have B2 := hide (chain B1.out b2)
        clear b2 B1 HO u0 u1 u2 u3 u4
        go_wp2_with fail
        refine (HS.out _).mono ?_
        rintro e w3 ⟨rfl, hu⟩
        obtain rfl : w2 = w3 := hu.symm
        clear HS
        go_wp2_with fail
        refine (HD.out _ B2.out).mono ?_
        rintro e w3 ⟨rfl, b3⟩
        have B3 := hide (chain B2.out b3)
        clear b3 B2 HD
        go_wp2_with fail
        go_ret2
        exact ⟨ret_two R1.out.symm R2.out.symm, B3.out⟩
      | false =>
        rw [hd] at HD
        by_cases hq : 0 ≤ defaultP l (formP l (m : Int))
        · have g0 : decide (0 ≤ defaultP l (formP l (m : Int))) = true := decide_eq_true hq
          cases hx : disabledP l (defaultP l (formP l (m : Int))) with
          | true =>
            have E : entP l (m : Int) = (-1, 0) := by unfold entP; rw [if_neg (by rw [hb, hd]; simp [f0]), if_pos hq, if_pos hx]
            rw [hx] at HD2
            have R1 : Hid ((entP l (m : Int)).1 = -1) := by show _ = _; rw [E]
            have R2 : Hid ((entP l (m : Int)).2 = 0) := by show _ = _; rw [E]
            generalize (entP l (m : Int)).1 = RA at *
            generalize (entP l (m : Int)).2 = RB at *
            clear E
            clear hnn hz hz' hv' HEl hb hd hx
            generalize kI l (m : Int) = kk at *
            generalize defaultP l (formP l (m : Int)) = bb at *
            generalize formP l (m : Int) = f at *
            go_enter Tryz.func18, Tryz.ntmps18
            go_wp2_with fail
            refine HFm.out.mono ?_
            rintro e w1 ⟨rfl, b1⟩
            have B1 := hide b1
            clear b1 HFm
            have u0 := cell_below c0.out B1.out
            have u1 := cell_below c1.out B1.out
            have u2 := cell_below c2.out B1.out
            have u3 := cell_below c3.out B1.out
            have u4 := cell_below c4.out B1.out
            go_wp2_with fail
            refine (HO.out _ B1.out).mono ?_
            rintro e w2 ⟨rfl, b2⟩
            have B2 := hide (chain B1.out b2)
            clear b2 B1 HO u0 u1 u2 u3 u4
            go_wp2_with fail
            refine (HS.out _).mono ?_
            rintro e w3 ⟨rfl, hu⟩
            obtain rfl : w2 = w3 := hu.symm
            clear HS
            go_wp2_with fail
            refine (HD.out _ B2.out).mono ?_
            rintro e w3 ⟨rfl, b3⟩
            have B3 := hide (chain B2.out b3)
            clear b3 B2 HD
            go_wp2_with fail
            refine (HDf.out _ B3.out).mono ?_
            rintro e w4 ⟨rfl, b4⟩
            have B4 := hide (chain B3.out b4)
            clear b4 B3 HDf
            go_wp2_with fail
            refine (HD2.out _ B4.out).mono ?_
            rintro e w5 ⟨rfl, b5⟩
            have B5 := hide (chain B4.out b5)
            clear b5 B4 HD2
            go_wp2_with fail
            go_ret2
            exact ⟨ret_two R1.out.symm R2.out.symm, B5.out⟩
          | false =>
            have E : entP l (m : Int) = (defaultP l (formP l (m : Int)), 1) := by unfold entP; rw [if_neg (by rw [hb, hd]; simp [f0]), if_pos hq, if_neg (by rw [hx]; decide)]
            rw [hx] at HD2
            have R1 : Hid ((entP l (m : Int)).1 = defaultP l (formP l (m : Int))) := by show _ = _; rw [E]
            have R2 : Hid ((entP l (m : Int)).2 = 1) := by show _ = _; rw [E]
            generalize (entP l (m : Int)).1 = RA at *
            generalize (entP l (m : Int)).2 = RB at *
            clear E
            clear hnn hz hz' hv' HEl hb hd hx
            generalize kI l (m : Int) = kk at *
            generalize defaultP l (formP l (m : Int)) = bb at *
            generalize formP l (m : Int) = f at *
            go_enter Tryz.func18, Tryz.ntmps18
            go_wp2_with fail
            refine HFm.out.mono ?_
            rintro e w1 ⟨rfl, b1⟩
            have B1 := hide b1
            clear b1 HFm
            have u0 := cell_below c0.out B1.out
            have u1 := cell_below c1.out B1.out
            have u2 := cell_below c2.out B1.out
            have u3 := cell_below c3.out B1.out
            have u4 := cell_below c4.out B1.out
            go_wp2_with fail
            refine (HO.out _ B1.out).mono ?_
            rintro e w2 ⟨rfl, b2⟩
            have B2 := hide (chain B1.out b2)
            clear b2 B1 HO u0 u1 u2 u3 u4
            go_wp2_with fail
            refine (HS.out _).mono ?_
            rintro e w3 ⟨rfl, hu⟩
            obtain rfl : w2 = w3 := hu.symm
            clear HS
            go_wp2_with fail
            refine (HD.out _ B2.out).mono ?_
            rintro e w3 ⟨rfl, b3⟩
            have B3 := hide (chain B2.out b3)
            clear b3 B2 HD
            go_wp2_with fail
            refine (HDf.out _ B3.out).mono ?_
            rintro e w4 ⟨rfl, b4⟩
            have B4 := hide (chain B3.out b4)
            clear b4 B3 HDf
            go_wp2_with fail
            refine (HD2.out _ B4.out).mono ?_
            rintro e w5 ⟨rfl, b5⟩
            have B5 := hide (chain B4.out b5)
            clear b5 B4 HD2
            go_wp2_with fail
            go_ret2
            exact ⟨ret_two R1.out.symm R2.out.symm, B5.out⟩
        · have g0 : decide (0 ≤ defaultP l (formP l (m : Int))) = false := decide_eq_false hq
          have few := el_few (l := l) (f := formP l (m : Int))
          have RNG : Hid (∀ x ∈ elementsP l (formP l (m : Int)), 0 ≤ x ∧ x < (l.length : Int)) := few.2
          have few1 := few.1
          clear few
          have LST : Hid (blkN l (elementsP l (formP l (m : Int))) ≤ 1 → (entP l (m : Int)).1 = formP l (m : Int) ∧ (entP l (m : Int)).2 = 2) := fun t => by
            unfold entP; rw [if_neg (by rw [hb, hd]; simp [f0]), if_neg hq, if_pos t]; exact ⟨rfl, rfl⟩
          have LSN : Hid (¬ blkN l (elementsP l (formP l (m : Int))) ≤ 1 → (entP l (m : Int)).1 = -1 ∧ (entP l (m : Int)).2 = 0) := fun t => by
            unfold entP; rw [if_neg (by rw [hb, hd]; simp [f0]), if_neg hq, if_neg t]; exact ⟨rfl, rfl⟩
          have HNN := hide hnn
          have HZZ := hide hz
          clear hnn hz hz' hv' HD2 hb hd hq
          generalize (entP l (m : Int)).1 = RA at *
          generalize (entP l (m : Int)).2 = RB at *
          generalize kI l (m : Int) = kk at *
          generalize defaultP l (formP l (m : Int)) = bb at *
          generalize elementsP l (formP l (m : Int)) = els at *
          generalize formP l (m : Int) = f at *
          go_enter Tryz.func18, Tryz.ntmps18
          go_wp2_with fail
          refine HFm.out.mono ?_
          rintro e w1 ⟨rfl, b1⟩
          have B1 := hide b1
          clear b1 HFm
          have u0 := cell_below c0.out B1.out
          have u1 := cell_below c1.out B1.out
          have u2 := cell_below c2.out B1.out
          have u3 := cell_below c3.out B1.out
          have u4 := cell_below c4.out B1.out
          go_wp2_with fail
          refine (HO.out _ B1.out).mono ?_
          rintro e w2 ⟨rfl, b2⟩
          have B2 := hide (chain B1.out b2)
          clear b2 B1 HO u0 u1 u2 u3 u4
          go_wp2_with fail
          refine (HS.out _).mono ?_
          rintro e w3 ⟨rfl, hu⟩
          obtain rfl : w2 = w3 := hu.symm
          clear HS
          go_wp2_with fail
          refine (HD.out _ B2.out).mono ?_
          rintro e w3 ⟨rfl, b3⟩
          have B3 := hide (chain B2.out b3)
          clear b3 B2 HD
          go_wp2_with fail
          refine (HDf.out _ B3.out).mono ?_
          rintro e w4 ⟨rfl, b4⟩
          have B4 := hide (chain B3.out b4)
          clear b4 B3 HDf
          go_wp2_with fail
          refine (HEl.out _ B4.out).mono ?_
          rintro e w5 ⟨av, rfl, ko, b5⟩
          have IV := hide ko.ints
          have B5 := hide (chain B4.out b5)
          obtain ⟨pa, ca, rfl, _⟩ := ko.ints
          clear HEl ko b5 B4 c0 c1 c2 c3 c4
          go_wp2_with fail
          go_loopw [8, 10] (fun n iv wr => ∃ k : Nat, k ≤ els.length ∧ iv = .int .i64 k ∧ (∃ t : Nat, n = .int .i64 t ∧ t ≤ k ∧ Hid (t = blkN l (els.take k))) ∧ Hid (Below w5.heap.size w5 wr)) (fun _ iv _ => els.length - (intOf iv).toNat)
          case atStart => exact ⟨0, Nat.zero_le _, rfl, ⟨0, rfl, Nat.le_refl _, rfl⟩, Below.refl _ _⟩
          case round =>
            rename World => wr
            obtain ⟨k, hk, rfl, ⟨t, rfl, tk, HT⟩, BW⟩ := hrel
            have BWW := hide (chain B5.out BW.out)
            by_cases g : k < els.length
            · have k1 : (k : Int) < (els.length : Int) := by omega
              have k0 : (0 : Int) ≤ (k : Int) := by omega
              obtain ⟨pa', ca', eva, hav⟩ := IV.out.below BW.out
              cases eva
              rcases hav with hav | ⟨b2, o2, rfl, hav⟩
              · rw [hav] at g; simp at g
              have x0 := hav k g
              have rx := RNG.out els[k] (List.getElem_mem g)
              obtain ⟨q, eq, hq⟩ := nat_of (z := els[k]) (n := l.length) (by omega) rx.2
              have LY := hide (lin_yes (l := l) g)
              have LN := hide (lin_no (l := l) g)
              rw [eq] at LY LN x0
              have hnn := HNN.out
              have hz := HZZ.out
              obtain ⟨vaq, vkq, Nq⟩ := hnn q hq
              have nzq := hz.nds _ (List.getElem_mem hq)
              have HOq := hide (fun W (hb : Below w.heap.size w W) => refOf_any l[q] vaq vkq W (Nq.at_.below hb) nzq.attrs nzq.tx)
              have EKq : kOf l[q].name (tyOf l[q].attrs) = kI l (q : Int) := by unfold kI kN; rw [Int.toNat_natCast, nd_at hq]
              rw [EKq] at HOq
              have HAq := hide (fun a W (hb : Below w.heap.size w W) => refAttrS_any vaq l[q].attrs a W (Nq.at_.below hb) nzq.attrs)
              have HHq := hide (fun a W (hb : Below w.heap.size w W) => refOHas_any l[q] vaq vkq a W (Nq.at_.below hb) nzq.attrs)
              obtain ⟨pvaq, cvaq, rfl, hxx⟩ := Nq.at_
              clear hxx
              obtain ⟨pvkq, cvkq, rfl, hxx⟩ := Nq.ks
              clear hxx
              have s0 := hide Nq.name
              have s1 := hide Nq.text
              have s2 := hide Nq.attrs
              have s3 := hide Nq.parent
              have s4 := hide Nq.kids
              have q0 : (0 : Int) ≤ (q : Int) := by omega
              have q1 : (q : Int) < (l.length : Int) := by omega
              clear Nq nzq EKq
              have HSq := hide (fun W => refIs_6 (kI l (q : Int)) W)
              clear hav eq rx RNG HAq HHq hnn hz HNN HZZ LST LSN
              cases hb : blockB (kI l (q : Int)) with
              | true =>
                rw [hb] at HSq
                have HN : Hid (t + 1 = blkN l (els.take (k + 1))) := by show _ = _; rw [LY.out hb, ← HT.out]
                clear LY LN HT hb
                generalize kI l (q : Int) = kq at *
                have y0 := cell_below s0.out BWW.out
                have y1 := cell_below s1.out BWW.out
                have y2 := cell_below s2.out BWW.out
                have y3 := cell_below s3.out BWW.out
                have y4 := cell_below s4.out BWW.out
                go_wp2_with fail
                refine (HOq.out _ BWW.out).mono ?_
                rintro e w6 ⟨rfl, b6⟩
                have BL6 := hide (chain BW.out b6)
                clear b6 HOq y0 y1 y2 y3 y4
                go_wp2_with fail
                refine (HSq.out _).mono ?_
                rintro e w7 ⟨rfl, hu⟩
                obtain rfl : w6 = w7 := hu.symm
                go_wp2_with fail
                go_roundw
                case rel => exact ⟨k + 1, by omega, by go_num, ⟨t + 1, by go_num, by omega, HN⟩, BL6⟩
                case measure => simp [intOf]; omega
              | false =>
                rw [hb] at HSq
                have HN : Hid (t = blkN l (els.take (k + 1))) := by show _ = _; rw [LN.out hb]; exact HT.out
                clear LY LN HT hb
                generalize kI l (q : Int) = kq at *
                have y0 := cell_below s0.out BWW.out
                have y1 := cell_below s1.out BWW.out
                have y2 := cell_below s2.out BWW.out
                have y3 := cell_below s3.out BWW.out
                have y4 := cell_below s4.out BWW.out
                go_wp2_with fail
                refine (HOq.out _ BWW.out).mono ?_
                rintro e w6 ⟨rfl, b6⟩
                have BL6 := hide (chain BW.out b6)
                clear b6 HOq y0 y1 y2 y3 y4
                go_wp2_with fail
                refine (HSq.out _).mono ?_
                rintro e w7 ⟨rfl, hu⟩
                obtain rfl : w6 = w7 := hu.symm
                go_wp2_with fail
                go_roundw
                case rel => exact ⟨k + 1, by omega, by go_num, ⟨t, rfl, by omega, HN⟩, BL6⟩
                case measure => simp [intOf]; omega
            · obtain rfl : k = els.length := by omega
              have HT2 : Hid (t = blkN l els) := by show _ = _; rw [HT.out, List.take_length]
              by_cases gt : t ≤ 1
              · have a1 : decide ((t : Int) ≤ 1) = true := decide_eq_true (by omega)
                have R := LST.out (by rw [← HT2.out]; exact gt)
                have R1 := hide R.1
                have R2 := hide R.2
                clear R LST LSN HT HT2 HNN HZZ RNG
                go_wp2_with fail
                go_ret2
                exact ⟨ret_two R1.out.symm R2.out.symm, BWW.out⟩
              · have a1 : decide ((t : Int) ≤ 1) = false := decide_eq_false (by omega)
                have R := LSN.out (by rw [← HT2.out]; exact gt)
                have R1 := hide R.1
                have R2 := hide R.2
                clear R LST LSN HT HT2 HNN HZZ RNG
                go_wp2_with fail
                go_ret2
                exact ⟨ret_two R1.out.symm R2.out.symm, BWW.out⟩

end Go.Proofs.YtnojgejcmaajmaaGreatDoor
