/- The example of layer 15's statements, and how long the states are that its functions answer. The document's Choose of layer 15. Stage 15's laws OptionChooses and OptionWrites, walked. -/
import Derived.Test.YtemikdmkjgmflaaDoorJod29
import Derived.Test.YtemikdmkjgmflaaDoorJod32
import Derived.Test.YtemikdmkjgmflaaDoorJod33
import Derived.Test.YtemikdmkjgmflaaDoorJod38

namespace Go.Proofs.YtemikdmkjgmflaaDoor
open Go.RowKit
theorem alike_set {C : List Ct} {i : Int} {c : Ct} (h : ∃ d ∈ C, c.files = d.files ∧ c.val = d.val ∧ c.custom = d.custom) : Alike C (setC C i c) := ⟨by unfold setC; rw [List.length_set], fun j hj => by
  have hj' : j < C.length := by unfold setC at hj; rw [List.length_set] at hj; exact hj
  have e : (setC C i c)[j] = if i.toNat = j then c else C[j] := by
    show (C.set i.toNat c)[j]'(by rw [List.length_set]; exact hj') = _
    rw [List.getElem_set]
  rw [e]
  split
  · exact h
  · exact ⟨_, List.getElem_mem hj', rfl, rfl, rfl⟩⟩
theorem st_some {C : List Ct} {i : Int} (h : i.toNat < C.length) : ∃ d ∈ C, (st C i).files = d.files ∧ (st C i).val = d.val ∧ (st C i).custom = d.custom := by
  unfold st
  rw [List.getD_eq_getElem?_getD, List.getElem?_eq_getElem h]
  exact ⟨_, List.getElem_mem h, rfl, rfl, rfl⟩
theorem set_none {C : List Ct} {i : Int} {c : Ct} (h : ¬ i.toNat < C.length) : setC C i c = C := by
  unfold setC
  exact List.set_eq_of_length_le (by omega)
theorem chooseO_ok {l : List Nd} {C : List Ct} {opt : Int} {on : Bool} (h : CsOK C) : CsOK (chooseO l C opt on).1 := by
  unfold chooseO
  split
  · split
    · exact nil_csok
    · show CsOK (chooseC l C opt on)
      unfold chooseC
      split
      · by_cases q : opt.toNat < C.length
        · refine (alike_set ?_).ok h
          obtain ⟨d, hd, e1, e2, e3⟩ := st_some (C := C) (i := opt) q
          exact ⟨d, hd, e1, e2, e3⟩
        · rw [set_none q]; exact h
      · exact ((alike_only C (listP l (ownP l opt)) opt).trans (alike_upd (f := markF) (all := listP l (ownP l opt)) fun _ _ => ⟨rfl, rfl, rfl⟩)).ok h
  · exact nil_csok
end Go.Proofs.YtemikdmkjgmflaaDoor

namespace Go.Proofs.YtemikdmkjgmflaaDoor
open Go.RowKit
set_option maxRecDepth 100000
theorem own_lt {l : List Nd} (h : Right l) {m : Nat} (hm : m < l.length) : ownP l (m : Int) < (l.length : Int) := by
  have p0 : parI l (m : Int) < (l.length : Int) := by
    have := (h.par m hm).2
    unfold parI
    rw [Int.toNat_natCast]; exact this
  unfold ownP
  split
  · omega
  · unfold upI
    split
    · rename_i g
      unfold grpI at g
      rw [Bool.and_eq_true, decide_eq_true_eq] at g
      exact (h.up (k := parI l (m : Int)) (by have := g.1; omega) p0).2
    · exact p0
set_option maxHeartbeats 8000000 in
theorem refOChoose_any (nv cv : Value) (l : List Nd) (C : List Ct) (opt : Int) (on : Bool) (w : World) (hD : DocV w nv cv l C) (hz : DocSz l) (hC : CsOK C) :
    Calls Tryd.prog 9 #[.agg #[nv, cv], .int .i64 opt, .bool on] w fun e w' => ∃ v', e = .returned (.tuple #[v', .int .i64 (chooseO l C opt on).2]) ∧ CtsV w' v' (chooseO l C opt on).1 ∧ Below w.heap.size w w' := by
  obtain ⟨F, hF⟩ := hD.cts
  have FI := hide hF.1
  have E0 := hide (OEnv.new w nv cv)
  have HR := hide (fun W (hb : Below w.heap.size w W) => refORight_any nv cv l C W (hD.below hb) hz hC)
  have HC := hide (fun W (hb : Below w.heap.size w W) => refOCopied_any cv C F W (hF.below hb) hC)
  have HI := hide (fun W (hb : Below w.heap.size w W) => refIs_any nv l opt 32 W (hD.nds.below hb) hz)
  have HF := hide (fun W (hb : Below w.heap.size w W) => refOff_any nv l opt W (hD.nds.below hb) hz)
  have HLi := hide (fun sel W (hb : Below w.heap.size w W) => refOList_any nv l sel W (hD.nds.below hb) hz)
  have HOw := hide (fun m W (hb : Below w.heap.size w W) hR h0 => refOwner_any nv l m W (hD.nds.below hb) hR h0)
  have ND := hide hD.nds
  obtain ⟨p, c, ep⟩ := nds_form hD.nds
  obtain ⟨p2, c2, ep2⟩ := cts_form hD.cts
  have hl := hz.len
  have hl2 := hC.len
  subst ep ep2
  clear hD hz hC hF
  cases h : rightD l C with
  | false =>
    have EE : Hid (chooseO l C opt on = ([], 4)) := if_neg (by rw [h]; exact fun t => by cases t.1)
    rw [h] at HR
    clear h HC HI HF HLi HOw ND
    go_enter Tryd.func9, Tryd.ntmps9
    go_wp2_with fail
    refine (HR.out _ E0.out.bel).mono ?_
    rintro e w1 ⟨rfl, b1⟩
    have E1 := hide (E0.out.step b1)
    clear b1 E0
    have c0 := E1.out.doc.cell 0 rfl
    have c1 := E1.out.doc.cell 1 rfl
    go_wp2_with fail
    go_ret2
    exact ⟨_, by rw [EE.out]; rfl, by rw [EE.out]; exact cts_nil _, E1.out.bel⟩
  | true =>
    have HRt := hide (rightD_is h).1
    have HLC := hide (rightD_is h).2
    have hlen := HRt.out.len.2
    have h1 := hide h
    rw [h] at HR
    clear h
    cases h : isK l opt 32 with
    | false =>
      have EE : Hid (chooseO l C opt on = ([], 4)) := if_neg (by rw [h]; exact fun t => by cases t.2.1)
      rw [h] at HI
      clear h HC HF HLi HOw ND
      go_enter Tryd.func9, Tryd.ntmps9
      go_wp2_with fail
      refine (HR.out _ E0.out.bel).mono ?_
      rintro e w1 ⟨rfl, b1⟩
      have E1 := hide (E0.out.step b1)
      clear b1 E0
      have c0 := E1.out.doc.cell 0 rfl
      have c1 := E1.out.doc.cell 1 rfl
      go_wp2_with fail
      refine (HI.out _ E1.out.bel).mono ?_
      rintro e w2 ⟨rfl, b2⟩
      have E2 := hide (E1.out.step b2)
      clear b2 c0 c1 E1
      have c0 := E2.out.doc.cell 0 rfl
      have c1 := E2.out.doc.cell 1 rfl
      go_wp2_with fail
      go_ret2
      exact ⟨_, by rw [EE.out]; rfl, by rw [EE.out]; exact cts_nil _, E2.out.bel⟩
    | true =>
      have hh : hasN l opt = true := by unfold isK at h; rw [Bool.and_eq_true] at h; exact h.1
      obtain ⟨m, hI⟩ := Is.of hh
      obtain ⟨rfl, h0⟩ := (⟨hI.eq, hI.lt⟩ : opt = (m : Int) ∧ m < l.length)
      have HO := hide (fun W (hb : Below w.heap.size w W) => HOw.out m W hb HRt.out h0)
      have OL := own_lt HRt.out h0
      have h2 := hide h
      rw [h] at HI
      have m1 : (m : Int) < (C.length : Int) := by have := HLC.out; omega
      have m0 : (0 : Int) ≤ (m : Int) := by omega
      clear h hh hI HOw
      by_cases ho : ownP l (m : Int) < 0
      · have EE : Hid (chooseO l C (m : Int) on = ([], 4)) := if_neg (fun t => by have := t.2.2; omega)
        clear HC HF HLi ND
        generalize ownP l (m : Int) = z at *
        go_enter Tryd.func9, Tryd.ntmps9
        go_wp2_with fail
        refine (HR.out _ E0.out.bel).mono ?_
        rintro e w1 ⟨rfl, b1⟩
        have E1 := hide (E0.out.step b1)
        clear b1 E0
        have c0 := E1.out.doc.cell 0 rfl
        have c1 := E1.out.doc.cell 1 rfl
        go_wp2_with fail
        refine (HI.out _ E1.out.bel).mono ?_
        rintro e w2 ⟨rfl, b2⟩
        have E2 := hide (E1.out.step b2)
        clear b2 c0 c1 E1
        have c0 := E2.out.doc.cell 0 rfl
        have c1 := E2.out.doc.cell 1 rfl
        go_wp2_with fail
        refine (HO.out _ E2.out.bel).mono ?_
        rintro e u ⟨rfl, hu⟩
        obtain rfl : w2 = u := hu.symm
        go_wp2_with fail
        go_ret2
        exact ⟨_, by rw [EE.out]; rfl, by rw [EE.out]; exact cts_nil _, E2.out.bel⟩
      · have EC : Hid (chooseO l C (m : Int) on = if offP l (m : Int) = true then ([], 8) else (chooseC l C (m : Int) on, 0)) := if_pos ⟨h1.out, h2.out, by omega⟩
        obtain ⟨r, er, hr⟩ := nat_of (z := ownP l (m : Int)) (n := l.length) ho OL
        rw [er] at HO
        have ER := hide er
        clear er OL ho
        have dr : decide ((r : Int) < 0) = false := decide_eq_false (by omega)
        have nr : ¬ (r : Int) < 0 := by omega
        cases hf : offP l (m : Int) with
        | true =>
          have EE : Hid (chooseO l C (m : Int) on = ([], 8)) := by show _ = _; rw [EC.out, if_pos hf]
          rw [hf] at HF
          clear HC HLi ND hf EC
          go_enter Tryd.func9, Tryd.ntmps9
          go_wp2_with fail
          refine (HR.out _ E0.out.bel).mono ?_
          rintro e w1 ⟨rfl, b1⟩
          have E1 := hide (E0.out.step b1)
          clear b1 E0
          have c0 := E1.out.doc.cell 0 rfl
          have c1 := E1.out.doc.cell 1 rfl
          go_wp2_with fail
          refine (HI.out _ E1.out.bel).mono ?_
          rintro e w2 ⟨rfl, b2⟩
          have E2 := hide (E1.out.step b2)
          clear b2 c0 c1 E1
          have c0 := E2.out.doc.cell 0 rfl
          have c1 := E2.out.doc.cell 1 rfl
          go_wp2_with fail
          refine (HO.out _ E2.out.bel).mono ?_
          rintro e u ⟨rfl, hu⟩
          obtain rfl : w2 = u := hu.symm
          go_wp2_with fail
          refine (HF.out _ E2.out.bel).mono ?_
          rintro e w3 ⟨rfl, b3⟩
          have E3 := hide (E2.out.step b3)
          clear b3 c0 c1 E2
          have c0 := E3.out.doc.cell 0 rfl
          have c1 := E3.out.doc.cell 1 rfl
          go_wp2_with fail
          go_ret2
          exact ⟨_, by rw [EE.out]; rfl, by rw [EE.out]; exact cts_nil _, E3.out.bel⟩
        | false =>
          have EE : Hid (chooseO l C (m : Int) on = (chooseC l C (m : Int) on, 0)) := by show _ = _; rw [EC.out, if_neg (by rw [hf]; decide)]
          rw [hf] at HF
          clear hf EC
          obtain ⟨p', c', e', hv⟩ := ND.out
          cases e'
          rcases hv with hv | ⟨b, o, rfl, hv⟩
          · rw [hv] at h0; simp at h0
          obtain ⟨va, vk, N0⟩ := hv r hr
          have N1 := hide N0
          have sz := right_attrsO HRt.out hr
          rw [nd_at hr] at sz
          have HM := hide (fun W (hb : Below w.heap.size w W) => refOHas_any l[r] va vk ⟨#[109, 117, 108, 116, 105, 112, 108, 101]⟩ W (N1.out.at_.below hb) (by omega))
          have r0 : (0 : Int) ≤ (r : Int) := by omega
          have r1 : (r : Int) < (l.length : Int) := by omega
          have hmC : m < C.length := by omega
          have EM : Hid (hasA (nd l (ownP l (m : Int)).toNat) oMul = hasA l[r] ⟨#[109, 117, 108, 116, 105, 112, 108, 101]⟩) := by show _ = _; rw [ER.out, Int.toNat_natCast, nd_at hr]; rfl
          clear N0 hv sz ND
          cases g : hasA l[r] ⟨#[109, 117, 108, 116, 105, 112, 108, 101]⟩ with
          | true =>
            have EK : Hid (chooseC l C (m : Int) on = C.set m { C[m] with sel := on, dsel := true }) := by
              show _ = _
              unfold chooseC setC
              rw [if_pos (by rw [EM.out, g]), Int.toNat_natCast, st_nat hmC]
            rw [g] at HM
            rw [EK.out] at EE
            clear EM g EK HLi
            go_enter Tryd.func9, Tryd.ntmps9
            go_wp2_with fail
            refine (HR.out _ E0.out.bel).mono ?_
            rintro e w1 ⟨rfl, b1⟩
            have E1 := hide (E0.out.step b1)
            clear b1 E0
            have c0 := E1.out.doc.cell 0 rfl
            have c1 := E1.out.doc.cell 1 rfl
            go_wp2_with fail
            refine (HI.out _ E1.out.bel).mono ?_
            rintro e w2 ⟨rfl, b2⟩
            have E2 := hide (E1.out.step b2)
            clear b2 c0 c1 E1
            have c0 := E2.out.doc.cell 0 rfl
            have c1 := E2.out.doc.cell 1 rfl
            go_wp2_with fail
            refine (HO.out _ E2.out.bel).mono ?_
            rintro e u ⟨rfl, hu⟩
            obtain rfl : w2 = u := hu.symm
            go_wp2_with fail
            refine (HF.out _ E2.out.bel).mono ?_
            rintro e w3 ⟨rfl, b3⟩
            have E3 := hide (E2.out.step b3)
            clear b3 c0 c1 E2
            have c0 := E3.out.doc.cell 0 rfl
            have c1 := E3.out.doc.cell 1 rfl
            go_wp2_with fail
            refine (HC.out _ E3.out.bel).mono ?_
            rintro e w4 ⟨ov, rfl, o4, b4⟩
            have E4 := hide (E3.out.rowed b4 o4)
            obtain ⟨po, co, rfl, hco⟩ := o4.form
            clear b4 o4 c0 c1 E3
            have c0 := E4.out.doc.cell 0 rfl
            go_wp2_with fail
            refine (HO.out _ E4.out.bel).mono ?_
            rintro e u ⟨rfl, hu⟩
            obtain rfl : w4 = u := hu.symm
            have a0 := cell_below N1.out.name E4.out.bel
            have a1 := cell_below N1.out.text E4.out.bel
            have a2 := cell_below N1.out.attrs E4.out.bel
            have a3 := cell_below N1.out.parent E4.out.bel
            have a4 := cell_below N1.out.kids E4.out.bel
            go_wp2_with fail
            refine (HM.out _ E4.out.bel).mono ?_
            rintro e w5 ⟨rfl, b5⟩
            have E5 := hide (E4.out.step b5)
            clear b5 c0 a0 a1 a2 a3 a4 E4
            have c0 := E5.out.doc.cell 0 rfl
            obtain ⟨gv, rfl, y0, y1, fz, _, ebv⟩ := own_sel E5.out hmC
            have f6 := fz (m * 10 + 6)
            have O6 := hide (E5.out.row.put ebv hmC (j := 6) (by omega) (u := .bool on) (ctsel_set _ _ _))
            have lm2 : m < (C.set m { C[m] with sel := on }).length := by rw [List.length_set]; exact hmC
            have v0 : (w5.setCell ⟨gv, m * 10 + 6, none⟩ (.bool on)).cell? ⟨gv, m * 10 + 7, none⟩ = some (.bool C[m].dsel) := by
              have := O6.out.at_ ebv lm2 7 _ rfl
              rw [List.getElem_set_self] at this
              exact this
            have v1 := owns_free O6.out.row ebv (m * 10 + 7)
            have O7 := O6.out.put ebv lm2 (j := 7) (by omega) (u := .bool true) (ctdsel_set _ _ _)
            rw [List.getElem_set_self, List.set_set] at O7
            have E7 := hide (E5.out.other ((Chg.setB w5 gv (m * 10 + 6) (.bool on)).trans (Chg.setB _ gv (m * 10 + 7) (.bool true))) O7)
            have F7 := hide (files_set (c := { C[m] with sel := on, dsel := true }) (FI.out.below E7.out.bel) hmC rfl)
            clear fz ebv O6 O7 lm2 HC HO HM HF HI HR
            go_wp2_with fail
            go_ret2
            exact ⟨_, by rw [EE.out]; rfl, by rw [EE.out]; exact E7.out.row.cts F7.out, E7.out.bel⟩
          | false =>
            have EK : Hid (chooseC l C (m : Int) on = updP markF (listP l (r : Int)) (onlyP C (listP l (r : Int)) (m : Int))) := by
              show _ = _
              unfold chooseC
              rw [if_neg (by rw [EM.out, g]; decide), ER.out]
            have few := list_few HRt.out (r : Int)
            obtain ⟨nd', rng⟩ := list_in (l := l) (sel := (r : Int))
            have ND' := hide nd'
            have RG : Hid (∀ i ∈ listP l (r : Int), 0 ≤ i ∧ i < (C.length : Int)) := fun i hi => by have := rng i hi; have := HLC.out; omega
            have HL := hide (fun W hb => HLi.out (r : Int) W hb)
            rw [g] at HM
            rw [EK.out] at EE
            clear EM g EK HLi nd' rng
            generalize listP l (r : Int) = all at *
            go_enter Tryd.func9, Tryd.ntmps9
            go_wp2_with fail
            refine (HR.out _ E0.out.bel).mono ?_
            rintro e w1 ⟨rfl, b1⟩
            have E1 := hide (E0.out.step b1)
            clear b1 E0
            have c0 := E1.out.doc.cell 0 rfl
            have c1 := E1.out.doc.cell 1 rfl
            go_wp2_with fail
            refine (HI.out _ E1.out.bel).mono ?_
            rintro e w2 ⟨rfl, b2⟩
            have E2 := hide (E1.out.step b2)
            clear b2 c0 c1 E1
            have c0 := E2.out.doc.cell 0 rfl
            have c1 := E2.out.doc.cell 1 rfl
            go_wp2_with fail
            refine (HO.out _ E2.out.bel).mono ?_
            rintro e u ⟨rfl, hu⟩
            obtain rfl : w2 = u := hu.symm
            go_wp2_with fail
            refine (HF.out _ E2.out.bel).mono ?_
            rintro e w3 ⟨rfl, b3⟩
            have E3 := hide (E2.out.step b3)
            clear b3 c0 c1 E2
            have c0 := E3.out.doc.cell 0 rfl
            have c1 := E3.out.doc.cell 1 rfl
            go_wp2_with fail
            refine (HC.out _ E3.out.bel).mono ?_
            rintro e w4 ⟨ov, rfl, o4, b4⟩
            have E4 := hide (E3.out.rowed b4 o4)
            obtain ⟨po, co, rfl, hco⟩ := o4.form
            clear b4 o4 c0 c1 E3
            have c0 := E4.out.doc.cell 0 rfl
            go_wp2_with fail
            refine (HO.out _ E4.out.bel).mono ?_
            rintro e u ⟨rfl, hu⟩
            obtain rfl : w4 = u := hu.symm
            have a0 := cell_below N1.out.name E4.out.bel
            have a1 := cell_below N1.out.text E4.out.bel
            have a2 := cell_below N1.out.attrs E4.out.bel
            have a3 := cell_below N1.out.parent E4.out.bel
            have a4 := cell_below N1.out.kids E4.out.bel
            go_wp2_with fail
            refine (HM.out _ E4.out.bel).mono ?_
            rintro e w5 ⟨rfl, b5⟩
            have E5 := hide (E4.out.step b5)
            clear b5 c0 a0 a1 a2 a3 a4 E4
            have c0 := E5.out.doc.cell 0 rfl
            go_wp2_with fail
            refine (HL.out _ E5.out.bel).mono ?_
            rintro e w6 ⟨av, rfl, k6, b6⟩
            have E6 := hide (E5.out.listed b6 k6)
            obtain ⟨pa, ca, rfl, hca⟩ := kids_form k6
            have HOn := hide (refOnly_any (w.heap.size + 1) (w.heap.size + 1) _ _ C F all (m : Int) w6 E6.out.row E6.out.kid E6.out.sep ND'.out RG.out hl2 (by omega))
            clear b6 k6 c0 HR HC HI HF HO HM HL E5
            go_wp2_with fail
            refine HOn.out.mono ?_
            rintro e w7 ⟨rfl, o7, c7⟩
            have FD := hide (fun (W : World) (hb : Below w.heap.size w W) xs => files_upd (f := markF) (all := xs) (files_upd (f := onlyF (m : Int)) (all := all) (FI.out.below hb) (fun _ _ => rfl)) (fun _ _ => rfl))
            have DL : Hid ((onlyP C all (m : Int)).length = C.length) := updC_len ..
            have E7 := hide (E6.out.other c7 o7)
            have STp := hide (fun (k m' : Nat) (hk : k < all.length) (hm : all[k] = (m' : Int)) (hl : m' < (onlyP C all (m : Int)).length) => upd_step (f := markF) (C := onlyP C all (m : Int)) hk ND'.out hm hl)
            replace FD : Hid (∀ W, Below w.heap.size w W → ∀ xs, FilesIn W (updP markF xs (onlyP C all (m : Int))) F) := fun W hb xs => FD.out W hb xs
            clear o7 c7 HOn E6
            generalize onlyP C all (m : Int) = D at *
            have E7' : Hid (OEnv w w7 (.slice (some ⟨b, o, none⟩) l.length c) (.slice p2 C.length c2) (.slice po C.length co) (updP markF (all.take 0) D) F (.slice pa all.length ca) all) := by show OEnv _ _ _ _ _ _ _ _ _; rw [List.take_zero, upd_nil]; exact E7.out
            clear E7
            go_wp2_with fail
            go_loopw [11] (fun iv wr => ∃ k : Nat, k ≤ all.length ∧ iv = .int .i64 k ∧ Hid (OEnv w wr (.slice (some ⟨b, o, none⟩) l.length c) (.slice p2 C.length c2) (.slice po C.length co) (updP markF (all.take k) D) F (.slice pa all.length ca) all)) (fun iv _ => all.length - (intOf iv).toNat)
            case atStart => exact ⟨0, Nat.zero_le _, rfl, E7'⟩
            case round =>
              rename World => wr
              obtain ⟨k, hk, rfl, EQ⟩ := hrel
              clear E7'
              by_cases gk : k < all.length
              · have k1 : (k : Int) < (all.length : Int) := by omega
                have rx := RG.out all[k] (List.getElem_mem gk)
                obtain ⟨q, eq, hq⟩ := nat_of (z := all[k]) (n := C.length) (by omega) rx.2
                have hqD : q < D.length := by rw [DL.out]; exact hq
                have stp := STp.out k q gk eq hqD
                have lq : q < (updP markF (all.take k) D).length := by rw [updC_len]; exact hqD
                obtain ⟨gv, rfl, y0, y1, fz, ge, ebv⟩ := own_sel EQ.out lq
                obtain ⟨ga, rfl, x0, eba⟩ := own_num EQ.out gk
                rw [eq] at x0
                have f7 := fz (q * 10 + 7)
                have eC : (updP markF (all.take k) D)[q] = D[q] := by
                  have := stp.2
                  rw [List.getElem?_eq_getElem lq] at this
                  exact Option.some.inj this
                have O8 := EQ.out.row.put (c' := markF (q : Int) D[q]) ebv lq (j := 7) (by omega) (u := .bool true) (by rw [eC]; exact ctdsel_set _ _ _)
                rw [stp.1] at O8
                have E8 := hide (EQ.out.other (Chg.setB wr gv (q * 10 + 7) (.bool true)) O8)
                rw [eC] at y1
                have q0 : (0 : Int) ≤ (q : Int) := by omega
                have q1 : (q : Int) < (C.length : Int) := by omega
                clear rx eq stp STp RG FD DL eC O8 y0 fz ebv eba lq EQ ND'
                go_wp2_with fail
                go_roundw
                case rel => exact ⟨k + 1, by omega, by go_num, E8⟩
                case measure => simp [intOf]; omega
              · obtain rfl : k = all.length := by omega
                rw [upd_all] at EQ
                clear STp RG
                go_wp2_with fail
                go_ret2
                exact ⟨_, by rw [EE.out]; rfl, by rw [EE.out]; exact EQ.out.row.cts (FD.out _ EQ.out.bel _), EQ.out.bel⟩
end Go.Proofs.YtemikdmkjgmflaaDoor

namespace Go.Proofs.YtemikdmkjgmflaaDoor
open Go.RowKit
set_option maxRecDepth 100000
set_option maxHeartbeats 8000000 in
theorem optionChooses_walk (nv cv : Value) (l : List Nd) (C : List Ct) (opt : Int) (on : Bool) (w : World) (hD : DocV w nv cv l C) (hz : DocSz l) (hC : CsOK C) (hT : OpTabs w) :
    Calls Tryd.prog 3 #[.agg #[nv, cv], .int .i64 opt, .bool on] w fun e w' => e = .returned (.bool true) ∧ Below w.heap.size w w' := by
  have HD := hide hD
  have HZ := hide hz
  have HO := hide hC
  have HT := hide hT
  have HW := hide (fun W (hb : Below w.heap.size w W) => opWakes_any W (HT.out.below hb))
  have HC := hide (fun W (hb : Below w.heap.size w W) => opCopied_any nv cv l C W (HD.out.below hb) HZ.out HO.out)
  have H1 := hide (fun nv cv W (hb : Below w.heap.size w W) (hd : DocV W nv cv l C) => opChoose_any nv cv l C opt on W hd HZ.out HO.out (HT.out.below hb))
  have H2 := hide (fun W (hb : Below w.heap.size w W) => refOChoose_any nv cv l C opt on W (HD.out.below hb) HZ.out HO.out)
  have RO := hide (chooseO_ok (l := l) (opt := opt) (on := on) HO.out)
  have H3 := hide (fun va vb W (ha : CtsV W va (chooseO l C opt on).1) (hb : CtsV W vb (chooseO l C opt on).1) => refOSame_yes va vb (chooseO l C opt on).1 W ha hb RO.out)
  have H4 := hide (fun va vb W (ha : CtsV W va C) (hb : CtsV W vb C) => refOSame_yes va vb C W ha hb HO.out)
  clear RO
  generalize chooseO l C opt on = CO at *
  obtain ⟨RC, er⟩ := CO
  have CV := hide hD.cts
  obtain ⟨pn, kn, rfl⟩ := nds_form hD.nds
  obtain ⟨pc, kc, rfl⟩ := cts_form hD.cts
  have B0 : Hid (Below w.heap.size w (w.alloc (.cells #[.slice pn l.length kn, .slice pc C.length kc] 25))) := (Below.refl _ w).alloc (Nat.le_refl _) _
  have ND := hide (Bk.new w [.slice pn l.length kn, .slice pc C.length kc] 25)
  clear hD hz hC hT HD HZ HO HT
  go_enter Tryd.func3, Tryd.ntmps3
  go_upto_region 1 with fail
  generalize w.alloc (.cells #[.slice pn l.length kn, .slice pc C.length kc] 25) = w0 at *
  go_wp2_with fail
  refine (HW.out _ B0.out).mono ?_
  rintro e w1 ⟨rfl, b1⟩
  have B1 := hide (chain B0.out b1)
  replace ND := hide (ND.out.below b1)
  clear b1 B0
  have x0 := ND.out.cell 0 rfl
  have x1 := ND.out.cell 1 rfl
  go_wp2_with fail
  refine (HC.out _ B1.out).mono ?_
  rintro e w2 ⟨n2, c2, rfl, d2, b2⟩
  have D2 := hide d2
  obtain ⟨p2, k2, rfl⟩ := nds_form d2.nds
  obtain ⟨q2, m2, rfl⟩ := cts_form d2.cts
  have B2 := hide (chain B1.out b2)
  replace ND := hide (ND.out.below b2)
  clear d2 B1 b2 x0 x1
  have AL : Hid (Below w2.heap.size w2 (w2.alloc (.cells #[.slice p2 l.length k2, .slice q2 C.length m2] 25))) := (Below.refl _ w2).alloc (Nat.le_refl _) _
  have NO := hide (Bk.new w2 [.slice p2 l.length k2, .slice q2 C.length m2] 25)
  go_upto_region 4 with fail
  generalize w2.alloc (.cells #[.slice p2 l.length k2, .slice q2 C.length m2] 25) = w3 at *
  replace ND := hide (ND.out.below AL.out)
  replace D2 := hide (D2.out.below AL.out)
  have B3 := hide (chain B2.out AL.out)
  clear AL B2
  have x0 := ND.out.cell 0 rfl
  have x1 := ND.out.cell 1 rfl
  have y0 := NO.out.cell 0 rfl
  have y1 := NO.out.cell 1 rfl
  go_wp2_with fail
  refine (H1.out _ _ _ B3.out D2.out).mono ?_
  rintro e w4 ⟨v4, rfl, g4, b4⟩
  have G4 := hide g4
  obtain ⟨p4, k4, rfl⟩ := cts_form g4
  have B4 := hide (chain B3.out b4)
  replace ND := hide (ND.out.below b4)
  replace NO := hide (NO.out.below b4)
  replace D2 := hide (D2.out.below b4)
  clear g4 b4 B3 x0 x1 y0 y1
  have x0 := ND.out.cell 0 rfl
  have x1 := ND.out.cell 1 rfl
  go_wp2_with fail
  refine (H2.out _ B4.out).mono ?_
  rintro e w5 ⟨v5, rfl, g5, b5⟩
  have G5 := hide g5
  obtain ⟨p5, k5, rfl⟩ := cts_form g5
  have B5 := hide (chain B4.out b5)
  have F5 := hide (G4.out.below b5)
  replace ND := hide (ND.out.below b5)
  replace NO := hide (NO.out.below b5)
  replace D2 := hide (D2.out.below b5)
  clear g5 b5 B4 G4 x0 x1
  go_wp2_with fail
  refine (H3.out _ _ _ F5.out G5.out).mono ?_
  rintro e w6 ⟨rfl, b6⟩
  have B6 := hide (chain B5.out b6)
  replace ND := hide (ND.out.below b6)
  replace NO := hide (NO.out.below b6)
  replace D2 := hide (D2.out.below b6)
  have C6 := hide (CV.out.below B6.out)
  clear b6 B5 F5 G5
  have x1 := ND.out.cell 1 rfl
  have y1 := NO.out.cell 1 rfl
  go_wp2_with fail
  refine (H4.out _ _ _ D2.out.cts C6.out).mono ?_
  rintro e w7 ⟨rfl, b7⟩
  go_wp2_with fail
  go_ret
  exact ⟨rfl, chain B6.out b7⟩

end Go.Proofs.YtemikdmkjgmflaaDoor
