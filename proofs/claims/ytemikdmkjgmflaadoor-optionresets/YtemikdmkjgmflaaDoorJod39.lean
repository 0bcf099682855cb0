/- A select's options and which of them are selected, as functions of documents and states. The example of layer 15's statements, and how long the states are that its functions answer. The document's Fix of layer 15. The document's Reset of layer 15. -/
import Derived.Test.YtemikdmkjgmflaaDoorJod29
import Derived.Test.YtemikdmkjgmflaaDoorJod32
import Derived.Test.YtemikdmkjgmflaaDoorJod33
import Derived.Test.YtemikdmkjgmflaaDoorJod35
import Derived.Test.YtemikdmkjgmflaaDoorJod40

namespace Go.Proofs.YtemikdmkjgmflaaDoor
open Go.RowKit
theorem upd_upd (f g : Int → Ct → Ct) (all : List Int) (C : List Ct) : updP f all (updP g all C) = updP (fun i c => f i (g i c)) all C := by
  apply List.ext_getElem (by rw [updC_len, updC_len, updC_len])
  intro i h1 h2
  have hi : i < C.length := by rw [updC_len] at h2; exact h2
  rw [upd_at (by rw [updC_len]; exact hi), upd_at hi, upd_at hi]
  split <;> rfl
theorem lastP_one {C : List Ct} {all : List Int} {p : Int} (hp : p ∈ all) (h : ∀ i ∈ all, (st C i).sel = decide (i = p)) : lastP C all = p := by
  have m : ∃ x, (all.filter fun i => (st C i).sel).getLast? = some x := by
    cases e : (all.filter fun i => (st C i).sel).getLast? with
    | none =>
      rw [List.getLast?_eq_none_iff] at e
      have : p ∈ all.filter fun i => (st C i).sel := List.mem_filter.2 ⟨hp, by rw [h p hp]; exact decide_eq_true rfl⟩
      rw [e] at this; cases this
    | some x => exact ⟨x, rfl⟩
  obtain ⟨x, e⟩ := m
  have hx := List.mem_filter.1 (List.mem_of_getLast? e)
  have : x = p := of_decide_eq_true (by rw [← h x hx.1]; exact hx.2)
  unfold lastP
  rw [e, this]; rfl
/-- Put right again it is the same. -/
theorem fix_again {l : List Nd} {C : List Ct} (sel : Int) (hC : l.length = C.length) : fixP l (fixP l C sel) sel = fixP l C sel := by
  by_cases h : isK l sel 23 = true ∧ hasA (nd l sel.toNat) oMul = false
  · have e : ∀ D, fixP l D sel = onlyP D (listP l sel) (pickP l D sel (listP l sel)) := fun D => if_pos h
    rw [e, e]
    obtain ⟨_, rng⟩ := list_in (l := l) (sel := sel)
    have sl : ∀ i ∈ listP l sel, (st (onlyP C (listP l sel) (pickP l C sel (listP l sel))) i).sel = decide (i = pickP l C sel (listP l sel)) := fun i hi => st_only hi (rng i hi).1 (by have := (rng i hi).2; omega)
    have pk : pickP l (onlyP C (listP l sel) (pickP l C sel (listP l sel))) sel (listP l sel) = pickP l C sel (listP l sel) := by
      rcases pick_in (l := l) (C := C) (sel := sel) (all := listP l sel) with q | q
      · have n1 : lastP (onlyP C (listP l sel) (pickP l C sel (listP l sel))) (listP l sel) = -1 := lastP_none (fun i hi => by
          rw [sl i hi, q]
          exact decide_eq_false (by have := (rng i hi).1; omega))
        have n2 : ¬ 0 ≤ lastP C (listP l sel) := by
          intro t
          have : pickP l C sel (listP l sel) = lastP C (listP l sel) := if_pos t
          omega
        have e2 : pickP l C sel (listP l sel) = if sizeP l sel = 1 then ((listP l sel).find? fun i => !offP l i).getD (-1) else -1 := if_neg n2
        generalize onlyP C (listP l sel) (pickP l C sel (listP l sel)) = D at *
        rw [e2]
        unfold pickP
        rw [if_neg (by rw [n1]; decide)]
      · have n1 := lastP_one q sl
        have n0 := (rng _ q).1
        generalize onlyP C (listP l sel) (pickP l C sel (listP l sel)) = D at *
        generalize pickP l C sel (listP l sel) = p at *
        unfold pickP
        rw [n1, if_pos n0]
    rw [pk]
    generalize pickP l C sel (listP l sel) = p
    show updP (onlyF p) (listP l sel) (updP (onlyF p) (listP l sel) C) = updP (onlyF p) (listP l sel) C
    rw [upd_upd]; rfl
  · have e : ∀ D, fixP l D sel = D := fun D => if_neg h
    rw [e, e]
theorem fixO_again (l : List Nd) (C : List Ct) (sel : Int) : fixO l (fixO l C sel) sel = fixO l C sel := by
  by_cases h : rightD l C = true
  · have e : fixO l C sel = fixP l C sel := if_pos h
    rw [e]
    have h2 : rightD l (fixP l C sel) = true := by rw [rightD_len (fix_len ..)]; exact h
    show (if rightD l (fixP l C sel) = true then fixP l (fixP l C sel) sel else []) = _
    rw [if_pos h2, fix_again sel (rightD_is h).2]
  · have e : fixO l C sel = [] := if_neg h
    rw [e]
    show (if rightD l [] = true then fixP l [] sel else []) = []
    split
    · rename_i q
      have r := rightD_is q
      have := r.1.len.1
      have : l.length = 0 := r.2
      omega
    · rfl
theorem reset_fix (l : List Nd) (C : List Ct) (sel : Int) : fixO l (resetO l C sel) sel = resetO l C sel := by
  by_cases h : rightD l C = true
  · have e : resetO l C sel = fixP l (updP (rstF l) (listP l sel) C) sel := if_pos h
    have h2 : rightD l (updP (rstF l) (listP l sel) C) = true := by rw [rightD_len (updC_len ..)]; exact h
    have e2 : fixO l (updP (rstF l) (listP l sel) C) sel = fixP l (updP (rstF l) (listP l sel) C) sel := if_pos h2
    rw [e, ← e2]
    exact fixO_again l _ sel
  · have e : resetO l C sel = [] := if_neg h
    have e2 : fixO l C sel = [] := if_neg h
    rw [e, ← e2]
    exact fixO_again l C sel
end Go.Proofs.YtemikdmkjgmflaaDoor

namespace Go.Proofs.YtemikdmkjgmflaaDoor
open Go.RowKit
theorem alike_fix (l : List Nd) (C : List Ct) (sel : Int) : Alike C (fixP l C sel) := by
  unfold fixP
  split
  · exact alike_only ..
  · exact .refl _
theorem resetO_ok {l : List Nd} {C : List Ct} {sel : Int} (h : CsOK C) : CsOK (resetO l C sel) := by
  unfold resetO
  split
  · exact ((alike_upd (f := rstF l) (all := listP l sel) fun _ _ => ⟨rfl, rfl, rfl⟩).trans (alike_fix l _ sel)).ok h
  · exact nil_csok
end Go.Proofs.YtemikdmkjgmflaaDoor

namespace Go.Proofs.YtemikdmkjgmflaaDoor
open Go.RowKit
set_option maxRecDepth 100000
set_option maxHeartbeats 8000000 in
theorem refOFix_any (nv cv : Value) (l : List Nd) (C : List Ct) (sel : Int) (w : World) (hD : DocV w nv cv l C) (hz : DocSz l) (hC : CsOK C) :
    Calls Tryd.prog 38 #[.agg #[nv, cv], .int .i64 sel] w fun e w' => ∃ v', e = .returned v' ∧ CtsV w' v' (fixO l C sel) ∧ Below w.heap.size w w' := by
  obtain ⟨F, hF⟩ := hD.cts
  have FI := hide hF.1
  have E0 := hide (OEnv.new w nv cv)
  have HR := hide (fun W (hb : Below w.heap.size w W) => refORight_any nv cv l C W (hD.below hb) hz hC)
  have HC := hide (fun W (hb : Below w.heap.size w W) => refOCopied_any cv C F W (hF.below hb) hC)
  have HI := hide (fun W (hb : Below w.heap.size w W) => refIs_any nv l sel 23 W (hD.nds.below hb) hz)
  have HL := hide (fun W (hb : Below w.heap.size w W) => refOList_any nv l sel W (hD.nds.below hb) hz)
  have HZ := hide (fun W (hb : Below w.heap.size w W) => refOSize_any nv l sel W (hD.nds.below hb) hz)
  have HO := hide (fun i W (hb : Below w.heap.size w W) => refOff_any nv l i W (hD.nds.below hb) hz)
  obtain ⟨p, c, ep⟩ := nds_form hD.nds
  obtain ⟨p2, c2, ep2⟩ := cts_form hD.cts
  have ND := hide hD.nds
  have hl := hz.len
  have hl2 := hC.len
  subst ep ep2
  clear hD hz hC hF
  cases h : rightD l C with
  | false =>
    have E : Hid (fixO l C sel = []) := if_neg (by rw [h]; decide)
    rw [h] at HR
    clear h HI HL HZ HO HC
    go_enter Tryd.func38, Tryd.ntmps38
    go_wp2_with fail
    refine (HR.out _ E0.out.bel).mono ?_
    rintro e w1 ⟨rfl, b1⟩
    have E1 := hide (E0.out.step b1)
    clear b1 E0
    go_wp2_with fail
    go_ret
    exact ⟨_, rfl, by rw [E.out]; exact cts_nil _, E1.out.bel⟩
  | true =>
    have EF : Hid (fixO l C sel = fixP l C sel) := if_pos h
    have HRt := hide (rightD_is h).1
    have HLC := hide (rightD_is h).2
    have hlen := HRt.out.len.2
    rw [h] at HR
    clear h
    cases h : isK l sel 23 with
    | false =>
      have E : Hid (fixO l C sel = C) := by show _ = _; rw [EF.out]; exact if_neg (by rw [h]; exact fun t => by cases t.1)
      rw [h] at HI
      clear h HL HZ HO EF
      go_enter Tryd.func38, Tryd.ntmps38
      go_wp2_with fail
      refine (HR.out _ E0.out.bel).mono ?_
      rintro e w1 ⟨rfl, b1⟩
      have E1 := hide (E0.out.step b1)
      clear b1 E0
      have c1 := E1.out.doc.cell 1 rfl
      have c0 := E1.out.doc.cell 0 rfl
      go_wp2_with fail
      refine (HC.out _ E1.out.bel).mono ?_
      rintro e w2 ⟨ov, rfl, o2, b2⟩
      have E2 := hide (E1.out.rowed b2 o2)
      obtain ⟨po, co, rfl, hco⟩ := o2.form
      clear b2 o2 c0 c1
      have c0 := E2.out.doc.cell 0 rfl
      go_wp2_with fail
      refine (HI.out _ E2.out.bel).mono ?_
      rintro e w3 ⟨rfl, b3⟩
      have E3 := hide (E2.out.step b3)
      clear b3 c0
      go_wp2_with fail
      go_ret
      exact ⟨_, rfl, by rw [E.out]; exact E3.out.row.cts (FI.out.below E3.out.bel), E3.out.bel⟩
    | true =>
      have hh : hasN l sel = true := by unfold isK at h; rw [Bool.and_eq_true] at h; exact h.1
      obtain ⟨m, hI⟩ := Is.of hh
      obtain ⟨rfl, h0⟩ := (⟨hI.eq, hI.lt⟩ : sel = (m : Int) ∧ m < l.length)
      have sz := right_attrsO HRt.out h0
      rw [nd_at h0] at sz
      have i0 : (0 : Int) ≤ (m : Int) := by omega
      have i1 : (m : Int) < (l.length : Int) := by omega
      obtain ⟨p', c', e', hv⟩ := ND.out
      cases e'
      rcases hv with hv | ⟨b, o, rfl, hv⟩
      · rw [hv] at h0; simp at h0
      obtain ⟨va, vk, N0⟩ := hv m h0
      have N1 := hide N0
      have HM := hide (fun W (hb : Below w.heap.size w W) => refOHas_any l[m] va vk oMul W (N1.out.at_.below hb) (by omega))
      rw [show oMul = ⟨#[109, 117, 108, 116, 105, 112, 108, 101]⟩ from rfl] at HM
      rw [h] at HI
      have EN : Hid (hasA (nd l (m : Int).toNat) oMul = hasA l[m] ⟨#[109, 117, 108, 116, 105, 112, 108, 101]⟩) := by show _ = _; rw [Int.toNat_natCast, nd_at h0]; rfl
      clear hh hI N0 sz hv
      cases g : hasA l[m] ⟨#[109, 117, 108, 116, 105, 112, 108, 101]⟩ with
      | true =>
        have E : Hid (fixO l C (m : Int) = C) := by show _ = _; rw [EF.out]; exact if_neg (by rw [EN.out, g]; exact fun t => by cases t.2)
        rw [g] at HM
        clear h g HL HZ HO EF EN
        go_enter Tryd.func38, Tryd.ntmps38
        go_wp2_with fail
        refine (HR.out _ E0.out.bel).mono ?_
        rintro e w1 ⟨rfl, b1⟩
        have E1 := hide (E0.out.step b1)
        clear b1 E0
        have c1 := E1.out.doc.cell 1 rfl
        have c0 := E1.out.doc.cell 0 rfl
        go_wp2_with fail
        refine (HC.out _ E1.out.bel).mono ?_
        rintro e w2 ⟨ov, rfl, o2, b2⟩
        have E2 := hide (E1.out.rowed b2 o2)
        obtain ⟨po, co, rfl, hco⟩ := o2.form
        clear b2 o2 c0 c1
        have c0 := E2.out.doc.cell 0 rfl
        go_wp2_with fail
        refine (HI.out _ E2.out.bel).mono ?_
        rintro e w3 ⟨rfl, b3⟩
        have E3 := hide (E2.out.step b3)
        clear b3 c0
        have c0 := E3.out.doc.cell 0 rfl
        have a0 := cell_below N1.out.name E3.out.bel
        have a1 := cell_below N1.out.text E3.out.bel
        have a2 := cell_below N1.out.attrs E3.out.bel
        have a3 := cell_below N1.out.parent E3.out.bel
        have a4 := cell_below N1.out.kids E3.out.bel
        go_wp2_with fail
        refine (HM.out _ E3.out.bel).mono ?_
        rintro e w4 ⟨rfl, b4⟩
        have E4 := hide (E3.out.step b4)
        clear b4 c0 a0 a1 a2 a3 a4
        go_wp2_with fail
        go_ret
        exact ⟨_, rfl, by rw [E.out]; exact E4.out.row.cts (FI.out.below E4.out.bel), E4.out.bel⟩
      | false =>
        have EF2 : Hid (fixO l C (m : Int) = onlyP C (listP l (m : Int)) (pickP l C (m : Int) (listP l (m : Int)))) := by show _ = _; rw [EF.out]; exact if_pos ⟨h, by rw [EN.out, g]⟩
        have PE : Hid (∀ j, (j = (listP l (m : Int)).length ∨ sizeP l (m : Int) = 1) → (j = 0 ∨ ¬ sizeP l (m : Int) = 1) → pickP l C (m : Int) (listP l (m : Int)) = pkP l (lastP C (listP l (m : Int))) ((listP l (m : Int)).drop j)) := by
          intro j h1 h2
          unfold pickP pkP
          split
          · rfl
          · split
            · rename_i q
              rcases h2 with t | t
              · rw [t, List.drop_zero]
              · exact absurd q t
            · rename_i q
              rcases h1 with t | t
              · rw [t, List.drop_length]; rfl
              · exact absurd t q
        obtain ⟨nd', rng⟩ := list_in (l := l) (sel := (m : Int))
        have few : (listP l (m : Int)).length ≤ 400 := by
          have e : listP l (m : Int) = (orderP l (m : Int)).filter (optB l (m : Int)) := if_pos h
          rw [e]
          exact Nat.le_trans (List.length_filter_le ..) (order_few HRt.out h0)
        rw [g] at HM
        have ND' := hide nd'
        have RG : Hid (∀ i ∈ listP l (m : Int), 0 ≤ i ∧ i < (C.length : Int)) := fun i hi => by have := rng i hi; have := HLC.out; omega
        clear h g EF EN nd' rng
        generalize listP l (m : Int) = all at *
        generalize sizeP l (m : Int) = S at *
        generalize pickP l C (m : Int) all = PK at *
        go_enter Tryd.func38, Tryd.ntmps38
        go_wp2_with fail
        refine (HR.out _ E0.out.bel).mono ?_
        rintro e w1 ⟨rfl, b1⟩
        have E1 := hide (E0.out.step b1)
        clear b1 E0
        have c1 := E1.out.doc.cell 1 rfl
        have c0 := E1.out.doc.cell 0 rfl
        go_wp2_with fail
        refine (HC.out _ E1.out.bel).mono ?_
        rintro e w2 ⟨ov, rfl, o2, b2⟩
        have E2 := hide (E1.out.rowed b2 o2)
        obtain ⟨po, co, rfl, hco⟩ := o2.form
        clear b2 o2 c0 c1
        have c0 := E2.out.doc.cell 0 rfl
        go_wp2_with fail
        refine (HI.out _ E2.out.bel).mono ?_
        rintro e w3 ⟨rfl, b3⟩
        have E3 := hide (E2.out.step b3)
        clear b3 c0
        have c0 := E3.out.doc.cell 0 rfl
        have a0 := cell_below N1.out.name E3.out.bel
        have a1 := cell_below N1.out.text E3.out.bel
        have a2 := cell_below N1.out.attrs E3.out.bel
        have a3 := cell_below N1.out.parent E3.out.bel
        have a4 := cell_below N1.out.kids E3.out.bel
        go_wp2_with fail
        refine (HM.out _ E3.out.bel).mono ?_
        rintro e w4 ⟨rfl, b4⟩
        have E4 := hide (E3.out.step b4)
        clear b4 c0 a0 a1 a2 a3 a4
        have c0 := E4.out.doc.cell 0 rfl
        go_wp2_with fail
        refine (HL.out _ E4.out.bel).mono ?_
        rintro e w5 ⟨av, rfl, k5, b5⟩
        have E5 := hide (E4.out.listed b5 k5)
        obtain ⟨pa, ca, rfl, hca⟩ := kids_form k5
        clear b5 c0 HR HC HI HL HM k5 E1 E2 E3 E4
        go_wp2_with fail
        go_loop [7, 8] (fun pv iv => ∃ k : Nat, k ≤ all.length ∧ iv = .int .i64 k ∧ pv = .int .i64 (lastP C (all.take k))) (fun _ iv => all.length - (intOf iv).toNat)
        case atStart => exact ⟨0, Nat.zero_le _, rfl, rfl⟩
        case round =>
          obtain ⟨k, hk, rfl, rfl⟩ := hrel
          by_cases g : k < all.length
          · have k1 : (k : Int) < (all.length : Int) := by omega
            have rx := RG.out all[k] (List.getElem_mem g)
            obtain ⟨q, eq, hq⟩ := nat_of (z := all[k]) (n := C.length) (by omega) rx.2
            obtain ⟨gv, rfl, y0, _, _, _, _⟩ := own_sel E5.out hq
            obtain ⟨ga, rfl, x0, _⟩ := own_num E5.out g
            rw [eq] at x0
            have LY := hide (last_yes (C := C) g)
            have LN := hide (last_no (C := C) g)
            rw [eq, st_nat hq] at LY LN
            have q0 : (0 : Int) ≤ (q : Int) := by omega
            have q1 : (q : Int) < (C.length : Int) := by omega
            clear rx eq EF2 PE RG ND' HZ HO
            cases hs : C[q].sel with
            | true =>
              have E9 := hide (LY.out hs)
              rw [hs] at y0
              clear LY LN hs
              generalize lastP C (all.take k) = z at *
              go_wp2_with fail
              go_round
              case rel => exact ⟨k + 1, by omega, by go_num, by rw [E9.out]⟩
              case measure => simp [intOf]; omega
            | false =>
              have E9 := hide (LN.out hs)
              rw [hs] at y0
              clear LY LN hs
              go_wp2_with fail
              go_round
              case rel => exact ⟨k + 1, by omega, by go_num, by rw [E9.out]⟩
              case measure => simp [intOf]; omega
          · obtain rfl : k = all.length := by omega
            rw [List.take_length]
            have LG := hide (last_ge C all (fun i hi => (RG.out i hi).1))
            have LI := hide (fun h => last_in (C := C) (all := all) h)
            have LO := hide (fun h => last_none (C := C) (all := all) (fun i hi => (RG.out i hi).1) h)
            have HOn := hide (fun p W (e : OEnv w W (.slice (some ⟨b, o, none⟩) l.length c) (.slice p2 C.length c2) (.slice po C.length co) C F (.slice pa all.length ca) all) => refOnly_any (w.heap.size + 1) (w.heap.size + 1) (.slice po C.length co) (.slice pa all.length ca) C F all p W e.row e.kid e.sep ND'.out RG.out hl2 (by omega))
            have PEnd := hide (pk_end (l := l) LG.out)
            generalize lastP C all = L0 at *
            have s0 : Hid (L0 = pkP l L0 (all.drop all.length)) := by show _ = _; rw [List.drop_length]; exact PEnd.out.symm
            go_wp2_with fail
            go_loopw [7, 9] (fun pv iv wr => ∃ j : Nat, j ≤ all.length ∧ (j = all.length ∨ S = 1) ∧ iv = .int .i64 ((j : Int) - 1) ∧ pv = .int .i64 (pkP l L0 (all.drop j)) ∧ Hid (OEnv w wr (.slice (some ⟨b, o, none⟩) l.length c) (.slice p2 C.length c2) (.slice po C.length co) C F (.slice pa all.length ca) all)) (fun _ iv _ => (intOf iv + 1).toNat)
            case atStart => exact ⟨all.length, Nat.le_refl _, .inl rfl, rfl, congrArg _ s0.out, E5⟩
            case round =>
              rename World => wr
              obtain ⟨j, hj, hjS, rfl, rfl, ER⟩ := hrel
              clear s0 E5 PEnd
              cases j with
              | zero =>
                have f1 : ¬ (0 : Int) ≤ ((0 : Nat) : Int) - 1 := by omega
                have d1 : decide ((0 : Int) ≤ ((0 : Nat) : Int) - 1) = false := decide_eq_false f1
                have EP := hide (PE.out 0 hjS (.inl rfl))
                clear PE LI LO LG HZ HO
                generalize pkP l L0 (all.drop 0) = z at *
                go_wp2_with fail
                refine (HOn.out z _ ER.out).mono ?_
                rintro e w7 ⟨rfl, o7, c7⟩
                have E7 := hide (ER.out.other c7 o7)
                clear o7 c7
                go_wp2_with fail
                go_ret
                exact ⟨_, rfl, by rw [EF2.out, EP.out]; exact E7.out.row.cts (files_upd (FI.out.below E7.out.bel) (fun _ _ => rfl)), E7.out.bel⟩
              | succ j =>
                have f1 : (0 : Int) ≤ ((j + 1 : Nat) : Int) - 1 := by omega
                have f2 : ((j + 1 : Nat) : Int) - 1 = (j : Int) := by omega
                have c0 := ER.out.doc.cell 0 rfl
                by_cases hS : S = 1
                · subst hS
                  have hjl : j < all.length := by omega
                  have rx := RG.out all[j] (List.getElem_mem hjl)
                  obtain ⟨q, eq, hq⟩ := nat_of (z := all[j]) (n := C.length) (by omega) rx.2
                  have POf := hide (pk_off (l := l) (L := L0) hjl)
                  have POn := hide (fun h => pk_on (l := l) (L := L0) hjl h)
                  have PHs := hide (fun h xs => pk_has (l := l) (L := L0) (xs := xs) h)
                  have PIn := hide (fun h h2 => pk_in (l := l) (L := L0) (xs := all.drop (j + 1)) h h2)
                  rw [eq] at POf POn
                  have HOf := hide (fun W hb => HO.out (q : Int) W hb)
                  have k1 : (j : Int) < (all.length : Int) := by omega
                  have k0 : (0 : Int) ≤ (j : Int) := by omega
                  clear PE EF2 HO HOn hjS rx
                  cases ho : offP l (q : Int) with
                  | true =>
                    have EP : Hid (pkP l L0 (all.drop j) = pkP l L0 (all.drop (j + 1))) := POf.out ho
                    rw [ho] at HOf
                    clear POf POn PHs PIn LI LO LG ho
                    generalize pkP l L0 (all.drop (j + 1)) = z at *
                    go_wp2_with fail
                    refine (HZ.out _ ER.out.bel).mono ?_
                    rintro e w6 ⟨rfl, b6⟩
                    replace ER := hide (ER.out.step b6)
                    clear b6 c0
                    have c0 := ER.out.doc.cell 0 rfl
                    obtain ⟨ga, rfl, x0, _⟩ := own_num ER.out hjl
                    rw [eq] at x0
                    go_wp2_with fail
                    refine wp_region_held_drew (S := (fun w' => w'.cell? ⟨w.heap.size, 0, none⟩ = some (.slice (some ⟨b, o, none⟩) l.length c) ∧ w'.cell? ⟨ga, j, none⟩ = some (.int .i64 (q : Int)))) (by kernel_rfl) ?_ (fun hHeld => ?_)
                    · exact ⟨c0, x0⟩
                    refine wpAnyH_take (i := 0) (oi := { dst := some 66, op := Op.fieldAddr 25 (Operand.tmp 2) 0, type := 0, pos := "ref.go:148", after := #[], guard := none }) (v := ?_) rfl (by kernel_rfl) (by kernel_rfl) (by kernel_rfl) (fun _ _ _ h => h) (Or.inl ⟨by rfl, ?_⟩) (by assumption) ?_
                    rotate_left
                    · (intro w hSw; (try dsimp only at hSw); first | (go_simp; done) | (go_simp; with_reducible rfl))
                    simp only [Act.put, List.setIfInBounds_toArray, List.set_cons_zero, List.set_cons_succ]
                    refine wpAnyH_take (i := 1) (oi := { dst := some 67, op := Op.load 22 (Operand.tmp 66), type := 22, pos := "ref.go:148", after := #[{ on := 0, ground := Ground.data }], guard := none }) (v := ?_) rfl (by kernel_rfl) (by kernel_rfl) (by kernel_rfl) (fun _ _ _ h => h) (Or.inl ⟨by rfl, ?_⟩) (by assumption) ?_
                    rotate_left
                    · (intro w hSw; (try dsimp only at hSw); first | (go_simp; done) | (go_simp; with_reducible rfl))
                    simp only [Act.put, List.setIfInBounds_toArray, List.set_cons_zero, List.set_cons_succ]
                    refine wpAnyH_take (i := 2) (oi := { dst := some 68, op := Op.move (Operand.tmp 6), type := 41, pos := "ref.go:148", after := #[], guard := none }) (v := ?_) rfl (by kernel_rfl) (by kernel_rfl) (by kernel_rfl) (fun _ _ _ h => h) (Or.inl ⟨by rfl, ?_⟩) (by assumption) ?_
                    rotate_left
                    · (intro w hSw; (try dsimp only at hSw); first | (go_simp; done) | (go_simp; with_reducible rfl))
                    simp only [Act.put, List.setIfInBounds_toArray, List.set_cons_zero, List.set_cons_succ]
                    refine wpAnyH_take (i := 3) (oi := { dst := some 69, op := Op.move (Operand.tmp 9), type := 3, pos := "ref.go:148", after := #[], guard := none }) (v := ?_) rfl (by kernel_rfl) (by kernel_rfl) (by kernel_rfl) (fun _ _ _ h => h) (Or.inl ⟨by rfl, ?_⟩) (by assumption) ?_
                    rotate_left
                    · (intro w hSw; (try dsimp only at hSw); first | (go_simp; done) | (go_simp; with_reducible rfl))
                    simp only [Act.put, List.setIfInBounds_toArray, List.set_cons_zero, List.set_cons_succ]
                    refine wpAnyH_take (i := 4) (oi := { dst := some 70, op := Op.indexAddr 41 (Operand.tmp 68) (Operand.tmp 69), type := 0, pos := "ref.go:148", after := #[{ on := 2, ground := Ground.data }, { on := 3, ground := Ground.data }], guard := none }) (v := ?_) rfl (by kernel_rfl) (by kernel_rfl) (by kernel_rfl) (fun _ _ _ h => h) (Or.inl ⟨by rfl, ?_⟩) (by assumption) ?_
                    rotate_left
                    · (intro w hSw; (try dsimp only at hSw); first | (go_simp; done) | (go_simp; with_reducible rfl))
                    simp only [Act.put, List.setIfInBounds_toArray, List.set_cons_zero, List.set_cons_succ]
                    refine wpAnyH_take (i := 5) (oi := { dst := some 71, op := Op.load 3 (Operand.tmp 70), type := 3, pos := "ref.go:148", after := #[{ on := 4, ground := Ground.data }], guard := none }) (v := ?_) rfl (by kernel_rfl) (by kernel_rfl) (by kernel_rfl) (fun _ _ _ h => h) (Or.inl ⟨by rfl, ?_⟩) (by assumption) ?_
                    rotate_left
                    · (intro w hSw; (try dsimp only at hSw); first | (go_simp; done) | (go_simp; with_reducible rfl))
                    simp only [Act.put, List.setIfInBounds_toArray, List.set_cons_zero, List.set_cons_succ]
                    refine wpAnyH_ready (rs := [6]) (by kernel_rfl) (by simp) ?_
                    refine AllReadyH.cons (i := 6) (o := { dst := some 72, op := Op.call { callee := Callee.value (Operand.func 18), args := #[Operand.tmp 67, Operand.tmp 71], argTypes := #[22, 3] }, type := 4, pos := "ref.go:148", after := #[{ on := 1, ground := Ground.data }, { on := 5, ground := Ground.data }], guard := none }) rfl (fun K hK => ?_) AllReadyH.nil
                    go_simp
                    go_at_call 18
                    refine (HOf.out _ (belR ER.out.bel 1)).mono ?_
                    rintro e wv ⟨rfl, bv⟩
                    have UR : Hid (Below w6.heap.size w6 wv) := undrewO bv
                    go_wp2_with fail
                    refine hK.out _ _ ?_ (fun hHeld => ?_)
                    · exact ⟨cell_below c0 UR.out, cell_below x0 UR.out⟩
                    clear hK K
                    refine wpAnyH_take (i := 7) (oi := { dst := some 73, op := Op.unOp UnOp.not 4 (Operand.tmp 72), type := 4, pos := "ref.go:148", after := #[{ on := 6, ground := Ground.data }], guard := none }) (v := ?_) rfl (by kernel_rfl) (by kernel_rfl) (by kernel_rfl) (fun _ _ _ h => h) (Or.inl ⟨by rfl, ?_⟩) (by assumption) ?_
                    rotate_left
                    · (intro w hSw; (try dsimp only at hSw); first | (go_simp; done) | (go_simp; with_reducible rfl))
                    simp only [Act.put, List.setIfInBounds_toArray, List.set_cons_zero, List.set_cons_succ]
                    refine wpAnyH_take (i := 8) (oi := { dst := some 74, op := Op.move (Operand.tmp 73), type := 4, pos := "ref.go:148", after := #[{ on := 7, ground := Ground.data }, { on := 6, ground := Ground.chain }], guard := none }) (v := ?_) rfl (by kernel_rfl) (by kernel_rfl) (by kernel_rfl) (fun _ _ _ h => h) (Or.inl ⟨by rfl, ?_⟩) (by assumption) ?_
                    rotate_left
                    · (intro w hSw; (try dsimp only at hSw); first | (go_simp; done) | (go_simp; with_reducible rfl))
                    simp only [Act.put, List.setIfInBounds_toArray, List.set_cons_zero, List.set_cons_succ]
                    refine wpAnyH_take (i := 9) (oi := { dst := some 75, op := Op.move (Operand.tmp 7), type := 3, pos := "ref.go:148", after := #[{ on := 8, ground := Ground.guard }], guard := some (8, true) }) (v := undef) rfl (by kernel_rfl) (by kernel_rfl) (by kernel_rfl) (fun _ _ _ h => h) (Or.inr ⟨by rfl, rfl⟩) (by assumption) ?_
                    simp only [Act.put, List.setIfInBounds_toArray, List.set_cons_zero, List.set_cons_succ]
                    refine wpAnyH_take (i := 10) (oi := { dst := some 76, op := Op.binOp BinOp.lss 3 (Operand.tmp 75) (Operand.const (Value.int IntKind.i64 0)) 3, type := 4, pos := "ref.go:148", after := #[{ on := 9, ground := Ground.data }, { on := 8, ground := Ground.guard }], guard := some (8, true) }) (v := undef) rfl (by kernel_rfl) (by kernel_rfl) (by kernel_rfl) (fun _ _ _ h => h) (Or.inr ⟨by rfl, rfl⟩) (by assumption) ?_
                    simp only [Act.put, List.setIfInBounds_toArray, List.set_cons_zero, List.set_cons_succ]
                    refine wpAnyH_take (i := 11) (oi := { dst := some 77, op := Op.move (Operand.tmp 76), type := 4, pos := "ref.go:148", after := #[{ on := 10, ground := Ground.data }, { on := 8, ground := Ground.chain }, { on := 8, ground := Ground.guard }], guard := some (8, true) }) (v := undef) rfl (by kernel_rfl) (by kernel_rfl) (by kernel_rfl) (fun _ _ _ h => h) (Or.inr ⟨by rfl, rfl⟩) (by assumption) ?_
                    simp only [Act.put, List.setIfInBounds_toArray, List.set_cons_zero, List.set_cons_succ]
                    refine wpAnyH_take (i := 12) (oi := { dst := some 78, op := Op.move (Operand.tmp 5), type := 23, pos := "ref.go:148", after := #[{ on := 11, ground := Ground.guard }], guard := some (11, false) }) (v := undef) rfl (by kernel_rfl) (by kernel_rfl) (by kernel_rfl) (fun _ _ _ h => h) (Or.inr ⟨by rfl, rfl⟩) (by assumption) ?_
                    simp only [Act.put, List.setIfInBounds_toArray, List.set_cons_zero, List.set_cons_succ]
                    refine wpAnyH_take (i := 13) (oi := { dst := some 79, op := Op.move (Operand.tmp 7), type := 3, pos := "ref.go:148", after := #[{ on := 11, ground := Ground.guard }], guard := some (11, false) }) (v := undef) rfl (by kernel_rfl) (by kernel_rfl) (by kernel_rfl) (fun _ _ _ h => h) (Or.inr ⟨by rfl, rfl⟩) (by assumption) ?_
                    simp only [Act.put, List.setIfInBounds_toArray, List.set_cons_zero, List.set_cons_succ]
                    refine wpAnyH_take (i := 14) (oi := { dst := some 80, op := Op.indexAddr 23 (Operand.tmp 78) (Operand.tmp 79), type := 0, pos := "ref.go:148", after := #[{ on := 12, ground := Ground.data }, { on := 13, ground := Ground.data }, { on := 11, ground := Ground.guard }], guard := some (11, false) }) (v := undef) rfl (by kernel_rfl) (by kernel_rfl) (by kernel_rfl) (fun _ _ _ h => h) (Or.inr ⟨by rfl, rfl⟩) (by assumption) ?_
                    simp only [Act.put, List.setIfInBounds_toArray, List.set_cons_zero, List.set_cons_succ]
                    refine wpAnyH_take (i := 15) (oi := { dst := some 81, op := Op.fieldAddr 48 (Operand.tmp 80) 6, type := 0, pos := "ref.go:148", after := #[{ on := 14, ground := Ground.data }, { on := 11, ground := Ground.guard }], guard := some (11, false) }) (v := undef) rfl (by kernel_rfl) (by kernel_rfl) (by kernel_rfl) (fun _ _ _ h => h) (Or.inr ⟨by rfl, rfl⟩) (by assumption) ?_
                    simp only [Act.put, List.setIfInBounds_toArray, List.set_cons_zero, List.set_cons_succ]
                    refine wpAnyH_take (i := 16) (oi := { dst := some 82, op := Op.load 4 (Operand.tmp 81), type := 4, pos := "ref.go:148", after := #[{ on := 15, ground := Ground.data }, { on := 11, ground := Ground.guard }], guard := some (11, false) }) (v := undef) rfl (by kernel_rfl) (by kernel_rfl) (by kernel_rfl) (fun _ _ _ h => h) (Or.inr ⟨by rfl, rfl⟩) (by assumption) ?_
                    simp only [Act.put, List.setIfInBounds_toArray, List.set_cons_zero, List.set_cons_succ]
                    refine wpAnyH_take (i := 17) (oi := { dst := some 83, op := Op.unOp UnOp.not 4 (Operand.tmp 82), type := 4, pos := "ref.go:148", after := #[{ on := 16, ground := Ground.data }, { on := 11, ground := Ground.guard }], guard := some (11, false) }) (v := undef) rfl (by kernel_rfl) (by kernel_rfl) (by kernel_rfl) (fun _ _ _ h => h) (Or.inr ⟨by rfl, rfl⟩) (by assumption) ?_
                    simp only [Act.put, List.setIfInBounds_toArray, List.set_cons_zero, List.set_cons_succ]
                    refine wpAnyH_take (i := 18) (oi := { dst := some 84, op := Op.pick (Operand.tmp 77) (Operand.const (Value.bool true)) (Operand.tmp 83), type := 4, pos := "ref.go:148", after := #[{ on := 11, ground := Ground.data }, { on := 17, ground := Ground.data }, { on := 8, ground := Ground.guard }], guard := some (8, true) }) (v := undef) rfl (by kernel_rfl) (by kernel_rfl) (by kernel_rfl) (fun _ _ _ h => h) (Or.inr ⟨by rfl, rfl⟩) (by assumption) ?_
                    simp only [Act.put, List.setIfInBounds_toArray, List.set_cons_zero, List.set_cons_succ]
                    refine wpAnyH_take (i := 19) (oi := { dst := some 85, op := Op.pick (Operand.tmp 74) (Operand.tmp 84) (Operand.const (Value.bool false)), type := 4, pos := "ref.go:148", after := #[{ on := 8, ground := Ground.data }, { on := 18, ground := Ground.data }], guard := none }) (v := ?_) rfl (by kernel_rfl) (by kernel_rfl) (by kernel_rfl) (fun _ _ _ h => h) (Or.inl ⟨by rfl, ?_⟩) (by assumption) ?_
                    rotate_left
                    · (intro w hSw; (try dsimp only at hSw); first | (go_simp; done) | (go_simp; with_reducible rfl))
                    simp only [Act.put, List.setIfInBounds_toArray, List.set_cons_zero, List.set_cons_succ]
                    refine wpAnyH_done (by kernel_rfl) ?_ _
                    go_wp2_with fail
                    go_roundw
                    case rel => exact ⟨j, by omega, (by first | exact .inr rfl | exact .inr trivial), by go_num, by rw [EP.out], ER.out.step UR.out⟩
                    case measure => first | (simp [intOf]; done) | (simp [intOf]; omega)
                  | false =>
                    rw [ho] at HOf
                    by_cases hz0 : 0 ≤ pkP l L0 (all.drop (j + 1))
                    · by_cases hL : 0 ≤ L0
                      · have ez : pkP l L0 (all.drop (j + 1)) = L0 := PHs.out hL _
                        have EP : Hid (pkP l L0 (all.drop j) = L0) := PHs.out hL _
                        have li := LI.out hL
                        have rr := RG.out L0 li.1
                        rw [ez]
                        clear POf POn PHs PIn LO LG ho hz0 ez
                        obtain ⟨r, rfl, hr⟩ := nat_of (z := L0) (n := C.length) (by omega) rr.2
                        have hsel := li.2
                        rw [st_nat hr] at hsel
                        clear LI li rr RG hL
                        have r0 : (0 : Int) ≤ (r : Int) := by omega
                        have r1 : (r : Int) < (C.length : Int) := by omega
                        have nr : ¬ (r : Int) < 0 := by omega
                        have dr : decide ((r : Int) < 0) = false := decide_eq_false nr
                        go_wp2_with fail
                        refine (HZ.out _ ER.out.bel).mono ?_
                        rintro e w6 ⟨rfl, b6⟩
                        replace ER := hide (ER.out.step b6)
                        clear b6 c0
                        have c0 := ER.out.doc.cell 0 rfl
                        obtain ⟨ga, rfl, x0, _⟩ := own_num ER.out hjl
                        rw [eq] at x0
                        obtain ⟨gv, rfl, y0, _, _, _, _⟩ := own_sel ER.out hr
                        rw [hsel] at y0
                        go_wp2_with fail
                        go_region_held3 (fun w' => w'.cell? ⟨w.heap.size, 0, none⟩ = some (.slice (some ⟨b, o, none⟩) l.length c) ∧ w'.cell? ⟨ga, j, none⟩ = some (.int .i64 (q : Int)) ∧ w'.cell? ⟨gv, r * 10 + 6, none⟩ = some (.bool true)) (first | go_keep | exact ⟨cell_below c0 UR.out, cell_below x0 UR.out, cell_below y0 UR.out⟩)
                          (first | (go_at_call 18; refine (HOf.out _ (belR ER.out.bel 1)).mono ?_; rintro e wv ⟨rfl, bv⟩; have UR : Hid (Below w6.heap.size w6 wv) := undrewO bv))
                        go_wp2_with fail
                        go_roundw
                        case rel => exact ⟨j, by omega, (by first | exact .inr rfl | exact .inr trivial), by go_num, by rw [EP.out], ER.out.step UR.out⟩
                        case measure => first | (simp [intOf]; done) | (simp [intOf]; omega)
                      · have EP : Hid (pkP l L0 (all.drop j) = (q : Int)) := POn.out hL ho
                        have li := PIn.out hL hz0
                        have hsel := LO.out (by omega) _ (List.mem_of_mem_drop li)
                        have rr := RG.out _ (List.mem_of_mem_drop li)
                        generalize pkP l L0 (all.drop (j + 1)) = z at *
                        obtain ⟨r, rfl, hr⟩ := nat_of (z := z) (n := C.length) (by omega) rr.2
                        rw [st_nat hr] at hsel
                        clear POf POn PHs PIn LI LO LG ho hz0 li rr RG hL
                        have r0 : (0 : Int) ≤ (r : Int) := by omega
                        have r1 : (r : Int) < (C.length : Int) := by omega
                        have nr : ¬ (r : Int) < 0 := by omega
                        have dr : decide ((r : Int) < 0) = false := decide_eq_false nr
                        go_wp2_with fail
                        refine (HZ.out _ ER.out.bel).mono ?_
                        rintro e w6 ⟨rfl, b6⟩
                        replace ER := hide (ER.out.step b6)
                        clear b6 c0
                        have c0 := ER.out.doc.cell 0 rfl
                        obtain ⟨ga, rfl, x0, _⟩ := own_num ER.out hjl
                        rw [eq] at x0
                        obtain ⟨gv, rfl, y0, _, _, _, _⟩ := own_sel ER.out hr
                        rw [hsel] at y0
                        go_wp2_with fail
                        go_region_held3 (fun w' => w'.cell? ⟨w.heap.size, 0, none⟩ = some (.slice (some ⟨b, o, none⟩) l.length c) ∧ w'.cell? ⟨ga, j, none⟩ = some (.int .i64 (q : Int)) ∧ w'.cell? ⟨gv, r * 10 + 6, none⟩ = some (.bool false)) (first | go_keep | exact ⟨cell_below c0 UR.out, cell_below x0 UR.out, cell_below y0 UR.out⟩)
                          (first | (go_at_call 18; refine (HOf.out _ (belR ER.out.bel 1)).mono ?_; rintro e wv ⟨rfl, bv⟩; have UR : Hid (Below w6.heap.size w6 wv) := undrewO bv))
                        have x0' := cell_below x0 UR.out
                        go_wp2_with fail
                        go_roundw
                        case rel => exact ⟨j, by omega, (by first | exact .inr rfl | exact .inr trivial), by go_num, by rw [EP.out], ER.out.step UR.out⟩
                        case measure => first | (simp [intOf]; done) | (simp [intOf]; omega)
                    · have hL : ¬ 0 ≤ L0 := fun h => hz0 (by rw [PHs.out h]; exact h)
                      have EP : Hid (pkP l L0 (all.drop j) = (q : Int)) := POn.out hL ho
                      generalize pkP l L0 (all.drop (j + 1)) = z at *
                      have nz : z < 0 := by omega
                      clear POf POn PHs PIn LI LO LG ho hz0 RG hL
                      go_wp2_with fail
                      refine (HZ.out _ ER.out.bel).mono ?_
                      rintro e w6 ⟨rfl, b6⟩
                      replace ER := hide (ER.out.step b6)
                      clear b6 c0
                      have c0 := ER.out.doc.cell 0 rfl
                      obtain ⟨ga, rfl, x0, _⟩ := own_num ER.out hjl
                      rw [eq] at x0
                      go_wp2_with fail
                      refine wp_region_held_drew (S := (fun w' => w'.cell? ⟨w.heap.size, 0, none⟩ = some (.slice (some ⟨b, o, none⟩) l.length c) ∧ w'.cell? ⟨ga, j, none⟩ = some (.int .i64 (q : Int)))) (by kernel_rfl) ?_ (fun hHeld => ?_)
                      · exact ⟨c0, x0⟩
                      refine wpAnyH_take (i := 0) (oi := { dst := some 66, op := Op.fieldAddr 25 (Operand.tmp 2) 0, type := 0, pos := "ref.go:148", after := #[], guard := none }) (v := ?_) rfl (by kernel_rfl) (by kernel_rfl) (by kernel_rfl) (fun _ _ _ h => h) (Or.inl ⟨by rfl, ?_⟩) (by assumption) ?_
                      rotate_left
                      · (intro w hSw; (try dsimp only at hSw); first | (go_simp; done) | (go_simp; with_reducible rfl))
                      simp only [Act.put, List.setIfInBounds_toArray, List.set_cons_zero, List.set_cons_succ]
                      refine wpAnyH_take (i := 1) (oi := { dst := some 67, op := Op.load 22 (Operand.tmp 66), type := 22, pos := "ref.go:148", after := #[{ on := 0, ground := Ground.data }], guard := none }) (v := ?_) rfl (by kernel_rfl) (by kernel_rfl) (by kernel_rfl) (fun _ _ _ h => h) (Or.inl ⟨by rfl, ?_⟩) (by assumption) ?_
                      rotate_left
                      · (intro w hSw; (try dsimp only at hSw); first | (go_simp; done) | (go_simp; with_reducible rfl))
                      simp only [Act.put, List.setIfInBounds_toArray, List.set_cons_zero, List.set_cons_succ]
                      refine wpAnyH_take (i := 2) (oi := { dst := some 68, op := Op.move (Operand.tmp 6), type := 41, pos := "ref.go:148", after := #[], guard := none }) (v := ?_) rfl (by kernel_rfl) (by kernel_rfl) (by kernel_rfl) (fun _ _ _ h => h) (Or.inl ⟨by rfl, ?_⟩) (by assumption) ?_
                      rotate_left
                      · (intro w hSw; (try dsimp only at hSw); first | (go_simp; done) | (go_simp; with_reducible rfl))
                      simp only [Act.put, List.setIfInBounds_toArray, List.set_cons_zero, List.set_cons_succ]
                      refine wpAnyH_take (i := 3) (oi := { dst := some 69, op := Op.move (Operand.tmp 9), type := 3, pos := "ref.go:148", after := #[], guard := none }) (v := ?_) rfl (by kernel_rfl) (by kernel_rfl) (by kernel_rfl) (fun _ _ _ h => h) (Or.inl ⟨by rfl, ?_⟩) (by assumption) ?_
                      rotate_left
                      · (intro w hSw; (try dsimp only at hSw); first | (go_simp; done) | (go_simp; with_reducible rfl))
                      simp only [Act.put, List.setIfInBounds_toArray, List.set_cons_zero, List.set_cons_succ]
                      refine wpAnyH_take (i := 4) (oi := { dst := some 70, op := Op.indexAddr 41 (Operand.tmp 68) (Operand.tmp 69), type := 0, pos := "ref.go:148", after := #[{ on := 2, ground := Ground.data }, { on := 3, ground := Ground.data }], guard := none }) (v := ?_) rfl (by kernel_rfl) (by kernel_rfl) (by kernel_rfl) (fun _ _ _ h => h) (Or.inl ⟨by rfl, ?_⟩) (by assumption) ?_
                      rotate_left
                      · (intro w hSw; (try dsimp only at hSw); first | (go_simp; done) | (go_simp; with_reducible rfl))
                      simp only [Act.put, List.setIfInBounds_toArray, List.set_cons_zero, List.set_cons_succ]
                      refine wpAnyH_take (i := 5) (oi := { dst := some 71, op := Op.load 3 (Operand.tmp 70), type := 3, pos := "ref.go:148", after := #[{ on := 4, ground := Ground.data }], guard := none }) (v := ?_) rfl (by kernel_rfl) (by kernel_rfl) (by kernel_rfl) (fun _ _ _ h => h) (Or.inl ⟨by rfl, ?_⟩) (by assumption) ?_
                      rotate_left
                      · (intro w hSw; (try dsimp only at hSw); first | (go_simp; done) | (go_simp; with_reducible rfl))
                      simp only [Act.put, List.setIfInBounds_toArray, List.set_cons_zero, List.set_cons_succ]
                      refine wpAnyH_ready (rs := [6]) (by kernel_rfl) (by simp) ?_
                      refine AllReadyH.cons (i := 6) (o := { dst := some 72, op := Op.call { callee := Callee.value (Operand.func 18), args := #[Operand.tmp 67, Operand.tmp 71], argTypes := #[22, 3] }, type := 4, pos := "ref.go:148", after := #[{ on := 1, ground := Ground.data }, { on := 5, ground := Ground.data }], guard := none }) rfl (fun K hK => ?_) AllReadyH.nil
                      go_simp
                      go_at_call 18
                      refine (HOf.out _ (belR ER.out.bel 1)).mono ?_
                      rintro e wv ⟨rfl, bv⟩
                      have UR : Hid (Below w6.heap.size w6 wv) := undrewO bv
                      go_wp2_with fail
                      refine hK.out _ _ ?_ (fun hHeld => ?_)
                      · exact ⟨cell_below c0 UR.out, cell_below x0 UR.out⟩
                      clear hK K
                      refine wpAnyH_take (i := 7) (oi := { dst := some 73, op := Op.unOp UnOp.not 4 (Operand.tmp 72), type := 4, pos := "ref.go:148", after := #[{ on := 6, ground := Ground.data }], guard := none }) (v := ?_) rfl (by kernel_rfl) (by kernel_rfl) (by kernel_rfl) (fun _ _ _ h => h) (Or.inl ⟨by rfl, ?_⟩) (by assumption) ?_
                      rotate_left
                      · (intro w hSw; (try dsimp only at hSw); first | (go_simp; done) | (go_simp; with_reducible rfl))
                      simp only [Act.put, List.setIfInBounds_toArray, List.set_cons_zero, List.set_cons_succ]
                      refine wpAnyH_take (i := 8) (oi := { dst := some 74, op := Op.move (Operand.tmp 73), type := 4, pos := "ref.go:148", after := #[{ on := 7, ground := Ground.data }, { on := 6, ground := Ground.chain }], guard := none }) (v := ?_) rfl (by kernel_rfl) (by kernel_rfl) (by kernel_rfl) (fun _ _ _ h => h) (Or.inl ⟨by rfl, ?_⟩) (by assumption) ?_
                      rotate_left
                      · (intro w hSw; (try dsimp only at hSw); first | (go_simp; done) | (go_simp; with_reducible rfl))
                      simp only [Act.put, List.setIfInBounds_toArray, List.set_cons_zero, List.set_cons_succ]
                      refine wpAnyH_take (i := 9) (oi := { dst := some 75, op := Op.move (Operand.tmp 7), type := 3, pos := "ref.go:148", after := #[{ on := 8, ground := Ground.guard }], guard := some (8, true) }) (v := ?_) rfl (by kernel_rfl) (by kernel_rfl) (by kernel_rfl) (fun _ _ _ h => h) (Or.inl ⟨by rfl, ?_⟩) (by assumption) ?_
                      rotate_left
                      · (intro w hSw; (try dsimp only at hSw); first | (go_simp; done) | (go_simp; with_reducible rfl))
                      simp only [Act.put, List.setIfInBounds_toArray, List.set_cons_zero, List.set_cons_succ]
                      refine wpAnyH_take (i := 10) (oi := { dst := some 76, op := Op.binOp BinOp.lss 3 (Operand.tmp 75) (Operand.const (Value.int IntKind.i64 0)) 3, type := 4, pos := "ref.go:148", after := #[{ on := 9, ground := Ground.data }, { on := 8, ground := Ground.guard }], guard := some (8, true) }) (v := ?_) rfl (by kernel_rfl) (by kernel_rfl) (by kernel_rfl) (fun _ _ _ h => h) (Or.inl ⟨by rfl, ?_⟩) (by assumption) ?_
                      rotate_left
                      · (intro w hSw; (try dsimp only at hSw); first | (go_simp; done) | (go_simp; with_reducible rfl))
                      simp only [Act.put, List.setIfInBounds_toArray, List.set_cons_zero, List.set_cons_succ]
                      refine wpAnyH_take (i := 11) (oi := { dst := some 77, op := Op.move (Operand.tmp 76), type := 4, pos := "ref.go:148", after := #[{ on := 10, ground := Ground.data }, { on := 8, ground := Ground.chain }, { on := 8, ground := Ground.guard }], guard := some (8, true) }) (v := ?_) rfl (by kernel_rfl) (by kernel_rfl) (by kernel_rfl) (fun _ _ _ h => h) (Or.inl ⟨by rfl, ?_⟩) (by assumption) ?_
                      rotate_left
                      · (intro w hSw; (try dsimp only at hSw); first | (go_simp; done) | (go_simp; with_reducible rfl))
                      simp only [Act.put, List.setIfInBounds_toArray, List.set_cons_zero, List.set_cons_succ]
                      refine wpAnyH_take (i := 12) (oi := { dst := some 78, op := Op.move (Operand.tmp 5), type := 23, pos := "ref.go:148", after := #[{ on := 11, ground := Ground.guard }], guard := some (11, false) }) (v := undef) rfl (by kernel_rfl) (by kernel_rfl) (by kernel_rfl) (fun _ _ _ h => h) (Or.inr ⟨by rfl, rfl⟩) (by assumption) ?_
                      simp only [Act.put, List.setIfInBounds_toArray, List.set_cons_zero, List.set_cons_succ]
                      refine wpAnyH_take (i := 13) (oi := { dst := some 79, op := Op.move (Operand.tmp 7), type := 3, pos := "ref.go:148", after := #[{ on := 11, ground := Ground.guard }], guard := some (11, false) }) (v := undef) rfl (by kernel_rfl) (by kernel_rfl) (by kernel_rfl) (fun _ _ _ h => h) (Or.inr ⟨by rfl, rfl⟩) (by assumption) ?_
                      simp only [Act.put, List.setIfInBounds_toArray, List.set_cons_zero, List.set_cons_succ]
                      refine wpAnyH_take (i := 14) (oi := { dst := some 80, op := Op.indexAddr 23 (Operand.tmp 78) (Operand.tmp 79), type := 0, pos := "ref.go:148", after := #[{ on := 12, ground := Ground.data }, { on := 13, ground := Ground.data }, { on := 11, ground := Ground.guard }], guard := some (11, false) }) (v := undef) rfl (by kernel_rfl) (by kernel_rfl) (by kernel_rfl) (fun _ _ _ h => h) (Or.inr ⟨by rfl, rfl⟩) (by assumption) ?_
                      simp only [Act.put, List.setIfInBounds_toArray, List.set_cons_zero, List.set_cons_succ]
                      refine wpAnyH_take (i := 15) (oi := { dst := some 81, op := Op.fieldAddr 48 (Operand.tmp 80) 6, type := 0, pos := "ref.go:148", after := #[{ on := 14, ground := Ground.data }, { on := 11, ground := Ground.guard }], guard := some (11, false) }) (v := undef) rfl (by kernel_rfl) (by kernel_rfl) (by kernel_rfl) (fun _ _ _ h => h) (Or.inr ⟨by rfl, rfl⟩) (by assumption) ?_
                      simp only [Act.put, List.setIfInBounds_toArray, List.set_cons_zero, List.set_cons_succ]
                      refine wpAnyH_take (i := 16) (oi := { dst := some 82, op := Op.load 4 (Operand.tmp 81), type := 4, pos := "ref.go:148", after := #[{ on := 15, ground := Ground.data }, { on := 11, ground := Ground.guard }], guard := some (11, false) }) (v := undef) rfl (by kernel_rfl) (by kernel_rfl) (by kernel_rfl) (fun _ _ _ h => h) (Or.inr ⟨by rfl, rfl⟩) (by assumption) ?_
                      simp only [Act.put, List.setIfInBounds_toArray, List.set_cons_zero, List.set_cons_succ]
                      refine wpAnyH_take (i := 17) (oi := { dst := some 83, op := Op.unOp UnOp.not 4 (Operand.tmp 82), type := 4, pos := "ref.go:148", after := #[{ on := 16, ground := Ground.data }, { on := 11, ground := Ground.guard }], guard := some (11, false) }) (v := undef) rfl (by kernel_rfl) (by kernel_rfl) (by kernel_rfl) (fun _ _ _ h => h) (Or.inr ⟨by rfl, rfl⟩) (by assumption) ?_
                      simp only [Act.put, List.setIfInBounds_toArray, List.set_cons_zero, List.set_cons_succ]
                      refine wpAnyH_take (i := 18) (oi := { dst := some 84, op := Op.pick (Operand.tmp 77) (Operand.const (Value.bool true)) (Operand.tmp 83), type := 4, pos := "ref.go:148", after := #[{ on := 11, ground := Ground.data }, { on := 17, ground := Ground.data }, { on := 8, ground := Ground.guard }], guard := some (8, true) }) (v := ?_) rfl (by kernel_rfl) (by kernel_rfl) (by kernel_rfl) (fun _ _ _ h => h) (Or.inl ⟨by rfl, ?_⟩) (by assumption) ?_
                      rotate_left
                      · (intro w hSw; (try dsimp only at hSw); first | (go_simp; done) | (go_simp; with_reducible rfl))
                      simp only [Act.put, List.setIfInBounds_toArray, List.set_cons_zero, List.set_cons_succ]
                      refine wpAnyH_take (i := 19) (oi := { dst := some 85, op := Op.pick (Operand.tmp 74) (Operand.tmp 84) (Operand.const (Value.bool false)), type := 4, pos := "ref.go:148", after := #[{ on := 8, ground := Ground.data }, { on := 18, ground := Ground.data }], guard := none }) (v := ?_) rfl (by kernel_rfl) (by kernel_rfl) (by kernel_rfl) (fun _ _ _ h => h) (Or.inl ⟨by rfl, ?_⟩) (by assumption) ?_
                      rotate_left
                      · (intro w hSw; (try dsimp only at hSw); first | (go_simp; done) | (go_simp; with_reducible rfl))
                      simp only [Act.put, List.setIfInBounds_toArray, List.set_cons_zero, List.set_cons_succ]
                      refine wpAnyH_done (by kernel_rfl) ?_ _
                      have x0' := cell_below x0 UR.out
                      go_wp2_with fail
                      go_roundw
                      case rel => exact ⟨j, by omega, (by first | exact .inr rfl | exact .inr trivial), by go_num, by rw [EP.out], ER.out.step UR.out⟩
                      case measure => first | (simp [intOf]; done) | (simp [intOf]; omega)
                · have dS : (S == 1) = false := beq_eq_false_iff_ne.2 hS
                  have EP := hide (PE.out (j + 1) hjS (.inr hS))
                  clear PE LI LO LG HO hS hjS
                  generalize pkP l L0 (all.drop (j + 1)) = z at *
                  go_wp2_with fail
                  refine (HZ.out _ ER.out.bel).mono ?_
                  rintro e w6 ⟨rfl, b6⟩
                  replace ER := hide (ER.out.step b6)
                  clear b6 c0
                  go_wp2_with fail
                  refine (HOn.out z _ ER.out).mono ?_
                  rintro e w7 ⟨rfl, o7, c7⟩
                  have E7 := hide (ER.out.other c7 o7)
                  clear o7 c7
                  go_wp2_with fail
                  go_ret
                  exact ⟨_, rfl, by rw [EF2.out, EP.out]; exact E7.out.row.cts (files_upd (FI.out.below E7.out.bel) (fun _ _ => rfl)), E7.out.bel⟩
end Go.Proofs.YtemikdmkjgmflaaDoor

namespace Go.Proofs.YtemikdmkjgmflaaDoor
open Go.RowKit
set_option maxRecDepth 100000
theorem CsOK.upd {C : List Ct} {f : Int → Ct → Ct} {all : List Int} (h : CsOK C) (hf : ∀ i c, (f i c).files = c.files ∧ (f i c).val = c.val ∧ (f i c).custom = c.custom) : CsOK (updP f all C) := by
  refine ⟨by rw [updC_len]; exact h.len, fun c hc => ?_, fun c hc => ?_⟩
  · obtain ⟨i, hi, rfl⟩ := List.getElem_of_mem hc
    have hi' : i < C.length := by rw [updC_len] at hi; exact hi
    rw [upd_at hi']
    split
    · rw [(hf _ _).1]; exact h.fs _ (List.getElem_mem hi')
    · exact h.fs _ (List.getElem_mem hi')
  · obtain ⟨i, hi, rfl⟩ := List.getElem_of_mem hc
    have hi' : i < C.length := by rw [updC_len] at hi; exact hi
    rw [upd_at hi']
    split
    · rw [(hf _ _).2.1, (hf _ _).2.2]; exact h.tx _ (List.getElem_mem hi')
    · exact h.tx _ (List.getElem_mem hi')
set_option maxHeartbeats 8000000 in
theorem refOReset_any (nv cv : Value) (l : List Nd) (C : List Ct) (sel : Int) (w : World) (hD : DocV w nv cv l C) (hz : DocSz l) (hC : CsOK C) :
    Calls Tryd.prog 12 #[.agg #[nv, cv], .int .i64 sel] w fun e w' => ∃ v', e = .returned v' ∧ CtsV w' v' (resetO l C sel) ∧ Below w.heap.size w w' := by
  obtain ⟨F, hF⟩ := hD.cts
  have FI := hide hF.1
  have E0 := hide (OEnv.new w nv cv)
  have HR := hide (fun W (hb : Below w.heap.size w W) => refORight_any nv cv l C W (hD.below hb) hz hC)
  have HC := hide (fun W (hb : Below w.heap.size w W) => refOCopied_any cv C F W (hF.below hb) hC)
  have HL := hide (fun W (hb : Below w.heap.size w W) => refOList_any nv l sel W (hD.nds.below hb) hz)
  have HFx := hide (fun ov C' W (hb : Below w.heap.size w W) (hc : CtsV W ov C') (hC' : CsOK C') => refOFix_any nv ov l C' sel W ⟨hD.nds.below hb, hc⟩ hz hC')
  have CO := hide (hC.upd (f := rstF l) (all := listP l sel) (fun _ _ => ⟨rfl, rfl, rfl⟩))
  obtain ⟨p, c, ep⟩ := nds_form hD.nds
  obtain ⟨p2, c2, ep2⟩ := cts_form hD.cts
  have ND := hide hD.nds
  have hl := hz.len
  have hl2 := hC.len
  subst ep ep2
  clear hD hz hC hF
  cases h : rightD l C with
  | false =>
    have E : Hid (resetO l C sel = []) := if_neg (by rw [h]; decide)
    rw [h] at HR
    clear h HL HC HFx CO
    go_enter Tryd.func12, Tryd.ntmps12
    go_wp2_with fail
    refine (HR.out _ E0.out.bel).mono ?_
    rintro e w1 ⟨rfl, b1⟩
    have E1 := hide (E0.out.step b1)
    clear b1 E0
    go_wp2_with fail
    go_ret
    exact ⟨_, rfl, by rw [E.out]; exact cts_nil _, E1.out.bel⟩
  | true =>
    have HRt := hide (rightD_is h).1
    have HLC := hide (rightD_is h).2
    have hlen := HRt.out.len.2
    have few := list_few HRt.out sel
    have EF : Hid (fixO l (updP (rstF l) (listP l sel) C) sel = resetO l C sel) := by
      show _ = _
      unfold fixO resetO
      rw [if_pos (by rw [rightD_len (updC_len ..)]; exact h), if_pos h]; rfl
    rw [h] at HR
    obtain ⟨nd', rng⟩ := list_in (l := l) (sel := sel)
    have RG : Hid (∀ i ∈ listP l sel, 0 ≤ i ∧ i < (C.length : Int)) := fun i hi => by have := rng i hi; have := HLC.out; omega
    have STp := hide (fun (k m : Nat) (hk : k < (listP l sel).length) (hm : (listP l sel)[k] = (m : Int)) (hl : m < C.length) => upd_step (f := rstF l) (C := C) hk nd' hm hl)
    obtain ⟨p', c', e', hv⟩ := ND.out
    cases e'
    have hb' : ∃ b o, p = some ⟨b, o, none⟩ ∧ ∀ i (h : i < l.length), ∃ va vk, NodeAt w b (o + i * 5) l[i] va vk := by
      rcases hv with hv | hv
      · have := HRt.out.len.1
        rw [hv] at this; simp at this
      · exact hv
    obtain ⟨b, o, rfl, hv2⟩ := hb'
    have HV := hide hv2
    clear h nd' rng hv hv2 ND
    generalize listP l sel = all at *
    go_enter Tryd.func12, Tryd.ntmps12
    go_wp2_with fail
    refine (HR.out _ E0.out.bel).mono ?_
    rintro e w1 ⟨rfl, b1⟩
    have E1 := hide (E0.out.step b1)
    clear b1 E0
    have c1 := E1.out.doc.cell 1 rfl
    have c0 := E1.out.doc.cell 0 rfl
    go_wp2_with fail
    refine (HC.out _ E1.out.bel).mono ?_
    rintro e w2 ⟨ov, rfl, o2, b2⟩
    have E2 := hide (E1.out.rowed b2 o2)
    obtain ⟨po, co, rfl, hco⟩ := o2.form
    clear b2 o2 c0 c1
    have c0 := E2.out.doc.cell 0 rfl
    go_wp2_with fail
    refine (HL.out _ E2.out.bel).mono ?_
    rintro e w5 ⟨av, rfl, k5, b5⟩
    have E5 := hide (E2.out.listed b5 k5)
    obtain ⟨pa, ca, rfl, hca⟩ := kids_form k5
    clear b5 c0 HR HC HL k5 E1 E2
    have E5' : Hid (OEnv w w5 (.slice (some ⟨b, o, none⟩) l.length c) (.slice p2 C.length c2) (.slice po C.length co) (updP (rstF l) (all.take 0) C) F (.slice pa all.length ca) all) := by show OEnv _ _ _ _ _ _ _ _ _; rw [List.take_zero, upd_nil]; exact E5.out
    clear E5
    go_wp2_with fail
    go_loopw [7] (fun iv wr => ∃ k : Nat, k ≤ all.length ∧ iv = .int .i64 k ∧ Hid (OEnv w wr (.slice (some ⟨b, o, none⟩) l.length c) (.slice p2 C.length c2) (.slice po C.length co) (updP (rstF l) (all.take k) C) F (.slice pa all.length ca) all)) (fun iv _ => all.length - (intOf iv).toNat)
    case atStart => exact ⟨0, Nat.zero_le _, rfl, E5'⟩
    case round =>
      rename World => wr
      obtain ⟨k, hk, rfl, ER⟩ := hrel
      clear E5'
      by_cases g : k < all.length
      · have k1 : (k : Int) < (all.length : Int) := by omega
        have rx := RG.out all[k] (List.getElem_mem g)
        obtain ⟨q, eq, hq⟩ := nat_of (z := all[k]) (n := C.length) (by omega) rx.2
        have hql : q < l.length := by have := HLC.out; omega
        have stp := STp.out k q g eq hq
        have lq : q < (updP (rstF l) (all.take k) C).length := by rw [updC_len]; exact hq
        obtain ⟨gv, rfl, y0, y1, fz, ge, ebv⟩ := own_sel ER.out lq
        obtain ⟨ga, rfl, x0, eba⟩ := own_num ER.out g
        rw [eq] at x0
        have c0 := ER.out.doc.cell 0 rfl
        obtain ⟨va, vk, N0⟩ := HV.out q hql
        have N1 := hide N0
        have bb : b < w.heap.size := World.block_lt_of_cell? _ _ N0.name
        have a0 := cell_below N0.name ER.out.bel
        have a1 := cell_below N0.text ER.out.bel
        have a2 := cell_below N0.attrs ER.out.bel
        have a3 := cell_below N0.parent ER.out.bel
        have a4 := cell_below N0.kids ER.out.bel
        have sz := right_attrsO HRt.out hql
        rw [nd_at hql] at sz
        have HM := hide (fun W (hb : Below w.heap.size w W) => refOHas_any l[q] va vk ⟨#[115, 101, 108, 101, 99, 116, 101, 100]⟩ W (N1.out.at_.below hb) (by omega))
        have n1 : gv ≠ w.heap.size := by omega
        have n2 : gv ≠ ga := fun t => ER.out.sep ga eba (by rw [ebv, t])
        have n3 : gv ≠ b := by omega
        have FZ := hide (fun (W : World) (hb : Below wr.heap.size wr W) (t : Nat) => owns_free (ER.out.step hb).row.row ebv t)
        have eC : (updP (rstF l) (all.take k) C)[q] = C[q] := by
          have := stp.2
          rw [List.getElem?_eq_getElem lq] at this
          exact Option.some.inj this
        have EL : Hid ((updP (rstF l) (all.take k) C).set q { (updP (rstF l) (all.take k) C)[q] with sel := hasA l[q] ⟨#[115, 101, 108, 101, 99, 116, 101, 100]⟩, dsel := false } = updP (rstF l) (all.take (k + 1)) C) := by
          show _ = _
          rw [← stp.1, eC]
          unfold rstF
          rw [Int.toNat_natCast, nd_at hql]; rfl
        have PUT1 := hide (fun (W : World) (hh : Bool) (hb : Below wr.heap.size wr W) => (ER.out.step hb).row.put ebv lq (j := 6) (by omega) (u := .bool hh) (ctsel_set _ _ _))
        have lq2 : Hid (∀ c1, q < ((updP (rstF l) (all.take k) C).set q c1).length) := fun c1 => by rw [List.length_set]; exact lq
        have PUT2 := hide (fun (W : World) (c1 : Ct) (h1 : CtsO (w.heap.size + 1) W (.slice (some ⟨gv, 0, none⟩) C.length co) ((updP (rstF l) (all.take k) C).set q c1) F) => by
          have e2 := h1.put ebv (lq2.out c1) (j := 7) (by omega) (u := .bool false) (ctdsel_set _ _ _)
          rw [List.getElem_set_self, List.set_set] at e2
          exact e2)
        have EBV := hide ebv
        have q0 : (0 : Int) ≤ (q : Int) := by omega
        have q1 : (q : Int) < (C.length : Int) := by omega
        have q2 : (q : Int) < (l.length : Int) := by omega
        have OTH := hide (fun (W : World) C' (c : Chg (Value.slice (some ⟨gv, 0, none⟩) C.length co).ownBlock.toList wr W) h => ER.out.other (C' := C') c h)
        have BEL := hide ER.out.bel
        clear rx eq stp STp RG HV N0 sz eC fz ebv eba HFx CO EF HRt HLC ge bb ER
        generalize hasA l[q] ⟨#[115, 101, 108, 101, 99, 116, 101, 100]⟩ = hh at *
        generalize (updP (rstF l) (all.take k) C)[q] = cq at *
        clear lq
        go_wp2_with fail
        go_region_held3 (fun w' => w'.cell? ⟨w.heap.size, 0, none⟩ = some (.slice (some ⟨b, o, none⟩) l.length c) ∧ w'.cell? ⟨ga, k, none⟩ = some (.int .i64 (q : Int)) ∧ w'.cell? ⟨b, o + q * 5, none⟩ = some (.string l[q].name) ∧ w'.cell? ⟨b, o + q * 5 + 1, none⟩ = some (.string l[q].text) ∧ w'.cell? ⟨b, o + q * 5 + 2, none⟩ = some va ∧ w'.cell? ⟨b, o + q * 5 + 3, none⟩ = some (.int .i64 l[q].parent) ∧ w'.cell? ⟨b, o + q * 5 + 4, none⟩ = some vk) (first | go_keep | exact ⟨cell_below c0 UR.out, cell_below x0 UR.out, cell_below a0 UR.out, cell_below a1 UR.out, cell_below a2 UR.out, cell_below a3 UR.out, cell_below a4 UR.out⟩)
          (first | (go_at_call 16; refine (HM.out _ (belR BEL.out 1)).mono ?_; rintro e wv ⟨rfl, bv⟩; have UR : Hid (Below wr.heap.size wr wv) := undrewO bv; have z0 := cell_below y0 UR.out; have z1 := FZ.out wv UR.out (q * 10 + 6)))
        have O1 := hide (PUT1.out wv hh UR.out)
        have v0 : (wv.setCell ⟨gv, q * 10 + 6, none⟩ (.bool hh)).cell? ⟨gv, q * 10 + 7, none⟩ = some (.bool cq.dsel) := by
          have := O1.out.at_ EBV.out (lq2.out _) 7 _ rfl
          rw [List.getElem_set_self] at this
          exact this
        have v1 := owns_free O1.out.row EBV.out (q * 10 + 7)
        have v2 := (World.cell?_setCell_far wv ⟨gv, q * 10 + 6, none⟩ ⟨ga, k, none⟩ (.bool hh) n2).trans (cell_below x0 UR.out)
        have O2 := hide (PUT2.out _ _ O1.out)
        have CH : Hid (Chg (Value.slice (some ⟨gv, 0, none⟩) C.length co).ownBlock.toList wr ((wv.setCell ⟨gv, q * 10 + 6, none⟩ (.bool hh)).setCell ⟨gv, q * 10 + 7, none⟩ (.bool false))) := (Chg.of_below UR.out).nil.trans ((Chg.setB _ _ _ _).trans (Chg.setB _ _ _ _))
        clear z0 z1 PUT1 PUT2 FZ HM
        go_wp2_with fail
        go_roundw
        case rel => exact ⟨k + 1, by omega, by go_num, by show OEnv _ _ _ _ _ _ _ _ _; rw [← EL.out]; exact OTH.out _ _ CH.out O2.out⟩
        case measure => simp [intOf]; omega
      · obtain rfl : k = all.length := by omega
        rw [upd_all] at ER
        have CV := hide (ER.out.row.cts (files_upd (FI.out.below ER.out.bel) (fun _ _ => rfl)))
        have c0 := ER.out.doc.cell 0 rfl
        clear RG STp HV
        go_wp2_with fail
        refine (HFx.out _ _ _ ER.out.bel CV.out CO.out).mono ?_
        rintro e w9 ⟨v', rfl, cv9, b9⟩
        go_wp2_with fail
        go_ret
        exact ⟨_, rfl, by rw [← EF.out]; exact cv9, chain ER.out.bel b9⟩

end Go.Proofs.YtemikdmkjgmflaaDoor
