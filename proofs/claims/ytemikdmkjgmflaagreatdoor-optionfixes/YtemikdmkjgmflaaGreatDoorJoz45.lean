/- A select's options and which of them are selected, as functions of documents and states. The document's Fix of layer 15. Stage 15's laws OptionFixes and OptionResets, walked. -/
import Derived.Test.YtemikdmkjgmflaaGreatDoorJoz36
import Derived.Test.YtemikdmkjgmflaaGreatDoorJoz46
import Derived.Test.YtemikdmkjgmflaaGreatDoorJoz47

namespace Go.Proofs.YtemikdmkjgmflaaGreatDoor
open Go.RowKit
theorem upd_upd (f g : Int → Ct → Ct) (all : List Int) (C : List Ct) : updP f all (updP g all C) = updP (fun i c => f i (g i c)) all C := by
  apply List.ext_getElem (by rw [updC_len, updC_len, updC_len])
  intro i h1 h2
  have hi : i < C.length := by rw [updC_len] at h2; exact h2
  rw [upd_at (by rw [updC_len]; exact hi), upd_at hi, upd_at hi]
  split <;> rfl
theorem last_in {C : List Ct} {all : List Int} (h : 0 ≤ lastP C all) : lastP C all ∈ all ∧ (st C (lastP C all)).sel = true := by
  unfold lastP at *
  cases e : (all.filter fun i => (st C i).sel).getLast? with
  | none => rw [e] at h; simp at h
  | some x => exact List.mem_filter.1 (List.mem_of_getLast? e)
theorem lastP_one {C : List Ct} {all : List Int} {p : Int} (hp : p ∈ all) (h : ∀ i ∈ all, (st C i).sel = decide (i = p)) : lastP C all = p := by
  have m : ∃ x, (all.filter fun i => (st C i).sel).getLast? = some x := by
    cases e : (all.filter fun i => (st C i).sel).getLast? with
    | none =>
      rw [List.getLast?_eq_none_iff] at e
      have : p ∈ all.filter fun i => (st C i).sel := List.mem_filter.2 ⟨hp, by rw [h p hp]; exact decide_eq_true rfl⟩
      rw [e] at this; cases this
    | some x => exact ⟨x, rfl⟩
  obtain ⟨x, e⟩ := m
  have hx := List.mem_filter.1 (List.mem_of_getLast? e)
  have : x = p := of_decide_eq_true (by rw [← h x hx.1]; exact hx.2)
  unfold lastP
  rw [e, this]; rfl
theorem fix_len (l : List Nd) (C : List Ct) (sel : Int) : (fixP l C sel).length = C.length := by
  unfold fixP
  split
  · exact updC_len ..
  · rfl
theorem pick_in {l : List Nd} {C : List Ct} {sel : Int} {all : List Int} : pickP l C sel all = -1 ∨ pickP l C sel all ∈ all := by
  unfold pickP
  split
  · rename_i h; exact .inr (last_in h).1
  · split
    · cases e : all.find? fun i => !offP l i with
      | none => exact .inl rfl
      | some x => exact .inr (List.mem_of_find?_eq_some e)
    · exact .inl rfl
/-- Put right again it is the same. -/
theorem fix_again {l : List Nd} {C : List Ct} (sel : Int) (hC : l.length = C.length) : fixP l (fixP l C sel) sel = fixP l C sel := by
  by_cases h : isK l sel 23 = true ∧ hasA (nd l sel.toNat) oMul = false
  · have e : ∀ D, fixP l D sel = onlyP D (listP l sel) (pickP l D sel (listP l sel)) := fun D => if_pos h
    rw [e, e]
    obtain ⟨_, rng⟩ := list_in (l := l) (sel := sel)
    have sl : ∀ i ∈ listP l sel, (st (onlyP C (listP l sel) (pickP l C sel (listP l sel))) i).sel = decide (i = pickP l C sel (listP l sel)) := fun i hi => st_only hi (rng i hi).1 (by have := (rng i hi).2; omega)
    have pk : pickP l (onlyP C (listP l sel) (pickP l C sel (listP l sel))) sel (listP l sel) = pickP l C sel (listP l sel) := by
      rcases pick_in (l := l) (C := C) (sel := sel) (all := listP l sel) with q | q
      · have n1 : lastP (onlyP C (listP l sel) (pickP l C sel (listP l sel))) (listP l sel) = -1 := lastP_none (fun i hi => by
          rw [sl i hi, q]
          exact decide_eq_false (by have := (rng i hi).1; omega))
        have n2 : ¬ 0 ≤ lastP C (listP l sel) := by
          intro t
          have : pickP l C sel (listP l sel) = lastP C (listP l sel) := if_pos t
          omega
        have e2 : pickP l C sel (listP l sel) = if sizeP l sel = 1 then ((listP l sel).find? fun i => !offP l i).getD (-1) else -1 := if_neg n2
        generalize onlyP C (listP l sel) (pickP l C sel (listP l sel)) = D at *
        rw [e2]
        unfold pickP
        rw [if_neg (by rw [n1]; decide)]
      · have n1 := lastP_one q sl
        have n0 := (rng _ q).1
        generalize onlyP C (listP l sel) (pickP l C sel (listP l sel)) = D at *
        generalize pickP l C sel (listP l sel) = p at *
        unfold pickP
        rw [n1, if_pos n0]
    rw [pk]
    generalize pickP l C sel (listP l sel) = p
    show updP (onlyF p) (listP l sel) (updP (onlyF p) (listP l sel) C) = updP (onlyF p) (listP l sel) C
    rw [upd_upd]; rfl
  · have e : ∀ D, fixP l D sel = D := fun D => if_neg h
    rw [e, e]
theorem fixO_again (l : List Nd) (C : List Ct) (sel : Int) : fixO l (fixO l C sel) sel = fixO l C sel := by
  by_cases h : rightD l C = true
  · have e : fixO l C sel = fixP l C sel := if_pos h
    rw [e]
    have h2 : rightD l (fixP l C sel) = true := by rw [rightD_len (fix_len ..)]; exact h
    show (if rightD l (fixP l C sel) = true then fixP l (fixP l C sel) sel else []) = _
    rw [if_pos h2, fix_again sel (rightD_is h).2]
  · have e : fixO l C sel = [] := if_neg h
    rw [e]
    show (if rightD l [] = true then fixP l [] sel else []) = []
    split
    · rename_i q
      have r := rightD_is q
      have := r.1.len.1
      have : l.length = 0 := r.2
      omega
    · rfl
end Go.Proofs.YtemikdmkjgmflaaGreatDoor

namespace Go.Proofs.YtemikdmkjgmflaaGreatDoor
open Go.RowKit
set_option maxRecDepth 100000
set_option maxHeartbeats 8000000 in
theorem refOFix_any (nv cv : Value) (l : List Nd) (C : List Ct) (sel : Int) (w : World) (hD : DocV w nv cv l C) (hz : DocSz l) (hC : CsOK C) :
    Calls Tryz.prog 22 #[.agg #[nv, cv], .int .i64 sel] w fun e w' => ∃ v', e = .returned v' ∧ CtsV w' v' (fixO l C sel) ∧ Below w.heap.size w w' := by
  obtain ⟨F, hF⟩ := hD.cts
  have FI := hide hF.1
  have E0 := hide (OEnv.new w nv cv)
  have HR := hide (fun W (hb : Below w.heap.size w W) => refORight_any nv cv l C W (hD.below hb) hz hC)
  have HC := hide (fun W (hb : Below w.heap.size w W) => refOCopied_any cv C F W (hF.below hb) hC)
  have HI := hide (fun W (hb : Below w.heap.size w W) => refIs_any nv l sel 23 W (hD.nds.below hb) hz)
  have HL := hide (fun W (hb : Below w.heap.size w W) => refOList_any nv l sel W (hD.nds.below hb) hz)
  have HZ := hide (fun W (hb : Below w.heap.size w W) => refOSize_any nv l sel W (hD.nds.below hb) hz)
  have HO := hide (fun i W (hb : Below w.heap.size w W) => refOff_any nv l i W (hD.nds.below hb) hz)
  obtain ⟨p, c, ep⟩ := nds_form hD.nds
  obtain ⟨p2, c2, ep2⟩ := cts_form hD.cts
  have ND := hide hD.nds
  have hl := hz.len
  have hl2 := hC.len
  subst ep ep2
  clear hD hz hC hF
  cases h : rightD l C with
  | false =>
    have E : Hid (fixO l C sel = []) := if_neg (by rw [h]; decide)
    rw [h] at HR
    clear h HI HL HZ HO HC
    go_enter Tryz.func22, Tryz.ntmps22
    go_wp2_with fail
    refine (HR.out _ E0.out.bel).mono ?_
    rintro e w1 ⟨rfl, b1⟩
    have E1 := hide (E0.out.step b1)
    clear b1 E0
    go_wp2_with fail
    go_ret
    exact ⟨_, rfl, by rw [E.out]; exact cts_nil _, E1.out.bel⟩
  | true =>
    have EF : Hid (fixO l C sel = fixP l C sel) := if_pos h
    have HRt := hide (rightD_is h).1
    have HLC := hide (rightD_is h).2
    have hlen := HRt.out.len.2
    rw [h] at HR
    clear h
    cases h : isK l sel 23 with
    | false =>
      have E : Hid (fixO l C sel = C) := by show _ = _; rw [EF.out]; exact if_neg (by rw [h]; exact fun t => by cases t.1)
      rw [h] at HI
      clear h HL HZ HO EF
      go_enter Tryz.func22, Tryz.ntmps22
      go_wp2_with fail
      refine (HR.out _ E0.out.bel).mono ?_
      rintro e w1 ⟨rfl, b1⟩
      have E1 := hide (E0.out.step b1)
      clear b1 E0
      have c1 := E1.out.doc.cell 1 rfl
      have c0 := E1.out.doc.cell 0 rfl
      go_wp2_with fail
      refine (HC.out _ E1.out.bel).mono ?_
      rintro e w2 ⟨ov, rfl, o2, b2⟩
      have E2 := hide (E1.out.rowed b2 o2)
      obtain ⟨po, co, rfl, hco⟩ := o2.form
      clear b2 o2 c0 c1
      have c0 := E2.out.doc.cell 0 rfl
      go_wp2_with fail
      refine (HI.out _ E2.out.bel).mono ?_
      rintro e w3 ⟨rfl, b3⟩
      have E3 := hide (E2.out.step b3)
      clear b3 c0
      go_wp2_with fail
      go_ret
      exact ⟨_, rfl, by rw [E.out]; exact E3.out.row.cts (FI.out.below E3.out.bel), E3.out.bel⟩
    | true =>
      have hh : hasN l sel = true := by unfold isK at h; rw [Bool.and_eq_true] at h; exact h.1
      obtain ⟨m, hI⟩ := Is.of hh
      obtain ⟨rfl, h0⟩ := (⟨hI.eq, hI.lt⟩ : sel = (m : Int) ∧ m < l.length)
      have sz := right_attrsO HRt.out h0
      rw [nd_at h0] at sz
      have i0 : (0 : Int) ≤ (m : Int) := by omega
      have i1 : (m : Int) < (l.length : Int) := by omega
      obtain ⟨p', c', e', hv⟩ := ND.out
      cases e'
      rcases hv with hv | ⟨b, o, rfl, hv⟩
      · rw [hv] at h0; simp at h0
      obtain ⟨va, vk, N0⟩ := hv m h0
      have N1 := hide N0
      have HM := hide (fun W (hb : Below w.heap.size w W) => refOHas_any l[m] va vk oMul W (N1.out.at_.below hb) (by omega))
      rw [show oMul = ⟨#[109, 117, 108, 116, 105, 112, 108, 101]⟩ from rfl] at HM
      rw [h] at HI
      have EN : Hid (hasA (nd l (m : Int).toNat) oMul = hasA l[m] ⟨#[109, 117, 108, 116, 105, 112, 108, 101]⟩) := by show _ = _; rw [Int.toNat_natCast, nd_at h0]; rfl
      clear hh hI N0 sz hv
      cases g : hasA l[m] ⟨#[109, 117, 108, 116, 105, 112, 108, 101]⟩ with
      | true =>
        have E : Hid (fixO l C (m : Int) = C) := by show _ = _; rw [EF.out]; exact if_neg (by rw [EN.out, g]; exact fun t => by cases t.2)
        rw [g] at HM
        clear h g HL HZ HO EF EN
        go_enter Tryz.func22, Tryz.ntmps22
        go_wp2_with fail
        refine (HR.out _ E0.out.bel).mono ?_
        rintro e w1 ⟨rfl, b1⟩
        have E1 := hide (E0.out.step b1)
        clear b1 E0
        have c1 := E1.out.doc.cell 1 rfl
        have c0 := E1.out.doc.cell 0 rfl
        go_wp2_with fail
        refine (HC.out _ E1.out.bel).mono ?_
        rintro e w2 ⟨ov, rfl, o2, b2⟩
        have E2 := hide (E1.out.rowed b2 o2)
        obtain ⟨po, co, rfl, hco⟩ := o2.form
        clear b2 o2 c0 c1
        have c0 := E2.out.doc.cell 0 rfl
        go_wp2_with fail
        refine (HI.out _ E2.out.bel).mono ?_
        rintro e w3 ⟨rfl, b3⟩
        have E3 := hide (E2.out.step b3)
        clear b3 c0
        have c0 := E3.out.doc.cell 0 rfl
        have a0 := cell_below N1.out.name E3.out.bel
        have a1 := cell_below N1.out.text E3.out.bel
        have a2 := cell_below N1.out.attrs E3.out.bel
        have a3 := cell_below N1.out.parent E3.out.bel
        have a4 := cell_below N1.out.kids E3.out.bel
        go_wp2_with fail
        refine (HM.out _ E3.out.bel).mono ?_
        rintro e w4 ⟨rfl, b4⟩
        have E4 := hide (E3.out.step b4)
        clear b4 c0 a0 a1 a2 a3 a4
        go_wp2_with fail
        go_ret
        exact ⟨_, rfl, by rw [E.out]; exact E4.out.row.cts (FI.out.below E4.out.bel), E4.out.bel⟩
      | false =>
        have EF2 : Hid (fixO l C (m : Int) = onlyP C (listP l (m : Int)) (pickP l C (m : Int) (listP l (m : Int)))) := by show _ = _; rw [EF.out]; exact if_pos ⟨h, by rw [EN.out, g]⟩
        have PE : Hid (∀ j, (j = (listP l (m : Int)).length ∨ sizeP l (m : Int) = 1) → (j = 0 ∨ ¬ sizeP l (m : Int) = 1) → pickP l C (m : Int) (listP l (m : Int)) = pkP l (lastP C (listP l (m : Int))) ((listP l (m : Int)).drop j)) := by
          intro j h1 h2
          unfold pickP pkP
          split
          · rfl
          · split
            · rename_i q
              rcases h2 with t | t
              · rw [t, List.drop_zero]
              · exact absurd q t
            · rename_i q
              rcases h1 with t | t
              · rw [t, List.drop_length]; rfl
              · exact absurd t q
        obtain ⟨nd', rng⟩ := list_in (l := l) (sel := (m : Int))
        have few : (listP l (m : Int)).length ≤ 400 := by
          have e : listP l (m : Int) = (orderP l (m : Int)).filter (optB l (m : Int)) := if_pos h
          rw [e]
          exact Nat.le_trans (List.length_filter_le ..) (order_few HRt.out h0)
        rw [g] at HM
        have ND' := hide nd'
        have RG : Hid (∀ i ∈ listP l (m : Int), 0 ≤ i ∧ i < (C.length : Int)) := fun i hi => by have := rng i hi; have := HLC.out; omega
        clear h g EF EN nd' rng
        generalize listP l (m : Int) = all at *
        generalize sizeP l (m : Int) = S at *
        generalize pickP l C (m : Int) all = PK at *
        go_enter Tryz.func22, Tryz.ntmps22
        go_wp2_with fail
        refine (HR.out _ E0.out.bel).mono ?_
        rintro e w1 ⟨rfl, b1⟩
        have E1 := hide (E0.out.step b1)
        clear b1 E0
        have c1 := E1.out.doc.cell 1 rfl
        have c0 := E1.out.doc.cell 0 rfl
        go_wp2_with fail
        refine (HC.out _ E1.out.bel).mono ?_
        rintro e w2 ⟨ov, rfl, o2, b2⟩
        have E2 := hide (E1.out.rowed b2 o2)
        obtain ⟨po, co, rfl, hco⟩ := o2.form
        clear b2 o2 c0 c1
        have c0 := E2.out.doc.cell 0 rfl
        go_wp2_with fail
        refine (HI.out _ E2.out.bel).mono ?_
        rintro e w3 ⟨rfl, b3⟩
        have E3 := hide (E2.out.step b3)
        clear b3 c0
        have c0 := E3.out.doc.cell 0 rfl
        have a0 := cell_below N1.out.name E3.out.bel
        have a1 := cell_below N1.out.text E3.out.bel
        have a2 := cell_below N1.out.attrs E3.out.bel
        have a3 := cell_below N1.out.parent E3.out.bel
        have a4 := cell_below N1.out.kids E3.out.bel
        go_wp2_with fail
        refine (HM.out _ E3.out.bel).mono ?_
        rintro e w4 ⟨rfl, b4⟩
        have E4 := hide (E3.out.step b4)
        clear b4 c0 a0 a1 a2 a3 a4
        have c0 := E4.out.doc.cell 0 rfl
        go_wp2_with fail
        refine (HL.out _ E4.out.bel).mono ?_
        rintro e w5 ⟨av, rfl, k5, b5⟩
        have E5 := hide (E4.out.listed b5 k5)
        obtain ⟨pa, ca, rfl, hca⟩ := kids_form k5
        clear b5 c0 HR HC HI HL HM k5 E1 E2 E3 E4
        go_wp2_with fail
        go_loop [7, 8] (fun pv iv => ∃ k : Nat, k ≤ all.length ∧ iv = .int .i64 k ∧ pv = .int .i64 (lastP C (all.take k))) (fun _ iv => all.length - (intOf iv).toNat)
        case atStart => exact ⟨0, Nat.zero_le _, rfl, rfl⟩
        case round =>
          obtain ⟨k, hk, rfl, rfl⟩ := hrel
          by_cases g : k < all.length
          · have k1 : (k : Int) < (all.length : Int) := by omega
            have rx := RG.out all[k] (List.getElem_mem g)
            obtain ⟨q, eq, hq⟩ := nat_of (z := all[k]) (n := C.length) (by omega) rx.2
            obtain ⟨gv, rfl, y0, _, _, _, _⟩ := own_sel E5.out hq
            obtain ⟨ga, rfl, x0, _⟩ := own_num E5.out g
            rw [eq] at x0
            have LY := hide (last_yes (C := C) g)
            have LN := hide (last_no (C := C) g)
            rw [eq, st_nat hq] at LY LN
            have q0 : (0 : Int) ≤ (q : Int) := by omega
            have q1 : (q : Int) < (C.length : Int) := by omega
            clear rx eq EF2 PE RG ND' HZ HO
            cases hs : C[q].sel with
            | true =>
              have E9 := hide (LY.out hs)
              rw [hs] at y0
              clear LY LN hs
              generalize lastP C (all.take k) = z at *
              go_wp2_with fail
              go_round
              case rel => exact ⟨k + 1, by omega, by go_num, by rw [E9.out]⟩
              case measure => simp [intOf]; omega
            | false =>
              have E9 := hide (LN.out hs)
              rw [hs] at y0
              clear LY LN hs
              go_wp2_with fail
              go_round
              case rel => exact ⟨k + 1, by omega, by go_num, by rw [E9.out]⟩
              case measure => simp [intOf]; omega
          · obtain rfl : k = all.length := by omega
            rw [List.take_length]
            have LG := hide (last_ge C all (fun i hi => (RG.out i hi).1))
            have LI := hide (fun h => last_in (C := C) (all := all) h)
            have LO := hide (fun h => last_none (C := C) (all := all) (fun i hi => (RG.out i hi).1) h)
            have HOn := hide (fun p W (e : OEnv w W (.slice (some ⟨b, o, none⟩) l.length c) (.slice p2 C.length c2) (.slice po C.length co) C F (.slice pa all.length ca) all) => refOnly_any (w.heap.size + 1) (w.heap.size + 1) (.slice po C.length co) (.slice pa all.length ca) C F all p W e.row e.kid e.sep ND'.out RG.out hl2 (by omega))
            have PEnd := hide (pk_end (l := l) LG.out)
            generalize lastP C all = L0 at *
            have s0 : Hid (L0 = pkP l L0 (all.drop all.length)) := by show _ = _; rw [List.drop_length]; exact PEnd.out.symm
            go_wp2_with fail
            go_loopw [7, 9] (fun pv iv wr => ∃ j : Nat, j ≤ all.length ∧ (j = all.length ∨ S = 1) ∧ iv = .int .i64 ((j : Int) - 1) ∧ pv = .int .i64 (pkP l L0 (all.drop j)) ∧ Hid (OEnv w wr (.slice (some ⟨b, o, none⟩) l.length c) (.slice p2 C.length c2) (.slice po C.length co) C F (.slice pa all.length ca) all)) (fun _ iv _ => (intOf iv + 1).toNat)
            case atStart => exact ⟨all.length, Nat.le_refl _, .inl rfl, rfl, congrArg _ s0.out, E5⟩
            case round =>
              rename World => wr
              obtain ⟨j, hj, hjS, rfl, rfl, ER⟩ := hrel
              clear s0 E5 PEnd
              cases j with
              | zero =>
                have f1 : ¬ (0 : Int) ≤ ((0 : Nat) : Int) - 1 := by omega
                have d1 : decide ((0 : Int) ≤ ((0 : Nat) : Int) - 1) = false := decide_eq_false f1
                have EP := hide (PE.out 0 hjS (.inl rfl))
                clear PE LI LO LG HZ HO
                generalize pkP l L0 (all.drop 0) = z at *
                go_wp2_with fail
                refine (HOn.out z _ ER.out).mono ?_
                rintro e w7 ⟨rfl, o7, c7⟩
                have E7 := hide (ER.out.other c7 o7)
                clear o7 c7
                go_wp2_with fail
                go_ret
                exact ⟨_, rfl, by rw [EF2.out, EP.out]; exact E7.out.row.cts (files_upd (FI.out.below E7.out.bel) (fun _ _ => rfl)), E7.out.bel⟩
              | succ j =>
                have f1 : (0 : Int) ≤ ((j + 1 : Nat) : Int) - 1 := by omega
                have f2 : ((j + 1 : Nat) : Int) - 1 = (j : Int) := by omega
                have c0 := ER.out.doc.cell 0 rfl
                by_cases hS : S = 1
                · subst hS
                  have hjl : j < all.length := by omega
                  have rx := RG.out all[j] (List.getElem_mem hjl)
                  obtain ⟨q, eq, hq⟩ := nat_of (z := all[j]) (n := C.length) (by omega) rx.2
                  have POf := hide (pk_off (l := l) (L := L0) hjl)
                  have POn := hide (fun h => pk_on (l := l) (L := L0) hjl h)
                  have PHs := hide (fun h xs => pk_has (l := l) (L := L0) (xs := xs) h)
                  have PIn := hide (fun h h2 => pk_in (l := l) (L := L0) (xs := all.drop (j + 1)) h h2)
                  rw [eq] at POf POn
                  have HOf := hide (fun W hb => HO.out (q : Int) W hb)
                  have k1 : (j : Int) < (all.length : Int) := by omega
                  have k0 : (0 : Int) ≤ (j : Int) := by omega
                  clear PE EF2 HO HOn hjS rx
                  cases ho : offP l (q : Int) with
                  | true =>
                    have EP : Hid (pkP l L0 (all.drop j) = pkP l L0 (all.drop (j + 1))) := POf.out ho
                    rw [ho] at HOf
                    clear POf POn PHs PIn LI LO LG ho
                    generalize pkP l L0 (all.drop (j + 1)) = z at *
                    go_wp2_with fail
                    refine (HZ.out _ ER.out.bel).mono ?_
                    rintro e w6 ⟨rfl, b6⟩
                    replace ER := hide (ER.out.step b6)
                    clear b6 c0
                    have c0 := ER.out.doc.cell 0 rfl
                    obtain ⟨ga, rfl, x0, _⟩ := own_num ER.out hjl
                    rw [eq] at x0
                    go_wp2_with fail
                    refine wp_region_held_drew (S := (fun w' => w'.cell? ⟨w.heap.size, 0, none⟩ = some (.slice (some ⟨b, o, none⟩) l.length c) ∧ w'.cell? ⟨ga, j, none⟩ = some (.int .i64 (q : Int)))) (by kernel_rfl) ?_ (fun hHeld => ?_)
                    · exact ⟨c0, x0⟩
                    refine wpAnyH_take (i := 0) (oi := { dst := some 66, op := Op.fieldAddr 33 (Operand.tmp 2) 0, type := 0, pos := "ref.go:148", after := #[], guard := none }) (v := ?_) rfl (by kernel_rfl) (by kernel_rfl) (by kernel_rfl) (fun _ _ _ h => h) (Or.inl ⟨by rfl, ?_⟩) (by assumption) ?_
                    rotate_left
                    · (intro w hSw; (try dsimp only at hSw); first | (go_simp; done) | (go_simp; with_reducible rfl))
                    simp only [Act.put, List.setIfInBounds_toArray, List.set_cons_zero, List.set_cons_succ]
                    refine wpAnyH_take (i := 1) (oi := { dst := some 67, op := Op.load 22 (Operand.tmp 66), type := 22, pos := "ref.go:148", after := #[{ on := 0, ground := Ground.data }], guard := none }) (v := ?_) rfl (by kernel_rfl) (by kernel_rfl) (by kernel_rfl) (fun _ _ _ h => h) (Or.inl ⟨by rfl, ?_⟩) (by assumption) ?_
                    rotate_left
                    · (intro w hSw; (try dsimp only at hSw); first | (go_simp; done) | (go_simp; with_reducible rfl))
                    simp only [Act.put, List.setIfInBounds_toArray, List.set_cons_zero, List.set_cons_succ]
                    refine wpAnyH_take (i := 2) (oi := { dst := some 68, op := Op.move (Operand.tmp 6), type := 26, pos := "ref.go:148", after := #[], guard := none }) (v := ?_) rfl (by kernel_rfl) (by kernel_rfl) (by kernel_rfl) (fun _ _ _ h => h) (Or.inl ⟨by rfl, ?_⟩) (by assumption) ?_
                    rotate_left
                    · (intro w hSw; (try dsimp only at hSw); first | (go_simp; done) | (go_simp; with_reducible rfl))
                    simp only [Act.put, List.setIfInBounds_toArray, List.set_cons_zero, List.set_cons_succ]
                    refine wpAnyH_take (i := 3) (oi := { dst := some 69, op := Op.move (Operand.tmp 9), type := 3, pos := "ref.go:148", after := #[], guard := none }) (v := ?_) rfl (by kernel_rfl) (by kernel_rfl) (by kernel_rfl) (fun _ _ _ h => h) (Or.inl ⟨by rfl, ?_⟩) (by assumption) ?_
                    rotate_left
                    · (intro w hSw; (try dsimp only at hSw); first | (go_simp; done) | (go_simp; with_reducible rfl))
                    simp only [Act.put, List.setIfInBounds_toArray, List.set_cons_zero, List.set_cons_succ]
                    refine wpAnyH_take (i := 4) (oi := { dst := some 70, op := Op.indexAddr 26 (Operand.tmp 68) (Operand.tmp 69), type := 0, pos := "ref.go:148", after := #[{ on := 2, ground := Ground.data }, { on := 3, ground := Ground.data }], guard := none }) (v := ?_) rfl (by kernel_rfl) (by kernel_rfl) (by kernel_rfl) (fun _ _ _ h => h) (Or.inl ⟨by rfl, ?_⟩) (by assumption) ?_
                    rotate_left
                    · (intro w hSw; (try dsimp only at hSw); first | (go_simp; done) | (go_simp; with_reducible rfl))
                    simp only [Act.put, List.setIfInBounds_toArray, List.set_cons_zero, List.set_cons_succ]
                    refine wpAnyH_take (i := 5) (oi := { dst := some 71, op := Op.load 3 (Operand.tmp 70), type := 3, pos := "ref.go:148", after := #[{ on := 4, ground := Ground.data }], guard := none }) (v := ?_) rfl (by kernel_rfl) (by kernel_rfl) (by kernel_rfl) (fun _ _ _ h => h) (Or.inl ⟨by rfl, ?_⟩) (by assumption) ?_
                    rotate_left
                    · (intro w hSw; (try dsimp only at hSw); first | (go_simp; done) | (go_simp; with_reducible rfl))
                    simp only [Act.put, List.setIfInBounds_toArray, List.set_cons_zero, List.set_cons_succ]
                    refine wpAnyH_ready (rs := [6]) (by kernel_rfl) (by simp) ?_
                    refine AllReadyH.cons (i := 6) (o := { dst := some 72, op := Op.call { callee := Callee.value (Operand.func 14), args := #[Operand.tmp 67, Operand.tmp 71], argTypes := #[22, 3] }, type := 4, pos := "ref.go:148", after := #[{ on := 1, ground := Ground.data }, { on := 5, ground := Ground.data }], guard := none }) rfl (fun K hK => ?_) AllReadyH.nil
                    go_simp
                    go_at_call 14
                    refine (HOf.out _ (belR ER.out.bel 1)).mono ?_
                    rintro e wv ⟨rfl, bv⟩
                    have UR : Hid (Below w6.heap.size w6 wv) := undrewO bv
                    go_wp2_with fail
                    refine hK.out _ _ ?_ (fun hHeld => ?_)
                    · exact ⟨cell_below c0 UR.out, cell_below x0 UR.out⟩
                    clear hK K
                    refine wpAnyH_take (i := 7) (oi := { dst := some 73, op := Op.unOp UnOp.not 4 (Operand.tmp 72), type := 4, pos := "ref.go:148", after := #[{ on := 6, ground := Ground.data }], guard := none }) (v := ?_) rfl (by kernel_rfl) (by kernel_rfl) (by kernel_rfl) (fun _ _ _ h => h) (Or.inl ⟨by rfl, ?_⟩) (by assumption) ?_
                    rotate_left
                    · (intro w hSw; (try dsimp only at hSw); first | (go_simp; done) | (go_simp; with_reducible rfl))
                    simp only [Act.put, List.setIfInBounds_toArray, List.set_cons_zero, List.set_cons_succ]
                    refine wpAnyH_take (i := 8) (oi := { dst := some 74, op := Op.move (Operand.tmp 73), type := 4, pos := "ref.go:148", after := #[{ on := 7, ground := Ground.data }, { on := 6, ground := Ground.chain }], guard := none }) (v := ?_) rfl (by kernel_rfl) (by kernel_rfl) (by kernel_rfl) (fun _ _ _ h => h) (Or.inl ⟨by rfl, ?_⟩) (by assumption) ?_
                    rotate_left
                    · (intro w hSw; (try dsimp only at hSw); first | (go_simp; done) | (go_simp; with_reducible rfl))
                    simp only [Act.put, List.setIfInBounds_toArray, List.set_cons_zero, List.set_cons_succ]
                    refine wpAnyH_take (i := 9) (oi := { dst := some 75, op := Op.move (Operand.tmp 7), type := 3, pos := "ref.go:148", after := #[{ on := 8, ground := Ground.guard }], guard := some (8, true) }) (v := undef) rfl (by kernel_rfl) (by kernel_rfl) (by kernel_rfl) (fun _ _ _ h => h) (Or.inr ⟨by rfl, rfl⟩) (by assumption) ?_
                    simp only [Act.put, List.setIfInBounds_toArray, List.set_cons_zero, List.set_cons_succ]
                    refine wpAnyH_take (i := 10) (oi := { dst := some 76, op := Op.binOp BinOp.lss 3 (Operand.tmp 75) (Operand.const (Value.int IntKind.i64 0)) 3, type := 4, pos := "ref.go:148", after := #[{ on := 9, ground := Ground.data }, { on := 8, ground := Ground.guard }], guard := some (8, true) }) (v := undef) rfl (by kernel_rfl) (by kernel_rfl) (by kernel_rfl) (fun _ _ _ h => h) (Or.inr ⟨by rfl, rfl⟩) (by assumption) ?_
                    simp only [Act.put, List.setIfInBounds_toArray, List.set_cons_zero, List.set_cons_succ]
                    refine wpAnyH_take (i := 11) (oi := { dst := some 77, op := Op.move (Operand.tmp 76), type := 4, pos := "ref.go:148", after := #[{ on := 10, ground := Ground.data }, { on := 8, ground := Ground.chain }, { on := 8, ground := Ground.guard }], guard := some (8, true) }) (v := undef) rfl (by kernel_rfl) (by kernel_rfl) (by kernel_rfl) (fun _ _ _ h => h) (Or.inr ⟨by rfl, rfl⟩) (by assumption) ?_
                    simp only [Act.put, List.setIfInBounds_toArray, List.set_cons_zero, List.set_cons_succ]
                    refine wpAnyH_take (i := 12) (oi := { dst := some 78, op := Op.move (Operand.tmp 5), type := 31, pos := "ref.go:148", after := #[{ on := 11, ground := Ground.guard }], guard := some (11, false) }) (v := undef) rfl (by kernel_rfl) (by kernel_rfl) (by kernel_rfl) (fun _ _ _ h => h) (Or.inr ⟨by rfl, rfl⟩) (by assumption) ?_
                    simp only [Act.put, List.setIfInBounds_toArray, List.set_cons_zero, List.set_cons_succ]
                    refine wpAnyH_take (i := 13) (oi := { dst := some 79, op := Op.move (Operand.tmp 7), type := 3, pos := "ref.go:148", after := #[{ on := 11, ground := Ground.guard }], guard := some (11, false) }) (v := undef) rfl (by kernel_rfl) (by kernel_rfl) (by kernel_rfl) (fun _ _ _ h => h) (Or.inr ⟨by rfl, rfl⟩) (by assumption) ?_
                    simp only [Act.put, List.setIfInBounds_toArray, List.set_cons_zero, List.set_cons_succ]
                    refine wpAnyH_take (i := 14) (oi := { dst := some 80, op := Op.indexAddr 31 (Operand.tmp 78) (Operand.tmp 79), type := 0, pos := "ref.go:148", after := #[{ on := 12, ground := Ground.data }, { on := 13, ground := Ground.data }, { on := 11, ground := Ground.guard }], guard := some (11, false) }) (v := undef) rfl (by kernel_rfl) (by kernel_rfl) (by kernel_rfl) (fun _ _ _ h => h) (Or.inr ⟨by rfl, rfl⟩) (by assumption) ?_
                    simp only [Act.put, List.setIfInBounds_toArray, List.set_cons_zero, List.set_cons_succ]
                    refine wpAnyH_take (i := 15) (oi := { dst := some 81, op := Op.fieldAddr 48 (Operand.tmp 80) 6, type := 0, pos := "ref.go:148", after := #[{ on := 14, ground := Ground.data }, { on := 11, ground := Ground.guard }], guard := some (11, false) }) (v := undef) rfl (by kernel_rfl) (by kernel_rfl) (by kernel_rfl) (fun _ _ _ h => h) (Or.inr ⟨by rfl, rfl⟩) (by assumption) ?_
                    simp only [Act.put, List.setIfInBounds_toArray, List.set_cons_zero, List.set_cons_succ]
                    refine wpAnyH_take (i := 16) (oi := { dst := some 82, op := Op.load 4 (Operand.tmp 81), type := 4, pos := "ref.go:148", after := #[{ on := 15, ground := Ground.data }, { on := 11, ground := Ground.guard }], guard := some (11, false) }) (v := undef) rfl (by kernel_rfl) (by kernel_rfl) (by kernel_rfl) (fun _ _ _ h => h) (Or.inr ⟨by rfl, rfl⟩) (by assumption) ?_
                    simp only [Act.put, List.setIfInBounds_toArray, List.set_cons_zero, List.set_cons_succ]
                    refine wpAnyH_take (i := 17) (oi := { dst := some 83, op := Op.unOp UnOp.not 4 (Operand.tmp 82), type := 4, pos := "ref.go:148", after := #[{ on := 16, ground := Ground.data }, { on := 11, ground := Ground.guard }], guard := some (11, false) }) (v := undef) rfl (by kernel_rfl) (by kernel_rfl) (by kernel_rfl) (fun _ _ _ h => h) (Or.inr ⟨by rfl, rfl⟩) (by assumption) ?_
                    simp only [Act.put, List.setIfInBounds_toArray, List.set_cons_zero, List.set_cons_succ]
                    refine wpAnyH_take (i := 18) (oi := { dst := some 84, op := Op.pick (Operand.tmp 77) (Operand.const (Value.bool true)) (Operand.tmp 83), type := 4, pos := "ref.go:148", after := #[{ on := 11, ground := Ground.data }, { on := 17, ground := Ground.data }, { on := 8, ground := Ground.guard }], guard := some (8, true) }) (v := undef) rfl (by kernel_rfl) (by kernel_rfl) (by kernel_rfl) (fun _ _ _ h => h) (Or.inr ⟨by rfl, rfl⟩) (by assumption) ?_
                    simp only [Act.put, List.setIfInBounds_toArray, List.set_cons_zero, List.set_cons_succ]
                    refine wpAnyH_take (i := 19) (oi := { dst := some 85, op := Op.pick (Operand.tmp 74) (Operand.tmp 84) (Operand.const (Value.bool false)), type := 4, pos := "ref.go:148", after := #[{ on := 8, ground := Ground.data }, { on := 18, ground := Ground.data }], guard := none }) (v := ?_) rfl (by kernel_rfl) (by kernel_rfl) (by kernel_rfl) (fun _ _ _ h => h) (Or.inl ⟨by rfl, ?_⟩) (by assumption) ?_
                    rotate_left
                    · (intro w hSw; (try dsimp only at hSw); first | (go_simp; done) | (go_simp; with_reducible rfl))
                    simp only [Act.put, List.setIfInBounds_toArray, List.set_cons_zero, List.set_cons_succ]
                    refine wpAnyH_done (by kernel_rfl) ?_ _
                    go_wp2_with fail
                    go_roundw
                    case rel => exact ⟨j, by omega, (by first | exact .inr rfl | exact .inr trivial), by go_num, by rw [EP.out], ER.out.step UR.out⟩
                    case measure => first | (simp [intOf]; done) | (simp [intOf]; omega)
                  | false =>
                    rw [ho] at HOf
                    by_cases hz0 : 0 ≤ pkP l L0 (all.drop (j + 1))
                    · by_cases hL : 0 ≤ L0
                      · have ez : pkP l L0 (all.drop (j + 1)) = L0 := PHs.out hL _
                        have EP : Hid (pkP l L0 (all.drop j) = L0) := PHs.out hL _
                        have li := LI.out hL
                        have rr := RG.out L0 li.1
                        rw [ez]
                        clear POf POn PHs PIn LO LG ho hz0 ez
                        obtain ⟨r, rfl, hr⟩ := nat_of (z := L0) (n := C.length) (by omega) rr.2
                        have hsel := li.2
                        rw [st_nat hr] at hsel
                        clear LI li rr RG hL
                        have r0 : (0 : Int) ≤ (r : Int) := by omega
                        have r1 : (r : Int) < (C.length : Int) := by omega
                        have nr : ¬ (r : Int) < 0 := by omega
                        have dr : decide ((r : Int) < 0) = false := decide_eq_false nr
                        go_wp2_with fail
                        refine (HZ.out _ ER.out.bel).mono ?_
                        rintro e w6 ⟨rfl, b6⟩
                        replace ER := hide (ER.out.step b6)
                        clear b6 c0
                        have c0 := ER.out.doc.cell 0 rfl
                        obtain ⟨ga, rfl, x0, _⟩ := own_num ER.out hjl
                        rw [eq] at x0
                        obtain ⟨gv, rfl, y0, _, _, _, _⟩ := own_sel ER.out hr
                        rw [hsel] at y0
                        go_wp2_with fail
                        go_region_held3 (fun w' => w'.cell? ⟨w.heap.size, 0, none⟩ = some (.slice (some ⟨b, o, none⟩) l.length c) ∧ w'.cell? ⟨ga, j, none⟩ = some (.int .i64 (q : Int)) ∧ w'.cell? ⟨gv, r * 10 + 6, none⟩ = some (.bool true)) (first | go_keep | exact ⟨cell_below c0 UR.out, cell_below x0 UR.out, cell_below y0 UR.out⟩)
                          (first | (go_at_call 14; refine (HOf.out _ (belR ER.out.bel 1)).mono ?_; rintro e wv ⟨rfl, bv⟩; have UR : Hid (Below w6.heap.size w6 wv) := undrewO bv))
                        go_wp2_with fail
                        go_roundw
                        case rel => exact ⟨j, by omega, (by first | exact .inr rfl | exact .inr trivial), by go_num, by rw [EP.out], ER.out.step UR.out⟩
                        case measure => first | (simp [intOf]; done) | (simp [intOf]; omega)
                      · have EP : Hid (pkP l L0 (all.drop j) = (q : Int)) := POn.out hL ho
                        have li := PIn.out hL hz0
                        have hsel := LO.out (by omega) _ (List.mem_of_mem_drop li)
                        have rr := RG.out _ (List.mem_of_mem_drop li)
                        generalize pkP l L0 (all.drop (j + 1)) = z at *
                        obtain ⟨r, rfl, hr⟩ := nat_of (z := z) (n := C.length) (by omega) rr.2
                        rw [st_nat hr] at hsel
                        clear POf POn PHs PIn LI LO LG ho hz0 li rr RG hL
                        have r0 : (0 : Int) ≤ (r : Int) := by omega
                        have r1 : (r : Int) < (C.length : Int) := by omega
                        have nr : ¬ (r : Int) < 0 := by omega
                        have dr : decide ((r : Int) < 0) = false := decide_eq_false nr
                        go_wp2_with fail
                        refine (HZ.out _ ER.out.bel).mono ?_
                        rintro e w6 ⟨rfl, b6⟩
                        replace ER := hide (ER.out.step b6)
                        clear b6 c0
                        have c0 := ER.out.doc.cell 0 rfl
                        obtain ⟨ga, rfl, x0, _⟩ := own_num ER.out hjl
                        rw [eq] at x0
                        obtain ⟨gv, rfl, y0, _, _, _, _⟩ := own_sel ER.out hr
                        rw [hsel] at y0
                        go_wp2_with fail
                        go_region_held3 (fun w' => w'.cell? ⟨w.heap.size, 0, none⟩ = some (.slice (some ⟨b, o, none⟩) l.length c) ∧ w'.cell? ⟨ga, j, none⟩ = some (.int .i64 (q : Int)) ∧ w'.cell? ⟨gv, r * 10 + 6, none⟩ = some (.bool false)) (first | go_keep | exact ⟨cell_below c0 UR.out, cell_below x0 UR.out, cell_below y0 UR.out⟩)
                          (first | (go_at_call 14; refine (HOf.out _ (belR ER.out.bel 1)).mono ?_; rintro e wv ⟨rfl, bv⟩; have UR : Hid (Below w6.heap.size w6 wv) := undrewO bv))
                        have x0' := cell_below x0 UR.out
                        go_wp2_with fail
                        go_roundw
                        case rel => exact ⟨j, by omega, (by first | exact .inr rfl | exact .inr trivial), by go_num, by rw [EP.out], ER.out.step UR.out⟩
                        case measure => first | (simp [intOf]; done) | (simp [intOf]; omega)
                    · have hL : ¬ 0 ≤ L0 := fun h => hz0 (by rw [PHs.out h]; exact h)
                      have EP : Hid (pkP l L0 (all.drop j) = (q : Int)) := POn.out hL ho
                      generalize pkP l L0 (all.drop (j + 1)) = z at *
                      have nz : z < 0 := by omega
                      clear POf POn PHs PIn LI LO LG ho hz0 RG hL
                      go_wp2_with fail
                      refine (HZ.out _ ER.out.bel).mono ?_
                      rintro e w6 ⟨rfl, b6⟩
                      replace ER := hide (ER.out.step b6)
                      clear b6 c0
                      have c0 := ER.out.doc.cell 0 rfl
                      obtain ⟨ga, rfl, x0, _⟩ := own_num ER.out hjl
                      rw [eq] at x0
                      go_wp2_with fail
                      refine wp_region_held_drew (S := (fun w' => w'.cell? ⟨w.heap.size, 0, none⟩ = some (.slice (some ⟨b, o, none⟩) l.length c) ∧ w'.cell? ⟨ga, j, none⟩ = some (.int .i64 (q : Int)))) (by kernel_rfl) ?_ (fun hHeld => ?_)
                      · exact ⟨c0, x0⟩
                      refine wpAnyH_take (i := 0) (oi := { dst := some 66, op := Op.fieldAddr 33 (Operand.tmp 2) 0, type := 0, pos := "ref.go:148", after := #[], guard := none }) (v := ?_) rfl (by kernel_rfl) (by kernel_rfl) (by kernel_rfl) (fun _ _ _ h => h) (Or.inl ⟨by rfl, ?_⟩) (by assumption) ?_
                      rotate_left
                      · (intro w hSw; (try dsimp only at hSw); first | (go_simp; done) | (go_simp; with_reducible rfl))
                      simp only [Act.put, List.setIfInBounds_toArray, List.set_cons_zero, List.set_cons_succ]
                      refine wpAnyH_take (i := 1) (oi := { dst := some 67, op := Op.load 22 (Operand.tmp 66), type := 22, pos := "ref.go:148", after := #[{ on := 0, ground := Ground.data }], guard := none }) (v := ?_) rfl (by kernel_rfl) (by kernel_rfl) (by kernel_rfl) (fun _ _ _ h => h) (Or.inl ⟨by rfl, ?_⟩) (by assumption) ?_
                      rotate_left
                      · (intro w hSw; (try dsimp only at hSw); first | (go_simp; done) | (go_simp; with_reducible rfl))
                      simp only [Act.put, List.setIfInBounds_toArray, List.set_cons_zero, List.set_cons_succ]
                      refine wpAnyH_take (i := 2) (oi := { dst := some 68, op := Op.move (Operand.tmp 6), type := 26, pos := "ref.go:148", after := #[], guard := none }) (v := ?_) rfl (by kernel_rfl) (by kernel_rfl) (by kernel_rfl) (fun _ _ _ h => h) (Or.inl ⟨by rfl, ?_⟩) (by assumption) ?_
                      rotate_left
                      · (intro w hSw; (try dsimp only at hSw); first | (go_simp; done) | (go_simp; with_reducible rfl))
                      simp only [Act.put, List.setIfInBounds_toArray, List.set_cons_zero, List.set_cons_succ]
                      refine wpAnyH_take (i := 3) (oi := { dst := some 69, op := Op.move (Operand.tmp 9), type := 3, pos := "ref.go:148", after := #[], guard := none }) (v := ?_) rfl (by kernel_rfl) (by kernel_rfl) (by kernel_rfl) (fun _ _ _ h => h) (Or.inl ⟨by rfl, ?_⟩) (by assumption) ?_
                      rotate_left
                      · (intro w hSw; (try dsimp only at hSw); first | (go_simp; done) | (go_simp; with_reducible rfl))
                      simp only [Act.put, List.setIfInBounds_toArray, List.set_cons_zero, List.set_cons_succ]
                      refine wpAnyH_take (i := 4) (oi := { dst := some 70, op := Op.indexAddr 26 (Operand.tmp 68) (Operand.tmp 69), type := 0, pos := "ref.go:148", after := #[{ on := 2, ground := Ground.data }, { on := 3, ground := Ground.data }], guard := none }) (v := ?_) rfl (by kernel_rfl) (by kernel_rfl) (by kernel_rfl) (fun _ _ _ h => h) (Or.inl ⟨by rfl, ?_⟩) (by assumption) ?_
                      rotate_left
                      · (intro w hSw; (try dsimp only at hSw); first | (go_simp; done) | (go_simp; with_reducible rfl))
                      simp only [Act.put, List.setIfInBounds_toArray, List.set_cons_zero, List.set_cons_succ]
                      refine wpAnyH_take (i := 5) (oi := { dst := some 71, op := Op.load 3 (Operand.tmp 70), type := 3, pos := "ref.go:148", after := #[{ on := 4, ground := Ground.data }], guard := none }) (v := ?_) rfl (by kernel_rfl) (by kernel_rfl) (by kernel_rfl) (fun _ _ _ h => h) (Or.inl ⟨by rfl, ?_⟩) (by assumption) ?_
                      rotate_left
                      · (intro w hSw; (try dsimp only at hSw); first | (go_simp; done) | (go_simp; with_reducible rfl))
                      simp only [Act.put, List.setIfInBounds_toArray, List.set_cons_zero, List.set_cons_succ]
                      refine wpAnyH_ready (rs := [6]) (by kernel_rfl) (by simp) ?_
                      refine AllReadyH.cons (i := 6) (o := { dst := some 72, op := Op.call { callee := Callee.value (Operand.func 14), args := #[Operand.tmp 67, Operand.tmp 71], argTypes := #[22, 3] }, type := 4, pos := "ref.go:148", after := #[{ on := 1, ground := Ground.data }, { on := 5, ground := Ground.data }], guard := none }) rfl (fun K hK => ?_) AllReadyH.nil
                      go_simp
                      go_at_call 14
                      refine (HOf.out _ (belR ER.out.bel 1)).mono ?_
                      rintro e wv ⟨rfl, bv⟩
                      have UR : Hid (Below w6.heap.size w6 wv) := undrewO bv
                      go_wp2_with fail
                      refine hK.out _ _ ?_ (fun hHeld => ?_)
                      · exact ⟨cell_below c0 UR.out, cell_below x0 UR.out⟩
                      clear hK K
                      refine wpAnyH_take (i := 7) (oi := { dst := some 73, op := Op.unOp UnOp.not 4 (Operand.tmp 72), type := 4, pos := "ref.go:148", after := #[{ on := 6, ground := Ground.data }], guard := none }) (v := ?_) rfl (by kernel_rfl) (by kernel_rfl) (by kernel_rfl) (fun _ _ _ h => h) (Or.inl ⟨by rfl, ?_⟩) (by assumption) ?_
                      rotate_left
                      · (intro w hSw; (try dsimp only at hSw); first | (go_simp; done) | (go_simp; with_reducible rfl))
                      simp only [Act.put, List.setIfInBounds_toArray, List.set_cons_zero, List.set_cons_succ]
                      refine wpAnyH_take (i := 8) (oi := { dst := some 74, op := Op.move (Operand.tmp 73), type := 4, pos := "ref.go:148", after := #[{ on := 7, ground := Ground.data }, { on := 6, ground := Ground.chain }], guard := none }) (v := ?_) rfl (by kernel_rfl) (by kernel_rfl) (by kernel_rfl) (fun _ _ _ h => h) (Or.inl ⟨by rfl, ?_⟩) (by assumption) ?_
                      rotate_left
                      · (intro w hSw; (try dsimp only at hSw); first | (go_simp; done) | (go_simp; with_reducible rfl))
                      simp only [Act.put, List.setIfInBounds_toArray, List.set_cons_zero, List.set_cons_succ]
                      refine wpAnyH_take (i := 9) (oi := { dst := some 75, op := Op.move (Operand.tmp 7), type := 3, pos := "ref.go:148", after := #[{ on := 8, ground := Ground.guard }], guard := some (8, true) }) (v := ?_) rfl (by kernel_rfl) (by kernel_rfl) (by kernel_rfl) (fun _ _ _ h => h) (Or.inl ⟨by rfl, ?_⟩) (by assumption) ?_
                      rotate_left
                      · (intro w hSw; (try dsimp only at hSw); first | (go_simp; done) | (go_simp; with_reducible rfl))
                      simp only [Act.put, List.setIfInBounds_toArray, List.set_cons_zero, List.set_cons_succ]
                      refine wpAnyH_take (i := 10) (oi := { dst := some 76, op := Op.binOp BinOp.lss 3 (Operand.tmp 75) (Operand.const (Value.int IntKind.i64 0)) 3, type := 4, pos := "ref.go:148", after := #[{ on := 9, ground := Ground.data }, { on := 8, ground := Ground.guard }], guard := some (8, true) }) (v := ?_) rfl (by kernel_rfl) (by kernel_rfl) (by kernel_rfl) (fun _ _ _ h => h) (Or.inl ⟨by rfl, ?_⟩) (by assumption) ?_
                      rotate_left
                      · (intro w hSw; (try dsimp only at hSw); first | (go_simp; done) | (go_simp; with_reducible rfl))
                      simp only [Act.put, List.setIfInBounds_toArray, List.set_cons_zero, List.set_cons_succ]
                      refine wpAnyH_take (i := 11) (oi := { dst := some 77, op := Op.move (Operand.tmp 76), type := 4, pos := "ref.go:148", after := #[{ on := 10, ground := Ground.data }, { on := 8, ground := Ground.chain }, { on := 8, ground := Ground.guard }], guard := some (8, true) }) (v := ?_) rfl (by kernel_rfl) (by kernel_rfl) (by kernel_rfl) (fun _ _ _ h => h) (Or.inl ⟨by rfl, ?_⟩) (by assumption) ?_
                      rotate_left
                      · (intro w hSw; (try dsimp only at hSw); first | (go_simp; done) | (go_simp; with_reducible rfl))
                      simp only [Act.put, List.setIfInBounds_toArray, List.set_cons_zero, List.set_cons_succ]
                      refine wpAnyH_take (i := 12) (oi := { dst := some 78, op := Op.move (Operand.tmp 5), type := 31, pos := "ref.go:148", after := #[{ on := 11, ground := Ground.guard }], guard := some (11, false) }) (v := undef) rfl (by kernel_rfl) (by kernel_rfl) (by kernel_rfl) (fun _ _ _ h => h) (Or.inr ⟨by rfl, rfl⟩) (by assumption) ?_
                      simp only [Act.put, List.setIfInBounds_toArray, List.set_cons_zero, List.set_cons_succ]
                      refine wpAnyH_take (i := 13) (oi := { dst := some 79, op := Op.move (Operand.tmp 7), type := 3, pos := "ref.go:148", after := #[{ on := 11, ground := Ground.guard }], guard := some (11, false) }) (v := undef) rfl (by kernel_rfl) (by kernel_rfl) (by kernel_rfl) (fun _ _ _ h => h) (Or.inr ⟨by rfl, rfl⟩) (by assumption) ?_
                      simp only [Act.put, List.setIfInBounds_toArray, List.set_cons_zero, List.set_cons_succ]
                      refine wpAnyH_take (i := 14) (oi := { dst := some 80, op := Op.indexAddr 31 (Operand.tmp 78) (Operand.tmp 79), type := 0, pos := "ref.go:148", after := #[{ on := 12, ground := Ground.data }, { on := 13, ground := Ground.data }, { on := 11, ground := Ground.guard }], guard := some (11, false) }) (v := undef) rfl (by kernel_rfl) (by kernel_rfl) (by kernel_rfl) (fun _ _ _ h => h) (Or.inr ⟨by rfl, rfl⟩) (by assumption) ?_
                      simp only [Act.put, List.setIfInBounds_toArray, List.set_cons_zero, List.set_cons_succ]
                      refine wpAnyH_take (i := 15) (oi := { dst := some 81, op := Op.fieldAddr 48 (Operand.tmp 80) 6, type := 0, pos := "ref.go:148", after := #[{ on := 14, ground := Ground.data }, { on := 11, ground := Ground.guard }], guard := some (11, false) }) (v := undef) rfl (by kernel_rfl) (by kernel_rfl) (by kernel_rfl) (fun _ _ _ h => h) (Or.inr ⟨by rfl, rfl⟩) (by assumption) ?_
                      simp only [Act.put, List.setIfInBounds_toArray, List.set_cons_zero, List.set_cons_succ]
                      refine wpAnyH_take (i := 16) (oi := { dst := some 82, op := Op.load 4 (Operand.tmp 81), type := 4, pos := "ref.go:148", after := #[{ on := 15, ground := Ground.data }, { on := 11, ground := Ground.guard }], guard := some (11, false) }) (v := undef) rfl (by kernel_rfl) (by kernel_rfl) (by kernel_rfl) (fun _ _ _ h => h) (Or.inr ⟨by rfl, rfl⟩) (by assumption) ?_
                      simp only [Act.put, List.setIfInBounds_toArray, List.set_cons_zero, List.set_cons_succ]
                      refine wpAnyH_take (i := 17) (oi := { dst := some 83, op := Op.unOp UnOp.not 4 (Operand.tmp 82), type := 4, pos := "ref.go:148", after := #[{ on := 16, ground := Ground.data }, { on := 11, ground := Ground.guard }], guard := some (11, false) }) (v := undef) rfl (by kernel_rfl) (by kernel_rfl) (by kernel_rfl) (fun _ _ _ h => h) (Or.inr ⟨by rfl, rfl⟩) (by assumption) ?_
                      simp only [Act.put, List.setIfInBounds_toArray, List.set_cons_zero, List.set_cons_succ]
                      refine wpAnyH_take (i := 18) (oi := { dst := some 84, op := Op.pick (Operand.tmp 77) (Operand.const (Value.bool true)) (Operand.tmp 83), type := 4, pos := "ref.go:148", after := #[{ on := 11, ground := Ground.data }, { on := 17, ground := Ground.data }, { on := 8, ground := Ground.guard }], guard := some (8, true) }) (v := ?_) rfl (by kernel_rfl) (by kernel_rfl) (by kernel_rfl) (fun _ _ _ h => h) (Or.inl ⟨by rfl, ?_⟩) (by assumption) ?_
                      rotate_left
                      · (intro w hSw; (try dsimp only at hSw); first | (go_simp; done) | (go_simp; with_reducible rfl))
                      simp only [Act.put, List.setIfInBounds_toArray, List.set_cons_zero, List.set_cons_succ]
                      refine wpAnyH_take (i := 19) (oi := { dst := some 85, op := Op.pick (Operand.tmp 74) (Operand.tmp 84) (Operand.const (Value.bool false)), type := 4, pos := "ref.go:148", after := #[{ on := 8, ground := Ground.data }, { on := 18, ground := Ground.data }], guard := none }) (v := ?_) rfl (by kernel_rfl) (by kernel_rfl) (by kernel_rfl) (fun _ _ _ h => h) (Or.inl ⟨by rfl, ?_⟩) (by assumption) ?_
                      rotate_left
                      · (intro w hSw; (try dsimp only at hSw); first | (go_simp; done) | (go_simp; with_reducible rfl))
                      simp only [Act.put, List.setIfInBounds_toArray, List.set_cons_zero, List.set_cons_succ]
                      refine wpAnyH_done (by kernel_rfl) ?_ _
                      have x0' := cell_below x0 UR.out
                      go_wp2_with fail
                      go_roundw
                      case rel => exact ⟨j, by omega, (by first | exact .inr rfl | exact .inr trivial), by go_num, by rw [EP.out], ER.out.step UR.out⟩
                      case measure => first | (simp [intOf]; done) | (simp [intOf]; omega)
                · have dS : (S == 1) = false := beq_eq_false_iff_ne.2 hS
                  have EP := hide (PE.out (j + 1) hjS (.inr hS))
                  clear PE LI LO LG HO hS hjS
                  generalize pkP l L0 (all.drop (j + 1)) = z at *
                  go_wp2_with fail
                  refine (HZ.out _ ER.out.bel).mono ?_
                  rintro e w6 ⟨rfl, b6⟩
                  replace ER := hide (ER.out.step b6)
                  clear b6 c0
                  go_wp2_with fail
                  refine (HOn.out z _ ER.out).mono ?_
                  rintro e w7 ⟨rfl, o7, c7⟩
                  have E7 := hide (ER.out.other c7 o7)
                  clear o7 c7
                  go_wp2_with fail
                  go_ret
                  exact ⟨_, rfl, by rw [EF2.out, EP.out]; exact E7.out.row.cts (files_upd (FI.out.below E7.out.bel) (fun _ _ => rfl)), E7.out.bel⟩
end Go.Proofs.YtemikdmkjgmflaaGreatDoor

namespace Go.Proofs.YtemikdmkjgmflaaGreatDoor
open Go.RowKit
set_option maxRecDepth 100000
set_option maxHeartbeats 8000000 in
theorem optionFixes_walk (nv cv : Value) (l : List Nd) (C : List Ct) (sel : Int) (w : World) (hD : DocV w nv cv l C) (hz : DocSz l) (hC : CsOK C) (hT : OpTabs w) :
    Calls Tryz.prog 4 #[.agg #[nv, cv], .int .i64 sel] w fun e w' => e = .returned (.bool true) ∧ Below w.heap.size w w' := by
  have HD := hide hD
  have HZ := hide hz
  have HO := hide hC
  have HT := hide hT
  have HW := hide (fun W (hb : Below w.heap.size w W) => opWakes_any W (HT.out.below hb))
  have HC := hide (fun W (hb : Below w.heap.size w W) => opCopied_any nv cv l C W (HD.out.below hb) HZ.out HO.out)
  have H1 := hide (fun nv cv W (hb : Below w.heap.size w W) (hd : DocV W nv cv l C) => opFix_any nv cv l C sel W hd HZ.out HO.out (HT.out.below hb))
  have H2 := hide (fun W (hb : Below w.heap.size w W) => refOFix_any nv cv l C sel W (HD.out.below hb) HZ.out HO.out)
  have H4 := hide (fun nv cv W (hb : Below w.heap.size w W) (hd : DocV W nv cv l C) => opRight_any nv cv l C W hd HZ.out HO.out (HT.out.below hb))
  have H5 := hide (fun W (hb : Below w.heap.size w W) => refORight_any nv cv l C W (HD.out.below hb) HZ.out HO.out)
  have H6 := hide (fun nv cv W (hb : Below w.heap.size w W) (hd : DocV W nv cv l C) => opValue_any nv cv l C sel W hd HZ.out HO.out (HT.out.below hb))
  have H7 := hide (fun W (hb : Below w.heap.size w W) => refOValue_any nv cv l C sel W (HD.out.below hb) HZ.out HO.out)
  have RO := hide (fixO_ok (l := l) (sel := sel) HO.out)
  have H3 := hide (fun va vb W (ha : CtsV W va (fixO l C sel)) (hb : CtsV W vb (fixO l C sel)) => refOSame_yes va vb (fixO l C sel) W ha hb RO.out)
  have H8 := hide (fun nv cv W (hb : Below w.heap.size w W) (hd : DocV W nv cv l (fixO l C sel)) => opFix_any nv cv l (fixO l C sel) sel W hd HZ.out RO.out (HT.out.below hb))
  rw [fixO_again] at H8
  clear RO
  generalize fixO l C sel = RC at *
  generalize rightD l C = rb at *
  generalize valueO l C sel = vo at *
  have hne : (rb != rb) = false := bne_self_eq_false ..
  obtain ⟨pn, kn, rfl⟩ := nds_form hD.nds
  obtain ⟨pc, kc, rfl⟩ := cts_form hD.cts
  have B0 : Hid (Below w.heap.size w (w.alloc (.cells #[.slice pn l.length kn, .slice pc C.length kc] 33))) := (Below.refl _ w).alloc (Nat.le_refl _) _
  have ND := hide (Bk.new w [.slice pn l.length kn, .slice pc C.length kc] 33)
  have NV := hide hD.nds
  clear hD hz hC hT HD HZ HO HT
  go_enter Tryz.func4, Tryz.ntmps4
  go_upto_region 1 with fail
  generalize w.alloc (.cells #[.slice pn l.length kn, .slice pc C.length kc] 33) = w0 at *
  go_wp2_with fail
  refine (HW.out _ B0.out).mono ?_
  rintro e w1 ⟨rfl, b1⟩
  have B1 := hide (chain B0.out b1)
  replace ND := hide (ND.out.below b1)
  clear b1 B0
  have x0 := ND.out.cell 0 rfl
  have x1 := ND.out.cell 1 rfl
  go_wp2_with fail
  refine (HC.out _ B1.out).mono ?_
  rintro e w2 ⟨n2, c2, rfl, d2, b2⟩
  have D2 := hide d2
  obtain ⟨p2, k2, rfl⟩ := nds_form d2.nds
  obtain ⟨q2, m2, rfl⟩ := cts_form d2.cts
  have B2 := hide (chain B1.out b2)
  clear d2 B1
  go_wp2_with fail
  refine (H1.out _ _ _ B2.out D2.out).mono ?_
  rintro e w3 ⟨v3, rfl, g3, b3⟩
  have G3 := hide g3
  obtain ⟨p3, k3, rfl⟩ := cts_form g3
  have B3 := hide (chain B2.out b3)
  replace ND := hide ((ND.out.below b2).below b3)
  clear g3 b2 b3 B2 D2 x0 x1
  have x0 := ND.out.cell 0 rfl
  have x1 := ND.out.cell 1 rfl
  go_wp2_with fail
  go_region_held3 (fun w' => w'.cell? ⟨w.heap.size, 0, none⟩ = some (.slice pn l.length kn) ∧ w'.cell? ⟨w.heap.size, 1, none⟩ = some (.slice pc C.length kc)) (first | go_keep | exact ⟨cell_below x0 U4.out, cell_below x1 U4.out⟩ | exact ⟨cell_below x0 U5.out, cell_below x1 U5.out⟩ | exact ⟨cell_below x0 U6.out, cell_below x1 U6.out⟩ | exact ⟨cell_below x0 U7.out, cell_below x1 U7.out⟩ | exact ⟨cell_below x0 U8.out, cell_below x1 U8.out⟩ | exact ⟨cell_below x0 U9.out, cell_below x1 U9.out⟩ | exact ⟨cell_below x0 U10.out, cell_below x1 U10.out⟩ | exact ⟨cell_below x0 U11.out, cell_below x1 U11.out⟩)
    (first | (go_at_call 23; refine (H6.out _ _ _ B9.out D9.out).mono ?_; rintro e w10 ⟨rfl, b10⟩; have U10 : Hid (Below w3.heap.size w3 w10) := chain U9.out b10; have B10 : Hid (Below w.heap.size w w10) := chain B3.out U10.out) | (go_at_call 24; refine (H7.out _ B10.out).mono ?_; rintro e w11 ⟨rfl, b11⟩; have U11 : Hid (Below w3.heap.size w3 w11) := chain U10.out b11; have B11 : Hid (Below w.heap.size w w11) := chain B3.out U11.out) | (go_at_call 18; have hz9 := B8; refine (HC.out _ B8.out).mono ?_; rintro e w9 ⟨n9, c9, rfl, d9, b9⟩; have U9 : Hid (Below w3.heap.size w3 w9) := chain U8.out b9; have B9 : Hid (Below w.heap.size w w9) := chain B3.out U9.out; have D9 := hide d9; obtain ⟨p9, k9, rfl⟩ := nds_form d9.nds; obtain ⟨q9, m9, rfl⟩ := cts_form d9.cts; clear d9) | (go_at_call 21; refine (H3.out _ _ _ (G3.out.below U7.out) G7.out).mono ?_; rintro e w8 ⟨rfl, b8⟩; have U8 : Hid (Below w3.heap.size w3 w8) := chain U7.out b8; have B8 : Hid (Below w.heap.size w w8) := chain B3.out U8.out) | (go_at_call 22; refine (H2.out _ B6.out).mono ?_; rintro e w7 ⟨v7, rfl, g7, b7⟩; have U7 : Hid (Below w3.heap.size w3 w7) := chain U6.out b7; have B7 : Hid (Below w.heap.size w w7) := chain B3.out U7.out; have G7 := hide g7; obtain ⟨p7, k7, rfl⟩ := cts_form g7; clear g7) | (go_at_call 20; refine (H5.out _ B5.out).mono ?_; rintro e w6 ⟨rfl, b6⟩; have U6 : Hid (Below w3.heap.size w3 w6) := chain U5.out b6; have B6 : Hid (Below w.heap.size w w6) := chain B3.out U6.out) | (go_at_call 19; refine (H4.out _ _ _ B4.out D4.out).mono ?_; rintro e w5 ⟨rfl, b5⟩; have U5 : Hid (Below w3.heap.size w3 w5) := chain U4.out b5; have B5 : Hid (Below w.heap.size w w5) := chain B3.out U5.out) | (go_at_call 18; refine (HC.out _ (belRO B3.out 1)).mono ?_; rintro e w4 ⟨n4, c4, rfl, d4, b4⟩; have U4 : Hid (Below w3.heap.size w3 w4) := undrewO b4; have B4 : Hid (Below w.heap.size w w4) := chain B3.out U4.out; have D4 := hide d4; obtain ⟨p4, k4, rfl⟩ := nds_form d4.nds; obtain ⟨q4, m4, rfl⟩ := cts_form d4.cts; clear d4))
  have NV11 := hide (NV.out.below B11.out)
  have F11 := hide (G3.out.below U11.out)
  replace ND := hide (ND.out.below U11.out)
  clear x0 x1
  have x0 := ND.out.cell 0 rfl
  have x1 := ND.out.cell 1 rfl
  go_wp2_with fail
  refine (H8.out _ _ _ B11.out ⟨NV11.out, F11.out⟩).mono ?_
  rintro e w12 ⟨v12, rfl, g12, b12⟩
  have G12 := hide g12
  obtain ⟨p12, k12, rfl⟩ := cts_form g12
  have B12 := hide (chain B11.out b12)
  have F12 := hide (F11.out.below b12)
  go_wp2_with fail
  refine (H3.out _ _ _ G12.out F12.out).mono ?_
  rintro e w13 ⟨rfl, b13⟩
  go_wp2_with fail
  go_ret
  exact ⟨rfl, chain B12.out b13⟩

end Go.Proofs.YtemikdmkjgmflaaGreatDoor
