/- The program's Choose of layer 15. -/
import Derived.Test.YtemikdmkjgmflaaDoorJod19

namespace Go.Proofs.YtemikdmkjgmflaaDoor
open Go.RowKit Go.Shelf
set_option maxRecDepth 100000
attribute [local go_sem] Oper.semAt_some
theorem setU_files {C : List Ct} {i : Int} {c : Ct} (h : c.files = (st C i).files) : (setC C i c).length = C.length ∧ ∀ j (h1 : j < C.length) (h2 : j < (setC C i c).length), (setC C i c)[j].files = C[j].files := by
  refine ⟨List.length_set, fun j h1 h2 => ?_⟩
  refine (congrArg Ct.files (List.getElem_set (l := C) (i := i.toNat) (j := j) (a := c) (by simpa using h1))).trans ?_
  split
  · rename_i e
    rw [h]
    unfold st
    rw [List.getD_eq_getElem?_getD, e, List.getElem?_eq_getElem h1, Option.getD_some]
  · rfl
theorem updU_files {f : Int → Ct → Ct} (hf : ∀ i c, (f i c).files = c.files) (C : List Ct) (all : List Int) : (updP f all C).length = C.length ∧ ∀ i (h1 : i < C.length) (h2 : i < (updP f all C).length), (updP f all C)[i].files = C[i].files := by
  refine ⟨updC_len .., fun i h1 h2 => ?_⟩
  exact (congrArg Ct.files (upd_at (f := f) (all := all) (C := C) h1)).trans (by split; exact hf _ _; rfl)
/-- What Choose answers where there is nothing to choose. -/
theorem ch_no {l : List Nd} {C : List Ct} {opt : Int} {on : Bool} (h : ¬ (rightD l C = true ∧ isK l opt 32 = true ∧ 0 ≤ ownP l opt)) : chooseO l C opt on = ([], 4) := if_neg h
theorem ch_off {l : List Nd} {C : List Ct} {opt : Int} {on : Bool} (h : rightD l C = true ∧ isK l opt 32 = true ∧ 0 ≤ ownP l opt) (ho : offP l opt = true) : chooseO l C opt on = ([], 8) := (if_pos h).trans (if_pos ho)
theorem ch_yes {l : List Nd} {C : List Ct} {opt : Int} {on : Bool} (h : rightD l C = true ∧ isK l opt 32 = true ∧ 0 ≤ ownP l opt) (ho : offP l opt = false) : chooseO l C opt on = (chooseC l C opt on, 0) := (if_pos h).trans (if_neg (by rw [ho]; decide))
set_option maxHeartbeats 8000000 in
theorem opChoose_no (nv cv : Value) (l : List Nd) (C : List Ct) (opt : Int) (on : Bool) (w : World) (hD : DocV w nv cv l C) (hz : DocSz l) (_hC : CsOK C) (hT : KTabs w) (hn : ¬ (rightD l C = true ∧ isK l opt 32 = true ∧ 0 ≤ ownP l opt)) :
    Calls Tryd.prog 8 #[.agg #[nv, cv], .int .i64 opt, .bool on] w fun e w' => ∃ v', e = .returned (.tuple #[v', .int .i64 (chooseO l C opt on).2]) ∧ CtsV w' v' (chooseO l C opt on).1 ∧ Below w.heap.size w w' := by
  have B0 : Hid (Below w.heap.size w (w.alloc (.cells #[nv, cv] 25))) := (Below.refl _ w).alloc (Nat.le_refl _) _
  have BD := hide (Bk.new w [nv, cv] 25)
  have HA := hide (fun W (hb : Below w.heap.size w W) => opIsA_any nv l opt 32 W (hD.nds.below hb) hz (hT.below hb))
  have HR := hide (fun W (hb : Below w.heap.size w W) => opRightG_any nv cv l C W (hD.below hb) hz)
  rw [ch_no hn]
  cases h : isAB l opt 32 with
  | false =>
    rw [h] at HA
    obtain ⟨p, c, rfl⟩ := nds_formG hD.nds
    obtain ⟨pc, cc, rfl⟩ := cts_formG hD.cts
    clear hD hz hT h hn HR
    go_enter Tryd.func8, Tryd.ntmps8
    have x0 := BD.out.cell 0 rfl
    go_wp2_with fail
    refine (HA.out _ B0.out).mono ?_
    rintro e w1 ⟨rfl, b1⟩
    have D1 := hide (BD.out.below b1)
    have B1 := hide (chain B0.out b1)
    clear x0
    go_wp2_with fail
    go_ret2
    exact ⟨_, rfl, cts_nil _, B1.out⟩
  | true =>
    rw [h] at HA
    cases r : rightD l C with
    | false =>
      rw [r] at HR
      obtain ⟨p, c, rfl⟩ := nds_formG hD.nds
      obtain ⟨pc, cc, rfl⟩ := cts_formG hD.cts
      clear hD hz hT h hn r
      go_enter Tryd.func8, Tryd.ntmps8
      have x0 := BD.out.cell 0 rfl
      go_wp2_with fail
      refine (HA.out _ B0.out).mono ?_
      rintro e w1 ⟨rfl, b1⟩
      have D1 := hide (BD.out.below b1)
      have B1 := hide (chain B0.out b1)
      clear x0
      have x0 := D1.out.cell 0 rfl
      have x1 := D1.out.cell 1 rfl
      go_wp2_with fail
      refine (HR.out _ B1.out).mono ?_
      rintro e w2 ⟨rfl, b2⟩
      have D2 := hide (D1.out.below b2)
      have B2 := hide (chain B1.out b2)
      clear x0 x1 D1 b1 b2
      go_wp2_with fail
      go_ret2
      exact ⟨_, rfl, cts_nil _, B2.out⟩
    | true =>
      obtain ⟨hR, hlen⟩ := rd_parts r
      have hk : isK l opt 32 = true := by rw [← isA_right hR]; exact h
      obtain ⟨m, rfl⟩ : ∃ m : Nat, opt = (m : Int) := ⟨opt.toNat, by have := (isK_in hk).1; omega⟩
      have hm : m < l.length := by have := (isK_in hk).2; omega
      have hp : parI l (m : Int) < (l.length : Int) := parI_lt hR (by omega) (by omega)
      have HS := hide (fun W (hb : Below w.heap.size w W) => opSelectOf_any nv l m W (hD.nds.below hb) hz hm hp (hT.below hb))
      have eo : ownP l (m : Int) = -1 := by
        have n0 : ¬ 0 ≤ ownP l (m : Int) := fun q => hn ⟨r, hk, q⟩
        unfold ownP at n0 ⊢
        split
        · rfl
        · rename_i q
          rw [if_neg q] at n0
          exact absurd (.inl (by omega)) q
      rw [sel_is hR hm, eo] at HS
      rw [r] at HR
      obtain ⟨p, c, rfl⟩ := nds_formG hD.nds
      obtain ⟨pc, cc, rfl⟩ := cts_formG hD.cts
      clear hD hz hT h hn r hlen hk hp eo hR
      go_enter Tryd.func8, Tryd.ntmps8
      have x0 := BD.out.cell 0 rfl
      go_wp2_with fail
      refine (HA.out _ B0.out).mono ?_
      rintro e w1 ⟨rfl, b1⟩
      have D1 := hide (BD.out.below b1)
      have B1 := hide (chain B0.out b1)
      clear x0
      have x0 := D1.out.cell 0 rfl
      have x1 := D1.out.cell 1 rfl
      go_wp2_with fail
      refine (HR.out _ B1.out).mono ?_
      rintro e w2 ⟨rfl, b2⟩
      have D2 := hide (D1.out.below b2)
      have B2 := hide (chain B1.out b2)
      clear x0 x1 D1 b1 b2
      have x0 := D2.out.cell 0 rfl
      go_wp2_with fail
      refine (HS.out _ B2.out).mono ?_
      rintro e w3 ⟨rfl, b3⟩
      have D3 := hide (D2.out.below b3)
      have B3 := hide (chain B2.out b3)
      clear x0 D2 b3
      go_wp2_with fail
      go_ret2
      exact ⟨_, rfl, cts_nil _, B3.out⟩
set_option maxHeartbeats 8000000 in
theorem opChoose_off (nv cv : Value) (l : List Nd) (C : List Ct) (opt : Int) (on : Bool) (w : World) (hD : DocV w nv cv l C) (hz : DocSz l) (_hC : CsOK C) (hT : KTabs w) (hy : rightD l C = true ∧ isK l opt 32 = true ∧ 0 ≤ ownP l opt) (ho : offP l opt = true) :
    Calls Tryd.prog 8 #[.agg #[nv, cv], .int .i64 opt, .bool on] w fun e w' => ∃ v', e = .returned (.tuple #[v', .int .i64 (chooseO l C opt on).2]) ∧ CtsV w' v' (chooseO l C opt on).1 ∧ Below w.heap.size w w' := by
  have B0 : Hid (Below w.heap.size w (w.alloc (.cells #[nv, cv] 25))) := (Below.refl _ w).alloc (Nat.le_refl _) _
  have BD := hide (Bk.new w [nv, cv] 25)
  have HA := hide (fun W (hb : Below w.heap.size w W) => opIsA_any nv l opt 32 W (hD.nds.below hb) hz (hT.below hb))
  have HR := hide (fun W (hb : Below w.heap.size w W) => opRightG_any nv cv l C W (hD.below hb) hz)
  rw [ch_off hy ho]
  obtain ⟨r, hk, h0⟩ := hy
  obtain ⟨hR, hlen⟩ := rd_parts r
  obtain ⟨m, rfl⟩ : ∃ m : Nat, opt = (m : Int) := ⟨opt.toNat, by have := (isK_in hk).1; omega⟩
  have hm : m < l.length := by have := (isK_in hk).2; omega
  have hp : parI l (m : Int) < (l.length : Int) := parI_lt hR (by omega) (by omega)
  have HS := hide (fun W (hb : Below w.heap.size w W) => opSelectOf_any nv l m W (hD.nds.below hb) hz hm hp (hT.below hb))
  have HO := hide (fun W (hb : Below w.heap.size w W) => opIsOff_any nv l m W (hD.nds.below hb) hz hm hp (hT.below hb))
  rw [sel_is hR hm] at HS
  rw [← off_is hR hm hk, ho] at HO
  rw [show isAB l (m : Int) 32 = true by rw [isA_right hR]; exact hk] at HA
  rw [r] at HR
  have q1 : (ownP l (m : Int) == -1) = false := beq_eq_false_iff_ne.2 (by omega)
  obtain ⟨p, c, rfl⟩ := nds_formG hD.nds
  obtain ⟨pc, cc, rfl⟩ := cts_formG hD.cts
  clear hD hz hT r hlen hk hp hR ho h0
  generalize ownP l (m : Int) = sl at *
  go_enter Tryd.func8, Tryd.ntmps8
  have x0 := BD.out.cell 0 rfl
  go_wp2_with fail
  refine (HA.out _ B0.out).mono ?_
  rintro e w1 ⟨rfl, b1⟩
  have D1 := hide (BD.out.below b1)
  have B1 := hide (chain B0.out b1)
  clear x0
  have x0 := D1.out.cell 0 rfl
  have x1 := D1.out.cell 1 rfl
  go_wp2_with fail
  refine (HR.out _ B1.out).mono ?_
  rintro e w2 ⟨rfl, b2⟩
  have D2 := hide (D1.out.below b2)
  have B2 := hide (chain B1.out b2)
  clear x0 x1 D1 b1 b2
  have x0 := D2.out.cell 0 rfl
  go_wp2_with fail
  refine (HS.out _ B2.out).mono ?_
  rintro e w3 ⟨rfl, b3⟩
  have D3 := hide (D2.out.below b3)
  have B3 := hide (chain B2.out b3)
  clear x0 D2 b3
  have x0 := D3.out.cell 0 rfl
  go_wp2_with fail
  refine (HO.out _ B3.out).mono ?_
  rintro e w4 ⟨rfl, b4⟩
  have D4 := hide (D3.out.below b4)
  have B4 := hide (chain B3.out b4)
  clear x0 D3 b4
  go_wp2_with fail
  go_ret2
  exact ⟨_, rfl, cts_nil _, B4.out⟩
/-- An option's select is one. -/
theorem own_isK {l : List Nd} (hR : Right l) {m : Nat} (hm : m < l.length) (h0 : 0 ≤ ownP l (m : Int)) : isK l (ownP l (m : Int)) 23 = true := by
  rw [← sel_is hR hm] at h0 ⊢
  unfold selB at h0 ⊢
  have key : ∀ u : Int, 0 ≤ (if isAB l u 23 = true then u else -1) → isK l (if isAB l u 23 = true then u else -1) 23 = true := fun u hu => by
    by_cases q : isAB l u 23 = true
    · rw [if_pos q, ← isA_right hR]; exact q
    · rw [if_neg q] at hu
      omega
  exact key _ h0
theorem choose_files (l : List Nd) (C : List Ct) (opt : Int) (on : Bool) : (chooseC l C opt on).length = C.length ∧ ∀ i (h1 : i < C.length) (h2 : i < (chooseC l C opt on).length), (chooseC l C opt on)[i].files = C[i].files := by
  unfold chooseC
  split
  · exact setU_files rfl
  · have e := only_files C (listP l (ownP l opt)) opt
    have f := updU_files (f := markF) (fun _ _ => rfl) (onlyP C (listP l (ownP l opt)) opt) (listP l (ownP l opt))
    exact ⟨f.1.trans e.1, fun i h1 h2 => (f.2 i (by rw [e.1]; exact h1) h2).trans (e.2 i h1 (by rw [e.1]; exact h1))⟩
set_option maxHeartbeats 8000000 in
theorem opChoose_mul (nv cv : Value) (l : List Nd) (C : List Ct) (opt : Int) (on : Bool) (w : World) (hD : DocV w nv cv l C) (hz : DocSz l) (hC : CsOK C) (hT : KTabs w) (hy : rightD l C = true ∧ isK l opt 32 = true ∧ 0 ≤ ownP l opt) (ho : offP l opt = false) (hmu : hasA (nd l (ownP l opt).toNat) oMul = true) :
    Calls Tryd.prog 8 #[.agg #[nv, cv], .int .i64 opt, .bool on] w fun e w' => ∃ v', e = .returned (.tuple #[v', .int .i64 (chooseO l C opt on).2]) ∧ CtsV w' v' (chooseO l C opt on).1 ∧ Below w.heap.size w w' := by
  have B0 : Hid (Below w.heap.size w (w.alloc (.cells #[nv, cv] 25))) := (Below.refl _ w).alloc (Nat.le_refl _) _
  have BD := hide (Bk.new w [nv, cv] 25)
  have HA := hide (fun W (hb : Below w.heap.size w W) => opIsA_any nv l opt 32 W (hD.nds.below hb) hz (hT.below hb))
  have HR := hide (fun W (hb : Below w.heap.size w W) => opRightG_any nv cv l C W (hD.below hb) hz)
  rw [ch_yes hy ho]
  obtain ⟨r, hk, h0⟩ := hy
  obtain ⟨hR, hlen⟩ := rd_parts r
  obtain ⟨m, rfl⟩ : ∃ m : Nat, opt = (m : Int) := ⟨opt.toNat, by have := (isK_in hk).1; omega⟩
  have hm : m < l.length := by have := (isK_in hk).2; omega
  have hp : parI l (m : Int) < (l.length : Int) := parI_lt hR (by omega) (by omega)
  have HS := hide (fun W (hb : Below w.heap.size w W) => opSelectOf_any nv l m W (hD.nds.below hb) hz hm hp (hT.below hb))
  have HO := hide (fun W (hb : Below w.heap.size w W) => opIsOff_any nv l m W (hD.nds.below hb) hz hm hp (hT.below hb))
  rw [sel_is hR hm] at HS
  rw [← off_is hR hm hk, ho] at HO
  rw [show isAB l (m : Int) 32 = true by rw [isA_right hR]; exact hk] at HA
  rw [r] at HR
  have hs : isK l (ownP l (m : Int)) 23 = true := own_isK hR hm h0
  obtain ⟨s, es⟩ : ∃ s : Nat, ownP l (m : Int) = (s : Int) := ⟨(ownP l (m : Int)).toNat, by omega⟩
  have hsl : s < l.length := by have := (isK_in hs).2; omega
  have LC := hide (show chooseC l C (m : Int) on = _ from rfl)
  have HFr := hide (fun W (hb : Below w.heap.size w W) => freshCtls_any cv C W (hD.cts.below hb) hC)
  have HN := hide hD.nds
  have HZ := hide hz
  have HT := hide hT
  have HRt := hide hR
  have HLn := hide hlen
  have HKs := hide hs
  rw [es] at HS HKs
  have hmC : m < C.length := by omega
  have EC : Hid (chooseC l C (m : Int) on = C.set m { C[m] with sel := on, dsel := true }) := by
    show _ = _
    unfold chooseC
    rw [if_pos hmu]
    unfold setC
    rw [Int.toNat_natCast, st_nat hmC]
  have CF := hide (choose_files l C (m : Int) on)
  obtain ⟨p, c, rfl⟩ := nds_formG hD.nds
  obtain ⟨pc, cc, rfl⟩ := cts_formG hD.cts
  obtain ⟨b, o, va, pk, nk, ck, rfl, N⟩ := node_of HN.out hsl
  have nz := HZ.out.nds _ (List.getElem_mem hsl)
  have N0 := hide N
  obtain ⟨pa, ca, rfl, hxx⟩ := N.at_
  clear hxx N
  have i0 : (0 : Int) ≤ (s : Int) := by omega
  have i1 : (s : Int) < (l.length : Int) := by omega
  have HM := hide (fun W (hb : Below w.heap.size w W) => opMul_any l[s] (.slice pa l[s].attrs.length ca) pk nk ck W (N0.out.at_.below hb) nz.attrs)
  rw [es, Int.toNat_natCast, nd_at hsl] at hmu
  rw [hmu] at HM
  have q1 : ((s : Int) == -1) = false := beq_eq_false_iff_ne.2 (by omega)
  have q0 : (0 : Int) ≤ (m : Int) := by omega
  have q2 : (m : Int) < (C.length : Int) := by omega
  clear hD hz hC hT r hlen hk hp hR ho h0 hs es hmu nz LC
  go_enter Tryd.func8, Tryd.ntmps8
  have x0 := BD.out.cell 0 rfl
  go_wp2_with fail
  refine (HA.out _ B0.out).mono ?_
  rintro e w1 ⟨rfl, b1⟩
  have D1 := hide (BD.out.below b1)
  have B1 := hide (chain B0.out b1)
  clear x0
  have x0 := D1.out.cell 0 rfl
  have x1 := D1.out.cell 1 rfl
  go_wp2_with fail
  refine (HR.out _ B1.out).mono ?_
  rintro e w2 ⟨rfl, b2⟩
  have D2 := hide (D1.out.below b2)
  have B2 := hide (chain B1.out b2)
  clear x0 x1 D1 b1 b2
  have x0 := D2.out.cell 0 rfl
  go_wp2_with fail
  refine (HS.out _ B2.out).mono ?_
  rintro e w3 ⟨rfl, b3⟩
  have D3 := hide (D2.out.below b3)
  have B3 := hide (chain B2.out b3)
  clear x0 D2 b3
  have x0 := D3.out.cell 0 rfl
  go_wp2_with fail
  refine (HO.out _ B3.out).mono ?_
  rintro e w4 ⟨rfl, b4⟩
  have D4 := hide (D3.out.below b4)
  have B4 := hide (chain B3.out b4)
  clear x0 D3 b4
  have x1 := D4.out.cell 1 rfl
  go_wp2_with fail
  refine (HFr.out _ B4.out).mono ?_
  rintro e w5 ⟨ov, F, rfl, o5, f5, b5⟩
  obtain ⟨po, ko, rfl, hpo⟩ := o5.form
  have D4l := D4.out.lt
  clear hpo
  have D5 := hide (D4.out.below b5)
  have B5 := hide (chain B4.out b5)
  have O5 := hide o5
  have F5 := hide f5
  clear x1 D4 b5 o5 f5
  obtain ⟨w6, hw6⟩ : ∃ w6, w5.alloc (.cells #[.slice po C.length ko] 23) = w6 := ⟨_, rfl⟩
  have b6 : Below w5.heap.size w5 w6 := by rw [← hw6]; exact (Below.refl _ w5).alloc (Nat.le_refl _) _
  have bX6 : Boxed w6 w5.heap.size 23 (.slice po C.length ko) := by rw [← hw6]; exact Boxed.new w5 _ _
  have D6 := hide (D5.out.below b6)
  have B6 := hide (chain B5.out b6)
  have O6 := hide (O5.out.kept b6)
  have F6 := hide (F5.out.below b6)
  have l4 : w.heap.size ≤ w4.heap.size := B4.out.size
  have l4' : w.heap.size < w4.heap.size := D4l
  have WK : Hid (Wrk l (s : Int) (some ⟨b, o, none⟩) c w4.heap.size (.slice po C.length ko) C F w w6) := ⟨HN.out, HZ.out, HT.out, HKs.out, HRt.out, B6.out, l4, O6.out, HLn.out⟩
  have OB : Hid (∀ g, (Value.slice po C.length ko).ownBlock = some g → w4.heap.size ≤ g ∧ g < w5.heap.size) := fun g hg => ⟨(O5.out.row.lt g hg).1, (O5.out.row.lt g hg).2⟩
  clear O5 F5
  have x0 := D6.out.cell 0 rfl
  have c0 := cell_below N0.out.name B6.out
  have c1 := cell_below N0.out.text B6.out
  have c2 := cell_below N0.out.attrs B6.out
  have c3 := cell_below N0.out.parent B6.out
  have c4 := cell_below N0.out.kids B6.out
  go_wp2_with fail
  refine (HM.out _ B6.out).mono ?_
  rintro e w7 ⟨rfl, b7⟩
  have D7 := hide (D6.out.below b7)
  have B7 := hide (chain B6.out b7)
  have bX7 : Boxed w7 w5.heap.size 23 (.slice po C.length ko) := (b7.block _ bX6.lt).trans bX6
  have W7 := hide (WK.out.later b7)
  have F7 := hide (F6.out.below b7)
  clear x0 c0 c1 c2 c3 c4 D6 bX6 b7 WK F6 O6
  obtain ⟨g, ko', ev, eg, hg0, hg1, hgx⟩ := owns_at W7.out.own.row (by omega)
  cases ev
  clear hgx
  have DR : Below w7.heap.size w7 w7.drew := ⟨rfl, rfl, rfl, Nat.le_refl _, fun _ _ => rfl⟩
  have OD := hide (W7.out.own.kept DR)
  have FD := hide (F7.out.below DR)
  have P6 := hide (OD.out.put (c' := { C[m] with sel := on }) rfl hmC (j := 6) (by omega) (u := .bool on) rfl)
  have hm6 : m < (C.set m { C[m] with sel := on }).length := by rw [List.length_set]; exact hmC
  have P6' : Hid (CtsO w4.heap.size (w7.drew.setCell ⟨g, m * 10 + 6, none⟩ (.bool on)) (.slice (some ⟨g, 0, none⟩) (C.set m { C[m] with sel := on }).length ko) (C.set m { C[m] with sel := on }) F) := by show CtsO _ _ _ _ _; rw [List.length_set]; exact P6.out
  have P7 := hide (P6'.out.put (c' := { C[m] with sel := on, dsel := true }) rfl hm6 (j := 7) (by omega) (u := .bool true) (by simp [List.getElem_set_self, ctCells]))
  have ES : Hid ((C.set m { C[m] with sel := on }).set m { C[m] with sel := on, dsel := true } = C.set m { C[m] with sel := on, dsel := true }) := List.set_set ..
  have x9 := bX7.cell
  have c6 := W7.out.own.at_ rfl hmC 6 _ rfl
  have c7 := W7.out.own.at_ rfl hmC 7 _ rfl
  have f6 : w7.frozen? ⟨g, m * 10 + 6, none⟩ = false := owns_free W7.out.own.row rfl _
  have f7 : w7.frozen? ⟨g, m * 10 + 7, none⟩ = false := owns_free W7.out.own.row rfl _
  go_wp2_with fail
  go_region
  all_goals
    go_wp2_with fail
    go_ret2
    have CG : Chg [g] w7.drew ((w7.drew.setCell ⟨g, m * 10 + 6, none⟩ (.bool on)).setCell ⟨g, m * 10 + 7, none⟩ (.bool true)) := (Chg.setB _ _ _ _).trans ((Chg.setB _ _ _ _).mono (fun k r _ => r))
    have BB : Below w.heap.size w w7.drew := chain B7.out DR
    refine ⟨_, rfl, ?_, BB.trans (CG.below BB.size (fun k r => by rw [List.mem_singleton.1 r]; exact Nat.le_trans l4 hg0))⟩
    have P8 := P7.out
    rw [ES.out, ← EC.out, List.length_set] at P8
    exact P8.cts (((FD.out.chg OD.out.row CG).files).other CF.out.1 CF.out.2)
set_option maxHeartbeats 8000000 in
theorem opChoose_one (nv cv : Value) (l : List Nd) (C : List Ct) (opt : Int) (on : Bool) (w : World) (hD : DocV w nv cv l C) (hz : DocSz l) (hC : CsOK C) (hT : KTabs w) (hy : rightD l C = true ∧ isK l opt 32 = true ∧ 0 ≤ ownP l opt) (ho : offP l opt = false) (hmu : hasA (nd l (ownP l opt).toNat) oMul = false) :
    Calls Tryd.prog 8 #[.agg #[nv, cv], .int .i64 opt, .bool on] w fun e w' => ∃ v', e = .returned (.tuple #[v', .int .i64 (chooseO l C opt on).2]) ∧ CtsV w' v' (chooseO l C opt on).1 ∧ Below w.heap.size w w' := by
  have B0 : Hid (Below w.heap.size w (w.alloc (.cells #[nv, cv] 25))) := (Below.refl _ w).alloc (Nat.le_refl _) _
  have BD := hide (Bk.new w [nv, cv] 25)
  have HA := hide (fun W (hb : Below w.heap.size w W) => opIsA_any nv l opt 32 W (hD.nds.below hb) hz (hT.below hb))
  have HR := hide (fun W (hb : Below w.heap.size w W) => opRightG_any nv cv l C W (hD.below hb) hz)
  rw [ch_yes hy ho]
  obtain ⟨r, hk, h0⟩ := hy
  obtain ⟨hR, hlen⟩ := rd_parts r
  obtain ⟨m, rfl⟩ : ∃ m : Nat, opt = (m : Int) := ⟨opt.toNat, by have := (isK_in hk).1; omega⟩
  have hm : m < l.length := by have := (isK_in hk).2; omega
  have hp : parI l (m : Int) < (l.length : Int) := parI_lt hR (by omega) (by omega)
  have HS := hide (fun W (hb : Below w.heap.size w W) => opSelectOf_any nv l m W (hD.nds.below hb) hz hm hp (hT.below hb))
  have HO := hide (fun W (hb : Below w.heap.size w W) => opIsOff_any nv l m W (hD.nds.below hb) hz hm hp (hT.below hb))
  rw [sel_is hR hm] at HS
  rw [← off_is hR hm hk, ho] at HO
  rw [show isAB l (m : Int) 32 = true by rw [isA_right hR]; exact hk] at HA
  rw [r] at HR
  have hs : isK l (ownP l (m : Int)) 23 = true := own_isK hR hm h0
  obtain ⟨s, es⟩ : ∃ s : Nat, ownP l (m : Int) = (s : Int) := ⟨(ownP l (m : Int)).toNat, by omega⟩
  have hsl : s < l.length := by have := (isK_in hs).2; omega
  have LC := hide (show chooseC l C (m : Int) on = _ from rfl)
  have HFr := hide (fun W (hb : Below w.heap.size w W) => freshCtls_any cv C W (hD.cts.below hb) hC)
  have HN := hide hD.nds
  have HZ := hide hz
  have HT := hide hT
  have HRt := hide hR
  have HLn := hide hlen
  have HKs := hide hs
  rw [es] at HS HKs
  have EC : Hid (chooseC l C (m : Int) on = updP markF (listP l (s : Int)) (onlyP C (listP l (s : Int)) (m : Int))) := by
    show _ = _
    unfold chooseC
    rw [if_neg (by rw [hmu]; decide), es]
  have CF := hide (choose_files l C (m : Int) on)
  obtain ⟨p, c, rfl⟩ := nds_formG hD.nds
  obtain ⟨pc, cc, rfl⟩ := cts_formG hD.cts
  obtain ⟨b, o, va, pk, nk, ck, rfl, N⟩ := node_of HN.out hsl
  have nz := HZ.out.nds _ (List.getElem_mem hsl)
  have N0 := hide N
  obtain ⟨pa, ca, rfl, hxx⟩ := N.at_
  clear hxx N
  have i0 : (0 : Int) ≤ (s : Int) := by omega
  have i1 : (s : Int) < (l.length : Int) := by omega
  have HM := hide (fun W (hb : Below w.heap.size w W) => opMul_any l[s] (.slice pa l[s].attrs.length ca) pk nk ck W (N0.out.at_.below hb) nz.attrs)
  rw [es, Int.toNat_natCast, nd_at hsl] at hmu
  rw [hmu] at HM
  have q1 : ((s : Int) == -1) = false := beq_eq_false_iff_ne.2 (by omega)
  clear hD hz hC hT r hlen hk hp hR ho h0 hs es hmu nz LC
  refine (callsIn_wide (n := 3)).1 ?_
  refine callsIn_of_wp_marks Tryd.func8 rfl trivial ?_ rfl
  simp only [Tryd.ntmps8, List.size_toArray, List.length_cons, List.length_nil, Nat.reduceAdd, Nat.reduceSub, Array.replicate_succ, Array.replicate_zero, List.push_toArray, List.append_toArray, List.nil_append, List.cons_append]
  have x0 := BD.out.cell 0 rfl
  gi_wp2
  refine ⟨trivial, ?_⟩
  refine (callsIn_wide.2 (HA.out _ B0.out)).mono ?_
  rintro e w1 ⟨rfl, b1⟩
  have D1 := hide (BD.out.below b1)
  have B1 := hide (chain B0.out b1)
  clear x0
  have x0 := D1.out.cell 0 rfl
  have x1 := D1.out.cell 1 rfl
  gi_wp2
  refine ⟨trivial, ?_⟩
  refine (callsIn_wide.2 (HR.out _ B1.out)).mono ?_
  rintro e w2 ⟨rfl, b2⟩
  have D2 := hide (D1.out.below b2)
  have B2 := hide (chain B1.out b2)
  clear x0 x1 D1 b1 b2
  have x0 := D2.out.cell 0 rfl
  gi_wp2
  refine ⟨trivial, ?_⟩
  refine (callsIn_wide.2 (HS.out _ B2.out)).mono ?_
  rintro e w3 ⟨rfl, b3⟩
  have D3 := hide (D2.out.below b3)
  have B3 := hide (chain B2.out b3)
  clear x0 D2 b3
  have x0 := D3.out.cell 0 rfl
  gi_wp2
  refine ⟨trivial, ?_⟩
  refine (callsIn_wide.2 (HO.out _ B3.out)).mono ?_
  rintro e w4 ⟨rfl, b4⟩
  have D4 := hide (D3.out.below b4)
  have B4 := hide (chain B3.out b4)
  clear x0 D3 b4
  have x1 := D4.out.cell 1 rfl
  gi_wp2
  refine ⟨trivial, ?_⟩
  refine (callsIn_wide.2 (HFr.out _ B4.out)).mono ?_
  rintro e w5 ⟨ov, F, rfl, o5, f5, b5⟩
  obtain ⟨po, ko, rfl, hpo⟩ := o5.form
  have D4l := D4.out.lt
  clear hpo
  have D5 := hide (D4.out.below b5)
  have B5 := hide (chain B4.out b5)
  have O5 := hide o5
  have F5 := hide f5
  clear x1 D4 b5 o5 f5
  obtain ⟨w6, hw6⟩ : ∃ w6, w5.alloc (.cells #[.slice po C.length ko] 23) = w6 := ⟨_, rfl⟩
  have b6 : Below w5.heap.size w5 w6 := by rw [← hw6]; exact (Below.refl _ w5).alloc (Nat.le_refl _) _
  have bX6 : Boxed w6 w5.heap.size 23 (.slice po C.length ko) := by rw [← hw6]; exact Boxed.new w5 _ _
  have D6 := hide (D5.out.below b6)
  have B6 := hide (chain B5.out b6)
  have O6 := hide (O5.out.kept b6)
  have F6 := hide (F5.out.below b6)
  have l4 : w.heap.size ≤ w4.heap.size := B4.out.size
  have l4' : w.heap.size < w4.heap.size := D4l
  have WK : Hid (Wrk l (s : Int) (some ⟨b, o, none⟩) c w4.heap.size (.slice po C.length ko) C F w w6) := ⟨HN.out, HZ.out, HT.out, HKs.out, HRt.out, B6.out, l4, O6.out, HLn.out⟩
  have OB : Hid (∀ g, (Value.slice po C.length ko).ownBlock = some g → w4.heap.size ≤ g ∧ g < w5.heap.size) := fun g hg => ⟨(O5.out.row.lt g hg).1, (O5.out.row.lt g hg).2⟩
  clear O5 F5
  have x0 := D6.out.cell 0 rfl
  have c0 := cell_below N0.out.name B6.out
  have c1 := cell_below N0.out.text B6.out
  have c2 := cell_below N0.out.attrs B6.out
  have c3 := cell_below N0.out.parent B6.out
  have c4 := cell_below N0.out.kids B6.out
  gi_wp2
  refine ⟨trivial, ?_⟩
  refine (callsIn_wide.2 (HM.out _ B6.out)).mono ?_
  rintro e w7 ⟨rfl, b7⟩
  have D7 := hide (D6.out.below b7)
  have B7 := hide (chain B6.out b7)
  have bX7 : Boxed w7 w5.heap.size 23 (.slice po C.length ko) := (b7.block _ bX6.lt).trans bX6
  have W7 := hide (WK.out.later b7)
  have F7 := hide (F6.out.below b7)
  clear x0 c0 c1 c2 c3 c4 D6 bX6 b7 WK F6 O6
  have x0 := D7.out.cell 0 rfl
  have x9 := bX7.cell
  have HOn := hide (W7.out.only (m : Int))
  gi_wp2
  refine ⟨trivial, ?_⟩
  refine (callsIn_wide.2 HOn.out).mono ?_
  rintro e w8 ⟨rfl, o8, k8⟩
  have W8 := hide (W7.out.chg k8 o8 (updC_len ..))
  have F8 := hide (F7.out.chg W7.out.own.row k8)
  have bX8 : Boxed w8 w5.heap.size 23 (.slice po C.length ko) := (k8.block _ bX7.lt (fun r => by have := (OB.out _ (opt_mem.1 r)).2; omega)).trans bX7
  have D8 : Hid (Bk w8 w.heap.size [.slice (some ⟨b, o, none⟩) l.length c, .slice pc C.length cc] 25) := ⟨(k8.block _ D7.out.lt (fun r => by have := (OB.out _ (opt_mem.1 r)).1; have := l4'; omega)).trans D7.out.lies⟩
  have B8 := hide W8.out.below
  clear x0 x9 D7 F7 bX7
  have x0 := D8.out.cell 0 rfl
  gi_wp2
  refine ⟨trivial, ?_⟩
  refine (callsIn_wide.2 (options_any (some ⟨b, o, none⟩) l.length c (s : Int) _)).mono ?_
  rintro e w9 ⟨rfl, rfl⟩
  gi_wp2
  obtain ⟨w9, hw9⟩ : ∃ w9, (w8.alloc (.cells #[.slice (some ⟨b, o, none⟩) l.length c] 22)).alloc (.cells #[.int .i64 (s : Int)] 3) = w9 := ⟨_, rfl⟩
  have l9 : w8.heap.size + 1 < w9.heap.size := by rw [← hw9]; simp
  have b9 : Below w8.heap.size w8 w9 := by rw [← hw9]; exact ((Below.refl _ w8).alloc (Nat.le_refl _) _).alloc (by simp) _
  have bL : Boxed w9 w8.heap.size 22 (.slice (some ⟨b, o, none⟩) l.length c) := by rw [← hw9]; exact (Boxed.new w8 _ _).alloc _
  have bS : Boxed w9 (w8.heap.size + 1) 3 (.int .i64 (s : Int)) := by
    have := Boxed.new (w8.alloc (.cells #[.slice (some ⟨b, o, none⟩) l.length c] 22)) 3 (.int .i64 (s : Int))
    rw [World.size_alloc] at this
    rw [← hw9]; exact this
  have bX9 : Boxed w9 w5.heap.size 23 (.slice po C.length ko) := (b9.block _ bX8.lt).trans bX8
  have W9 := hide (W8.out.later b9)
  have F9 := hide (F8.out.below b9)
  have ALL := hide (list_opts HKs.out)
  have HIT := hide W9.out.iter
  have RNG := hide W9.out.rng
  have FAL := hide (foldU_all (f := markF) W9.out.nodup W9.out.rng)
  have l8 : w5.heap.size < w8.heap.size := bX8.lt
  have lo : (onlyP C (listP l (s : Int)) (m : Int)).length = C.length := updC_len ..
  have LO := hide lo
  have B9 := hide W9.out.below
  rw [hw9]
  clear hw9 x0 lo
  generalize hOC : onlyP C (listP l (s : Int)) (m : Int) = OC at *
  have OB9 : Hid (∀ g, (Value.slice po C.length ko).ownBlock = some g → w4.heap.size ≤ g ∧ g < w5.heap.size) := OB
  refine wpIn_rangeFunc_ownG rfl (by omega) (gf := 48) (lb := #[.pointer (some ⟨w8.heap.size, 0, none⟩), .pointer (some ⟨w8.heap.size + 1, 0, none⟩)]) rfl trivial (enters_of Tryd.func48 (by kernel_rfl) rfl)
    (HIT.out w9 w8.heap.size (w8.heap.size + 1) B9.out bL bS) kpB_t (kpB_b (by have := B9.out.size; omega) (by intro b q; simp at q; omega)) (Below.refl _ _) (fun _ => rfl)
    (fun (pre : List (OptA l (s : Int))) W => Boxed W w5.heap.size 23 (.slice po C.length ko) ∧ W.ownsRow w4.heap.size 48 10 (.slice po C.length ko) C.length (cellsC ((vals pre).foldl (stepU markF) OC) F) ∧ Chg (Value.slice po C.length ko).ownBlock.toList w9 W)
    (fun _ _ _ => False)
    (OwnFrom.and (Own.from (boxed_own _ _ (fun _ => .slice po C.length ko)) _) (OwnFrom.and (Own.from (row_own w4.heap.size 48 10 (.slice po C.length ko) (fun _ => C.length) (fun pre : List (OptA l (s : Int)) => cellsC ((vals pre).foldl (stepU markF) OC) F)) _) (ownFrom_chg (by omega))))
    (fun _ _ _ _ _ hs _ _ => hs)
    ⟨bX9, by have := W9.out.own.row; rw [LO.out] at this; exact this, (Chg.of_below (Below.refl _ w9)).nil⟩
    (fun x => { tmps := #[.agg #[.slice (some ⟨b, o, none⟩) l.length c, .slice pc C.length cc], .int .i64 (m : Int), .bool on, .pointer (some ⟨w.heap.size, 0, none⟩), undef, undef, .slice none 0 0, .int .i64 0, .int .i64 (s : Int), .pointer (some ⟨w5.heap.size, 0, none⟩), .int .i64 x.1, .pointer (some ⟨w.heap.size, 0, none⟩), .slice (some ⟨b, o, none⟩) l.length c, .int .i64 (m : Int), .bool true, .bool false, .bool false, .agg #[.slice (some ⟨b, o, none⟩) l.length c, .slice pc C.length cc], .bool true, .bool false, .bool false, .pointer (some ⟨w.heap.size, 0, none⟩), .slice (some ⟨b, o, none⟩) l.length c, .int .i64 (m : Int), .int .i64 (s : Int), .bool false, .int .i64 (s : Int), .bool false, .bool false, .pointer (some ⟨w.heap.size, 0, none⟩), .slice (some ⟨b, o, none⟩) l.length c, .int .i64 (m : Int), .bool false, .pointer (some ⟨w.heap.size, 1, none⟩), .slice pc C.length cc, .slice po C.length ko, .pointer (some ⟨w.heap.size, 0, none⟩), .slice (some ⟨b, o, none⟩) l.length c, .int .i64 (s : Int), .pointer (some ⟨b, o + s * 5, none⟩), .agg #[.string l[s].name, .string l[s].text, .slice pa l[s].attrs.length ca, .int .i64 l[s].parent, .slice pk nk ck], .bool false, undef, undef, undef, undef, undef, undef, undef, undef, undef, undef, .pointer (some ⟨w.heap.size, 0, none⟩), .slice (some ⟨b, o, none⟩) l.length c, .slice po C.length ko, .int .i64 (s : Int), .int .i64 (m : Int), .tuple #[], .pointer (some ⟨w.heap.size, 0, none⟩), .slice (some ⟨b, o, none⟩) l.length c, .int .i64 (s : Int), .func (.func 48) #[] #[.pointer (some ⟨w8.heap.size, 0, none⟩), .pointer (some ⟨w8.heap.size + 1, 0, none⟩)], .int .i64 x.1, undef, undef, undef, undef, undef], defers := [] }) ?assign ?body ?done ?stop
  case assign =>
    intro y x W K hK
    gi_wp2
    exact hK
  case body =>
    rintro y pre x W ⟨hX, hrow, hch⟩ hlt
    have rx := RNG.out x.1 x.2
    rw [LO.out] at rx
    obtain ⟨q, eq, hq⟩ : ∃ q : Nat, x.1 = (q : Int) ∧ q < C.length := ⟨x.1.toNat, by omega, by omega⟩
    obtain ⟨g, ko', ev, eg, hg0, hg1, hgx⟩ := owns_at hrow (by omega)
    cases ev
    clear hgx
    have og := OB9.out g rfl
    have lF : ((vals pre).foldl (stepU markF) OC).length = C.length := by rw [foldU_len, LO.out]
    have CO : CtsO w4.heap.size W (.slice (some ⟨g, 0, none⟩) ((vals pre).foldl (stepU markF) OC).length ko) ((vals pre).foldl (stepU markF) OC) F := ⟨by rw [lF, ← LO.out]; exact W9.out.own.len, by rw [lF]; exact hrow⟩
    have hqD : q < ((vals pre).foldl (stepU markF) OC).length := by rw [lF]; exact hq
    have PUT := hide (CO.put (c' := markF (q : Int) ((vals pre).foldl (stepU markF) OC)[q]) rfl hqD (j := 7) (by omega) (u := .bool true) rfl)
    have c1 := hX.cell
    have c3 := CO.at_ rfl hqD 7 _ rfl
    have f3 : W.frozen? ⟨g, q * 10 + 7, none⟩ = false := owns_free hrow rfl _
    have q0 : (0 : Int) ≤ (q : Int) := by omega
    have q1 : (q : Int) < (C.length : Int) := by omega
    have EV := hide (show vals (pre ++ [x]) = vals pre ++ [(q : Int)] by rw [vals_app, eq])
    have LF := hide lF
    rw [eq]
    clear CO rx hrow lF
    gi_wp2
    have bW : Chg [g] W (W.setCell ⟨g, q * 10 + 7, none⟩ (.bool true)) := Chg.setB _ _ _ _
    have sW := hch.size
    have s9 := B9.out.size
    have gn : g < w5.heap.size := og.2
    have gb : w4.heap.size ≤ g := og.1
    refine ⟨(KeepsOthers.setCell _ _ _).from _, ⟨bW.below (Nat.le_trans s9 sW) (fun k r => by rw [List.mem_singleton.1 r]; omega), fun b r => Below.heap_setCell _ _ _ _ ?_⟩, ⟨boxed_far hX (Nat.ne_of_gt gn), ?_, hch.trans (bW.mono (fun k r _ => r))⟩⟩
    · simp only [List.mem_cons, List.not_mem_nil, or_false] at r
      rcases r with rfl | rfl
      · show w8.heap.size ≠ g; omega
      · show w8.heap.size + 1 ≠ g; omega
    · have pr := PUT.out.row
      rw [List.length_set, LF.out] at pr
      rw [EV.out, List.foldl_append]
      show World.ownsRow _ _ _ _ _ _ (cellsC (stepU markF ((vals pre).foldl (stepU markF) OC) (q : Int)) F)
      rw [stepU_at hqD]
      exact pr
  case done =>
    rintro D ys W hD hys ⟨hX, hrow, hch⟩ hK
    rw [hys, FAL.out] at hrow
    have c1 := hX.cell
    have OW : CtsO w4.heap.size W (.slice po (updP markF (optsP l (s : Int)) OC).length ko) (updP markF (optsP l (s : Int)) OC) F := ⟨by rw [updC_len]; exact W9.out.own.len, by rw [updC_len, LO.out]; exact hrow⟩
    have FW := (F9.out.chg W9.out.own.row hch)
    have hDw : w9.heap.size ≤ D := hD
    have E2 := work_end (w := w9) OW (by rw [updC_len, LO.out]; exact hch) hDw hK
    have BW : Below w.heap.size w (W.putObj D (.deferred none)) := B9.out.trans (E2.2.below B9.out.size (fun k r => by rw [updC_len, LO.out] at r; exact Nat.le_trans l4 (OB9.out k (opt_mem.1 r)).1))
    have FP := F9.out.chg W9.out.own.row (by have := E2.2; rw [updC_len, LO.out] at this; exact this)
    have EC2 : updP markF (optsP l (s : Int)) OC = chooseC l C (m : Int) on := by rw [EC.out, ALL.out]
    have Z : Hid (CtsV (W.putObj D (.deferred none)) (.slice po C.length ko) (chooseC l C (m : Int) on)) := by
      have e1 := E2.1
      rw [EC2] at e1
      have e2 := e1.cts ((FP.files).other CF.out.1 CF.out.2)
      rw [CF.out.1] at e2
      exact e2
    clear OW FW E2 FP EC2
    gi_wp2
    refine ⟨by simp, .inl ⟨_, _, rfl, run_takeDeferred hK, ?_⟩⟩
    exact ⟨_, results_tmp2 rfl _ _ _, _, rfl, Z.out, BW⟩
  case stop =>
    rintro D d pre W _ _ h _
    exact h.elim
theorem opChoose_any (nv cv : Value) (l : List Nd) (C : List Ct) (opt : Int) (on : Bool) (w : World) (hD : DocV w nv cv l C) (hz : DocSz l) (hC : CsOK C) (hT : KTabs w) :
    Calls Tryd.prog 8 #[.agg #[nv, cv], .int .i64 opt, .bool on] w fun e w' => ∃ v', e = .returned (.tuple #[v', .int .i64 (chooseO l C opt on).2]) ∧ CtsV w' v' (chooseO l C opt on).1 ∧ Below w.heap.size w w' := by
  by_cases hy : rightD l C = true ∧ isK l opt 32 = true ∧ 0 ≤ ownP l opt
  · cases ho : offP l opt with
    | true => exact opChoose_off nv cv l C opt on w hD hz hC hT hy ho
    | false =>
      cases hm : hasA (nd l (ownP l opt).toNat) oMul with
      | true => exact opChoose_mul nv cv l C opt on w hD hz hC hT hy ho hm
      | false => exact opChoose_one nv cv l C opt on w hD hz hC hT hy ho hm
  · exact opChoose_no nv cv l C opt on w hD hz hC hT hy

end Go.Proofs.YtemikdmkjgmflaaDoor
