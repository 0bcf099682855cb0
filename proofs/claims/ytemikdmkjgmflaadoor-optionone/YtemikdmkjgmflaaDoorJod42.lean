/- A select's options and which of them are selected, as functions of documents and states. Stage 15's law OptionOne, walked. -/
import Derived.Test.YtemikdmkjgmflaaDoorJod28
import Derived.Test.YtemikdmkjgmflaaDoorJod29
import Derived.Test.YtemikdmkjgmflaaDoorJod35

namespace Go.Proofs.YtemikdmkjgmflaaDoor
open Go.RowKit
/-- How many are selected behind being put right: at most one, and one, if the size is 1 and one isn't off. -/
theorem fix_one {l : List Nd} {C : List Ct} {sel : Int} (hR : rightD l C = true) (hk : isK l sel 23 = true) (hm : hasA (nd l sel.toNat) oMul = false) :
    ((listP l sel).filter fun i => (st (fixP l C sel) i).sel).length ≤ 1 ∧ (((listP l sel).filter fun i => (st (fixP l C sel) i).sel).length = 0 → sizeP l sel = 1 → (listP l sel).all (offP l) = true) := by
  obtain ⟨nd', rng⟩ := list_in (l := l) (sel := sel)
  have hC := (rightD_is hR).2
  have ef : fixP l C sel = onlyP C (listP l sel) (pickP l C sel (listP l sel)) := if_pos ⟨hk, hm⟩
  have sl : ∀ i ∈ listP l sel, (st (fixP l C sel) i).sel = decide (i = pickP l C sel (listP l sel)) := fun i hi => by rw [ef]; exact st_only hi (rng i hi).1 (by have := (rng i hi).2; omega)
  have fe : (listP l sel).filter (fun i => (st (fixP l C sel) i).sel) = (listP l sel).filter (fun i => decide (i = pickP l C sel (listP l sel))) := List.filter_congr (fun i hi => sl i hi)
  rw [fe]
  generalize hp : pickP l C sel (listP l sel) = p at *
  have fc : ((listP l sel).filter fun i => decide (i = p)).length = (listP l sel).count p := by
    rw [List.count_eq_countP, List.countP_eq_length_filter]
    congr 1
  rw [fc]
  refine ⟨List.nodup_iff_count.1 nd' p, fun h0 h1 => ?_⟩
  rw [List.count_eq_zero] at h0
  rw [List.all_eq_true]
  intro i hi
  cases q : offP l i with
  | true => rfl
  | false =>
    exfalso
    apply h0
    rcases pick_in (l := l) (C := C) (sel := sel) (all := listP l sel) with t | t
    · exfalso
      unfold pickP at t
      split at t
      · rename_i z; omega
      · try rw [if_pos h1] at t
        cases e : (listP l sel).find? fun i => !offP l i with
        | none =>
          rw [List.find?_eq_none] at e
          exact e i hi (by rw [q]; rfl)
        | some y =>
          rw [e] at t
          have := (rng y (List.mem_of_find?_eq_some e)).1
          have t : y = -1 := t
          omega
    · rw [← hp]; exact t
end Go.Proofs.YtemikdmkjgmflaaDoor

namespace Go.Proofs.YtemikdmkjgmflaaDoor
open Go.RowKit
set_option maxRecDepth 100000
/-- States behind being put right, or reset. -/
structure OneD (l : List Nd) (sel : Int) (D : List Ct) : Prop where
  len : D.length = l.length
  most : ((listP l sel).filter fun i => (st D i).sel).length ≤ 1
  least : ((listP l sel).filter fun i => (st D i).sel).length = 0 → sizeP l sel = 1 → (listP l sel).all (offP l) = true
theorem one_fix {l : List Nd} {C : List Ct} {sel : Int} (hR : rightD l C = true) (hk : isK l sel 23 = true) (hm : hasA (nd l sel.toNat) oMul = false) : OneD l sel (fixO l C sel) := by
  have e : fixO l C sel = fixP l C sel := if_pos hR
  rw [e]
  have := fix_one hR hk hm
  exact ⟨by rw [fix_len]; exact (rightD_is hR).2.symm, this.1, this.2⟩
theorem one_reset {l : List Nd} {C : List Ct} {sel : Int} (hR : rightD l C = true) (hk : isK l sel 23 = true) (hm : hasA (nd l sel.toNat) oMul = false) : OneD l sel (resetO l C sel) := by
  have e : resetO l C sel = fixP l (updP (rstF l) (listP l sel) C) sel := if_pos hR
  rw [e]
  have h2 : rightD l (updP (rstF l) (listP l sel) C) = true := by rw [rightD_len (updC_len ..)]; exact hR
  have := fix_one h2 hk hm
  exact ⟨by rw [fix_len, updC_len]; exact (rightD_is hR).2.symm, this.1, this.2⟩
theorem count_step {f : Int → Bool} {xs : List Int} {j : Nat} (h : j < xs.length) : ((xs.take (j + 1)).filter f).length = ((xs.take j).filter f).length + (if f xs[j] = true then 1 else 0) := by
  rw [List.take_succ_eq_append_getElem h, List.filter_append, List.length_append]
  congr 1
  cases q : f xs[j] <;> simp [q]
theorem any_step {f : Int → Bool} {xs : List Int} {j : Nat} (h : j < xs.length) : (xs.take (j + 1)).any f = ((xs.take j).any f || f xs[j]) := by
  rw [List.take_succ_eq_append_getElem h, List.any_append]
  simp
theorem count_few (f : Int → Bool) (xs : List Int) (j : Nat) : ((xs.take j).filter f).length ≤ xs.length := Nat.le_trans (List.length_filter_le ..) (List.length_take_le' ..)
theorem index_pair (x y : Value) : (∀ w, (Instr.index 44 (.agg #[x, y]) (.int .i64 0)).run Tryd.prog w = .ok x w) ∧ (∀ w, (Instr.index 44 (.agg #[x, y]) (.int .i64 1)).run Tryd.prog w = .ok y w) := ⟨fun _ => rfl, fun _ => rfl⟩
set_option maxHeartbeats 8000000 in
theorem optionOne_walk (nv cv : Value) (l : List Nd) (C : List Ct) (sel : Int) (w : World) (hD : DocV w nv cv l C) (hz : DocSz l) (hC : CsOK C) (hT : OpTabs w) :
    Calls Tryd.prog 5 #[.agg #[nv, cv], .int .i64 sel] w fun e w' => e = .returned (.bool true) ∧ Below w.heap.size w w' := by
  have HD := hide hD
  have HZ := hide hz
  have HO := hide hC
  have HT := hide hT
  have HW := hide (fun W (hb : Below w.heap.size w W) => opWakes_any W (HT.out.below hb))
  have HC := hide (fun W (hb : Below w.heap.size w W) => opCopied_any nv cv l C W (HD.out.below hb) HZ.out HO.out)
  have H1 := hide (fun W (hb : Below w.heap.size w W) => refORight_any nv cv l C W (HD.out.below hb) HZ.out HO.out)
  have H2 := hide (fun W (hb : Below w.heap.size w W) => refIs_any nv l sel 23 W (HD.out.nds.below hb) HZ.out)
  have H4 := hide (fun nv cv W (hb : Below w.heap.size w W) (hd : DocV W nv cv l C) => opFix_any nv cv l C sel W hd HZ.out HO.out (HT.out.below hb))
  have H5 := hide (fun nv cv W (hb : Below w.heap.size w W) (hd : DocV W nv cv l C) => opReset_any nv cv l C sel W hd HZ.out HO.out (HT.out.below hb))
  have H6 := hide (fun W (hb : Below w.heap.size w W) => refOList_any nv l sel W (HD.out.nds.below hb) HZ.out)
  have H7 := hide (fun W (hb : Below w.heap.size w W) => refOSize_any nv l sel W (HD.out.nds.below hb) HZ.out)
  have H8 := hide (fun (o : Int) W (hb : Below w.heap.size w W) => refOff_any nv l o W (HD.out.nds.below hb) HZ.out)
  obtain ⟨pn, kn, rfl⟩ := nds_form hD.nds
  obtain ⟨pc, kc, rfl⟩ := cts_form hD.cts
  have B0 : Hid (Below w.heap.size w (w.alloc (.cells #[.slice pn l.length kn, .slice pc C.length kc] 25))) := (Below.refl _ w).alloc (Nat.le_refl _) _
  have ND := hide (Bk.new w [.slice pn l.length kn, .slice pc C.length kc] 25)
  have NV := hide hD.nds
  cases hR : rightD l C with
  | false =>
    rw [hR] at H1
    clear hR hD hz hC hT HD HZ HO HT
    go_enter Tryd.func5, Tryd.ntmps5
    go_upto_region 1 with fail
    generalize w.alloc (.cells #[.slice pn l.length kn, .slice pc C.length kc] 25) = w0 at *
    go_wp2_with fail
    refine (HW.out _ B0.out).mono ?_
    rintro e w1 ⟨rfl, b1⟩
    have B1 := hide (chain B0.out b1)
    replace ND := hide (ND.out.below b1)
    clear b1 B0
    have x0 := ND.out.cell 0 rfl
    have x1 := ND.out.cell 1 rfl
    go_wp2_with fail
    refine (H1.out _ B1.out).mono ?_
    rintro e w2 ⟨rfl, b2⟩
    go_wp2_with fail
    go_ret
    exact ⟨rfl, chain B1.out b2⟩
  | true =>
    rw [hR] at H1
    cases hk : isK l sel 23 with
    | false =>
      rw [hk] at H2
      clear hk hR hD hz hC hT HD HZ HO HT
      go_enter Tryd.func5, Tryd.ntmps5
      go_upto_region 1 with fail
      generalize w.alloc (.cells #[.slice pn l.length kn, .slice pc C.length kc] 25) = w0 at *
      go_wp2_with fail
      refine (HW.out _ B0.out).mono ?_
      rintro e w1 ⟨rfl, b1⟩
      have B1 := hide (chain B0.out b1)
      replace ND := hide (ND.out.below b1)
      clear b1 B0
      have x0 := ND.out.cell 0 rfl
      have x1 := ND.out.cell 1 rfl
      go_wp2_with fail
      refine (H1.out _ B1.out).mono ?_
      rintro e w2 ⟨rfl, b2⟩
      have B2 := hide (chain B1.out b2)
      replace ND := hide (ND.out.below b2)
      clear x0 x1
      have x0 := ND.out.cell 0 rfl
      go_wp2_with fail
      refine (H2.out _ B2.out).mono ?_
      rintro e w3 ⟨rfl, b3⟩
      go_wp2_with fail
      go_ret
      exact ⟨rfl, chain B2.out b3⟩
    | true =>
      rw [hk] at H2
      obtain ⟨m, rfl, hm0⟩ : ∃ m : Nat, sel = (m : Int) ∧ m < l.length := by
        have q := hk
        unfold isK hasN at q
        rw [Bool.and_eq_true, Bool.and_eq_true, decide_eq_true_eq] at q
        exact ⟨sel.toNat, by omega, by omega⟩
      have i0 : (0 : Int) ≤ (m : Int) := by omega
      have i1 : (m : Int) < (l.length : Int) := by omega
      obtain ⟨b, o, rfl, hn⟩ : ∃ b o, pn = some ⟨b, o, none⟩ ∧ ∀ i (h : i < l.length), ∃ va vk, NodeAt w b (o + i * 5) l[i] va vk := by
        obtain ⟨p', c', e, h⟩ := NV.out
        cases e
        rcases h with h | h
        · rw [h] at hm0; cases hm0
        · exact h
      obtain ⟨va, vk, N0⟩ := hn m hm0
      have N0' := hide N0
      have HH := hide (fun W (hb : Below w.heap.size w W) => refOHas_any l[m] va vk oMul W (N0'.out.at_.below hb) (HZ.out.nds l[m] (List.getElem_mem _)).attrs)
      have en : nd l (m : Int).toNat = l[m] := nd_at hm0
      obtain ⟨pa, ka, rfl, _⟩ := N0.at_
      obtain ⟨pk, kk, rfl, _⟩ := N0.ks
      have LF := list_few (rightD_is hR).1 (m : Int)
      cases hm : hasA l[m] oMul with
      | true =>
        rw [hm, show oMul = ⟨#[109, 117, 108, 116, 105, 112, 108, 101]⟩ from rfl] at HH
        clear hk hR hD hz hC hT HD HZ HO HT hn N0 en hm
        go_enter Tryd.func5, Tryd.ntmps5
        go_upto_region 1 with fail
        generalize w.alloc (.cells #[.slice (some ⟨b, o, none⟩) l.length kn, .slice pc C.length kc] 25) = w0 at *
        go_wp2_with fail
        refine (HW.out _ B0.out).mono ?_
        rintro e w1 ⟨rfl, b1⟩
        have B1 := hide (chain B0.out b1)
        replace ND := hide (ND.out.below b1)
        clear b1 B0
        have x0 := ND.out.cell 0 rfl
        have x1 := ND.out.cell 1 rfl
        go_wp2_with fail
        refine (H1.out _ B1.out).mono ?_
        rintro e w2 ⟨rfl, b2⟩
        have B2 := hide (chain B1.out b2)
        replace ND := hide (ND.out.below b2)
        clear x0 x1 b2 B1
        have x0 := ND.out.cell 0 rfl
        go_wp2_with fail
        refine (H2.out _ B2.out).mono ?_
        rintro e w3 ⟨rfl, b3⟩
        have B3 := hide (chain B2.out b3)
        replace ND := hide (ND.out.below b3)
        clear x0 b3 B2
        have x0 := ND.out.cell 0 rfl
        have N3 := hide (N0'.out.below B3.out)
        have a0 := N3.out.name
        have a1 := N3.out.text
        have a2 := N3.out.attrs
        have a3 := N3.out.parent
        have a4 := N3.out.kids
        go_wp2_with fail
        refine (HH.out _ B3.out).mono ?_
        rintro e w4 ⟨rfl, b4⟩
        go_wp2_with fail
        go_ret
        exact ⟨rfl, chain B3.out b4⟩
      | false =>
        have OF := hide (one_fix hR hk (by rw [en]; exact hm))
        have OR := hide (one_reset hR hk (by rw [en]; exact hm))
        have RNG := hide (list_in (l := l) (sel := (m : Int))).2
        rw [hm, show oMul = ⟨#[109, 117, 108, 116, 105, 112, 108, 101]⟩ from rfl] at HH
        clear hk hR hD hz hC hT HD HZ HO HT hn N0 en hm
        generalize fixO l C (m : Int) = DF at *
        generalize resetO l C (m : Int) = DR at *
        go_enter Tryd.func5, Tryd.ntmps5
        go_upto_region 1 with fail
        generalize w.alloc (.cells #[.slice (some ⟨b, o, none⟩) l.length kn, .slice pc C.length kc] 25) = w0 at *
        go_wp2_with fail
        refine (HW.out _ B0.out).mono ?_
        rintro e w1 ⟨rfl, b1⟩
        have B1 := hide (chain B0.out b1)
        replace ND := hide (ND.out.below b1)
        clear b1 B0
        have x0 := ND.out.cell 0 rfl
        have x1 := ND.out.cell 1 rfl
        go_wp2_with fail
        refine (H1.out _ B1.out).mono ?_
        rintro e w2 ⟨rfl, b2⟩
        have B2 := hide (chain B1.out b2)
        replace ND := hide (ND.out.below b2)
        clear x0 x1 b2 B1
        have x0 := ND.out.cell 0 rfl
        go_wp2_with fail
        refine (H2.out _ B2.out).mono ?_
        rintro e w3 ⟨rfl, b3⟩
        have B3 := hide (chain B2.out b3)
        replace ND := hide (ND.out.below b3)
        clear x0 b3 B2
        have x0 := ND.out.cell 0 rfl
        have N3 := hide (N0'.out.below B3.out)
        have a0 := N3.out.name
        have a1 := N3.out.text
        have a2 := N3.out.attrs
        have a3 := N3.out.parent
        have a4 := N3.out.kids
        go_wp2_with fail
        refine (HH.out _ B3.out).mono ?_
        rintro e w4 ⟨rfl, b4⟩
        have B4 := hide (chain B3.out b4)
        replace ND := hide (ND.out.below b4)
        clear x0 b4 B3 N3 a0 a1 a2 a3 a4 HH H1 H2 N0'
        have x0 := ND.out.cell 0 rfl
        have x1 := ND.out.cell 1 rfl
        go_wp2_with fail
        go_region_held3 (fun w' => w'.cell? ⟨w.heap.size, 0, none⟩ = some (.slice (some ⟨b, o, none⟩) l.length kn) ∧ w'.cell? ⟨w.heap.size, 1, none⟩ = some (.slice pc C.length kc)) (first | go_keep | exact ⟨cell_below x0 U5.out, cell_below x1 U5.out⟩ | exact ⟨cell_below x0 U6.out, cell_below x1 U6.out⟩ | exact ⟨cell_below x0 U7.out, cell_below x1 U7.out⟩ | exact ⟨cell_below x0 U8.out, cell_below x1 U8.out⟩)
          (first | (go_at_call 11; refine (H5.out _ _ _ B7.out D7.out).mono ?_; rintro e w8 ⟨v8, rfl, g8, b8⟩; have U8 : Hid (Below w4.heap.size w4 w8) := chain U7.out b8; have B8 : Hid (Below w.heap.size w w8) := chain B4.out U8.out; have G8 := hide g8; obtain ⟨p8, k8, rfl⟩ := cts_form g8; clear g8) | (go_at_call 7; have hz7 := B6; refine (HC.out _ B6.out).mono ?_; rintro e w7 ⟨n7, c7, rfl, d7, b7⟩; have U7 : Hid (Below w4.heap.size w4 w7) := chain U6.out b7; have B7 : Hid (Below w.heap.size w w7) := chain B4.out U7.out; have D7 := hide d7; obtain ⟨p7, k7, rfl⟩ := nds_form d7.nds; obtain ⟨q7, m7, rfl⟩ := cts_form d7.cts; clear d7) | (go_at_call 13; refine (H4.out _ _ _ B5.out D5.out).mono ?_; rintro e w6 ⟨v6, rfl, g6, b6⟩; have U6 : Hid (Below w4.heap.size w4 w6) := chain U5.out b6; have B6 : Hid (Below w.heap.size w w6) := chain B4.out U6.out; have G6 := hide g6; obtain ⟨p6, k6, rfl⟩ := cts_form g6; clear g6) | (go_at_call 7; refine (HC.out _ (belRO B4.out 1)).mono ?_; rintro e w5 ⟨n5, c5, rfl, d5, b5⟩; have U5 : Hid (Below w4.heap.size w4 w5) := undrewO b5; have B5 : Hid (Below w.heap.size w w5) := chain B4.out U5.out; have D5 := hide d5; obtain ⟨p5, k5, rfl⟩ := nds_form d5.nds; obtain ⟨q5, m5, rfl⟩ := cts_form d5.cts; clear d5))
        have F8 := hide ((G6.out.below b7).below b8)
        replace ND := hide (ND.out.below U8.out)
        clear x0 x1 b5 b6 b7 b8 U5 U6 U7 U8 B4 B5 B6 B7 D5 D7 G6 H4 H5 HC HW
        go_wp2_with fail
        go_loopw [40] (fun iv wr => ∃ j : Nat, j ≤ 2 ∧ iv = .int .i64 j ∧ Hid (Below w8.heap.size w8 wr)) (fun iv _ => 2 - (intOf iv).toNat)
        case atStart => exact ⟨0, by omega, rfl, Below.refl _ _⟩
        case round =>
          rename World => wr
          obtain ⟨j, hj, rfl, BW⟩ := hrel
          have BR := hide (chain B8.out BW.out)
          have NDr := hide (ND.out.below BW.out)
          by_cases h : j < 2
          · have j2 : (j : Int) < 2 := by omega
            have j0 : (0 : Int) ≤ (j : Int) := by omega
            obtain ⟨cp, ck, D, hix, hcd, hO⟩ : ∃ p k D, (∀ W, (Instr.index 44 (.agg #[.slice p6 DF.length k6, .slice p8 DR.length k8]) (.int .i64 (j : Int))).run Tryd.prog W = .ok (.slice p D.length k) W) ∧ CtsV wr (.slice p D.length k) D ∧ OneD l (m : Int) D := by
              rcases (show j = 0 ∨ j = 1 by omega) with rfl | rfl
              · exact ⟨p6, k6, DF, (index_pair _ _).1, F8.out.below BW.out, OF.out⟩
              · exact ⟨p8, k8, DR, (index_pair _ _).2, G8.out.below BW.out, OR.out⟩
            have dl := hO.len
            obtain ⟨cb, co, ck', ec, FL0⟩ := cts_sel hcd (by omega)
            cases ec
            have FL := hide FL0
            have MO := hide hO.most
            have LE := hide hO.least
            clear hcd hO FL0 OF OR F8 G8
            have x0 := NDr.out.cell 0 rfl
            go_wp2_with fail
            refine (H6.out _ BR.out).mono ?_
            rintro e w9 ⟨v9, rfl, i9, b9⟩
            obtain ⟨p9, k9, rfl, hi⟩ := i9.ints
            have HI := hide hi
            have B9 := hide (chain BR.out b9)
            have ND9 := hide (NDr.out.below b9)
            have FL9 : Hid (∀ i (hi : i < D.length), w9.cell? ⟨cb, co + i * 10 + 6, none⟩ = some (.bool (st D (i : Int)).sel)) := fun i hi => by
              have e : st D (i : Int) = D[i] := by
                unfold st
                rw [List.getD_eq_getElem?_getD, Int.toNat_natCast, List.getElem?_eq_getElem hi, Option.getD_some]
              rw [e]
              exact cell_below (FL.out i hi) b9
            generalize listP l (m : Int) = lp at *
            generalize sizeP l (m : Int) = sz at *
            have BL := hide (chain BW.out b9)
            clear i9 hi x0 FL b9 BR
            go_wp2_with fail
            go_loopw [7, 8, 48] (fun cv ov iv wq => ∃ k : Nat, k ≤ lp.length ∧ iv = .int .i64 k ∧ cv = .int .i64 (((lp.take k).filter fun i => (st D i).sel).length : Nat) ∧ ov = .bool ((lp.take k).any fun o => !offP l o) ∧ Hid (Below w9.heap.size w9 wq)) (fun _ _ iv _ => lp.length - (intOf iv).toNat)
            case atStart => exact ⟨0, Nat.zero_le _, rfl, by rw [List.take_zero]; rfl, by rw [List.take_zero]; rfl, Below.refl _ _⟩
            case round =>
              rename World => wq
              obtain ⟨k, hk, rfl, rfl, rfl, BQ⟩ := hrel
              have BS := hide (chain B9.out BQ.out)
              have NDq := hide (ND9.out.below BQ.out)
              have x0 := NDq.out.cell 0 rfl
              by_cases h' : k < lp.length
              · have z1 : (k : Int) < (lp.length : Int) := by omega
                have z0 : (0 : Int) ≤ (k : Int) := by omega
                obtain ⟨lb, lo, rfl, hc⟩ : ∃ b o, p9 = some ⟨b, o, none⟩ ∧ ∀ i (h : i < lp.length), w9.cell? ⟨b, o + i, none⟩ = some (.int .i64 lp[i]) := by
                  rcases HI.out with t | t
                  · rw [t] at h'; simp at h'
                  · exact t
                have rx := RNG.out lp[k] (List.getElem_mem _)
                obtain ⟨q, eq, hq⟩ : ∃ q : Nat, lp[k] = (q : Int) ∧ q < l.length := ⟨lp[k].toNat, by omega, by omega⟩
                have cj := cell_below (hc k h') BQ.out
                rw [eq] at cj
                have fj := cell_below (FL9.out q (by omega)) BQ.out
                have q0 : (0 : Int) ≤ (q : Int) := by omega
                have q1 : (q : Int) < (D.length : Int) := by omega
                have S1 := hide (count_step (f := fun i => (st D i).sel) h')
                have S2 := hide (any_step (f := fun o => !offP l o) h')
                rw [eq] at S1 S2
                have HX := hide (fun W (hb : Below w.heap.size w W) => H8.out (q : Int) W hb)
                have cf := count_few (fun i => (st D i).sel) lp k
                clear hc rx eq HI FL9 MO LE RNG
                generalize offP l (q : Int) = oq at *
                generalize (st D (q : Int)).sel = sq at *
                generalize hN : ((lp.take k).filter fun i => (st D i).sel).length = nk at *
                generalize hM : ((lp.take k).any fun o => !offP l o) = mk at *
                clear hN hM
                have n62 : (nk : Int) < 400000 := by omega
                cases sq with
                | true =>
                  have E1 : Hid (((lp.take (k + 1)).filter fun i => (st D i).sel).length = nk + 1) := by show _ = _; rw [S1.out]; rfl
                  cases mk with
                  | true =>
                    have E2 : Hid (((lp.take (k + 1)).any fun o => !offP l o) = true) := by show _ = _; rw [S2.out]; rfl
                    clear S1 S2
                    go_wp2_with fail
                    go_roundw
                    case rel => exact ⟨k + 1, by omega, by go_num, by rw [E1.out]; go_num, by rw [E2.out], BQ⟩
                    case measure => simp [intOf]; omega
                  | false =>
                    have E2 : Hid (((lp.take (k + 1)).any fun o => !offP l o) = !oq) := by show _ = _; rw [S2.out]; rfl
                    clear S1 S2
                    go_wp2_with fail
                    refine (HX.out _ BS.out).mono ?_
                    rintro e wz ⟨rfl, bz⟩
                    go_wp2_with fail
                    go_roundw
                    case rel => exact ⟨k + 1, by omega, by go_num, by rw [E1.out]; go_num, by rw [E2.out], chain BQ.out bz⟩
                    case measure => simp [intOf]; omega
                | false =>
                  have E1 : Hid (((lp.take (k + 1)).filter fun i => (st D i).sel).length = nk) := by show _ = _; rw [S1.out]; rfl
                  cases mk with
                  | true =>
                    have E2 : Hid (((lp.take (k + 1)).any fun o => !offP l o) = true) := by show _ = _; rw [S2.out]; rfl
                    clear S1 S2
                    go_wp2_with fail
                    go_roundw
                    case rel => exact ⟨k + 1, by omega, by go_num, by rw [E1.out], by rw [E2.out], BQ⟩
                    case measure => simp [intOf]; omega
                  | false =>
                    have E2 : Hid (((lp.take (k + 1)).any fun o => !offP l o) = !oq) := by show _ = _; rw [S2.out]; rfl
                    clear S1 S2
                    go_wp2_with fail
                    refine (HX.out _ BS.out).mono ?_
                    rintro e wz ⟨rfl, bz⟩
                    go_wp2_with fail
                    go_roundw
                    case rel => exact ⟨k + 1, by omega, by go_num, by rw [E1.out], by rw [E2.out], chain BQ.out bz⟩
                    case measure => simp [intOf]; omega
              · obtain rfl : k = lp.length := by omega
                rw [List.take_length]
                have mo := MO.out
                have LL := hide LE.out
                clear HI FL9 MO LE RNG h'
                generalize hN : (lp.filter fun i => (st D i).sel).length = nk at *
                generalize hM : (lp.any fun o => !offP l o) = mk at *
                have GO : Hid (Below w8.heap.size w8 wq) := chain BL.out BQ.out
                by_cases n0 : nk = 0
                · subst n0
                  cases mk with
                  | false =>
                    clear hN hM LL mo
                    go_wp2_with fail
                    go_roundw
                    case rel => exact ⟨j + 1, by omega, by go_num, GO⟩
                    case measure => simp [intOf]; omega
                  | true =>
                    have s1 : ¬ sz = 1 := fun q => by
                      have := LL.out rfl q
                      obtain ⟨x, hx, qx⟩ := List.any_eq_true.1 hM
                      have := List.all_eq_true.1 this x hx
                      rw [this] at qx
                      cases qx
                    have s2 : (sz == 1) = false := beq_eq_false_iff_ne.2 s1
                    clear hN hM LL mo
                    go_wp2_with fail
                    refine (H7.out _ BS.out).mono ?_
                    rintro e wz ⟨rfl, bz⟩
                    go_wp2_with fail
                    go_roundw
                    case rel => exact ⟨j + 1, by omega, by go_num, chain GO.out bz⟩
                    case measure => simp [intOf]; omega
                · obtain rfl : nk = 1 := by omega
                  clear hN hM LL mo n0
                  go_wp2_with fail
                  go_roundw
                  case rel => exact ⟨j + 1, by omega, by go_num, GO⟩
                  case measure => simp [intOf]; omega
          · obtain rfl : j = 2 := by omega
            go_wp2_with fail
            go_ret
            exact ⟨rfl, BR.out⟩

end Go.Proofs.YtemikdmkjgmflaaDoor
