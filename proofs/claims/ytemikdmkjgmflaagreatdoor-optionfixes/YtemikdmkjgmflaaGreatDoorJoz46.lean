/- The example of layer 15's statements, and how long the states are that its functions answer. The document's Value of layer 15. -/
import Derived.Test.YtemikdmkjgmflaaGreatDoorJoz37
import Derived.Test.YtemikdmkjgmflaaGreatDoorJoz38
import Derived.Test.YtemikdmkjgmflaaGreatDoorJoz41

namespace Go.Proofs.YtemikdmkjgmflaaGreatDoor
open Go.RowKit
theorem alike_fix (l : List Nd) (C : List Ct) (sel : Int) : Alike C (fixP l C sel) := by
  unfold fixP
  split
  · exact alike_only ..
  · exact .refl _
theorem fixO_ok {l : List Nd} {C : List Ct} {sel : Int} (h : CsOK C) : CsOK (fixO l C sel) := by
  unfold fixO
  split
  · exact (alike_fix l C sel).ok h
  · exact nil_csok
end Go.Proofs.YtemikdmkjgmflaaGreatDoor

namespace Go.Proofs.YtemikdmkjgmflaaGreatDoor
open Go.RowKit
set_option maxRecDepth 100000
def firstT (l : List Nd) (C : List Ct) (xs : List Int) : ByteArray := match xs.find? (fun i => (st C i).sel) with
  | none => ⟨#[]⟩
  | some i => textO l i
theorem firstT_yes {l : List Nd} {C : List Ct} {all : List Int} {k : Nat} (h : k < all.length) (hs : (st C all[k]).sel = true) : firstT l C (all.drop k) = textO l all[k] := by
  unfold firstT
  rw [List.drop_eq_getElem_cons h, List.find?_cons_of_pos (p := fun i => (st C i).sel) hs]
theorem firstT_no {l : List Nd} {C : List Ct} {all : List Int} {k : Nat} (h : k < all.length) (hs : (st C all[k]).sel = false) : firstT l C (all.drop k) = firstT l C (all.drop (k + 1)) := by
  unfold firstT
  rw [List.drop_eq_getElem_cons h, List.find?_cons_of_neg (p := fun i => (st C i).sel) (by rw [hs]; decide)]
set_option maxHeartbeats 8000000 in
theorem refOValue_any (nv cv : Value) (l : List Nd) (C : List Ct) (sel : Int) (w : World) (hD : DocV w nv cv l C) (hz : DocSz l) (hC : CsOK C) :
    Calls Tryz.prog 24 #[.agg #[nv, cv], .int .i64 sel] w fun e w' => e = .returned (.string (valueO l C sel)) ∧ Below w.heap.size w w' := by
  obtain ⟨F, hF⟩ := hD.cts
  have CF := hide hF
  have E0 := hide (OEnv.new w nv cv)
  have HR := hide (fun W (hb : Below w.heap.size w W) => refORight_any nv cv l C W (hD.below hb) hz hC)
  have HL := hide (fun W (hb : Below w.heap.size w W) => refOList_any nv l sel W (hD.nds.below hb) hz)
  have HTx := hide (fun i W (hb : Below w.heap.size w W) => refOText_any nv l i W (hD.nds.below hb) hz)
  obtain ⟨p, c, ep⟩ := nds_form hD.nds
  obtain ⟨p2, c2, ep2⟩ := cts_form hD.cts
  have hl := hz.len
  have hl2 := hC.len
  subst ep ep2
  clear hD hz hC hF
  cases h : rightD l C with
  | false =>
    have E : Hid (valueO l C sel = ⟨#[]⟩) := if_neg (by rw [h]; decide)
    rw [h] at HR
    clear h HL HTx CF
    go_enter Tryz.func24, Tryz.ntmps24
    go_wp2_with fail
    refine (HR.out _ E0.out.bel).mono ?_
    rintro e w1 ⟨rfl, b1⟩
    have E1 := hide (E0.out.step b1)
    clear b1 E0
    go_wp2_with fail
    go_ret
    exact ⟨ret_str E.out.symm, E1.out.bel⟩
  | true =>
    have HRt := hide (rightD_is h).1
    have HLC := hide (rightD_is h).2
    have hlen := HRt.out.len.2
    have few := list_few HRt.out sel
    have EV : Hid (valueO l C sel = firstT l C (listP l sel)) := if_pos h
    rw [h] at HR
    obtain ⟨_, rng⟩ := list_in (l := l) (sel := sel)
    have RG : Hid (∀ i ∈ listP l sel, 0 ≤ i ∧ i < (C.length : Int)) := fun i hi => by have := rng i hi; have := HLC.out; omega
    clear h rng
    generalize listP l sel = all at *
    generalize valueO l C sel = V at *
    go_enter Tryz.func24, Tryz.ntmps24
    go_wp2_with fail
    refine (HR.out _ E0.out.bel).mono ?_
    rintro e w1 ⟨rfl, b1⟩
    have E1 := hide (E0.out.step b1)
    clear b1 E0
    have c0 := E1.out.doc.cell 0 rfl
    go_wp2_with fail
    refine (HL.out _ E1.out.bel).mono ?_
    rintro e w5 ⟨av, rfl, k5, b5⟩
    have E5 := hide (E1.out.listed b5 k5)
    obtain ⟨pa, ca, rfl, hca⟩ := kids_form k5
    clear b5 c0 HR HL k5 E1
    have EV0 : Hid (V = firstT l C (all.drop 0)) := by show _ = _; rw [List.drop_zero]; exact EV.out
    clear EV
    go_wp2_with fail
    go_loopw [6] (fun iv wr => ∃ k : Nat, k ≤ all.length ∧ iv = .int .i64 k ∧ Hid (V = firstT l C (all.drop k)) ∧ Hid (OEnv w wr (.slice p l.length c) (.slice p2 C.length c2) (.slice none 0 0) [] [] (.slice pa all.length ca) all)) (fun iv _ => all.length - (intOf iv).toNat)
    case atStart => exact ⟨0, Nat.zero_le _, rfl, EV0, E5⟩
    case round =>
      rename World => wr
      obtain ⟨k, hk, rfl, EV, ER⟩ := hrel
      clear EV0 E5
      by_cases g : k < all.length
      · have k1 : (k : Int) < (all.length : Int) := by omega
        have rx := RG.out all[k] (List.getElem_mem g)
        obtain ⟨q, eq, hq⟩ := nat_of (z := all[k]) (n := C.length) (by omega) rx.2
        obtain ⟨ga, rfl, x0, _⟩ := own_num ER.out g
        have c0 := ER.out.doc.cell 0 rfl
        have c1 := ER.out.doc.cell 1 rfl
        have FY := hide (firstT_yes (l := l) (C := C) g)
        have FN := hide (firstT_no (l := l) (C := C) g)
        rw [eq] at x0
        rw [eq, st_nat hq] at FY FN
        obtain ⟨_, p', k', e', hcs⟩ := CF.out
        cases e'
        have hcs' : ∃ b o, p2 = some ⟨b, o, none⟩ ∧ ∀ i (h : i < C.length), CtAt w b (o + i * 10) C[i] (fvAt F i) := by
          rcases hcs with t | t
          · rw [t] at hq; simp at hq
          · exact t
        obtain ⟨bc, oc, rfl, hct⟩ := hcs'
        have y0 := ((hct q hq).below ER.out.bel) 6 _ rfl
        have q0 : (0 : Int) ≤ (q : Int) := by omega
        have q1 : (q : Int) < (C.length : Int) := by omega
        have HTq := hide (fun W hb => HTx.out (q : Int) W hb)
        clear rx eq RG hcs hct CF HRt HLC HTx
        cases hs : C[q].sel with
        | true =>
          have EE := hide (EV.out.trans (FY.out hs))
          replace y0 : wr.cell? ⟨bc, oc + q * 10 + 6, none⟩ = some (.bool true) := by rw [← hs]; exact y0
          clear FY FN hs EV
          generalize textO l (q : Int) = tx at *
          go_wp2_with fail
          go_quiet (fail)
          go_wp2_with fail
          generalize hwq : wr.drewN nq = wq
          have ER2 : Hid (OEnv w wq (.slice p l.length c) (.slice (some ⟨bc, oc, none⟩) C.length c2) (.slice none 0 0) [] [] (.slice (some ⟨ga, 0, none⟩) all.length ca) all) := by rw [← hwq]; exact ER.out.drew nq
          have d0 := ER2.out.doc.cell 0 rfl
          have x2 : wq.cell? ⟨ga, k, none⟩ = some (.int .i64 (q : Int)) := by rw [← hwq]; exact x0
          clear hwq ER c0 c1 x0 y0
          go_region_held3 (fun w' => w'.cell? ⟨w.heap.size, 0, none⟩ = some (.slice p l.length c) ∧ w'.cell? ⟨ga, k, none⟩ = some (.int .i64 (q : Int))) (first | go_keep | exact ⟨cell_below d0 UR.out, cell_below x2 UR.out⟩)
            (first | (go_at_call 16; refine (HTq.out _ (belR ER2.out.bel 1)).mono ?_; rintro e wv ⟨rfl, bv⟩; have UR : Hid (Below wq.heap.size wq wv) := undrewO bv))
          go_wp2_with fail
          go_ret
          exact ⟨ret_str EE.out.symm, chain ER2.out.bel UR.out⟩
        | false =>
          have EN := hide (EV.out.trans (FN.out hs))
          replace y0 : wr.cell? ⟨bc, oc + q * 10 + 6, none⟩ = some (.bool false) := by rw [← hs]; exact y0
          clear FY FN hs EV HTq
          go_wp2_with fail
          go_quiet (fail)
          go_wp2_with fail
          go_roundw
          case rel => exact ⟨k + 1, by omega, by go_num, EN, ER.out.drew _⟩
          case measure => simp [intOf]; omega
      · obtain rfl : k = all.length := by omega
        have EE : Hid (V = ⟨#[]⟩) := by show _ = _; rw [EV.out, List.drop_length]; rfl
        clear RG HTx CF EV
        go_wp2_with fail
        go_ret
        exact ⟨ret_str EE.out.symm, ER.out.bel⟩

end Go.Proofs.YtemikdmkjgmflaaGreatDoor
