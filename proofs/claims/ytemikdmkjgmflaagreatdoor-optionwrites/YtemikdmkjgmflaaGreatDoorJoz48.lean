/- A select's options and which of them are selected, as functions of documents and states. The example of layer 15's statements, and how long the states are that its functions answer. The program's Write of layer 15. The document's Write of layer 15. Stage 15's laws OptionChooses and OptionWrites, walked. -/
import Derived.Test.YtemikdmkjgmflaaGreatDoorJoz37
import Derived.Test.YtemikdmkjgmflaaGreatDoorJoz38
import Derived.Test.YtemikdmkjgmflaaGreatDoorJoz41
import Derived.Test.YtemikdmkjgmflaaGreatDoorJoz49

namespace Go.Proofs.YtemikdmkjgmflaaGreatDoor
open Go.RowKit
def pickW (l : List Nd) (all : List Int) (s : ByteArray) : Int := (all.find? fun i => decide (textO l i = s)).getD (-1)
def writeC (l : List Nd) (C : List Ct) (sel : Int) (s : ByteArray) : List Ct := if 0 ≤ pickW l (listP l sel) s then setC (onlyP C (listP l sel) (pickW l (listP l sel) s)) (pickW l (listP l sel) s) { st (onlyP C (listP l sel) (pickW l (listP l sel) s)) (pickW l (listP l sel) s) with dsel := true } else onlyP C (listP l sel) (pickW l (listP l sel) s)
def writeO (l : List Nd) (C : List Ct) (sel : Int) (s : ByteArray) : List Ct := if rightD l C = true then writeC l C sel s else []
/-- What a program chose is the value. -/
theorem write_value {l : List Nd} {C : List Ct} {sel : Int} {s : ByteArray} (hR : rightD l C = true) (h : ∃ o ∈ listP l sel, textO l o = s) : valueO l (writeO l C sel s) sel = s := by
  obtain ⟨_, rng⟩ := list_in (l := l) (sel := sel)
  have hC := (rightD_is hR).2
  have ew : writeO l C sel s = writeC l C sel s := if_pos hR
  rw [ew]
  obtain ⟨o, ho, ht⟩ := h
  have F : ∃ x, (listP l sel).find? (fun i => decide (textO l i = s)) = some x := by
    cases e : (listP l sel).find? fun i => decide (textO l i = s) with
    | none =>
      rw [List.find?_eq_none] at e
      exact absurd (decide_eq_true ht) (e o ho)
    | some x => exact ⟨x, rfl⟩
  obtain ⟨x, ex⟩ := F
  have hx := List.mem_of_find?_eq_some ex
  have tx : textO l x = s := by
    have := List.find?_some ex
    exact of_decide_eq_true this
  have ep : pickW l (listP l sel) s = x := by unfold pickW; rw [ex]; rfl
  have x0 := (rng x hx).1
  have x1 : x < (C.length : Int) := by have := (rng x hx).2; omega
  unfold writeC
  rw [ep, if_pos x0]
  have ol : (onlyP C (listP l sel) x).length = C.length := updC_len ..
  have sl : ∀ i ∈ listP l sel, (st (setC (onlyP C (listP l sel) x) x { st (onlyP C (listP l sel) x) x with dsel := true }) i).sel = decide (i = x) := by
    intro i hi
    have i0 := (rng i hi).1
    have i1 : i < (C.length : Int) := by have := (rng i hi).2; omega
    have so := st_only (C := C) (p := x) hi i0 i1
    by_cases e : i = x
    · subst e
      unfold st setC at *
      rw [List.getD_eq_getElem?_getD, List.getElem?_set_self (by rw [ol]; omega), Option.getD_some]
      exact so
    · rw [← so]
      have e' : st (setC (onlyP C (listP l sel) x) x { st (onlyP C (listP l sel) x) x with dsel := true }) i = st (onlyP C (listP l sel) x) i := by
        show (List.set _ _ _).getD _ _ = _
        rw [List.getD_eq_getElem?_getD, List.getElem?_set_ne (by omega), ← List.getD_eq_getElem?_getD]; rfl
      rw [e']
  have hr : rightD l (setC (onlyP C (listP l sel) x) x { st (onlyP C (listP l sel) x) x with dsel := true }) = true := by
    rw [rightD_len (C := C) (by unfold setC; rw [List.length_set, ol])]; exact hR
  unfold valueO
  rw [if_pos hr]
  generalize setC (onlyP C (listP l sel) x) x { st (onlyP C (listP l sel) x) x with dsel := true } = D at *
  cases e : (listP l sel).find? fun i => (st D i).sel with
  | none =>
    rw [List.find?_eq_none] at e
    have := e x hx
    rw [sl x hx] at this
    exact absurd (decide_eq_true rfl) this
  | some y =>
    have hy := List.mem_of_find?_eq_some e
    have := List.find?_some e
    rw [sl y hy] at this
    have : y = x := of_decide_eq_true this
    show textO l y = s
    rw [this]; exact tx
end Go.Proofs.YtemikdmkjgmflaaGreatDoor

namespace Go.Proofs.YtemikdmkjgmflaaGreatDoor
open Go.RowKit
theorem alike_set {C : List Ct} {i : Int} {c : Ct} (h : ∃ d ∈ C, c.files = d.files ∧ c.val = d.val ∧ c.custom = d.custom) : Alike C (setC C i c) := ⟨by unfold setC; rw [List.length_set], fun j hj => by
  have hj' : j < C.length := by unfold setC at hj; rw [List.length_set] at hj; exact hj
  have e : (setC C i c)[j] = if i.toNat = j then c else C[j] := by
    show (C.set i.toNat c)[j]'(by rw [List.length_set]; exact hj') = _
    rw [List.getElem_set]
  rw [e]
  split
  · exact h
  · exact ⟨_, List.getElem_mem hj', rfl, rfl, rfl⟩⟩
theorem st_some {C : List Ct} {i : Int} (h : i.toNat < C.length) : ∃ d ∈ C, (st C i).files = d.files ∧ (st C i).val = d.val ∧ (st C i).custom = d.custom := by
  unfold st
  rw [List.getD_eq_getElem?_getD, List.getElem?_eq_getElem h]
  exact ⟨_, List.getElem_mem h, rfl, rfl, rfl⟩
theorem set_none {C : List Ct} {i : Int} {c : Ct} (h : ¬ i.toNat < C.length) : setC C i c = C := by
  unfold setC
  exact List.set_eq_of_length_le (by omega)
theorem writeO_ok {l : List Nd} {C : List Ct} {sel : Int} {s : ByteArray} (h : CsOK C) : CsOK (writeO l C sel s) := by
  unfold writeO
  split
  · unfold writeC
    split
    · have a := alike_only C (listP l sel) (pickW l (listP l sel) s)
      generalize onlyP C (listP l sel) (pickW l (listP l sel) s) = D at *
      generalize pickW l (listP l sel) s = p at *
      by_cases q : p.toNat < D.length
      · refine (a.trans (alike_set ?_)).ok h
        obtain ⟨d, hd, e1, e2, e3⟩ := st_some (C := D) (i := p) q
        exact ⟨d, hd, e1, e2, e3⟩
      · rw [set_none q]; exact a.ok h
    · exact (alike_only ..).ok h
  · exact nil_csok
end Go.Proofs.YtemikdmkjgmflaaGreatDoor

namespace Go.Proofs.YtemikdmkjgmflaaGreatDoor
open Go.RowKit Go.Shelf
set_option maxRecDepth 100000
theorem writeO_chg {l : List Nd} {C : List Ct} {sel : Int} {s : ByteArray} : chgO l C sel (writeC l C sel s) = writeO l C sel s := by
  unfold chgO writeO
  split
  · split
    · rfl
    · rename_i h
      have e : listP l sel = [] := if_neg h
      have ew : pickW l (listP l sel) s = -1 := by rw [e]; rfl
      unfold writeC
      rw [ew, if_neg (by decide), e]
      exact (upd_nil _ C).symm
  · rfl
theorem set_files {C : List Ct} {i : Int} {c : Ct} (h : c.files = (st C i).files) : (setC C i c).length = C.length ∧ ∀ j (h1 : j < C.length) (h2 : j < (setC C i c).length), (setC C i c)[j].files = C[j].files := by
  refine ⟨List.length_set, fun j h1 h2 => ?_⟩
  refine (congrArg Ct.files (List.getElem_set (l := C) (i := i.toNat) (j := j) (a := c) (by simpa using h1))).trans ?_
  split
  · rename_i e
    rw [h]
    unfold st
    rw [List.getD_eq_getElem?_getD, e, List.getElem?_eq_getElem h1, Option.getD_some]
  · rfl
theorem writeC_files (l : List Nd) (C : List Ct) (sel : Int) (s : ByteArray) : (writeC l C sel s).length = C.length ∧ ∀ i (h1 : i < C.length) (h2 : i < (writeC l C sel s).length), (writeC l C sel s)[i].files = C[i].files := by
  unfold writeC
  have e := only_files C (listP l sel) (pickW l (listP l sel) s)
  split
  · have f := set_files (C := onlyP C (listP l sel) (pickW l (listP l sel) s)) (i := pickW l (listP l sel) s) (c := { st (onlyP C (listP l sel) (pickW l (listP l sel) s)) (pickW l (listP l sel) s) with dsel := true }) rfl
    exact ⟨f.1.trans e.1, fun i h1 h2 => (f.2 i (by rw [e.1]; exact h1) h2).trans (e.2 i h1 (by rw [e.1]; exact h1))⟩
  · exact e
theorem find_in {f : Int → Bool} {xs : List Int} (h : ¬ (xs.find? f).getD (-1) = -1) : (xs.find? f).getD (-1) ∈ xs := by
  cases e : xs.find? f with
  | none => rw [e] at h; exact absurd rfl h
  | some x => exact List.mem_of_find?_eq_some e
set_option maxHeartbeats 8000000 in
theorem opWrite11_any (l : List Nd) (sel : Int) (p : Option Addr) (c : Nat) (w0 W : World) (B S : Nat) (s : ByteArray) (x : Int) (hv : NodesV w0 (.slice p l.length c) l) (hz : DocSz l) (hk : isK l sel 23 = true) (hR : Right l) (hx : x ∈ optsP l sel) (hb : Below w0.heap.size w0 W) (bL : Boxed W B 22 (.slice p l.length c)) (bS : Boxed W S 9 (.string s)) :
    Calls Tryz.prog 51 #[.int .i64 x, .pointer (some ⟨B, 0, none⟩), .pointer (some ⟨S, 0, none⟩)] W fun e w' => e = .returned (.bool (decide (textO l x = s))) ∧ Below W.heap.size W w' := by
  obtain ⟨m, rfl, hm, hk'⟩ := opts_opt hk hx
  have HO := hide (fun X (hb' : Below W.heap.size W X) => opValueOf_any (.slice p l.length c) l m X (hv.below (chain hb hb')) hz hR hm)
  rw [← text_valA hk'] at HO
  have E := hide (txt_beq (textO l (m : Int)) s)
  have x1 := bL.cell
  have x2 := bS.cell
  have BS := hide bS
  clear bL bS hb hk' hx hR hk hz hv
  generalize hD : decide (textO l (m : Int) = s) = R at *
  clear hD
  generalize textO l (m : Int) = T at *
  go_enter Tryz.func51, Tryz.ntmps51
  go_wp2_with fail
  go_region_held3 (fun w' => w'.cell? ⟨B, 0, none⟩ = some (.slice p l.length c) ∧ w'.cell? ⟨S, 0, none⟩ = some (.string s))
    (first | exact ⟨cell_below (by assumption) b1, cell_below (by assumption) b1⟩ | go_keep)
    (first | (go_at_call 40; refine (HO.out _ (by first | exact Below.refl _ _ | exact ⟨rfl, rfl, rfl, Nat.le_refl _, fun _ _ => rfl⟩)).mono ?_; rintro e w1 ⟨rfl, b1⟩))
  all_goals
    go_wp2_with fail
    go_ret
    exact ⟨ret_bool E.out, undrewB b1⟩
theorem entersWrite11 : ∀ args w, (callFunc 51 args).run Tryz.prog w = .ok (.enter 51 args) w := Go.Proofs.enters_of Tryz.func51 (by kernel_rfl) rfl
theorem entersWrite1 : ∀ args w, (callFunc 49 args).run Tryz.prog w = .ok (.enter 49 args) w := Go.Proofs.enters_of Tryz.func49 (by kernel_rfl) rfl
set_option maxHeartbeats 8000000 in
theorem opWrite1_any (l : List Nd) (sel : Int) (p : Option Addr) (c base : Nat) (ov : Value) (C : List Ct) (F : List Value) (w0 w : World) (S : Nat) (s : ByteArray) (hW : Wrk l sel p c base ov C F w0 w) (hS : Boxed w S 9 (.string s)) :
    Calls Tryz.prog 49 #[.slice p l.length c, ov, .int .i64 sel, .pointer (some ⟨S, 0, none⟩)] w fun e w' => e = .returned (.tuple #[]) ∧ CtsO base w' ov (writeC l C sel s) F ∧ Chg ov.ownBlock.toList w w' := by
  obtain ⟨pv, kv, rfl, hkv⟩ := hW.own.form
  have HW := hide hW
  obtain ⟨w1, hw1⟩ : ∃ w1, w.alloc (.cells #[.slice p l.length c] 22) = w1 := ⟨_, rfl⟩
  have b1 : Below w.heap.size w w1 := by rw [← hw1]; exact (Below.refl _ w).alloc (Nat.le_refl _) _
  have bN1 : Boxed w1 w.heap.size 22 (.slice p l.length c) := by rw [← hw1]; exact Boxed.new w _ _
  have bS1 : Boxed w1 S 9 (.string s) := (b1.block _ hS.lt).trans hS
  have ALL := hide (list_opts hW.kind)
  have x1 := bN1.cell
  have EP : Hid (pickW l (listP l sel) s = ((listP l sel).find? fun i => decide (textO l i = s)).getD (-1)) := rfl
  have GE : Hid (pickW l (listP l sel) s = -1 ∨ ∃ q : Nat, pickW l (listP l sel) s = (q : Int) ∧ q < C.length) := by
    show _ ∨ _
    by_cases q : pickW l (listP l sel) s = -1
    · exact .inl q
    · have e := list_in.2 _ (find_in (f := fun i => decide (textO l i = s)) (xs := listP l sel) q)
      have e' : 0 ≤ pickW l (listP l sel) s ∧ pickW l (listP l sel) s < (l.length : Int) := e
      have hl := hW.len
      exact .inr ⟨(pickW l (listP l sel) s).toNat, by omega, by omega⟩
  have WC : Hid (writeC l C sel s = if 0 ≤ pickW l (listP l sel) s then setC (onlyP C (listP l sel) (pickW l (listP l sel) s)) (pickW l (listP l sel) s) { st (onlyP C (listP l sel) (pickW l (listP l sel) s)) (pickW l (listP l sel) s) with dsel := true } else onlyP C (listP l sel) (pickW l (listP l sel) s)) := rfl
  have HOn := hide (fun X L (hb : Below w.heap.size w X) => (HW.out.later hb).only L)
  have WB := hide hW.below
  clear hW hS
  go_enter Tryz.func49, Tryz.ntmps49
  go_wp2_with fail
  refine (options_any p l.length c sel _).mono ?_
  rintro e w2 ⟨rfl, hw2⟩
  have b2 : Below w1.heap.size w1 w2 := by rw [hw2]; exact ((Below.refl _ w1).alloc (Nat.le_refl _) _).alloc (by simp) _
  have bL2 : Boxed w2 w1.heap.size 22 (.slice p l.length c) := by rw [hw2]; exact (Boxed.new w1 _ _).alloc _
  have bI2 : Boxed w2 (w1.heap.size + 1) 3 (.int .i64 sel) := by
    have := Boxed.new (w1.alloc (.cells #[.slice p l.length c] 22)) 3 (.int .i64 sel)
    rw [World.size_alloc] at this
    rw [hw2]; exact this
  have bN2 : Boxed w2 w.heap.size 22 (.slice p l.length c) := (b2.block _ bN1.lt).trans bN1
  have bS2 : Boxed w2 S 9 (.string s) := (b2.block _ bS1.lt).trans bS1
  have B2 := hide (chain b1 b2)
  have HF := hide (opFirst_any l sel p c w0 w2 w1.heap.size (w1.heap.size + 1) (fun x => decide (textO l x = s)) 51 #[.pointer (some ⟨w.heap.size, 0, none⟩), .pointer (some ⟨S, 0, none⟩)] entersWrite11 HW.out.iter (chain WB.out B2.out) bL2 bI2 (fun x hx W' hb' => opWrite11_any l sel p c w0 W' w.heap.size S s x HW.out.nds HW.out.sz HW.out.kind HW.out.right hx (chain (chain WB.out B2.out) hb') ((hb'.block _ bN2.lt).trans bN2) ((hb'.block _ bS2.lt).trans bS2)))
  rw [← ALL.out, ← EP.out] at HF
  clear hw2 hw1 EP ALL
  generalize pickW l (listP l sel) s = L at *
  go_wp2_with fail
  refine HF.out.mono ?_
  rintro e w3 ⟨rfl, b3⟩
  have B3 := hide (chain B2.out b3)
  have bN3 : Boxed w3 w.heap.size 22 (.slice p l.length c) := (b3.block _ bN2.lt).trans bN2
  have y1 := bN3.cell
  have HO := hide (HOn.out _ L B3.out)
  clear x1
  go_wp2_with fail
  refine HO.out.mono ?_
  rintro e w4 ⟨rfl, o4, k4⟩
  have CW : Hid (Chg (Value.slice pv C.length kv).ownBlock.toList w w4) := ((Chg.of_below B3.out).nil).trans (k4.mono (fun _ r _ => r))
  have lo : (onlyP C (listP l sel) L).length = C.length := updC_len ..
  have LO := hide lo
  rcases GE.out with rfl | ⟨q, rfl, hq⟩
  · rw [if_neg (by decide)] at WC
    have O4 := hide o4
    clear o4 k4 lo
    go_wp2_with fail
    go_end0
    rw [WC.out]
    exact ⟨rfl, O4.out, CW.out⟩
  · rw [if_pos (by omega)] at WC
    have hqD : q < (onlyP C (listP l sel) (q : Int)).length := by rw [lo]; exact hq
    have o4' : CtsO base w4 (.slice pv (onlyP C (listP l sel) (q : Int)).length kv) (onlyP C (listP l sel) (q : Int)) F := by rw [lo]; exact o4
    obtain ⟨g, kv', ev, eg, hg0, hg1, _⟩ := owns_at o4.row (by rw [lo]; omega)
    rw [lo] at ev
    cases ev
    have PUT := hide (o4'.put (c' := { (onlyP C (listP l sel) (q : Int))[q] with dsel := true }) rfl hqD (j := 7) (by omega) (u := .bool true) rfl)
    have ES : Hid (setC (onlyP C (listP l sel) (q : Int)) (q : Int) { st (onlyP C (listP l sel) (q : Int)) (q : Int) with dsel := true } = (onlyP C (listP l sel) (q : Int)).set q { (onlyP C (listP l sel) (q : Int))[q] with dsel := true }) := by
      show _ = _
      unfold setC
      rw [Int.toNat_natCast, st_nat hqD]
    have c7 := o4'.at_ rfl hqD 7 _ rfl
    have f7 : w4.frozen? ⟨g, q * 10 + 7, none⟩ = false := owns_free o4.row rfl _
    have q0 : (0 : Int) ≤ (q : Int) := by omega
    have q1 : (q : Int) < (C.length : Int) := by omega
    have q2 : ¬ (q : Int) = -1 := by omega
    have q3 : ((q : Int) != -1) = true := bne_iff_ne.2 q2
    clear o4 o4' k4 lo
    go_wp2_with fail
    go_end0
    rw [WC.out, ES.out]
    refine ⟨rfl, ?_, CW.out.trans ((Chg.setB _ _ _ _).mono (fun k r _ => r))⟩
    have := PUT.out
    rw [LO.out] at this
    exact this
set_option maxHeartbeats 8000000 in
theorem opWrite_any (nv cv : Value) (l : List Nd) (C : List Ct) (sel : Int) (s : ByteArray) (w : World) (hD : DocV w nv cv l C) (hz : DocSz l) (hC : CsOK C) (hT : KTabs w) :
    Calls Tryz.prog 25 #[.agg #[nv, cv], .int .i64 sel, .string s] w fun e w' => ∃ v', e = .returned v' ∧ CtsV w' v' (writeO l C sel s) ∧ Below w.heap.size w w' := by
  have B0 : Hid (Below w.heap.size w ((w.alloc (.cells #[nv, cv] 33)).alloc (.cells #[.string s] 9))) := ((Below.refl _ w).alloc (Nat.le_refl _) _).alloc (by simp) _
  have BS : Boxed ((w.alloc (.cells #[nv, cv] 33)).alloc (.cells #[.string s] 9)) (w.heap.size + 1) 9 (.string s) := by
    have := Boxed.new (w.alloc (.cells #[nv, cv] 33)) 9 (.string s)
    rw [World.size_alloc] at this
    exact this
  have HC := hide (opChanged_any nv cv l C (writeC l C sel s) sel 49 #[.pointer (some ⟨w.heap.size + 1, 0, none⟩)] entersWrite1 ((w.alloc (.cells #[nv, cv] 33)).alloc (.cells #[.string s] 9)) (hD.below B0.out) hz hC (hT.below B0.out) (fun p c base ov F W e hW => by
    subst e
    exact opWrite1_any l sel p c base ov C F _ W (w.heap.size + 1) s hW ((hW.below.block _ BS.lt).trans BS)) (writeC_files l C sel s).1 (writeC_files l C sel s).2)
  rw [writeO_chg] at HC
  obtain ⟨p, c, rfl⟩ := nds_formG hD.nds
  obtain ⟨pc, cc, rfl⟩ := cts_formG hD.cts
  clear hD hz hC hT BS
  go_enter Tryz.func25, Tryz.ntmps25
  go_wp2_with fail
  refine HC.out.mono ?_
  rintro e w1 ⟨v1, rfl, c1, b1⟩
  go_wp2_with fail
  go_ret
  exact ⟨_, rfl, c1, chain B0.out b1⟩
end Go.Proofs.YtemikdmkjgmflaaGreatDoor

namespace Go.Proofs.YtemikdmkjgmflaaGreatDoor
open Go.RowKit
set_option maxRecDepth 100000
theorem pw_yes {l : List Nd} {s : ByteArray} {all : List Int} {j : Nat} (h : j < all.length) (ht : textO l all[j] = s) : pickW l (all.drop j) s = all[j] := by
  unfold pickW
  rw [List.drop_eq_getElem_cons h, List.find?_cons_of_pos (by exact decide_eq_true ht)]; rfl
theorem pw_no {l : List Nd} {s : ByteArray} {all : List Int} {j : Nat} (h : j < all.length) (ht : ¬ textO l all[j] = s) : pickW l (all.drop j) s = pickW l (all.drop (j + 1)) s := by
  unfold pickW
  rw [List.drop_eq_getElem_cons h, List.find?_cons_of_neg (by rw [decide_eq_false ht]; decide)]
theorem pw_in {l : List Nd} {s : ByteArray} {xs : List Int} (h : 0 ≤ pickW l xs s) : pickW l xs s ∈ xs := by
  unfold pickW at *
  cases e : xs.find? fun i => decide (textO l i = s) with
  | none => rw [e] at h; simp at h
  | some x => exact List.mem_of_find?_eq_some e
theorem files_set {w : World} {C : List Ct} {F : List Value} {r : Nat} {c : Ct} (h : FilesIn w C F) (hr : r < C.length) (hc : c.files = C[r].files) : FilesIn w (C.set r c) F :=
  h.other (List.length_set ..) (fun i h1 h2 => by
    rw [List.getElem_set]
    split
    · rename_i e; subst e; exact hc
    · rfl)
set_option maxHeartbeats 8000000 in
theorem refOWrite_any (nv cv : Value) (l : List Nd) (C : List Ct) (sel : Int) (s : ByteArray) (w : World) (hD : DocV w nv cv l C) (hz : DocSz l) (hC : CsOK C) :
    Calls Tryz.prog 26 #[.agg #[nv, cv], .int .i64 sel, .string s] w fun e w' => ∃ v', e = .returned v' ∧ CtsV w' v' (writeO l C sel s) ∧ Below w.heap.size w w' := by
  obtain ⟨F, hF⟩ := hD.cts
  have FI := hide hF.1
  have E0 := hide (OEnv.new w nv cv)
  have HR := hide (fun W (hb : Below w.heap.size w W) => refORight_any nv cv l C W (hD.below hb) hz hC)
  have HC := hide (fun W (hb : Below w.heap.size w W) => refOCopied_any cv C F W (hF.below hb) hC)
  have HL := hide (fun W (hb : Below w.heap.size w W) => refOList_any nv l sel W (hD.nds.below hb) hz)
  have HTx := hide (fun i W (hb : Below w.heap.size w W) => refOText_any nv l i W (hD.nds.below hb) hz)
  obtain ⟨p, c, ep⟩ := nds_form hD.nds
  obtain ⟨p2, c2, ep2⟩ := cts_form hD.cts
  have ND := hide hD.nds
  have hl := hz.len
  have hl2 := hC.len
  subst ep ep2
  clear hD hz hC hF
  cases h : rightD l C with
  | false =>
    have E : Hid (writeO l C sel s = []) := if_neg (by rw [h]; decide)
    rw [h] at HR
    clear h HL HC HTx
    go_enter Tryz.func26, Tryz.ntmps26
    go_wp2_with fail
    refine (HR.out _ E0.out.bel).mono ?_
    rintro e w1 ⟨rfl, b1⟩
    have E1 := hide (E0.out.step b1)
    clear b1 E0
    go_wp2_with fail
    go_ret
    exact ⟨_, rfl, by rw [E.out]; exact cts_nil _, E1.out.bel⟩
  | true =>
    have HRt := hide (rightD_is h).1
    have HLC := hide (rightD_is h).2
    have hlen := HRt.out.len.2
    have few := list_few HRt.out sel
    have EW : Hid (writeO l C sel s = if 0 ≤ pickW l (listP l sel) s then setC (onlyP C (listP l sel) (pickW l (listP l sel) s)) (pickW l (listP l sel) s) { st (onlyP C (listP l sel) (pickW l (listP l sel) s)) (pickW l (listP l sel) s) with dsel := true } else onlyP C (listP l sel) (pickW l (listP l sel) s)) := if_pos h
    rw [h] at HR
    obtain ⟨nd', rng⟩ := list_in (l := l) (sel := sel)
    have ND' := hide nd'
    have RG : Hid (∀ i ∈ listP l sel, 0 ≤ i ∧ i < (C.length : Int)) := fun i hi => by have := rng i hi; have := HLC.out; omega
    obtain ⟨p', c', e', hv⟩ := ND.out
    cases e'
    have hb' : ∃ b o, p = some ⟨b, o, none⟩ := by
      rcases hv with hv | ⟨b, o, e, _⟩
      · have := HRt.out.len.1
        rw [hv] at this; simp at this
      · exact ⟨b, o, e⟩
    obtain ⟨b, o, rfl⟩ := hb'
    clear h nd' rng hv ND
    generalize listP l sel = all at *
    go_enter Tryz.func26, Tryz.ntmps26
    go_wp2_with fail
    refine (HR.out _ E0.out.bel).mono ?_
    rintro e w1 ⟨rfl, b1⟩
    have E1 := hide (E0.out.step b1)
    clear b1 E0
    have c1 := E1.out.doc.cell 1 rfl
    have c0 := E1.out.doc.cell 0 rfl
    go_wp2_with fail
    refine (HC.out _ E1.out.bel).mono ?_
    rintro e w2 ⟨ov, rfl, o2, b2⟩
    have E2 := hide (E1.out.rowed b2 o2)
    obtain ⟨po, co, rfl, hco⟩ := o2.form
    clear b2 o2 c0 c1
    have c0 := E2.out.doc.cell 0 rfl
    go_wp2_with fail
    refine (HL.out _ E2.out.bel).mono ?_
    rintro e w5 ⟨av, rfl, k5, b5⟩
    have E5 := hide (E2.out.listed b5 k5)
    obtain ⟨pa, ca, rfl, hca⟩ := kids_form k5
    clear b5 c0 HR HC HL k5 E1 E2
    have HOn := hide (fun p W (e : OEnv w W (.slice (some ⟨b, o, none⟩) l.length c) (.slice p2 C.length c2) (.slice po C.length co) C F (.slice pa all.length ca) all) => refOnly_any (w.heap.size + 1) (w.heap.size + 1) (.slice po C.length co) (.slice pa all.length ca) C F all p W e.row e.kid e.sep ND'.out RG.out hl2 (by omega))
    have s0 : Hid ((-1 : Int) = pickW l (all.drop all.length) s) := by show _ = _; rw [List.drop_length]; rfl
    go_wp2_with fail
    go_loopw [9, 10] (fun pv iv wr => ∃ j : Nat, j ≤ all.length ∧ iv = .int .i64 ((j : Int) - 1) ∧ pv = .int .i64 (pickW l (all.drop j) s) ∧ Hid (OEnv w wr (.slice (some ⟨b, o, none⟩) l.length c) (.slice p2 C.length c2) (.slice po C.length co) C F (.slice pa all.length ca) all)) (fun _ iv _ => (intOf iv + 1).toNat)
    case atStart => exact ⟨all.length, Nat.le_refl _, rfl, congrArg _ s0.out, E5⟩
    case round =>
      rename World => wr
      obtain ⟨j, hj, rfl, rfl, ER⟩ := hrel
      clear s0 E5
      cases j with
      | zero =>
        have f1 : ¬ (0 : Int) ≤ ((0 : Nat) : Int) - 1 := by omega
        have d1 : decide ((0 : Int) ≤ ((0 : Nat) : Int) - 1) = false := decide_eq_false f1
        rw [List.drop_zero]
        have PI := hide (fun h => pw_in (l := l) (s := s) (xs := all) h)
        generalize pickW l all s = z at *
        by_cases hz : 0 ≤ z
        · rw [if_pos hz] at EW
          have rr := RG.out z (PI.out hz)
          obtain ⟨r, rfl, hr⟩ := nat_of (z := z) (n := C.length) (by omega) rr.2
          have ol : (onlyP C all (r : Int)).length = C.length := updC_len ..
          have hr' : r < (onlyP C all (r : Int)).length := by rw [ol]; exact hr
          have EW2 : Hid (writeO l C sel s = (onlyP C all (r : Int)).set r { (onlyP C all (r : Int))[r] with dsel := true }) := by
            show _ = _
            rw [EW.out]
            unfold setC
            rw [Int.toNat_natCast, st_nat hr']
          have r1 : (r : Int) < (C.length : Int) := by omega
          obtain ⟨cr, hcr⟩ : ∃ cr, (onlyP C all (r : Int))[r] = cr := ⟨_, rfl⟩
          rw [hcr] at EW2
          have HR' : Hid (∃ h : r < (onlyP C all (r : Int)).length, (onlyP C all (r : Int))[r] = cr) := ⟨hr', hcr⟩
          clear EW PI RG HTx rr ol hcr hr'
          go_wp2_with fail
          refine (HOn.out (r : Int) _ ER.out).mono ?_
          rintro e w7 ⟨rfl, o7, c7⟩
          have E7 := hide (ER.out.other c7 o7)
          clear o7 c7
          obtain ⟨hr', hcr⟩ := HR'.out
          obtain ⟨gv, rfl, y0, y1, fz, _, ebv⟩ := own_sel E7.out hr'
          rw [hcr] at y1
          have f7 := fz (r * 10 + 7)
          have O8 := hide (E7.out.row.put (c' := { cr with dsel := true }) ebv hr' (j := 7) (by omega) (u := .bool true) (by rw [hcr]; exact ctdsel_set _ _ _))
          have E8 := hide (E7.out.other (Chg.setB w7 gv (r * 10 + 7) (.bool true)) O8.out)
          have F8 := hide (files_set (c := { cr with dsel := true }) (files_upd (f := onlyF (r : Int)) (all := all) (FI.out.below E8.out.bel) (fun _ _ => rfl)) hr' (by show cr.files = _; rw [← hcr]; rfl))
          clear y0 fz ebv O8 HOn hcr hr'
          go_wp2_with fail
          go_ret
          exact ⟨_, rfl, by rw [EW2.out]; exact E8.out.row.cts F8.out, E8.out.bel⟩
        · rw [if_neg hz] at EW
          have nz : z < 0 := by omega
          clear PI RG HTx hz
          go_wp2_with fail
          refine (HOn.out z _ ER.out).mono ?_
          rintro e w7 ⟨rfl, o7, c7⟩
          have E7 := hide (ER.out.other c7 o7)
          clear o7 c7
          go_wp2_with fail
          go_ret
          exact ⟨_, rfl, by rw [EW.out]; exact E7.out.row.cts (files_upd (FI.out.below E7.out.bel) (fun _ _ => rfl)), E7.out.bel⟩
      | succ j =>
        have f1 : (0 : Int) ≤ ((j + 1 : Nat) : Int) - 1 := by omega
        have f2 : ((j + 1 : Nat) : Int) - 1 = (j : Int) := by omega
        have hjl : j < all.length := by omega
        have rx := RG.out all[j] (List.getElem_mem hjl)
        obtain ⟨q, eq, hq⟩ := nat_of (z := all[j]) (n := C.length) (by omega) rx.2
        have c0 := ER.out.doc.cell 0 rfl
        obtain ⟨ga, rfl, x0, _⟩ := own_num ER.out hjl
        have PY := hide (pw_yes (l := l) (s := s) hjl)
        have PN := hide (pw_no (l := l) (s := s) hjl)
        rw [eq] at x0 PY PN
        have k1 : (j : Int) < (all.length : Int) := by omega
        have k0 : (0 : Int) ≤ (j : Int) := by omega
        have HTq := hide (fun W hb => HTx.out (q : Int) W hb)
        clear rx eq RG EW HOn ND' HRt HLC HTx
        by_cases ht : textO l (q : Int) = s
        · have EP := hide (PY.out ht)
          have d : ((textO l (q : Int)).toList == s.toList) = true := by rw [txt_beq]; exact decide_eq_true ht
          clear PY PN ht
          generalize pickW l (all.drop (j + 1)) s = z at *
          generalize textO l (q : Int) = tx at *
          go_wp2_with fail
          go_region_held3 (fun w' => w'.cell? ⟨w.heap.size, 0, none⟩ = some (.slice (some ⟨b, o, none⟩) l.length c) ∧ w'.cell? ⟨ga, j, none⟩ = some (.int .i64 (q : Int))) (first | go_keep | exact ⟨cell_below c0 UR.out, cell_below x0 UR.out⟩)
            (first | (go_at_call 16; refine (HTq.out _ (belR ER.out.bel 1)).mono ?_; rintro e wv ⟨rfl, bv⟩; have UR : Hid (Below wr.heap.size wr wv) := undrewO bv))
          have x0' := cell_below x0 UR.out
          go_wp2_with fail
          go_roundw
          case rel => exact ⟨j, by omega, by go_num, by rw [EP.out], ER.out.step UR.out⟩
          case measure => first | (simp [intOf]; done) | (simp [intOf]; omega)
        · have EP := hide (PN.out ht)
          have d : ((textO l (q : Int)).toList == s.toList) = false := by rw [txt_beq]; exact decide_eq_false ht
          clear PY PN ht
          generalize pickW l (all.drop (j + 1)) s = z at *
          generalize textO l (q : Int) = tx at *
          go_wp2_with fail
          go_region_held3 (fun w' => w'.cell? ⟨w.heap.size, 0, none⟩ = some (.slice (some ⟨b, o, none⟩) l.length c) ∧ w'.cell? ⟨ga, j, none⟩ = some (.int .i64 (q : Int))) (first | go_keep | exact ⟨cell_below c0 UR.out, cell_below x0 UR.out⟩)
            (first | (go_at_call 16; refine (HTq.out _ (belR ER.out.bel 1)).mono ?_; rintro e wv ⟨rfl, bv⟩; have UR : Hid (Below wr.heap.size wr wv) := undrewO bv))
          have x0' := cell_below x0 UR.out
          go_wp2_with fail
          go_roundw
          case rel => exact ⟨j, by omega, by go_num, by rw [EP.out], ER.out.step UR.out⟩
          case measure => first | (simp [intOf]; done) | (simp [intOf]; omega)
end Go.Proofs.YtemikdmkjgmflaaGreatDoor

namespace Go.Proofs.YtemikdmkjgmflaaGreatDoor
open Go.RowKit
set_option maxRecDepth 100000
theorem any_take {f : Int → Bool} {xs : List Int} {j : Nat} (h : j < xs.length) : (xs.take (j + 1)).any f = ((xs.take j).any f || f xs[j]) := by
  rw [List.take_succ_eq_append_getElem h, List.any_append]
  simp
set_option maxHeartbeats 8000000 in
theorem optionWrites_walk (nv cv : Value) (l : List Nd) (C : List Ct) (sel : Int) (s : ByteArray) (w : World) (hD : DocV w nv cv l C) (hz : DocSz l) (hC : CsOK C) (hT : OpTabs w) :
    Calls Tryz.prog 5 #[.agg #[nv, cv], .int .i64 sel, .string s] w fun e w' => e = .returned (.bool true) ∧ Below w.heap.size w w' := by
  have HD := hide hD
  have HZ := hide hz
  have HO := hide hC
  have HT := hide hT
  have HW := hide (fun W (hb : Below w.heap.size w W) => opWakes_any W (HT.out.below hb))
  have HC := hide (fun W (hb : Below w.heap.size w W) => opCopied_any nv cv l C W (HD.out.below hb) HZ.out HO.out)
  have H1 := hide (fun nv cv W (hb : Below w.heap.size w W) (hd : DocV W nv cv l C) => opWrite_any nv cv l C sel s W hd HZ.out HO.out (HT.out.below hb))
  have H2 := hide (fun W (hb : Below w.heap.size w W) => refOWrite_any nv cv l C sel s W (HD.out.below hb) HZ.out HO.out)
  have RO := hide (writeO_ok (l := l) (sel := sel) (s := s) HO.out)
  have H3 := hide (fun va vb W (ha : CtsV W va (writeO l C sel s)) (hb : CtsV W vb (writeO l C sel s)) => refOSame_yes va vb (writeO l C sel s) W ha hb RO.out)
  have H4 := hide (fun W (hb : Below w.heap.size w W) => refORight_any nv cv l C W (HD.out.below hb) HZ.out HO.out)
  have H5 := hide (fun W (hb : Below w.heap.size w W) => refOList_any nv l sel W (HD.out.nds.below hb) HZ.out)
  have H6 := hide (fun (o : Int) W (hb : Below w.heap.size w W) => refOText_any nv l o W (HD.out.nds.below hb) HZ.out)
  have H7 := hide (fun nv cv W (hb : Below w.heap.size w W) (hd : DocV W nv cv l (writeO l C sel s)) => opValue_any nv cv l (writeO l C sel s) sel W hd HZ.out RO.out (HT.out.below hb))
  have WV := hide (fun hR h => write_value (l := l) (C := C) (sel := sel) (s := s) hR h)
  have LF : Hid (rightD l C = true → (listP l sel).length ≤ 400) := fun q => list_few (rightD_is q).1 sel
  generalize valueO l (writeO l C sel s) sel = vo at *
  clear RO
  generalize writeO l C sel s = RC at *
  have TXQ : Hid (∀ o : Int, ((textO l o).toList == s.toList) = decide (textO l o = s)) := fun o => txt_beq _ _
  obtain ⟨pn, kn, rfl⟩ := nds_form hD.nds
  obtain ⟨pc, kc, rfl⟩ := cts_form hD.cts
  have B0 : Hid (Below w.heap.size w (w.alloc (.cells #[.slice pn l.length kn, .slice pc C.length kc] 33))) := (Below.refl _ w).alloc (Nat.le_refl _) _
  have ND := hide (Bk.new w [.slice pn l.length kn, .slice pc C.length kc] 33)
  have NV := hide hD.nds
  clear hD hz hC hT HD HZ HO HT
  go_enter Tryz.func5, Tryz.ntmps5
  go_upto_region 1 with fail
  generalize w.alloc (.cells #[.slice pn l.length kn, .slice pc C.length kc] 33) = w0 at *
  go_wp2_with fail
  refine (HW.out _ B0.out).mono ?_
  rintro e w1 ⟨rfl, b1⟩
  have B1 := hide (chain B0.out b1)
  replace ND := hide (ND.out.below b1)
  clear b1 B0
  have x0 := ND.out.cell 0 rfl
  have x1 := ND.out.cell 1 rfl
  go_wp2_with fail
  refine (HC.out _ B1.out).mono ?_
  rintro e w2 ⟨n2, c2, rfl, d2, b2⟩
  have D2 := hide d2
  obtain ⟨p2, k2, rfl⟩ := nds_form d2.nds
  obtain ⟨q2, m2, rfl⟩ := cts_form d2.cts
  have B2 := hide (chain B1.out b2)
  clear d2 B1
  go_wp2_with fail
  refine (H1.out _ _ _ B2.out D2.out).mono ?_
  rintro e w3 ⟨v3, rfl, g3, b3⟩
  have G3 := hide g3
  obtain ⟨p3, k3, rfl⟩ := cts_form g3
  have B3 := hide (chain B2.out b3)
  replace ND := hide ((ND.out.below b2).below b3)
  clear g3 b2 b3 B2 D2 x0 x1
  have x0 := ND.out.cell 0 rfl
  have x1 := ND.out.cell 1 rfl
  go_wp2_with fail
  refine (H2.out _ B3.out).mono ?_
  rintro e w4 ⟨v4, rfl, g4, b4⟩
  have G4 := hide g4
  obtain ⟨p4, k4, rfl⟩ := cts_form g4
  have B4 := hide (chain B3.out b4)
  have F4 := hide (G3.out.below b4)
  replace ND := hide (ND.out.below b4)
  clear g4 b4 B3 G3 x0 x1
  go_wp2_with fail
  refine (H3.out _ _ _ F4.out G4.out).mono ?_
  rintro e w5 ⟨rfl, b5⟩
  have B5 := hide (chain B4.out b5)
  have F5 := hide (F4.out.below b5)
  replace ND := hide (ND.out.below b5)
  clear b5 B4 F4 G4
  have x0 := ND.out.cell 0 rfl
  have x1 := ND.out.cell 1 rfl
  cases hR : rightD l C with
  | false =>
    rw [hR] at H4
    clear hR WV LF TXQ
    go_wp2_with fail
    refine (H4.out _ B5.out).mono ?_
    rintro e w6 ⟨rfl, b6⟩
    go_wp2_with fail
    go_ret
    exact ⟨rfl, chain B5.out b6⟩
  | true =>
    rw [hR] at H4
    have lf := LF.out hR
    have WV2 := hide (WV.out hR)
    clear hR WV LF
    go_wp2_with fail
    refine (H4.out _ B5.out).mono ?_
    rintro e w6 ⟨rfl, b6⟩
    have B6 := hide (chain B5.out b6)
    have F6 := hide (F5.out.below b6)
    replace ND := hide (ND.out.below b6)
    clear b6 B5 F5 x0 x1
    have x0 := ND.out.cell 0 rfl
    go_wp2_with fail
    refine (H5.out _ B6.out).mono ?_
    rintro e w7 ⟨v7, rfl, i7, b7⟩
    have I7 := i7.ints
    obtain ⟨p7, k7, rfl, hi⟩ := I7
    have B7 := hide (chain B6.out b7)
    have F7 := hide (F6.out.below b7)
    replace ND := hide (ND.out.below b7)
    have HI := hide hi
    generalize listP l sel = lp at *
    clear b7 B6 F6 x0 hi i7
    go_wp2_with fail
    go_loopw [8, 34] (fun hv iv wr => ∃ j : Nat, j ≤ lp.length ∧ iv = .int .i64 j ∧ hv = .bool ((lp.take j).any fun o => decide (textO l o = s)) ∧ Hid (Below w7.heap.size w7 wr)) (fun _ iv _ => lp.length - (intOf iv).toNat)
    case atStart => exact ⟨0, Nat.zero_le _, rfl, by rw [List.take_zero]; rfl, Below.refl _ _⟩
    case round =>
      rename World => wr
      obtain ⟨j, hj, rfl, rfl, BW⟩ := hrel
      have BR := hide (chain B7.out BW.out)
      have NDr := hide (ND.out.below BW.out)
      by_cases h : j < lp.length
      · have i1 : (j : Int) < (lp.length : Int) := by omega
        have i0 : (0 : Int) ≤ (j : Int) := by omega
        obtain ⟨b, o, rfl, hc⟩ : ∃ b o, p7 = some ⟨b, o, none⟩ ∧ ∀ i (h : i < lp.length), w7.cell? ⟨b, o + i, none⟩ = some (.int .i64 lp[i]) := by
          rcases HI.out with t | t
          · rw [t] at h; simp at h
          · exact t
        have cj := cell_below (hc j h) BW.out
        have ST := hide (any_take (f := fun o => decide (textO l o = s)) h)
        have HX := hide (fun W (hb : Below w.heap.size w W) => H6.out lp[j] W hb)
        have TQ := hide (TXQ.out lp[j])
        clear hc HI TXQ
        generalize lp[j] = oj at *
        generalize textO l oj = tj at *
        have x0 := NDr.out.cell 0 rfl
        cases hA : (lp.take j).any (fun o => decide (textO l o = s)) with
        | true =>
          rw [hA] at ST
          have E : Hid ((lp.take (j + 1)).any (fun o => decide (textO l o = s)) = true) := by show _ = _; rw [ST.out]; rfl
          clear hA ST
          go_wp2_with fail
          go_roundw
          case rel => exact ⟨j + 1, by omega, by go_num, by rw [E.out], BW⟩
          case measure => simp [intOf]; omega
        | false =>
          rw [hA] at ST
          have E : Hid ((lp.take (j + 1)).any (fun o => decide (textO l o = s)) = (tj.toList == s.toList)) := by show _ = _; rw [ST.out, TQ.out, Bool.false_or]
          clear hA ST
          go_wp2_with fail
          refine (HX.out _ BR.out).mono ?_
          rintro e w8 ⟨rfl, b8⟩
          go_wp2_with fail
          go_roundw
          case rel => exact ⟨j + 1, by omega, by go_num, by rw [E.out], chain BW.out b8⟩
          case measure => simp [intOf]; omega
      · obtain rfl : j = lp.length := by omega
        rw [List.take_length]
        have FR := hide (F7.out.below BW.out)
        have NVr := hide (NV.out.below BR.out)
        have x0 := NDr.out.cell 0 rfl
        cases hA : lp.any (fun o => decide (textO l o = s)) with
        | true =>
          have ev : vo = s := WV2.out (by
            obtain ⟨o, ho, q⟩ := List.any_eq_true.1 hA
            exact ⟨o, ho, of_decide_eq_true q⟩)
          subst ev
          have sq : (vo.toList == vo.toList) = true := beq_self_eq_true _
          clear hA HI TXQ h WV2
          go_wp2_with fail
          refine (H7.out _ _ _ BR.out ⟨NVr.out, FR.out⟩).mono ?_
          rintro e w8 ⟨rfl, b8⟩
          go_wp2_with fail
          go_ret
          exact ⟨rfl, chain BR.out b8⟩
        | false =>
          clear hA HI TXQ h WV2
          go_wp2_with fail
          refine (H7.out _ _ _ BR.out ⟨NVr.out, FR.out⟩).mono ?_
          rintro e w8 ⟨rfl, b8⟩
          go_wp2_with fail
          go_ret
          exact ⟨rfl, chain BR.out b8⟩

end Go.Proofs.YtemikdmkjgmflaaGreatDoor
