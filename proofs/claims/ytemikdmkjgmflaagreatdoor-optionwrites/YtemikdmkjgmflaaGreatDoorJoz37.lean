/- A select's options and which of them are selected, as functions of documents and states. States of controls as they lie in the world, behind a slice. The document's Right, Copied, Only of layer 15. The program's Value of layer 15. What layer 15's laws ask of the program's functions. The example of layer 15's statements, as their own function lays it in the world. The document's Same of layer 15, at states that are alike. -/
import Derived.Test.YtemikdmkjgmflaaGreatDoorJoz17
import Derived.Test.YtemikdmkjgmflaaGreatDoorJoz30
import Derived.Test.YtemikdmkjgmflaaGreatDoorJoz39
import Derived.Test.YtemikdmkjgmflaaGreatDoorJoz40

namespace Go.Proofs.YtemikdmkjgmflaaGreatDoor
open Go.RowKit
def valueO (l : List Nd) (C : List Ct) (sel : Int) : ByteArray := if rightD l C = true then (match (listP l sel).find? (fun i => (st C i).sel) with
  | none => ⟨#[]⟩
  | some i => textO l i) else ⟨#[]⟩
theorem upd_all {f : Int → Ct → Ct} {all : List Int} {C : List Ct} : updP f (all.take all.length) C = updP f all C := by rw [List.take_length]
theorem st_upd {f : Int → Ct → Ct} {all : List Int} {C : List Ct} {i : Int} (h0 : 0 ≤ i) (h : i < C.length) : st (updP f all C) i = if i ∈ all then f i (st C i) else st C i := by
  have hi : i.toNat < C.length := by omega
  have e : ((i.toNat : Nat) : Int) = i := by omega
  unfold st
  rw [List.getD_eq_getElem?_getD, List.getElem?_eq_getElem (by rw [updC_len]; exact hi), Option.getD_some, upd_at hi, List.getD_eq_getElem?_getD, List.getElem?_eq_getElem hi, Option.getD_some, e]
theorem rightD_is {l : List Nd} {C : List Ct} (h : rightD l C = true) : Right l ∧ l.length = C.length := by
  unfold rightD at h
  rw [Bool.and_eq_true, decide_eq_true_eq] at h
  exact ⟨right_is.1 h.1, by omega⟩
theorem rightD_len {l : List Nd} {C C' : List Ct} (h : C'.length = C.length) : rightD l C' = rightD l C := by unfold rightD; rw [h]
theorem st_only {C : List Ct} {all : List Int} {p i : Int} (hi : i ∈ all) (h0 : 0 ≤ i) (h : i < C.length) : (st (onlyP C all p) i).sel = decide (i = p) := by
  unfold onlyP
  rw [st_upd h0 h, if_pos hi]; rfl
end Go.Proofs.YtemikdmkjgmflaaGreatDoor

namespace Go.Proofs.YtemikdmkjgmflaaGreatDoor
open Go.RowKit
set_option maxRecDepth 100000
theorem cellsC_one {w : World} : ∀ {C : List Ct} {F : List Value}, FilesIn w C F → ∀ u ∈ cellsC C F, u.oneCell' = true
  | [], _, _, u, hu => by simp [cellsC] at hu
  | c :: C, [], h, _, _ => by have := h.len; cases this
  | c :: C, f :: F, h, u, hu => by
    have hu : u ∈ ctCells c f ++ cellsC C F := hu
    rcases List.mem_append.1 hu with q | q
    · obtain ⟨p, k, e, _⟩ : FilesV w f c.files := h.at_ 0 (by simp)
      have e : f = .slice p c.files.length k := e
      simp only [ctCells, List.mem_cons, List.not_mem_nil, or_false] at q
      rcases q with rfl | rfl | rfl | rfl | rfl | rfl | rfl | rfl | rfl | rfl
      all_goals first | rfl | (rw [e]; rfl)
    · exact cellsC_one (C := C) (F := F) ⟨by have := h.len; simpa using this, fun i hi => by have := h.at_ (i + 1) (by simpa using hi); rw [fvAt_cons] at this; exact this⟩ u q
end Go.Proofs.YtemikdmkjgmflaaGreatDoor

namespace Go.Proofs.YtemikdmkjgmflaaGreatDoor
open Go.RowKit
set_option maxRecDepth 100000
set_option maxHeartbeats 8000000 in
theorem refORight_any (nv cv : Value) (l : List Nd) (C : List Ct) (w : World) (hD : DocV w nv cv l C) (hz : DocSz l) (hC : CsOK C) :
    Calls Tryz.prog 20 #[.agg #[nv, cv]] w fun e w' => e = .returned (.bool (rightD l C)) ∧ Below w.heap.size w w' := by
  have HB : Hid (∀ o : Obj, Below w.heap.size w (w.alloc o)) := fun o => (Below.refl _ w).alloc (Nat.le_refl _) _
  have HR := hide (fun W (hb : Below w.heap.size w W) => refDocRight_any nv l W (hD.nds.below hb) hz)
  obtain ⟨p, c, rfl⟩ := nds_form hD.nds
  obtain ⟨p2, c2, rfl⟩ := cts_form hD.cts
  have hl := hz.len
  have hl2 := hC.len
  have K0 := hide (Bk.new w [.slice p l.length c, .slice p2 C.length c2] 33)
  clear hD hz hC
  cases h : rightB l with
  | false =>
    have E : Hid (rightD l C = false) := by show _ = _; unfold rightD; rw [h]; rfl
    rw [h] at HR
    clear h
    go_enter Tryz.func20, Tryz.ntmps20
    go_wp2_with fail
    refine (HR.out _ (HB.out _)).mono ?_
    rintro e w1 ⟨rfl, b1⟩
    go_wp2_with fail
    go_ret
    exact ⟨ret_bool E.out.symm, chain (HB.out _) b1⟩
  | true =>
    have E : Hid (rightD l C = ((l.length : Int) == (C.length : Int))) := by show _ = _; unfold rightD; rw [h, Bool.true_and]; rfl
    rw [h] at HR
    clear h
    go_enter Tryz.func20, Tryz.ntmps20
    go_wp2_with fail
    refine (HR.out _ (HB.out _)).mono ?_
    rintro e w1 ⟨rfl, b1⟩
    have K1 := K0.out.below b1
    have c0 := K1.cell 0 rfl
    have c1 := K1.cell 1 rfl
    go_wp2_with fail
    go_ret
    exact ⟨ret_bool E.out.symm, chain (HB.out _) b1⟩
set_option maxHeartbeats 8000000 in
theorem refOCopied_any (v : Value) (C : List Ct) (F : List Value) (w : World) (hv : CtsF w v C F) (hC : CsOK C) :
    Calls Tryz.prog 45 #[v] w fun e w' => ∃ v', e = .returned v' ∧ CtsO w.heap.size w' v' C F ∧ Below w.heap.size w w' := by
  have RW := hide hv.raw
  have ONE := hide (cellsC_one hv.1)
  have HF := hide hv.1
  have hl := hC.len
  obtain ⟨iC, hI0, hI1, hI2, hI3⟩ := info_parts infoC
  obtain ⟨p, c, rfl⟩ := cts_form ⟨F, hv⟩
  clear hv hC
  go_enter Tryz.func45, Tryz.ntmps45
  go_wp2_with (at_builtin; refine wpList_append_raw rfl _ _ _ rfl w.heap.size 48 iC _ 10 64 Tryz.underlying31 hI0 hI1 hI2 hI3 rfl (by omega) (.slice none 0 0) 0 [] rfl (World.ownsRow_nil _ _ _ _) _ C.length (cellsC C F) rfl RW.out ONE.out (by unfold maxLen; omega) (by omega) (Nat.le_refl _) ?_; intro q1 c1 w1 own1 gr1 at1)
  rw [Nat.zero_add] at own1 at1
  rw [List.nil_append] at own1
  have B1 : Hid (Below w.heap.size w w1) := (Chg.of_grown gr1).none (fun k q => by simp [Value.ownBlock] at q)
  have O1 : Hid (CtsO w.heap.size w1 (.slice q1 C.length c1) C F) := ⟨HF.out.len, own1⟩
  clear own1 gr1 at1 RW ONE
  go_ret
  exact ⟨_, rfl, O1.out, B1.out⟩
set_option maxHeartbeats 8000000 in
theorem refOnly_any (base base2 : Nat) (v av : Value) (C : List Ct) (F : List Value) (all : List Int) (p : Int) (w : World) (hO : CtsO base w v C F) (hA : KidsO base2 w av all) (hs : ∀ k, av.ownBlock = some k → v.ownBlock ≠ some k) (hn : all.Nodup) (hr : ∀ i ∈ all, 0 ≤ i ∧ i < (C.length : Int)) (hl : C.length ≤ 2199023255552) (hla : all.length ≤ 400) :
    Calls Tryz.prog 48 #[v, av, .int .i64 p] w fun e w' => e = .returned (.tuple #[]) ∧ CtsO base w' v (onlyP C all p) F ∧ Chg v.ownBlock.toList w w' := by
  obtain ⟨pv, cv, ev, hcv⟩ := hO.form
  obtain ⟨pa, ca, ea, hca⟩ := kids_form hA
  have O0 : Hid (CtsO base w v (updP (onlyF p) (all.take 0) C) F) := by show CtsO _ _ _ _ _; rw [List.take_zero, upd_nil]; exact hO
  have HA := hide hA
  have HS := hide hs
  have ST := hide (fun (k m : Nat) (hk : k < all.length) (hm : all[k] = (m : Int)) (hl : m < C.length) => upd_step (f := onlyF p) (C := C) hk hn hm hl)
  have RG := hide hr
  have VB : Hid (0 < C.length → ∃ g, v = .slice (some ⟨g, 0, none⟩) C.length cv ∧ v.ownBlock = some g ∧ pv = some ⟨g, 0, none⟩) := by
    intro q
    obtain ⟨g, cap, e, eb, _⟩ := owns_at hO.row q
    rw [ev] at e
    cases e
    exact ⟨g, ev, eb, rfl⟩
  have AB : Hid (0 < all.length → ∃ ga, av.ownBlock = some ga ∧ pa = some ⟨ga, 0, none⟩) := by
    intro q
    obtain ⟨g, cap, e, eb, _⟩ := owns_at hA q
    rw [ea] at e
    cases e
    exact ⟨g, eb, rfl⟩
  have EV := hide ev
  have EA := hide ea
  rw [ev, ea]
  clear hO hA hs hr ev ea
  go_enter Tryz.func48, Tryz.ntmps48
  go_wp2_with fail
  go_loopw [6] (fun iv wr => ∃ k : Nat, k ≤ all.length ∧ iv = .int .i64 k ∧ Hid (CtsO base wr v (updP (onlyF p) (all.take k) C) F) ∧ Hid (Chg v.ownBlock.toList w wr)) (fun iv _ => all.length - (intOf iv).toNat)
  case atStart => exact ⟨0, Nat.zero_le _, rfl, O0, Chg.refl _ _⟩
  case round =>
    rename World => wr
    obtain ⟨k, hk, rfl, OW, CH⟩ := hrel
    clear O0
    by_cases g : k < all.length
    · have k1 : (k : Int) < (all.length : Int) := by omega
      have rx := RG.out all[k] (List.getElem_mem g)
      obtain ⟨q, eq, hq⟩ := nat_of (z := all[k]) (n := C.length) (by omega) rx.2
      obtain ⟨gv, _, ebv, rfl⟩ := VB.out (by omega)
      obtain ⟨ga, eba, rfl⟩ := AB.out (by omega)
      have nga : ga ≠ gv := fun t => HS.out ga eba (by rw [ebv, t])
      have x0 : wr.cell? ⟨ga, k, none⟩ = some (.int .i64 (q : Int)) := by
        have h1 := owns_kept HA.out CH.out (fun k' hk' qq => HS.out k' hk' (opt_mem.1 qq))
        rw [← eq]
        exact owns_cell h1 eba (cellsI_at g)
      have st := ST.out k q g eq hq
      have lq : q < (updP (onlyF p) (all.take k) C).length := by rw [updC_len]; exact hq
      have eC : (updP (onlyF p) (all.take k) C)[q] = C[q] := by
        have := st.2
        rw [List.getElem?_eq_getElem lq] at this
        exact Option.some.inj this
      have y0 : wr.cell? ⟨gv, q * 10 + 6, none⟩ = some (.bool C[q].sel) := by
        have := OW.out.at_ ebv lq 6 _ rfl
        rw [eC] at this
        exact this
      have y1 : wr.frozen? ⟨gv, q * 10 + 6, none⟩ = false := owns_free OW.out.row ebv _
      have PUT := hide (fun W (h : CtsO base W v (updP (onlyF p) (all.take k) C) F) => by
        have := h.put (c' := onlyF p (q : Int) C[q]) ebv lq (j := 6) (by omega) (u := .bool ((q : Int) == p)) (by rw [eC]; exact ctsel_set _ _ _)
        rw [st.1] at this
        exact this)
      have EBV := hide ebv
      have q1 : (q : Int) < (C.length : Int) := by omega
      have q0 : (0 : Int) ≤ (q : Int) := by omega
      clear ST RG VB AB HS HA rx eq st eC lq eba hn ebv
      go_wp2_with fail
      go_region
      go_wp2_with fail
      go_roundw
      case rel => exact ⟨k + 1, by omega, by go_num, ⟨(PUT.out _ OW.out).len, (PUT.out _ OW.out).row⟩, CH.out.trans (((Chg.setB wr gv _ _).mono (fun t q _ => by rw [List.mem_singleton.1 q]; exact opt_mem.2 EBV.out)).trans (Chg.drew _).nil)⟩
      case measure => simp [intOf]; omega
    · obtain rfl : k = all.length := by omega
      have OE : Hid (CtsO base wr v (onlyP C all p) F) := by
        have := OW.out
        rw [upd_all] at this
        exact this
      rw [EV.out] at OE CH
      clear ST RG VB AB HS HA OW
      go_wp2_with fail
      refine bodyPost_end (results_none rfl _ _ _) rfl ?_
      exact ⟨rfl, OE.out, CH.out⟩
end Go.Proofs.YtemikdmkjgmflaaGreatDoor

namespace Go.Proofs.YtemikdmkjgmflaaGreatDoor
open Go.RowKit Go.Shelf
set_option maxRecDepth 100000
attribute [local go_sem] Oper.semAt_some
/-- The value of an option, if there is one. -/
def valO (l : List Nd) : Option Int → ByteArray
  | none => ⟨#[]⟩
  | some i => textO l i
set_option maxHeartbeats 8000000 in
theorem opValue_x (l : List Nd) (sel : Int) (nv cv : Value) (C : List Ct) (w : World) (hD : DocV w nv cv l C) (HI : ∀ p c, nv = .slice p l.length c → Iter l sel p c w) (hr : ∀ i ∈ optsP l sel, 0 ≤ i ∧ i < (C.length : Int))
    (HR : ∀ W, Below w.heap.size w W → Calls Tryz.prog 19 #[.agg #[nv, cv]] W fun e w' => e = .returned (.bool true) ∧ Below W.heap.size W w')
    (HK : ∀ W, Below w.heap.size w W → Calls Tryz.prog 29 #[nv, .int .i64 sel, .int .i64 23] W fun e w' => e = .returned (.bool true) ∧ Below W.heap.size W w')
    (HX : ∀ x ∈ optsP l sel, ∀ W, Below w.heap.size w W → Calls Tryz.prog 40 #[nv, .int .i64 x] W fun e w' => e = .returned (.string (textO l x)) ∧ Below W.heap.size W w') :
    Calls Tryz.prog 23 #[.agg #[nv, cv], .int .i64 sel] w fun e w' => e = .returned (.string (valO l ((optsP l sel).find? fun i => (st C i).sel))) ∧ Below w.heap.size w w' := by
  obtain ⟨p, c, rfl⟩ := nds_formG hD.nds
  have HIT := hide (HI p c rfl)
  have H1 := hide HR
  have H2 := hide HK
  have H3 := hide HX
  have HRg := hide hr
  have HCT := hide hD.cts
  obtain ⟨pc, kc, rfl⟩ := cts_formG hD.cts
  clear HI HR HK HX hr hD
  obtain ⟨RES, hRES⟩ : ∃ R : ByteArray, (valO l ((optsP l sel).find? fun i => (st C i).sel)) = R := ⟨_, rfl⟩
  have FN : Hid ((∀ y ∈ optsP l sel, (st C y).sel = false) → RES = ⟨#[]⟩) := fun h => by
    rw [← hRES, List.find?_eq_none.2 (fun y hy => by rw [h y hy]; decide)]; rfl
  have FH : Hid (∀ pr x, pr ++ [x] <+: optsP l sel → (∀ y ∈ pr, (st C y).sel = false) → (st C x).sel = true → RES = textO l x) := fun pr x h1 h2 h3 => by
    rw [← hRES, find_hit' (f := fun i => (st C i).sel) h1 h2 h3]; rfl
  rw [hRES]
  clear hRES
  refine (callsIn_wide (n := 3)).1 ?_
  refine callsIn_of_wp_marks Tryz.func23 rfl trivial ?_ rfl
  simp only [Tryz.ntmps23, List.size_toArray, List.length_cons, List.length_nil, Nat.reduceAdd, Nat.reduceSub, Array.replicate_succ, Array.replicate_zero, List.push_toArray, List.append_toArray, List.nil_append, List.cons_append]
  have B0 : Hid (Below w.heap.size w ((w.alloc (.cells #[.slice p l.length c, .slice pc C.length kc] 33)).alloc (.cells #[.string ⟨#[]⟩] 9))) := ((Below.refl _ w).alloc (Nat.le_refl _) _).alloc (by simp) _
  have ND := hide ((Bk.new w [.slice p l.length c, .slice pc C.length kc] 33).below ((Below.refl _ (w.alloc (.cells #[.slice p l.length c, .slice pc C.length kc] 33))).alloc (Nat.le_refl _) (.cells #[.string ⟨#[]⟩] 9)))
  have NS : Hid (Boxed ((w.alloc (.cells #[.slice p l.length c, .slice pc C.length kc] 33)).alloc (.cells #[.string ⟨#[]⟩] 9)) (w.heap.size + 1) 9 (.string ⟨#[]⟩)) := by
    have := Boxed.new (w.alloc (.cells #[.slice p l.length c, .slice pc C.length kc] 33)) 9 (.string ⟨#[]⟩)
    rw [World.size_alloc] at this
    exact this
  have x0 := ND.out.cell 0 rfl
  gi_wp2
  refine ⟨trivial, ?_⟩
  refine (callsIn_wide.2 (H2.out _ B0.out)).mono ?_
  rintro e w1 ⟨rfl, b1⟩
  have B1 := hide (chain B0.out b1)
  replace ND := hide (ND.out.below b1)
  replace NS := hide (show Boxed w1 _ _ _ from (b1.block _ NS.out.lt).trans NS.out)
  clear b1 B0 x0
  have x0 := ND.out.cell 0 rfl
  have x1 := ND.out.cell 1 rfl
  gi_wp2
  refine ⟨trivial, ?_⟩
  refine (callsIn_wide.2 (H1.out _ B1.out)).mono ?_
  rintro e w2 ⟨rfl, b2⟩
  have B2 := hide (chain B1.out b2)
  replace ND := hide (ND.out.below b2)
  replace NS := hide (show Boxed w2 _ _ _ from (b2.block _ NS.out.lt).trans NS.out)
  clear b2 B1 x0 x1
  have x0 := ND.out.cell 0 rfl
  gi_wp2
  refine ⟨trivial, ?_⟩
  refine (callsIn_wide.2 (options_any p l.length c sel w2)).mono ?_
  rintro e w3 ⟨rfl, rfl⟩
  gi_wp2
  obtain ⟨w4, hw4⟩ : ∃ w4, (w2.alloc (.cells #[.slice p l.length c] 22)).alloc (.cells #[.int .i64 sel] 3) = w4 := ⟨_, rfl⟩
  have s4 : w4.heap.size = w2.heap.size + 1 + 1 := by rw [← hw4]; simp
  have b4 : Below w2.heap.size w2 w4 := by rw [← hw4]; exact ((Below.refl _ w2).alloc (Nat.le_refl _) _).alloc (by simp) _
  have bL : Boxed w4 w2.heap.size 22 (.slice p l.length c) := by rw [← hw4]; exact (Boxed.new w2 _ _).alloc _
  have bS : Boxed w4 (w2.heap.size + 1) 3 (.int .i64 sel) := by
    have := Boxed.new (w2.alloc (.cells #[.slice p l.length c] 22)) 3 (.int .i64 sel)
    rw [World.size_alloc] at this
    rw [← hw4]; exact this
  have B4 := hide (chain B2.out b4)
  have lS : w.heap.size + 1 < w2.heap.size := NS.out.lt
  have ND4 := hide (ND.out.below b4)
  have NS4 := hide (show Boxed w4 _ _ _ from (b4.block _ NS.out.lt).trans NS.out)
  rw [hw4]
  refine wpIn_rangeFunc_ownG rfl (by omega) (gf := 62) (lb := #[.pointer (some ⟨w2.heap.size, 0, none⟩), .pointer (some ⟨w2.heap.size + 1, 0, none⟩)]) rfl trivial (enters_of Tryz.func62 (by kernel_rfl) rfl)
    (HIT.out w4 w2.heap.size (w2.heap.size + 1) B4.out bL bS) kpB_t (kpB_b (by omega) (by intro b q; simp at q; omega)) (Below.refl _ _) (fun _ => rfl)
    (fun (pre : List (OptA l sel)) W => (Bk W w.heap.size [.slice p l.length c, .slice pc C.length kc] 33 ∧ Boxed W (w.heap.size + 1) 9 (.string ⟨#[]⟩)) ∧ (∀ x ∈ vals pre, (st C x).sel = false) ∧ Below w.heap.size w W)
    (fun d (pre : List (OptA l sel)) W => (d = .ret ∧ ∃ pr x, vals pre = pr ++ [x] ∧ (∀ y ∈ pr, (st C y).sel = false) ∧ (st C x).sel = true ∧ Boxed W (w.heap.size + 1) 9 (.string (textO l x))) ∧ Below w.heap.size w W)
    (OwnFrom.and (OwnFrom.and (Own.from (bk_own _ _ _) _) (Own.from (boxed_own _ _ (fun _ => .string ⟨#[]⟩)) _)) (OwnFrom.and (ownFrom_pure _ _) (ownFrom_below (Nat.le_refl _) (by omega))))
    (fun d => OwnFrom.and (fun s X Y row hs hg hr => by
      obtain ⟨e, pr, x, e1, e2, e3, hb⟩ := hs
      exact ⟨e, pr, x, e1, e2, e3, (boxed_own (β := Unit) _ _ (fun _ => .string (textO l x))) () X Y row hb hg (fun r q => (hr r q).2)⟩) (ownFrom_below (Nat.le_refl _) (by omega)))
    ⟨⟨ND4.out, NS4.out⟩, (fun x q => by cases q), B4.out⟩
    (fun x => { tmps := #[.agg #[.slice p l.length c, .slice pc C.length kc], .int .i64 sel, .pointer (some ⟨w.heap.size, 0, none⟩), undef, .pointer (some ⟨w.heap.size + 1, 0, none⟩), .int .i64 x.1, .pointer (some ⟨w.heap.size, 0, none⟩), .slice p l.length c, .int .i64 sel, .bool true, .bool false, .bool false, .agg #[.slice p l.length c, .slice pc C.length kc], .bool true, .bool false, .bool false, .pointer (some ⟨w.heap.size, 0, none⟩), .slice p l.length c, .int .i64 sel, .func (.func 62) #[] #[.pointer (some ⟨w2.heap.size, 0, none⟩), .pointer (some ⟨w2.heap.size + 1, 0, none⟩)], .int .i64 x.1, undef, undef, undef, undef, undef, undef, undef, undef, undef, undef], defers := [] }) ?assign ?body ?done ?stop
  case assign =>
    intro y x W K hK
    gi_wp2
    exact hK
  case body =>
    rintro y pre x W ⟨⟨hDk, hSb⟩, hno, hB⟩ hlt
    have rx := HRg.out x.1 x.2
    obtain ⟨q, eq, hq⟩ : ∃ q : Nat, x.1 = (q : Int) ∧ q < C.length := ⟨x.1.toNat, by omega, by omega⟩
    obtain ⟨F, _, p', k', e', hcell⟩ := HCT.out.below hB
    cases e'
    obtain ⟨cb, co, rfl, hcl⟩ : ∃ b o, pc = some ⟨b, o, none⟩ ∧ ∀ i (h : i < C.length), CtAt W b (o + i * 10) C[i] (fvAt F i) := by
      rcases hcell with t | t
      · rw [t] at hq; cases hq
      · exact t
    have c6 := hcl q hq 6 _ rfl
    have x1 := hDk.cell 1 rfl
    have x0 := hDk.cell 0 rfl
    have hs1 := hSb.cell
    have hs2 := hSb.frozen
    have q0 : (0 : Int) ≤ (q : Int) := by omega
    have q1 : (q : Int) < (C.length : Int) := by omega
    have es : (st C (q : Int)).sel = C[q].sel := by unfold st; rw [Int.toNat_natCast, List.getD_eq_getElem?_getD, List.getElem?_eq_getElem hq, Option.getD_some]
    have EV := hide (show vals (pre ++ [x]) = vals pre ++ [(q : Int)] by rw [vals_app, eq])
    have ES := hide es
    have HT := hide (fun W (hb : Below w.heap.size w W) => H3.out (q : Int) (by rw [← eq]; exact x.2) W hb)
    rw [eq]
    clear hcell hcl rx es
    cases hsq : C[q].sel with
    | false =>
      rw [hsq] at c6
      gi_wp2
      exact ⟨KeepsFrom.refl _ _, ⟨Below.refl _ _, fun _ _ => rfl⟩, ⟨⟨hDk, hSb⟩, (fun z hz => by
        rw [EV.out] at hz
        rcases List.mem_append.1 hz with t | t
        · exact hno z t
        · rw [List.mem_singleton.1 t, ES.out]; exact hsq), hB⟩⟩
    | true =>
      rw [hsq] at c6
      gi_wp2
      refine ⟨trivial, ?_⟩
      refine (CallsIn.inRound y (callsIn_wide.2 (HT.out _ hB))).mono ?_
      rintro e w5 ⟨rfl, b5⟩
      have hS5 : Boxed w5 (w.heap.size + 1) 9 (.string ⟨#[]⟩) := (b5.block _ hSb.lt).trans hSb
      have u1 := hS5.cell
      have u2 := hS5.frozen
      gi_wp2
      refine ⟨((KeepsOthers.of_grownBy (row := none) ⟨b5.os, b5.tape, b5.output, b5.size, fun k hk _ => b5.block k hk⟩ (fun j o e => by cases e)).trans (KeepsOthers.setCell _ _ _)).from _, ⟨rfl, vals pre, (q : Int), EV.out, hno, by rw [ES.out]; exact hsq, hS5.set _⟩, ?_⟩
      exact (hB.trans (b5.mono hB.size)).setCell (p := ⟨w.heap.size + 1, 0, none⟩) (Nat.le_succ _) _
  case done =>
    rintro D ys W hD hys ⟨⟨hDk, hSb⟩, hno, hB⟩ hK
    rw [hys] at hno
    have hs1 := hSb.cell
    have hs2 := hSb.frozen
    have e := FN.out hno
    subst e
    gi_wp2
    have hK2 := (KeepsOthers.setCell W ⟨w.heap.size + 1, 0, none⟩ (.string ⟨#[]⟩)).same D _ hK rfl
    have hc2 := cell_kept (hSb.set (.string ⟨#[]⟩)).cell (grownBy_putObj' _ D (.deferred none)) (fun r e => by cases e; exact ⟨_, hK2, rfl⟩)
    have bF : Below w.heap.size w (W.setCell ⟨w.heap.size + 1, 0, none⟩ (.string ⟨#[]⟩)) := hB.setCell (p := ⟨w.heap.size + 1, 0, none⟩) (Nat.le_succ _) _
    refine ⟨by simp, .inl ⟨_, _, rfl, run_takeDeferred hK2, ?_⟩⟩
    refine ⟨.string ⟨#[]⟩, by simp [results, go_sem, hc2], rfl, bF.trans (belowK_b (w := w) (Nat.le_refl _) _ D _ _ (by omega) hK2 rfl rfl)⟩
  case stop =>
    rintro D d pre W hD hSp ⟨⟨rfl, pr, x, e1, e2, e3, hb⟩, hB⟩ hK
    rw [e1] at hSp
    have e := FH.out pr x hSp e2 e3
    subst e
    have hs1 := hb.cell
    gi_wp2
    have hc2 := cell_kept hs1 (grownBy_putObj' _ D (.deferred none)) (fun r e => by cases e; exact ⟨_, hK, rfl⟩)
    refine ⟨by simp, .inl ⟨_, _, rfl, run_takeDeferred hK, ?_⟩⟩
    refine ⟨.string (textO l x), by simp [results, go_sem, hc2], rfl, hB.trans (belowK_b (w := w) (Nat.le_refl _) _ D _ _ (by omega) hK rfl rfl)⟩
set_option maxHeartbeats 8000000 in
theorem opValueG_any (nv cv : Value) (l : List Nd) (C : List Ct) (sel : Int) (w : World) (hD : DocV w nv cv l C) (hz : DocSz l) (hT : KTabs w) :
    Calls Tryz.prog 23 #[.agg #[nv, cv], .int .i64 sel] w fun e w' => e = .returned (.string (valueO l C sel)) ∧ Below w.heap.size w w' := by
  have HA := hide (fun W (hb : Below w.heap.size w W) => opIsA_any nv l sel 23 W (hD.nds.below hb) hz (hT.below hb))
  have HR := hide (fun W (hb : Below w.heap.size w W) => opRightG_any nv cv l C W (hD.below hb) hz)
  have NO : Hid ((isAB l sel 23 && rightD l C) = false → valueO l C sel = ⟨#[]⟩) := fun h => by
    unfold valueO
    split
    · rename_i r
      rw [r, Bool.and_true, isA_right (rd_parts r).1] at h
      have e : listP l sel = [] := if_neg (by rw [h]; decide)
      rw [e]; rfl
    · rfl
  cases h : isAB l sel 23 with
  | false =>
    have E := hide (NO.out (by rw [h]; rfl))
    rw [h] at HA
    obtain ⟨p, c, rfl⟩ := nds_formG hD.nds
    obtain ⟨pc, kc, rfl⟩ := cts_formG hD.cts
    have B0 : Hid (Below w.heap.size w ((w.alloc (.cells #[.slice p l.length c, .slice pc C.length kc] 33)).alloc (.cells #[.string ⟨#[]⟩] 9))) := ((Below.refl _ w).alloc (Nat.le_refl _) _).alloc (by simp) _
    have x0 : ((w.alloc (.cells #[.slice p l.length c, .slice pc C.length kc] 33)).alloc (.cells #[.string ⟨#[]⟩] 9)).cell? ⟨w.heap.size, 0, none⟩ = some (.slice p l.length c) := by simp
    have NS : Boxed ((w.alloc (.cells #[.slice p l.length c, .slice pc C.length kc] 33)).alloc (.cells #[.string ⟨#[]⟩] 9)) (w.heap.size + 1) 9 (.string ⟨#[]⟩) := by
      have := Boxed.new (w.alloc (.cells #[.slice p l.length c, .slice pc C.length kc] 33)) 9 (.string ⟨#[]⟩)
      rw [World.size_alloc] at this
      exact this
    clear HR NO hD hz hT h
    go_enter Tryz.func23, Tryz.ntmps23
    go_wp2_with fail
    refine (HA.out _ B0.out).mono ?_
    rintro e w1 ⟨rfl, b1⟩
    have N1 : Boxed w1 (w.heap.size + 1) 9 (.string ⟨#[]⟩) := (b1.block _ NS.lt).trans NS
    have c1 := N1.cell
    have c2 := N1.frozen
    have c3 := (N1.set (.string ⟨#[]⟩)).cell
    clear x0
    go_wp2_with fail
    refine bodyPost_ret (v := .string ⟨#[]⟩) (by simp [results, go_sem, c3]) rfl ?_
    exact ⟨ret_str E.out.symm, (chain B0.out b1).setCell (p := ⟨w.heap.size + 1, 0, none⟩) (Nat.le_succ _) _⟩
  | true =>
    cases r : rightD l C with
    | false =>
      have E := hide (NO.out (by rw [h, r]; rfl))
      rw [h] at HA
      rw [r] at HR
      obtain ⟨p, c, rfl⟩ := nds_formG hD.nds
      obtain ⟨pc, kc, rfl⟩ := cts_formG hD.cts
      have B0 : Hid (Below w.heap.size w ((w.alloc (.cells #[.slice p l.length c, .slice pc C.length kc] 33)).alloc (.cells #[.string ⟨#[]⟩] 9))) := ((Below.refl _ w).alloc (Nat.le_refl _) _).alloc (by simp) _
      have BD := hide ((Bk.new w [.slice p l.length c, .slice pc C.length kc] 33).below ((Below.refl _ (w.alloc (.cells #[.slice p l.length c, .slice pc C.length kc] 33))).alloc (Nat.le_refl _) (.cells #[.string ⟨#[]⟩] 9)))
      have NS : Boxed ((w.alloc (.cells #[.slice p l.length c, .slice pc C.length kc] 33)).alloc (.cells #[.string ⟨#[]⟩] 9)) (w.heap.size + 1) 9 (.string ⟨#[]⟩) := by
        have := Boxed.new (w.alloc (.cells #[.slice p l.length c, .slice pc C.length kc] 33)) 9 (.string ⟨#[]⟩)
        rw [World.size_alloc] at this
        exact this
      have x0 := BD.out.cell 0 rfl
      clear NO hD hz hT h r
      go_enter Tryz.func23, Tryz.ntmps23
      go_wp2_with fail
      refine (HA.out _ B0.out).mono ?_
      rintro e w1 ⟨rfl, b1⟩
      have D1 := hide (BD.out.below b1)
      have y0 := D1.out.cell 0 rfl
      have y1 := D1.out.cell 1 rfl
      go_wp2_with fail
      refine (HR.out _ (chain B0.out b1)).mono ?_
      rintro e w2 ⟨rfl, b2⟩
      have N2 : Boxed w2 (w.heap.size + 1) 9 (.string ⟨#[]⟩) := ((chain b1 b2).block _ NS.lt).trans NS
      have c1 := N2.cell
      have c2 := N2.frozen
      have c3 := (N2.set (.string ⟨#[]⟩)).cell
      clear x0
      go_wp2_with fail
      refine bodyPost_ret (v := .string ⟨#[]⟩) (by simp [results, go_sem, c3]) rfl ?_
      exact ⟨ret_str E.out.symm, (chain (chain B0.out b1) b2).setCell (p := ⟨w.heap.size + 1, 0, none⟩) (Nat.le_succ _) _⟩
    | true =>
      obtain ⟨hR, hlen⟩ := rd_parts r
      have hk : isK l sel 23 = true := by rw [← isA_right hR]; exact h
      have EV : valueO l C sel = (valO l ((optsP l sel).find? fun i => (st C i).sel)) := by
        unfold valueO
        rw [if_pos r, list_opts hk]
        cases (optsP l sel).find? (fun i => (st C i).sel) <;> rfl
      rw [EV]
      rw [h] at HA
      rw [r] at HR
      refine opValue_x l sel nv cv C w hD (fun p c e => by subst e; exact iter_of hD.nds hz hT hR (isK_in hk)) (fun i hi => by
        rw [← list_opts hk] at hi
        have := list_in.2 i hi
        rw [hlen]; exact this) HR.out HA.out (fun x hx W hb => ?_)
      obtain ⟨m, rfl, hm, hk'⟩ := opts_opt hk hx
      rw [text_valA hk']
      exact opValueOf_any nv l m W (hD.nds.below hb) hz hR hm
end Go.Proofs.YtemikdmkjgmflaaGreatDoor

namespace Go.Proofs.YtemikdmkjgmflaaGreatDoor
open Go.RowKit
theorem opValue_any (nv cv : Value) (l : List Nd) (C : List Ct) (sel : Int) (w : World) (hD : DocV w nv cv l C) (hz : DocSz l) (_hC : CsOK C) (hT : OpTabs w) :
    Calls Tryz.prog 23 #[.agg #[nv, cv], .int .i64 sel] w fun e w' => e = .returned (.string (valueO l C sel)) ∧ Below w.heap.size w w' := opValueG_any nv cv l C sel w hD hz hT
end Go.Proofs.YtemikdmkjgmflaaGreatDoor

namespace Go.Proofs.YtemikdmkjgmflaaGreatDoor
open Go.RowKit
set_option maxRecDepth 100000
theorem addr_neO {b b' o o' : Nat} (h : b ≠ b') : (⟨b, o, none⟩ : Addr) ≠ ⟨b', o', none⟩ := fun e => h (by cases e; rfl)
theorem undrewO {w w1 : World} (b : Below (w.drewN 1).heap.size (w.drewN 1) w1) : Below w.heap.size w w1 := ⟨b.os, b.tape, b.output, b.size, b.block⟩
theorem CtsO.chg {base : Nat} {S : List Nat} {w w' : World} {v : Value} {C : List Ct} {F : List Value} (h : CtsO base w v C F) (hc : Chg S w w') (hs : ∀ k ∈ S, k < base) : CtsO base w' v C F :=
  ⟨h.len, owns_kept h.row hc (fun k hk q => by have := (h.row.lt k hk).1; have := hs k q; omega)⟩
theorem OwnD.chg {base : Nat} {S : List Nat} {w w' : World} {v : Value} {L : List NdV} (h : OwnD base w v L) (hc : Chg S w w') (hs : ∀ k ∈ S, k < base) : OwnD base w' v L :=
  h.kept hc (fun k q r => by have := (h.lt r).1; have := hs k q; omega)
set_option maxHeartbeats 8000000 in
theorem opCopied_any (nv cv : Value) (l : List Nd) (C : List Ct) (w : World) (hD : DocV w nv cv l C) (hz : DocSz l) (hC : CsOK C) :
    Calls Tryz.prog 18 #[.agg #[nv, cv]] w fun e w' => ∃ nv' cv', e = .returned (.agg #[nv', cv']) ∧ DocV w' nv' cv' l C ∧ Below w.heap.size w w' := by
  obtain ⟨F, hF⟩ := hD.cts
  have H1 := hide (fun W (hb : Below w.heap.size w W) => refCopied_any nv l W (hD.nds.below hb) hz)
  have H2 := hide (fun W (hb : Below w.heap.size w W) => refOCopied_any cv C F W (hF.below hb) hC)
  have FI := hide hF.1
  obtain ⟨pn, kn, rfl⟩ := nds_form hD.nds
  obtain ⟨pc, kc, rfl⟩ := cts_form hD.cts
  have B0 : Hid (Below w.heap.size w ((w.alloc (.cells #[.slice pn l.length kn, .slice pc C.length kc] 33)).alloc (.cells #[.slice none 0 0, .slice none 0 0] 33))) := ((Below.refl _ w).alloc (Nat.le_refl _) _).alloc ((Below.refl _ w).alloc (Nat.le_refl _) (.cells #[.slice pn l.length kn, .slice pc C.length kc] 33)).size _
  have ND := hide ((Bk.new w [.slice pn l.length kn, .slice pc C.length kc] 33).below ((Below.refl _ (w.alloc (.cells #[.slice pn l.length kn, .slice pc C.length kc] 33))).alloc (Nat.le_refl _) (.cells #[.slice none 0 0, .slice none 0 0] 33)))
  have NR : Hid (Bk ((w.alloc (.cells #[.slice pn l.length kn, .slice pc C.length kc] 33)).alloc (.cells #[.slice none 0 0, .slice none 0 0] 33)) (w.heap.size + 1) [.slice none 0 0, .slice none 0 0] 33) := Bk.at' (bk_next rfl)
  clear hD hz hC hF
  go_enter Tryz.func18, Tryz.ntmps18
  go_upto_region 1 with fail
  generalize (w.alloc (.cells #[.slice pn l.length kn, .slice pc C.length kc] 33)).alloc (.cells #[.slice none 0 0, .slice none 0 0] 33) = w0 at *
  have x0 := ND.out.cell 0 rfl
  have x1 := ND.out.cell 1 rfl
  have r0 := NR.out.cell 0 rfl
  have r1 := NR.out.cell 1 rfl
  have s0 := NR.out.free 0
  have s1 := NR.out.free 1
  have l0 : w.heap.size + 1 < w0.heap.size := NR.out.lt
  go_region_held3 (fun w' => w'.cell? ⟨w.heap.size, 0, none⟩ = some (.slice pn l.length kn) ∧ w'.cell? ⟨w.heap.size, 1, none⟩ = some (.slice pc C.length kc)) (first | go_keep | exact ⟨cell_below x0 U1.out, cell_below x1 U1.out⟩ | exact ⟨cell_below x0 U2.out, cell_below x1 U2.out⟩ | exact ⟨(World.cell?_setCell_other _ _ _ _ (addr_neO (Nat.succ_ne_self _))).trans ((World.cell?_setCell_other _ _ _ _ (addr_neO (Nat.succ_ne_self _))).trans (cell_below x0 U2.out)), (World.cell?_setCell_other _ _ _ _ (addr_neO (Nat.succ_ne_self _))).trans ((World.cell?_setCell_other _ _ _ _ (addr_neO (Nat.succ_ne_self _))).trans (cell_below x1 U2.out))⟩)
    (first | (go_at_call 7; refine (H1.out _ (belRO B0.out 1)).mono ?_; rintro e w1 ⟨v1, L1, rfl, o1, e1, b1⟩; have O1 := hide o1; have E1 := hide e1; obtain ⟨p1, k1, rfl⟩ := own_form o1 e1; clear o1 e1; have U1 : Hid (Below w0.heap.size w0 w1) := undrewO b1) | (go_at_call 45; refine (H2.out _ (chain B0.out U1.out)).mono ?_; rintro e w2 ⟨v2, rfl, o2, b2⟩; have O2 := hide o2; obtain ⟨p2, k2, rfl, _⟩ := o2.form; clear o2; have U2 : Hid (Below w0.heap.size w0 w2) := chain U1.out b2; have y0 := cell_below r0 U2.out; have y1 := cell_below r1 U2.out; have z0 := (U2.out.frozen (World.block_lt_of_cell? _ _ r0)).trans s0; have z1 := (U2.out.frozen (World.block_lt_of_cell? _ _ r1)).trans s1))
  go_wp2_with fail
  refine bodyPost_ret (v := .agg #[.slice p1 l.length k1, .slice p2 C.length k2]) (by simp [results, go_sem, y0, y1]) rfl ?_
  have CH : Chg [w.heap.size + 1] w2 ((w2.setCell ⟨w.heap.size + 1, 0, none⟩ (.slice p1 l.length k1)).setCell ⟨w.heap.size + 1, 1, none⟩ (.slice p2 C.length k2)) := (Chg.setB _ _ _ _).trans (Chg.setB _ _ _ _)
  have BF : Below w.heap.size w ((w2.setCell ⟨w.heap.size + 1, 0, none⟩ (.slice p1 l.length k1)).setCell ⟨w.heap.size + 1, 1, none⟩ (.slice p2 C.length k2)) := ((chain B0.out U2.out).setCell (Nat.le_succ _) _).setCell (Nat.le_succ _) _
  have N1 := ((O1.out.below b2).chg CH (fun k q => by rw [List.mem_singleton.1 q]; exact l0)).nodes
  rw [E1.out] at N1
  exact ⟨_, _, rfl, ⟨N1, (O2.out.chg CH (fun k q => by rw [List.mem_singleton.1 q]; have := U1.out.size; omega)).cts (FI.out.below BF)⟩, BF⟩
end Go.Proofs.YtemikdmkjgmflaaGreatDoor

namespace Go.Proofs.YtemikdmkjgmflaaGreatDoor
open Go.RowKit
set_option maxRecDepth 100000
set_option maxHeartbeats 8000000 in
theorem refOSame_yes (va vb : Value) (C : List Ct) (w : World) (ha : CtsV w va C) (hb : CtsV w vb C) (hC : CsOK C) :
    Calls Tryz.prog 21 #[va, vb] w fun e w' => e = .returned (.bool true) ∧ Below w.heap.size w w' := by
  obtain ⟨Fa, fa, pa, ka, rfl, ha⟩ := ha
  obtain ⟨Fb, fb, pb, kb, rfl, hb⟩ := hb
  have hl := hC.len
  have FA := hide fa
  have FB := hide fb
  have HA := hide ha
  have HB := hide hb
  have HZ := hide hC
  have e1 : ((C.length : Int) != (C.length : Int)) = false := by simp
  clear ha hb hC fa fb
  go_enter Tryz.func21, Tryz.ntmps21
  go_wp2_with fail
  go_loopw [5] (fun iv wr => ∃ j : Nat, j ≤ C.length ∧ iv = .int .i64 j ∧ Hid (Below w.heap.size w wr)) (fun iv _ => C.length - (intOf iv).toNat)
  case atStart => exact ⟨0, Nat.zero_le _, rfl, Below.refl _ _⟩
  case round =>
    rename World => wr
    obtain ⟨j, hj, rfl, BW⟩ := hrel
    by_cases g : j < C.length
    · have j1 : (j : Int) < (C.length : Int) := by omega
      have j0 : (0 : Int) ≤ (j : Int) := by omega
      have ha' : ∃ b o, pa = some ⟨b, o, none⟩ ∧ ∀ i (h : i < C.length), CtAt w b (o + i * 10) C[i] (fvAt Fa i) := by
        rcases HA.out with q | q
        · rw [q] at g; simp at g
        · exact q
      have hb' : ∃ b o, pb = some ⟨b, o, none⟩ ∧ ∀ i (h : i < C.length), CtAt w b (o + i * 10) C[i] (fvAt Fb i) := by
        rcases HB.out with q | q
        · rw [q] at g; simp at g
        · exact q
      obtain ⟨ba, oa, rfl, ha1⟩ := ha'
      obtain ⟨bb, ob, rfl, hb1⟩ := hb'
      have hA := (ha1 j g).below BW.out
      have hB := (hb1 j g).below BW.out
      have x0 : wr.cell? ⟨ba, oa + j * 10, none⟩ = some (.string C[j].val) := hA 0 _ rfl
      have x1 : wr.cell? ⟨ba, oa + j * 10 + 1, none⟩ = some (.bool C[j].dirty) := hA 1 _ rfl
      have x2 : wr.cell? ⟨ba, oa + j * 10 + 2, none⟩ = some (.bool C[j].typed) := hA 2 _ rfl
      have x3 : wr.cell? ⟨ba, oa + j * 10 + 3, none⟩ = some (.bool C[j].chk) := hA 3 _ rfl
      have x4 : wr.cell? ⟨ba, oa + j * 10 + 4, none⟩ = some (.bool C[j].dchk) := hA 4 _ rfl
      have x5 : wr.cell? ⟨ba, oa + j * 10 + 5, none⟩ = some (.bool C[j].mixed) := hA 5 _ rfl
      have x6 : wr.cell? ⟨ba, oa + j * 10 + 6, none⟩ = some (.bool C[j].sel) := hA 6 _ rfl
      have x7 : wr.cell? ⟨ba, oa + j * 10 + 7, none⟩ = some (.bool C[j].dsel) := hA 7 _ rfl
      have x8 : wr.cell? ⟨ba, oa + j * 10 + 8, none⟩ = some (.string C[j].custom) := hA 8 _ rfl
      have x9 : wr.cell? ⟨ba, oa + j * 10 + 9, none⟩ = some (fvAt Fa j) := hA 9 _ rfl
      have y0 : wr.cell? ⟨bb, ob + j * 10, none⟩ = some (.string C[j].val) := hB 0 _ rfl
      have y1 : wr.cell? ⟨bb, ob + j * 10 + 1, none⟩ = some (.bool C[j].dirty) := hB 1 _ rfl
      have y2 : wr.cell? ⟨bb, ob + j * 10 + 2, none⟩ = some (.bool C[j].typed) := hB 2 _ rfl
      have y3 : wr.cell? ⟨bb, ob + j * 10 + 3, none⟩ = some (.bool C[j].chk) := hB 3 _ rfl
      have y4 : wr.cell? ⟨bb, ob + j * 10 + 4, none⟩ = some (.bool C[j].dchk) := hB 4 _ rfl
      have y5 : wr.cell? ⟨bb, ob + j * 10 + 5, none⟩ = some (.bool C[j].mixed) := hB 5 _ rfl
      have y6 : wr.cell? ⟨bb, ob + j * 10 + 6, none⟩ = some (.bool C[j].sel) := hB 6 _ rfl
      have y7 : wr.cell? ⟨bb, ob + j * 10 + 7, none⟩ = some (.bool C[j].dsel) := hB 7 _ rfl
      have y8 : wr.cell? ⟨bb, ob + j * 10 + 8, none⟩ = some (.string C[j].custom) := hB 8 _ rfl
      have y9 : wr.cell? ⟨bb, ob + j * 10 + 9, none⟩ = some (fvAt Fb j) := hB 9 _ rfl
      have fz := (HZ.out.fs C[j] (List.getElem_mem g)).len
      have HS : Hid (∀ W, Below w.heap.size w W → Calls Tryz.prog 47 #[.agg #[.string C[j].val, .bool C[j].dirty, .bool C[j].typed, .bool C[j].chk, .bool C[j].dchk, .bool C[j].mixed, .bool C[j].sel, .bool C[j].dsel, .string C[j].custom, fvAt Fa j], .agg #[.string C[j].val, .bool C[j].dirty, .bool C[j].typed, .bool C[j].chk, .bool C[j].dchk, .bool C[j].mixed, .bool C[j].sel, .bool C[j].dsel, .string C[j].custom, fvAt Fb j]] W fun e w' => e = .returned (.bool true) ∧ Below W.heap.size W w') := fun W hb => refCtSame_yes _ _ C[j] W ⟨fvAt Fa j, rfl, (FA.out.at_ j g).below hb⟩ ⟨fvAt Fb j, rfl, (FB.out.at_ j g).below hb⟩ fz
      obtain ⟨p1, n1, e2, r1⟩ := FA.out.at_ j g
      obtain ⟨p2, n2, e3, r2⟩ := FB.out.at_ j g
      rw [e2] at x9 HS
      rw [e3] at y9 HS
      clear HA HB FA FB HZ ha1 hb1 hA hB e2 e3 r1 r2
      generalize C[j].files.length = nf at *
      generalize C[j].val = c0 at *
      generalize C[j].dirty = c1 at *
      generalize C[j].typed = c2 at *
      generalize C[j].chk = c3 at *
      generalize C[j].dchk = c4 at *
      generalize C[j].mixed = c5 at *
      generalize C[j].sel = c6 at *
      generalize C[j].dsel = c7 at *
      generalize C[j].custom = c8 at *
      go_wp2_with fail
      go_region_held3 (fun w' => w'.cell? ⟨ba, oa + j * 10, none⟩ = some (.string c0) ∧ w'.cell? ⟨ba, oa + j * 10 + 1, none⟩ = some (.bool c1) ∧ w'.cell? ⟨ba, oa + j * 10 + 2, none⟩ = some (.bool c2) ∧ w'.cell? ⟨ba, oa + j * 10 + 3, none⟩ = some (.bool c3) ∧ w'.cell? ⟨ba, oa + j * 10 + 4, none⟩ = some (.bool c4) ∧ w'.cell? ⟨ba, oa + j * 10 + 5, none⟩ = some (.bool c5) ∧ w'.cell? ⟨ba, oa + j * 10 + 6, none⟩ = some (.bool c6) ∧ w'.cell? ⟨ba, oa + j * 10 + 7, none⟩ = some (.bool c7) ∧ w'.cell? ⟨ba, oa + j * 10 + 8, none⟩ = some (.string c8) ∧ w'.cell? ⟨ba, oa + j * 10 + 9, none⟩ = some (.slice p1 nf n1) ∧ w'.cell? ⟨bb, ob + j * 10, none⟩ = some (.string c0) ∧ w'.cell? ⟨bb, ob + j * 10 + 1, none⟩ = some (.bool c1) ∧ w'.cell? ⟨bb, ob + j * 10 + 2, none⟩ = some (.bool c2) ∧ w'.cell? ⟨bb, ob + j * 10 + 3, none⟩ = some (.bool c3) ∧ w'.cell? ⟨bb, ob + j * 10 + 4, none⟩ = some (.bool c4) ∧ w'.cell? ⟨bb, ob + j * 10 + 5, none⟩ = some (.bool c5) ∧ w'.cell? ⟨bb, ob + j * 10 + 6, none⟩ = some (.bool c6) ∧ w'.cell? ⟨bb, ob + j * 10 + 7, none⟩ = some (.bool c7) ∧ w'.cell? ⟨bb, ob + j * 10 + 8, none⟩ = some (.string c8) ∧ w'.cell? ⟨bb, ob + j * 10 + 9, none⟩ = some (.slice p2 nf n2)) (first | go_keep | exact ⟨cell_below x0 UR.out, cell_below x1 UR.out, cell_below x2 UR.out, cell_below x3 UR.out, cell_below x4 UR.out, cell_below x5 UR.out, cell_below x6 UR.out, cell_below x7 UR.out, cell_below x8 UR.out, cell_below x9 UR.out, cell_below y0 UR.out, cell_below y1 UR.out, cell_below y2 UR.out, cell_below y3 UR.out, cell_below y4 UR.out, cell_below y5 UR.out, cell_below y6 UR.out, cell_below y7 UR.out, cell_below y8 UR.out, cell_below y9 UR.out⟩)
        (first | (go_at_call 47; refine (HS.out _ (belR BW.out 1)).mono ?_; rintro e wv ⟨rfl, bv⟩; have UR : Hid (Below wr.heap.size wr wv) := undrewO bv))
      go_wp2_with fail
      go_roundw
      case rel => exact ⟨j + 1, by omega, by go_num, chain BW.out UR.out⟩
      case measure => simp [intOf]; omega
    · obtain rfl : j = C.length := by omega
      clear HA HB FA FB HZ
      go_wp2_with fail
      go_ret
      exact ⟨rfl, BW.out⟩

end Go.Proofs.YtemikdmkjgmflaaGreatDoor
