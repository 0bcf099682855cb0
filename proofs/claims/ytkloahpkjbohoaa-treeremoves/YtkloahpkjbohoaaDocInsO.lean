/- The program's Insert of layer 10, of what it does. Conditions: as in 'DocS9'. -/
import Derived.Test.YtkloahpkjbohoaaDocInsP
namespace Go.Proofs.Ytkloahpkjbohoaa
open Go.RowKit

/-- Where a child goes. -/
def spot (ks : List Int) (bf : Int) : Nat := if bf = -1 then ks.length else (idxI ks bf).getD 0
def insQ (l : List Nd) (p c : Nat) (bf : Int) : List Nd :=
  upd (upd (remP l c) p fun n => { n with kids := insI n.kids (spot n.kids bf) (c : Int) }) c fun n => { n with parent := (p : Int) }

theorem rem_kids_is {l : List Nd} (h : Right l) {c p : Nat} (hc : c < l.length) : (nd (remP l c) p).kids = (nd l p).kids ∨ (nd (remP l c) p).kids = (nd l p).kids.filter fun x => decide (x ≠ (c : Int)) := by
    have h1 : (nd (remP l c) p).kids = (nd (cutK l c) p).kids := by
      unfold remP
      rw [nd_upd _ (by rw [cutK_len]; exact hc)]
      by_cases q : p = c
      · rw [if_pos q, q]
      · rw [if_neg q]
    rw [h1]
    unfold cutK
    by_cases q : (nd l c).parent < 0
    · rw [if_pos q]; exact .inl rfl
    · rw [if_neg q]
      have hq : (nd l c).parent.toNat < l.length := by have := (h.par c hc).2; omega
      rw [nd_upd _ hq]
      by_cases r : p = (nd l c).parent.toNat
      · rw [if_pos r, ← r]; exact .inr rfl
      · rw [if_neg r]; exact .inl rfl
theorem rem_kids {l : List Nd} (h : Right l) {c p : Nat} (hc : c < l.length) (hp : p < l.length) : (nd (remP l c) p).kids.length ≤ 400 := by
  have A := (right_texts h hp).2.2.2.2
  have e := rem_kids_is h (p := p) hc
  rw [nd_at hp] at e
  rcases e with e | e
  · rw [e]; exact A
  · rw [e]; exact Nat.le_trans (List.length_filter_le _ _) A
set_option maxHeartbeats 4000000 in
set_option maxRecDepth 100000 in
theorem insert_ok (v : Value) (l : List Nd) (p c : Nat) (bf : Int) (w : World) (hv : NodesV w v l) (hz : DocSz l) (hR : Right l) (hp : p < l.length) (hc : c < l.length)
    (g1 : noName l[p].name = false) (g2 : ¬ c = 0) (g3 : (c : Int) ∉ anc l (p : Int)) (g5 : bf = -1 ∨ (¬ bf = (c : Int) ∧ bf ∈ l[p].kids)) :
    Calls Try.prog 16 #[v, .int .i64 (p : Int), .int .i64 (c : Int), .int .i64 bf] w fun e w' => ∃ v', e = .returned (.tuple #[v', .int .i64 0]) ∧ NodesV w' v' (insQ l p c bf) ∧ Below w.heap.size w w' := by
  have HP := hide (fun W (hb : Below w.heap.size w W) => isThere_any v l (p : Int) W (hv.below hb) hz)
  have HC := hide (fun W (hb : Below w.heap.size w W) => isThere_any v l (c : Int) W (hv.below hb) hz)
  have e1 : hasN l (p : Int) = true := by unfold hasN; rw [decide_eq_true ⟨by omega, by omega⟩, right_is.2 hR]; rfl
  have e2 : hasN l (c : Int) = true := by unfold hasN; rw [decide_eq_true ⟨by omega, by omega⟩, right_is.2 hR]; rfl
  rw [e1] at HP
  rw [e2] at HC
  have HU := hide (fun W (hb : Below w.heap.size w W) => upwards_any v l p W (hv.below hb) hR hp)
  have AL : Hid ((anc l (p : Int)).length ≤ 17592186044416) := by
    have := nodup_len l.length (anc l (p : Int)) (anc_nodup l _ _ (hR.ende (by omega))) (anc_range l (fun i hi => (hR.par i hi).2) _ _ (by omega))
    have := hR.len
    show _ ≤ _; omega
  have HCo := hide (fun W (hb : Below w.heap.size w W) => copied_any v l W (hv.below hb) hR)
  have HR := hide hR
  obtain ⟨pp, cc, rfl, hv⟩ := hv
  rcases hv with hv | ⟨b, o, rfl, hv⟩
  · rw [hv] at hp; simp at hp
  obtain ⟨va, vk, N0⟩ := hv p hp
  have NW : Hid (∀ W, Below w.heap.size w W → NodeAt W b (o + p * 5) l[p] va vk) := fun W hb => N0.below hb
  have HT := hide (fun W => isText_any l[p].name l[p].text va l[p].parent vk W)
  have i0 : (0 : Int) ≤ (p : Int) := by omega
  have i1 : (p : Int) < (l.length : Int) := by omega
  have hlen := hR.len.2
  rw [g1] at HT
  have KL : Hid (l[p].kids.length ≤ 17592186044416) := Nat.le_trans (right_texts hR hp).2.2.2.2 (by omega)
  have f0 : ((c : Int) == 0) = false := by rw [beq_eq_false_iff_ne]; omega
  have G3 := hide g3
  clear hv N0 e1 e2 hz
  go_enter Try.func16, Try.ntmps16
  go_wp2_with fail
  refine (HP.out _ (Below.refl _ _)).mono ?_
  rintro e w1 ⟨rfl, b1⟩
  go_wp2_with fail
  refine (HC.out _ b1).mono ?_
  rintro e w2 ⟨rfl, b2⟩
  have B2 := hide (chain b1 b2)
  have a0 := (NW.out w2 B2.out).name
  have a1 := (NW.out w2 B2.out).text
  have a2 := (NW.out w2 B2.out).attrs
  have a3 := (NW.out w2 B2.out).parent
  have a4 := (NW.out w2 B2.out).kids
  clear b1 b2
  go_wp2_with fail
  refine (HT.out _).mono ?_
  rintro e w3 ⟨rfl, b3⟩
  have B3 := hide (chain B2.out b3)
  clear b3 a0 a1 a2 a3 a4 B2
  go_wp2_with fail
  refine (HU.out _ B3.out).mono ?_
  rintro e w4 ⟨v4, rfl, k4, b4⟩
  have HI := hide (containsI_any v4 (anc l (p : Int)) (c : Int) w4 k4.ints AL.out)
  rw [decide_eq_false G3.out] at HI
  have B4 := hide (chain B3.out b4)
  clear b4 k4
  go_wp2_with fail
  refine HI.out.mono ?_
  rintro e w5 ⟨rfl, hw⟩
  obtain rfl : w4 = w5 := hw.symm
  have B6' := trivial
  by_cases qb : bf = -1
  · have f1 : (bf == -1) = true := by rw [qb]; rfl
    go_wp2_with fail
    refine (HCo.out _ B4.out).mono ?_
    rintro e w6 ⟨v6, L, rfl, o6, l6, b6⟩
    have B6 := hide (chain B4.out b6)
    have LL : L.length = l.length := by rw [← ndsOf_len, l6]
    have HTk := hide (takeOut_any w.heap.size v6 L c w6 (OwnD.mono o6 B4.out.size) B6.out.size (by omega) (by rw [l6]; exact HR.out))
    have L6 := hide l6
    clear o6 l6 b6 LL HCo
    go_wp2_with fail
    refine HTk.out.mono ?_
    rintro e w7 ⟨L7, rfl, o7, l7, b7⟩
    rw [L6.out] at l7
    have B7 : Hid (Below w.heap.size w w7) := B6.out.trans b7
    have LL : L7.length = l.length := by
      rw [← ndsOf_len, l7]
      unfold remP
      rw [upd_len, cutK_len]
    have hp7 : p < L7.length := by omega
    have hc7 : c < L7.length := by omega
    obtain ⟨G, cp, ev, eb, ge, gl, _⟩ := owns_at o7.row (by omega)
    have O7 := hide o7
    have L7e := hide l7
    have EB := hide eb
    have j1 : (p : Int) < (L7.length : Int) := by omega
    have j2 : (c : Int) < (L7.length : Int) := by omega
    have j3 : (0 : Int) ≤ (c : Int) := by omega
    have LH := hide LL
    have c4 := (o7.nodeAt eb hp7).kids
    have KO : Hid (KidsO w.heap.size w7 L7[p].k L7[p].n.kids) := o7.ks L7[p] (List.getElem_mem hp7)
    obtain ⟨qk, ck, ek, _⟩ := KO.out.ints
    have EK := hide ek
    have KL7 : Hid (L7[p].n.kids.length ≤ 400) := by
      have t := rem_kids HR.out hc hp
      rw [← l7, ndsOf_at hp7] at t
      exact t
    rw [ek] at c4
    have nG : G ≠ w7.heap.size := by omega
    clear o7 l7 eb LL HTk ek
    subst ev
    have SP : Hid (spot L7[p].n.kids bf = L7[p].n.kids.length) := by show _ = _; unfold spot; rw [if_pos qb]
    have PLle : L7[p].n.kids.length ≤ L7[p].n.kids.length := Nat.le_refl _
    have CA : Hid (Chg [] w7 (w7.alloc (.cells #[.int .i64 (c : Int)] 3))) := Chg.alloc _ _
    have KA : Hid (KidsO w.heap.size (w7.alloc (.cells #[.int .i64 (c : Int)] 3)) (.slice qk L7[p].n.kids.length ck) L7[p].n.kids) := by
      have := owns_kept KO.out CA.out (fun _ _ q => by cases q)
      rw [EK.out] at this
      exact this
    have OA := hide (O7.out.kept CA.out (fun _ q => by cases q))
    have NV : Hid ((Value.slice qk L7[p].n.kids.length ck).ownBlock ≠ some w7.heap.size) := fun t => by
      rw [← EK.out] at t
      have := (World.ownsRow.lt KO.out _ t).2
      exact Nat.lt_irrefl _ this
    have HI2 := hide (insertI_any w.heap.size (.slice qk L7[p].n.kids.length ck) L7[p].n.kids (c : Int) (L7[p].n.kids.length) w7.heap.size (w7.alloc (.cells #[.int .i64 (c : Int)] 3)) KA.out (NB.new w7 [.int .i64 (c : Int)] 3) NV.out PLle KL7.out (Nat.le_trans B7.out.size CA.out.size))
    have nGk : Hid (G ∉ (Value.slice qk L7[p].n.kids.length ck).ownBlock.toList) := fun t => by
      rw [← EK.out] at t
      exact own_ne O7.out hp7 EB.out (List.mem_append_right _ t)
    have d4 := hide (CA.out.cell c4 (by simp))
    have d3 := hide (CA.out.cell (O7.out.nodeAt EB.out hc7).parent (by simp))
    go_wp2_with fail
    refine HI2.out.mono ?_
    rintro e w8 ⟨q8, c8, rfl, o8, ch8, bl8⟩
    have k4 := ch8.cell d4.out nGk.out
    have k3 := ch8.cell d3.out nGk.out
    have RW := hide (owns_kept OA.out.row ch8 (fun k hk q => nGk.out (by have e : G = k := Option.some.inj (EB.out.symm.trans hk); rw [e]; exact q)))
    have f4 := owns_free RW.out EB.out (p * 5 + 4)
    have f3 := owns_free RW.out EB.out (c * 5 + 3)
    have O8 := hide o8
    have CH := hide ch8
    have BL := hide bl8
    clear o8 ch8 bl8 HI2 c4
    go_wp2_with fail
    go_ret2
    rw [← EK.out] at CH BL
    have D1 := OwnD.putK OA.out EB.out hp7 CH.out O8.out BL.out
    have hc2 : c < (L7.set p ⟨{ L7[p].n with kids := insI L7[p].n.kids (L7[p].n.kids.length) (c : Int) }, L7[p].a, .slice q8 (L7[p].n.kids.length + 1) c8⟩).length := by rw [List.length_set]; exact hc7
    have D2 := OwnD.putP D1 EB.out hc2 (p : Int)
    have N2 := D2.nodes
    have E : ndsOf ((L7.set p ⟨{ L7[p].n with kids := insI L7[p].n.kids (L7[p].n.kids.length) (c : Int) }, L7[p].a, .slice q8 (L7[p].n.kids.length + 1) c8⟩).set c ⟨{ (L7.set p ⟨{ L7[p].n with kids := insI L7[p].n.kids (L7[p].n.kids.length) (c : Int) }, L7[p].a, .slice q8 (L7[p].n.kids.length + 1) c8⟩)[c].n with parent := (p : Int) }, (L7.set p ⟨{ L7[p].n with kids := insI L7[p].n.kids (L7[p].n.kids.length) (c : Int) }, L7[p].a, .slice q8 (L7[p].n.kids.length + 1) c8⟩)[c].a, (L7.set p ⟨{ L7[p].n with kids := insI L7[p].n.kids (L7[p].n.kids.length) (c : Int) }, L7[p].a, .slice q8 (L7[p].n.kids.length + 1) c8⟩)[c].k⟩) = insQ l p c bf := by
      rw [ndsOf_set, ← ndsOf_at hc2, ndsOf_set]
      unfold insQ upd
      rw [← L7e.out, ndsOf_at hp7]
      simp only [SP.out]
    rw [E] at N2
    refine ⟨_, rfl, N2, B7.out.trans (Chg.below (S := G :: L7[p].k.ownBlock.toList) (((CA.out.nil.trans (CH.out.mono (fun k q _ => List.mem_cons_of_mem _ q))).trans ((Chg.setB _ _ _ _).mono (fun k q _ => by rw [List.mem_singleton.1 q]; exact List.mem_cons_self ..))).trans ((Chg.setB _ _ _ _).mono (fun k q _ => by rw [List.mem_singleton.1 q]; exact List.mem_cons_self ..))) B7.out.size (fun k q => ?_))⟩
    rcases List.mem_cons.1 q with t | t
    · rw [t]; exact ge
    · exact (World.ownsRow.lt KO.out k (opt_mem.1 t)).1
  · have f1 : (bf == -1) = false := by rw [beq_eq_false_iff_ne]; exact qb
    have g6 : ¬ bf = (c : Int) ∧ bf ∈ l[p].kids := by
      rcases g5 with t | t
      · exact absurd t qb
      · exact t
    have f2 : (bf == (c : Int)) = false := by rw [beq_eq_false_iff_ne]; exact g6.1
    have a4 := (NW.out w4 B4.out).kids
    have HK := hide (containsI_any vk l[p].kids bf w4 (NW.out w4 B4.out).ks KL.out)
    rw [decide_eq_true g6.2] at HK
    go_wp2_with fail
    refine HK.out.mono ?_
    rintro e w5 ⟨rfl, hw⟩
    obtain rfl : w4 = w5 := hw.symm
    clear a4
    go_wp2_with fail
    refine (HCo.out _ B4.out).mono ?_
    rintro e w6 ⟨v6, L, rfl, o6, l6, b6⟩
    have B6 := hide (chain B4.out b6)
    have LL : L.length = l.length := by rw [← ndsOf_len, l6]
    have HTk := hide (takeOut_any w.heap.size v6 L c w6 (OwnD.mono o6 B4.out.size) B6.out.size (by omega) (by rw [l6]; exact HR.out))
    have L6 := hide l6
    clear o6 l6 b6 LL HCo
    go_wp2_with fail
    refine HTk.out.mono ?_
    rintro e w7 ⟨L7, rfl, o7, l7, b7⟩
    rw [L6.out] at l7
    have B7 : Hid (Below w.heap.size w w7) := B6.out.trans b7
    have LL : L7.length = l.length := by
      rw [← ndsOf_len, l7]
      unfold remP
      rw [upd_len, cutK_len]
    have hp7 : p < L7.length := by omega
    have hc7 : c < L7.length := by omega
    obtain ⟨G, cp, ev, eb, ge, gl, _⟩ := owns_at o7.row (by omega)
    have O7 := hide o7
    have L7e := hide l7
    have EB := hide eb
    have j1 : (p : Int) < (L7.length : Int) := by omega
    have j2 : (c : Int) < (L7.length : Int) := by omega
    have j3 : (0 : Int) ≤ (c : Int) := by omega
    have LH := hide LL
    have c4 := (o7.nodeAt eb hp7).kids
    have KO : Hid (KidsO w.heap.size w7 L7[p].k L7[p].n.kids) := o7.ks L7[p] (List.getElem_mem hp7)
    obtain ⟨qk, ck, ek, _⟩ := KO.out.ints
    have EK := hide ek
    have KL7 : Hid (L7[p].n.kids.length ≤ 400) := by
      have t := rem_kids HR.out hc hp
      rw [← l7, ndsOf_at hp7] at t
      exact t
    rw [ek] at c4
    have nG : G ≠ w7.heap.size := by omega
    clear o7 l7 eb LL HTk ek
    subst ev
    have HIx := hide (indexI_any (.slice qk L7[p].n.kids.length ck) L7[p].n.kids bf w7 (by have := KO.out.ints; rw [EK.out] at this; exact this) (by have := KL7.out; omega))
    have MB : bf ∈ L7[p].n.kids := by
      have e := rem_kids_is HR.out (p := p) hc
      rw [← L7e.out, ndsOf_at hp7, nd_at hp] at e
      rcases e with e | e
      · rw [e]; exact g6.2
      · rw [e]; exact List.mem_filter.2 ⟨g6.2, by simpa using g6.1⟩
    obtain ⟨k, hk⟩ : ∃ k, Hid (idxI L7[p].n.kids bf = some k) := by
      have t := idxI_mem L7[p].n.kids bf
      rw [decide_eq_true MB] at t
      cases q : idxI L7[p].n.kids bf with
      | none => rw [q] at t; cases t
      | some k => exact ⟨k, rfl⟩
    rw [hk.out] at HIx
    have hk1 : k < L7[p].n.kids.length := by
      have := hk.out
      unfold idxI at this
      exact (List.findIdx?_eq_some_iff_getElem.1 this).1
    have SP : Hid (spot L7[p].n.kids bf = k) := by show _ = _; unfold spot; rw [if_neg qb, hk.out]; rfl
    have PLle : k ≤ L7[p].n.kids.length := by omega
    have fk : findV (some k) = (k : Int) := rfl
    go_wp2_with fail
    refine HIx.out.mono ?_
    rintro e w9 ⟨rfl, hw9⟩
    obtain rfl : w7 = w9 := hw9.symm
    have CA : Hid (Chg [] w7 (w7.alloc (.cells #[.int .i64 (c : Int)] 3))) := Chg.alloc _ _
    have KA : Hid (KidsO w.heap.size (w7.alloc (.cells #[.int .i64 (c : Int)] 3)) (.slice qk L7[p].n.kids.length ck) L7[p].n.kids) := by
      have := owns_kept KO.out CA.out (fun _ _ q => by cases q)
      rw [EK.out] at this
      exact this
    have OA := hide (O7.out.kept CA.out (fun _ q => by cases q))
    have NV : Hid ((Value.slice qk L7[p].n.kids.length ck).ownBlock ≠ some w7.heap.size) := fun t => by
      rw [← EK.out] at t
      have := (World.ownsRow.lt KO.out _ t).2
      exact Nat.lt_irrefl _ this
    have HI2 := hide (insertI_any w.heap.size (.slice qk L7[p].n.kids.length ck) L7[p].n.kids (c : Int) (k) w7.heap.size (w7.alloc (.cells #[.int .i64 (c : Int)] 3)) KA.out (NB.new w7 [.int .i64 (c : Int)] 3) NV.out PLle KL7.out (Nat.le_trans B7.out.size CA.out.size))
    have nGk : Hid (G ∉ (Value.slice qk L7[p].n.kids.length ck).ownBlock.toList) := fun t => by
      rw [← EK.out] at t
      exact own_ne O7.out hp7 EB.out (List.mem_append_right _ t)
    have d4 := hide (CA.out.cell c4 (by simp))
    have d3 := hide (CA.out.cell (O7.out.nodeAt EB.out hc7).parent (by simp))
    go_wp2_with fail
    refine HI2.out.mono ?_
    rintro e w8 ⟨q8, c8, rfl, o8, ch8, bl8⟩
    have k4 := ch8.cell d4.out nGk.out
    have k3 := ch8.cell d3.out nGk.out
    have RW := hide (owns_kept OA.out.row ch8 (fun k hk q => nGk.out (by have e : G = k := Option.some.inj (EB.out.symm.trans hk); rw [e]; exact q)))
    have f4 := owns_free RW.out EB.out (p * 5 + 4)
    have f3 := owns_free RW.out EB.out (c * 5 + 3)
    have O8 := hide o8
    have CH := hide ch8
    have BL := hide bl8
    clear o8 ch8 bl8 HI2 c4
    go_wp2_with fail
    go_ret2
    rw [← EK.out] at CH BL
    have D1 := OwnD.putK OA.out EB.out hp7 CH.out O8.out BL.out
    have hc2 : c < (L7.set p ⟨{ L7[p].n with kids := insI L7[p].n.kids (k) (c : Int) }, L7[p].a, .slice q8 (L7[p].n.kids.length + 1) c8⟩).length := by rw [List.length_set]; exact hc7
    have D2 := OwnD.putP D1 EB.out hc2 (p : Int)
    have N2 := D2.nodes
    have E : ndsOf ((L7.set p ⟨{ L7[p].n with kids := insI L7[p].n.kids (k) (c : Int) }, L7[p].a, .slice q8 (L7[p].n.kids.length + 1) c8⟩).set c ⟨{ (L7.set p ⟨{ L7[p].n with kids := insI L7[p].n.kids (k) (c : Int) }, L7[p].a, .slice q8 (L7[p].n.kids.length + 1) c8⟩)[c].n with parent := (p : Int) }, (L7.set p ⟨{ L7[p].n with kids := insI L7[p].n.kids (k) (c : Int) }, L7[p].a, .slice q8 (L7[p].n.kids.length + 1) c8⟩)[c].a, (L7.set p ⟨{ L7[p].n with kids := insI L7[p].n.kids (k) (c : Int) }, L7[p].a, .slice q8 (L7[p].n.kids.length + 1) c8⟩)[c].k⟩) = insQ l p c bf := by
      rw [ndsOf_set, ← ndsOf_at hc2, ndsOf_set]
      unfold insQ upd
      rw [← L7e.out, ndsOf_at hp7]
      simp only [SP.out]
    rw [E] at N2
    refine ⟨_, rfl, N2, B7.out.trans (Chg.below (S := G :: L7[p].k.ownBlock.toList) (((CA.out.nil.trans (CH.out.mono (fun k q _ => List.mem_cons_of_mem _ q))).trans ((Chg.setB _ _ _ _).mono (fun k q _ => by rw [List.mem_singleton.1 q]; exact List.mem_cons_self ..))).trans ((Chg.setB _ _ _ _).mono (fun k q _ => by rw [List.mem_singleton.1 q]; exact List.mem_cons_self ..))) B7.out.size (fun k q => ?_))⟩
    rcases List.mem_cons.1 q with t | t
    · rw [t]; exact ge
    · exact (World.ownsRow.lt KO.out k (opt_mem.1 t)).1

end Go.Proofs.Ytkloahpkjbohoaa
