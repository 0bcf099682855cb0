/- The document's Order of layer 10. The document's ByID of layer 10. -/
import Derived.Test.YtoejiojkpbibcaaDoorJow31

namespace Go.Proofs.YtoejiojkpbibcaaDoor
open Go.RowKit
set_option maxRecDepth 100000
theorem kids_lit (w : World) (base : Nat) (hb : base ≤ w.heap.size) (ks : List Int) (hl : ks.length ≤ maxLen) : KidsO base (w.alloc (.cells (cellsI ks).toArray 3)) (.slice (some ⟨w.heap.size, 0, none⟩) ks.length ks.length) ks :=
  ⟨by rw [cellsI_len, Nat.mul_one], .inr ⟨w.heap.size, ks.length, _, rfl, hb, heap_alloc_new w _, Nat.le_refl _, hl, by simp [cellsI_len], by rw [Nat.mul_one]; exact List.take_of_length_le (by rw [cellsI_len]; exact Nat.le_refl _)⟩⟩
/-- A row of the call's own, cut. -/
theorem kids_cut {w : World} {base : Nat} {p : Option Addr} {n c : Nat} {ks : List Int} (h : KidsO base w (.slice p n c) ks) {m : Nat} (hm : m ≤ ks.length) (h0 : 0 < ks.length) : KidsO base w (.slice p m c) (ks.take m) := by
  refine ⟨by rw [cellsI_len, Nat.mul_one], ?_⟩
  rcases h.2 with ⟨_, q⟩ | ⟨g, cap, cur, e, hb, hg, h1, h2, h3, h4⟩
  · omega
  · cases e
    refine .inr ⟨g, c, cur, by rw [List.length_take, Nat.min_eq_left hm], hb, hg, by rw [List.length_take]; omega, h2, h3, ?_⟩
    rw [List.length_take, Nat.min_eq_left hm, Nat.mul_one]
    rw [Nat.mul_one] at h4
    have : cellsI (ks.take m) = (cellsI ks).take m := by simp [cellsI, List.map_take]
    rw [this, ← h4, List.take_take, Nat.min_eq_left hm]
theorem kids_form {w : World} {base : Nat} {v : Value} {ks : List Int} (h : KidsO base w v ks) : ∃ p c, v = .slice p ks.length c ∧ ks.length ≤ c := by
  rcases h.2 with ⟨rfl, q⟩ | ⟨g, cap, cur, e, hb, hg, h1, h2, h3, h4⟩
  · exact ⟨none, 0, by rw [q], by omega⟩
  · exact ⟨_, cap, e, h1⟩
def lenV : Value → Nat
  | .slice _ n _ => n
  | _ => 0
theorem kids_len {w : World} {base : Nat} {v : Value} {ks : List Int} (h : KidsO base w v ks) : lenV v = ks.length := by
  obtain ⟨p, c, e, _⟩ := kids_form h
  rw [e]; rfl
/-- What is gone to, what is to be gone to, and what comes of it. -/
structure OInv (l : List Nd) (id : Int) (xs st : List Int) (R : List Int) : Prop where
  inv : Inv l id xs st
  go : ∃ N, l.length + 1 ≤ N + xs.length ∧ xs ++ orderF l N st = R
theorem OInv.few {l : List Nd} {id : Int} {xs st R : List Int} (h : OInv l id xs st R) : xs.length + st.length ≤ l.length := by
  have := nodup_len l.length (xs ++ st) h.inv.once (fun x hx => by have := h.inv.rng x hx; exact ⟨this.1, this.2.1⟩)
  rwa [List.length_append] at this
theorem OInv.step {l : List Nd} (hR : Right l) {id : Int} {xs st R : List Int} {k : Int} (h : OInv l id xs (k :: st) R) : OInv l id (xs ++ [k]) ((nd l k.toNat).kids ++ st) R := by
  refine ⟨inv_step hR h.inv, ?_⟩
  obtain ⟨N, h1, h2⟩ := h.go
  have := h.few
  rw [List.length_cons] at this
  obtain ⟨M, rfl⟩ : ∃ M, N = M + 1 := ⟨N - 1, by omega⟩
  refine ⟨M, by rw [List.length_append, List.length_singleton]; omega, ?_⟩
  rw [← h2, List.append_assoc]; rfl
theorem OInv.done {l : List Nd} {id : Int} {xs R : List Int} (h : OInv l id xs [] R) : xs = R := by
  obtain ⟨N, _, h2⟩ := h.go
  rw [← h2]
  have : orderF l N [] = [] := by cases N <;> rfl
  rw [this, List.append_nil]
set_option maxHeartbeats 8000000 in
set_option maxRecDepth 100000 in
theorem refOrder_any (v : Value) (l : List Nd) (m0 : Nat) (w : World) (hv : NodesV w v l) (hR : Right l) (h0 : m0 < l.length) :
    Calls Tryd.prog 40 #[v, .int .i64 (m0 : Int)] w fun e w' => ∃ v', e = .returned v' ∧ KidsO w.heap.size w' v' (orderP l (m0 : Int)) ∧ Below w.heap.size w w' := by
  have hlen := hR.len.2
  obtain ⟨p, c, rfl, hv⟩ := hv
  rcases hv with hv | ⟨b, o, rfl, hv⟩
  · rw [hv] at h0; simp at h0
  have HC := hide hv
  have HRt := hide hR
  have I0 : Hid (OInv l (m0 : Int) [] [(m0 : Int)] (orderP l (m0 : Int))) := ⟨inv_zero hR (by omega) (by omega), l.length + 1, by simp, rfl⟩
  obtain ⟨iI, hI0, hI1, hI2, hI3⟩ := info_parts infoI
  obtain ⟨R, hRR⟩ : ∃ R, Hid (orderP l (m0 : Int) = R) := ⟨_, show orderP l (m0 : Int) = _ from rfl⟩
  rw [hRR.out] at I0
  have RF : Hid (∀ xs, xs = R → xs = orderP l (m0 : Int)) := fun xs e => e.trans hRR.out.symm
  clear hv hR hRR
  go_enter Tryd.func40, Tryd.ntmps40
  go_wp2_with fail
  generalize hw1 : w.alloc (.cells #[Value.int .i64 (m0 : Int)] 3) = w1
  have K1 : Hid (KidsO w.heap.size w1 (.slice (some ⟨w.heap.size, 0, none⟩) 1 1) [(m0 : Int)]) := by rw [← hw1]; exact kids_lit w _ (Nat.le_refl _) [(m0 : Int)] (show 1 ≤ maxLen by decide)
  have B1 : Hid (Below w.heap.size w w1) := by rw [← hw1]; exact (Below.refl _ w).alloc (Nat.le_refl _) _
  clear hw1
  go_loopw [5, 6] (fun ov nv wr => ∃ (xs st : List Int), Hid (OInv l (m0 : Int) xs st R) ∧ Hid (KidsO w.heap.size wr ov xs) ∧ Hid (KidsO w.heap.size wr nv st.reverse) ∧ Hid (∀ k, ov.ownBlock = some k → nv.ownBlock ≠ some k) ∧ Hid (Below w.heap.size w wr)) (fun ov _ _ => l.length - lenV ov)
  case atStart => exact ⟨[], [(m0 : Int)], I0, World.ownsRow_nil _ _ _ _, K1, (fun k q => by cases q), B1⟩
  case round =>
    rename World => wr
    obtain ⟨xs, st, OI, KX, KS, SP, BW⟩ := hrel
    clear I0 K1 B1
    obtain ⟨px, cx, ex, hcx⟩ := kids_form KX.out
    have hfew := OI.out.few
    cases st with
    | nil =>
      obtain ⟨ps, cs, es, hcs⟩ := kids_form KS.out
      have E := hide (RF.out xs OI.out.done)
      rw [List.reverse_nil, List.length_nil] at es
      clear RF OI hcs hcx hfew
      subst es
      go_wp2_with fail
      go_ret
      exact ⟨_, rfl, by rw [← E.out]; exact KX.out, BW.out⟩
    | cons k st =>
      have hk := OI.out.inv.rng k (List.mem_append_right _ (List.mem_cons_self ..))
      obtain ⟨m, rfl⟩ : ∃ m : Nat, k = (m : Int) := ⟨k.toNat, by have := hk.1; omega⟩
      have hm : m < l.length := by have := hk.2.1; omega
      have ST := hide (OI.out.step HRt.out)
      rw [Int.toNat_natCast, nd_at hm] at ST
      have F2 := hide ST.out.few
      rw [List.reverse_cons] at KS
      have el : (st.reverse ++ [(m : Int)]).length = st.length + 1 := by simp
      obtain ⟨g, cs, es, eb, g0, g1, hcs, _⟩ := owns_at KS.out (by rw [el]; omega)
      rw [el] at es hcs
      have c0 : wr.cell? ⟨g, st.length, none⟩ = some (.int .i64 (m : Int)) := by
        refine owns_cell KS.out eb ?_
        rw [cellsI_at (by rw [el]; omega)]
        simp
      have KC : Hid (KidsO w.heap.size wr (.slice (some ⟨g, 0, none⟩) st.length cs) st.reverse) := by
        have := KS.out
        rw [es] at this
        have := kids_cut this (m := st.length) (by rw [el]; omega) (by rw [el]; omega)
        rw [List.take_left' (by simp)] at this
        exact this
      have SPg : Hid (u5.ownBlock ≠ some g) := fun q => SP.out g q (by rw [eb])
      obtain ⟨va, vk, N0⟩ := HC.out m hm
      obtain ⟨pk, ck, rfl, hks⟩ := N0.ks
      have NW : Hid (∀ W, Below w.heap.size w W → NodeAt W b (o + m * 5) l[m] va (.slice pk l[m].kids.length ck)) := fun W hb => N0.below hb
      have xl : xs.length ≤ 400 := by omega
      have kl : l[m].kids.length ≤ 400 := by have := F2.out; rw [List.length_append, List.length_append] at this; omega
      have ksl : l[m].kids.length + st.length ≤ 400 := by have := F2.out; rw [List.length_append, List.length_append] at this; omega
      have sl : st.length + 1 ≤ 400 := by rw [List.length_cons] at hfew; omega
      have Bw : w.heap.size ≤ wr.heap.size := BW.out.size
      have OW := hide (World.ownsRow.alloc KX.out (.cells #[.int .i64 (m : Int)] 3))
      have RW := hide ((NB.new wr [.int .i64 (m : Int)] 3).raw 1 1 rfl 1)
      have hBa : Hid (w.heap.size ≤ (wr.alloc (.cells #[.int .i64 (m : Int)] 3)).heap.size) := by show _ ≤ _; simp; omega
      have XL : Hid (lenV u5 = xs.length) := kids_len KX.out
      have i0 : (0 : Int) ≤ (m : Int) := by omega
      have i1 : (m : Int) < (l.length : Int) := by omega
      have j0 : (0 : Int) ≤ (st.length : Int) := by omega
      have j2 : (st.length : Int) ≤ (cs : Int) := by omega
      clear hk el SP hfew eb g0 OI ex hcx
      subst es
      clear KS
      go_wp2_with (at_builtin; refine wpList_append_raw rfl _ _ _ rfl w.heap.size 3 iI _ 1 8 Tryd.underlying28 hI0 hI1 hI2 hI3 rfl (by omega) u5 xs.length (cellsI xs) rfl OW.out _ 1 _ rfl RW.out (by simp [Value.oneCell']) (by unfold maxLen; omega) (by omega) hBa.out ?_; intro q1 c1 w1 own1 gr1 at1; have B1 : Hid (Below w.heap.size w w1) := BW.out.trans (((Chg.alloc wr _).nil.trans (Chg.of_grown gr1)).below Bw (fun k hk => (OW.out.lt k (opt_mem.1 hk)).1)); have a4 := (NW.out w1 B1.out).kids)
      have KX1 : Hid (KidsO w.heap.size w1 (.slice q1 (xs.length + 1) c1) (xs ++ [(m : Int)])) := by
        show w1.ownsRow _ _ 1 _ (xs ++ [(m : Int)]).length (cellsI (xs ++ [(m : Int)]))
        rw [List.length_append, cellsI_app]
        exact own1
      have KN1 : Hid (KidsO w.heap.size w1 (.slice (some ⟨g, 0, none⟩) st.length cs) st.reverse) := owns_kept KC.out ((Chg.alloc wr _).nil.trans (Chg.of_grown gr1)) (fun k hk q => SPg.out (by rw [opt_mem.1 q]; exact hk.symm))
      have SP1 : Hid (∀ k, (Value.slice q1 (xs.length + 1) c1).ownBlock = some k → (Value.slice (some ⟨g, 0, none⟩) st.length cs).ownBlock ≠ some k) := by
        intro k hk e
        have e : g = k := Option.some.inj e
        subst e
        rcases at1 with t | t
        · rw [t] at hk; exact SPg.out hk
        · rw [t] at hk
          have := Option.some.inj hk
          simp at this
          omega
      have AK : Hid (∀ W, Below w.heap.size w W → ∀ i (h : i < l[m].kids.length), ∃ bk ok, pk = some ⟨bk, ok, none⟩ ∧ W.cell? ⟨bk, ok + i, none⟩ = some (.int .i64 l[m].kids[i])) := fun W hb i h => by
        obtain ⟨pk', ck', evk', hks'⟩ := (NW.out W hb).ks
        cases evk'
        rcases hks' with t | ⟨bk, ok, e, t⟩
        · rw [t] at h; simp at h
        · exact ⟨bk, ok, e, t i h⟩
      clear own1 gr1 at1 OW RW hBa KC SPg BW KX hks c0
      go_loopw [6, 8] (fun nv iv wq => ∃ t : Nat, t ≤ l[m].kids.length ∧ iv = .int .i64 ((t : Int) - 1) ∧ Hid (KidsO w.heap.size wq nv (l[m].kids.drop t ++ st).reverse) ∧ Hid (KidsO w.heap.size wq (.slice q1 (xs.length + 1) c1) (xs ++ [(m : Int)])) ∧ Hid (∀ k, (Value.slice q1 (xs.length + 1) c1).ownBlock = some k → nv.ownBlock ≠ some k) ∧ Hid (Below w.heap.size w wq)) (fun _ iv _ => (intOf iv + 1).toNat)
      case atStart => exact ⟨l[m].kids.length, Nat.le_refl _, rfl, by show KidsO _ _ _ _; rw [List.drop_length, List.nil_append]; exact KN1.out, KX1, SP1, B1⟩
      case round =>
        rename World => wq
        obtain ⟨t, ht, rfl, KQ, KX2, SP2, BW2⟩ := hrel
        clear KN1 KX1 SP1 B1 a4
        cases t with
        | zero =>
          have f1 : ¬ (0 : Int) ≤ ((0 : Nat) : Int) - 1 := by omega
          have KQ' := hide KQ.out
          rw [List.drop_zero] at KQ'
          clear KQ
          go_wp2_with fail
          go_roundw
          case rel => exact ⟨xs ++ [(m : Int)], l[m].kids ++ st, ST, KX2, KQ', SP2, BW2⟩
          case measure =>
            have e1 := XL.out
            have e2 := kids_len KX2.out
            rw [List.length_append, List.length_singleton] at e2
            have := F2.out
            rw [List.length_append, List.length_append, List.length_singleton] at this
            show l.length - lenV _ < l.length - lenV _
            rw [e1, e2]
            omega
        | succ t =>
          have f1 : (0 : Int) ≤ ((t + 1 : Nat) : Int) - 1 := by omega
          have f2 : ((t + 1 : Nat) : Int) - 1 = (t : Int) := by omega
          have htl : t < l[m].kids.length := by omega
          obtain ⟨bk, ok, rfl, a5⟩ := AK.out wq BW2.out t htl
          have a4 := (NW.out wq BW2.out).kids
          have e5 : (l[m].kids.drop t ++ st).reverse = (l[m].kids.drop (t + 1) ++ st).reverse ++ [l[m].kids[t]] := by
            rw [List.drop_eq_getElem_cons htl, List.cons_append, List.reverse_cons]
          have el5 : (l[m].kids.drop (t + 1) ++ st).reverse.length ≤ 400 := by
            rw [List.length_reverse, List.length_append, List.length_drop]; omega
          have EL5 := hide el5
          have E5 := hide e5
          have KQn : Hid (KidsO w.heap.size wq u6 (l[m].kids.drop (t + 1) ++ st).reverse) := KQ.out
          generalize (l[m].kids.drop (t + 1) ++ st).reverse = ys at *
          generalize l[m].kids[t] = kt at *
          have OW := hide (World.ownsRow.alloc KQn.out (.cells #[.int .i64 kt] 3))
          have RW := hide ((NB.new wq [.int .i64 kt] 3).raw 1 1 rfl 1)
          have Bq : w.heap.size ≤ wq.heap.size := BW2.out.size
          have hBa : Hid (w.heap.size ≤ (wq.alloc (.cells #[.int .i64 kt] 3)).heap.size) := by show _ ≤ _; simp; omega
          have S6 : Hid (∀ k, u6.ownBlock = some k → k < wq.heap.size) := fun k hk => (KQn.out.lt k hk).2
          have S1 : Hid (∀ k, (Value.slice q1 (xs.length + 1) c1).ownBlock = some k → k < wq.heap.size) := fun k hk => (KX2.out.lt k hk).2
          have t0 : (0 : Int) ≤ (t : Int) := by omega
          have t1 : (t : Int) < (l[m].kids.length : Int) := by omega
          clear e5 KQ f2
          go_wp2_with (at_builtin; refine wpList_append_raw rfl _ _ _ rfl w.heap.size 3 iI _ 1 8 Tryd.underlying28 hI0 hI1 hI2 hI3 rfl (by omega) u6 ys.length (cellsI ys) rfl OW.out _ 1 _ rfl RW.out (by simp [Value.oneCell']) (by unfold maxLen; omega) (by omega) hBa.out ?_; intro q3 c3 w3 own3 gr3 at3)
          have C3 : Hid (Chg u6.ownBlock.toList wq w3) := (Chg.alloc wq _).nil.trans (Chg.of_grown gr3)
          have A3 : Hid ((Value.slice q3 (ys.length + 1) c3).ownBlock = u6.ownBlock ∨ (Value.slice q3 (ys.length + 1) c3).ownBlock = some (wq.heap.size + 1)) := by
            rcases at3 with q | q
            · exact .inl q
            · exact .inr (by rw [q]; simp)
          have K3 : Hid (KidsO w.heap.size w3 (.slice q3 (ys.length + 1) c3) (ys ++ [kt])) := by
            show w3.ownsRow _ _ 1 _ (ys ++ [kt]).length (cellsI (ys ++ [kt]))
            rw [List.length_append, cellsI_app]
            exact own3
          clear own3 gr3 at3
          go_roundw
          case rel =>
            refine ⟨t, by omega, by go_num, ?_, owns_kept KX2.out C3.out (fun k hk q => SP2.out k hk (opt_mem.1 q)), (fun k hk e => ?_), BW2.out.trans (C3.out.below Bq (fun k hk => (KQn.out.lt k (opt_mem.1 hk)).1))⟩
            · show KidsO _ _ _ _
              rw [E5.out]; exact K3.out
            · rcases A3.out with q | q
              · rw [q] at e; exact SP2.out k hk e
              · rw [q] at e; have := Option.some.inj e; have := S1.out k hk; omega
          case measure => simp [intOf]
end Go.Proofs.YtoejiojkpbibcaaDoor

namespace Go.Proofs.YtoejiojkpbibcaaDoor
open Go.RowKit
set_option maxRecDepth 100000
theorem down_fewR {l : List Nd} (h : Right l) {k : Int} (hk : inR l k) : (downF l l.length k).length ≤ 400 := by
  obtain ⟨d, g⟩ := right_dep h hk
  have := nodup_len l.length (downF l l.length k) (down_nodup (right_linked h) g) (fun x hx => down_range (right_sub h hk) hx)
  have := h.len
  omega
set_option maxHeartbeats 4000000 in
set_option maxRecDepth 100000 in
theorem refByID_any (v : Value) (l : List Nd) (x : ByteArray) (w : World) (hv : NodesV w v l) (hz : DocSz l) (hR : Right l) (hx : x.size ≤ maxLen) :
    Calls Tryd.prog 34 #[v, .string x] w fun e w' => e = .returned (.int .i64 (namedP l x)) ∧ Below w.heap.size w w' := by
  have h0 : 0 < l.length := by have := hR.len.1; omega
  have r0 : inR l 0 := ⟨by omega, by omega⟩
  have HO := hide (refOrder_any v l 0 w hv hR h0)
  have RG : Hid (∀ k ∈ orderP l 0, inR l k) := fun k hk => by rw [order_down hR r0] at hk; exact down_range (right_sub hR r0) hk
  have DF : Hid ((orderP l 0).length ≤ 400) := by show _ ≤ _; rw [order_down hR r0]; exact down_fewR hR r0
  have HA := hide (fun (m : Nat) (hm : m < l.length) W (hb : Below w.heap.size w W) => refAttr_any v l (m : Int) m idT W (hv.below hb) ⟨rfl, hm⟩ hz)
  have hlen := hR.len.2
  unfold maxLen at hx
  obtain ⟨D, hD⟩ : ∃ D, Hid (orderP l 0 = D) := ⟨_, show orderP l 0 = _ from rfl⟩
  have NP : Hid (noName x = false → (D.find? (hasId l x)).getD (-1) = namedP l x) := fun q => by unfold namedP; rw [q, hD.out]; rfl
  have NE : Hid (noName x = true → namedP l x = -1) := fun q => by unfold namedP; rw [q]; rfl
  have NS : Hid (noName x = (x.size == 0)) := show noName x = _ from rfl
  have e0 : ((0 : Nat) : Int) = 0 := rfl
  rw [e0] at HO
  rw [hD.out] at HO RG DF
  clear hv hz hR r0 hD e0
  have dl := DF.out
  have HA' := hide (fun m hm W hb => HA.out m hm W hb)
  unfold attrV idT at HA'
  clear HA
  go_enter Tryd.func34, Tryd.ntmps34
  go_wp2_with fail
  refine HO.out.mono ?_
  rintro e w1 ⟨v1, rfl, k1, b1⟩
  obtain ⟨p2, c2, ev2, h2⟩ := k1.ints
  have H2 := hide h2
  have B1 := hide b1
  clear k1 h2 b1 HO
  subst ev2
  go_wp2_with fail
  go_loop [6] (fun iv => ∃ j : Nat, j ≤ D.length ∧ iv = .int .i64 j ∧ Hid ((if noName x = true then -1 else ((D.drop j).find? (hasId l x)).getD (-1)) = namedP l x)) (fun iv => D.length - (intOf iv).toNat)
  case atStart =>
    refine ⟨0, Nat.zero_le _, rfl, ?_⟩
    show _ = _
    rw [List.drop_zero]
    cases q : noName x with
    | true => exact (NE.out q).symm
    | false => exact NP.out q
  case round =>
    obtain ⟨j, hj, rfl, hc⟩ := hrel
    clear NP NE
    by_cases h : j < D.length
    · have j1 : (j : Int) < (D.length : Int) := by omega
      have j0 : (0 : Int) ≤ (j : Int) := by omega
      obtain ⟨b2, o2, rfl, hk⟩ : ∃ b2 o2, p2 = some ⟨b2, o2, none⟩ ∧ ∀ i (h : i < D.length), w1.cell? ⟨b2, o2 + i, none⟩ = some (.int .i64 D[i]) := by
        rcases H2.out with t | t
        · rw [t] at h; simp at h
        · exact t
      have a5 := hk j h
      have rk := RG.out D[j] (List.getElem_mem _)
      obtain ⟨m, em⟩ : ∃ m : Nat, D[j] = (m : Int) := ⟨D[j].toNat, by have := rk.1; omega⟩
      have hm : m < l.length := by have := rk.2; omega
      rw [em] at a5
      have HF := hide (HA'.out m hm w1 B1.out)
      have hc1 := hc.out
      rw [List.drop_eq_getElem_cons h, em, List.find?_cons] at hc1
      have hh : hasId l x (m : Int) = ((attrP l (m : Int) idT).isSome && ((attrP l (m : Int) idT).getD ⟨#[]⟩).toList == x.toList) := by
        unfold hasId
        cases attrP l (m : Int) idT with
        | none => rfl
        | some s =>
          show decide (some s = some x) = (true && s.toList == x.toList)
          rw [Bool.true_and, txt_beq]
          congr 1
          exact propext ⟨fun e => Option.some.inj e, fun e => by rw [e]⟩
      rw [hh] at hc1
      unfold idT at hc1
      generalize (attrP l (m : Int) ⟨#[105, 100]⟩).getD ⟨#[]⟩ = As at *
      generalize (attrP l (m : Int) ⟨#[105, 100]⟩).isSome = Ab at *
      have HC1 := hide hc1
      clear hk rk em hc hc1 hh
      cases Ab with
      | false =>
        have HC2 : Hid ((if noName x = true then -1 else ((D.drop (j + 1)).find? (hasId l x)).getD (-1)) = namedP l x) := HC1.out
        clear HC1
        go_wp2_with fail
        refine HF.out.mono ?_
        rintro e w3 ⟨rfl, hw⟩
        obtain rfl : w1 = w3 := hw.symm
        go_wp2_with fail
        go_round
        case rel => exact ⟨j + 1, by omega, by go_num, HC2⟩
        case measure => simp [intOf]; omega
      | true =>
        cases q : (As.toList == x.toList) with
        | false =>
          have HC2 : Hid ((if noName x = true then -1 else ((D.drop (j + 1)).find? (hasId l x)).getD (-1)) = namedP l x) := by have := HC1.out; rw [q] at this; exact this
          clear HC1
          go_wp2_with fail
          refine HF.out.mono ?_
          rintro e w3 ⟨rfl, hw⟩
          obtain rfl : w1 = w3 := hw.symm
          go_wp2_with fail
          go_round
          case rel => exact ⟨j + 1, by omega, by go_num, HC2⟩
          case measure => simp [intOf]; omega
        | true =>
          cases q2 : noName x with
          | true =>
            have z0 : x.size ≤ 0 := by have := NS.out; rw [q2] at this; have := beq_iff_eq.1 this.symm; omega
            have f1 : decide ((0 : Int) < (x.size : Int)) = false := decide_eq_false (by omega)
            have HC2 : Hid ((-1 : Int) = namedP l x) := by
              have := HC1.out
              show _ = _
              rw [q2, if_pos rfl] at this
              exact this
            clear HC1 q2
            go_wp2_with fail
            refine HF.out.mono ?_
            rintro e w3 ⟨rfl, hw⟩
            obtain rfl : w1 = w3 := hw.symm
            go_wp2_with fail
            go_round
            case rel => exact ⟨j + 1, by omega, by go_num, HC2⟩
            case measure => simp [intOf]; omega
          | false =>
            have z0 : (0 : Int) < (x.size : Int) := by have := NS.out; rw [q2] at this; have := beq_eq_false_iff_ne.1 this.symm; omega
            have E2 : Hid (namedP l x = (m : Int)) := by
              have := HC1.out
              show _ = _
              rw [q2, q] at this
              exact this.symm
            clear HC1 q2
            go_wp2_with fail
            refine HF.out.mono ?_
            rintro e w3 ⟨rfl, hw⟩
            obtain rfl : w1 = w3 := hw.symm
            go_wp2_with fail
            go_ret
            exact ⟨ret_int E2.out.symm, B1.out⟩
    · obtain rfl : j = D.length := by omega
      have E2 : Hid (namedP l x = -1) := by
        show _ = _
        rw [← hc.out, List.drop_length]
        split <;> rfl
      clear hc h
      go_wp2_with fail
      go_ret
      exact ⟨ret_int E2.out.symm, B1.out⟩

end Go.Proofs.YtoejiojkpbibcaaDoor
