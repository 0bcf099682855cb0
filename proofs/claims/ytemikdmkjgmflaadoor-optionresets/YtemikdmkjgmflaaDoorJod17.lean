/- The document's Order of layer 10. The document's List of layer 15. -/
import Derived.Test.YtemikdmkjgmflaaDoorJod16
import Derived.OwnWalk

namespace Go.Proofs.YtemikdmkjgmflaaDoor
open Go.RowKit
set_option maxRecDepth 100000
theorem kids_lit (w : World) (base : Nat) (hb : base ≤ w.heap.size) (ks : List Int) (hl : ks.length ≤ maxLen) : KidsO base (w.alloc (.cells (cellsI ks).toArray 3)) (.slice (some ⟨w.heap.size, 0, none⟩) ks.length ks.length) ks :=
  ⟨by rw [cellsI_len, Nat.mul_one], .inr ⟨w.heap.size, ks.length, _, rfl, hb, heap_alloc_new w _, Nat.le_refl _, hl, by simp [cellsI_len], by rw [Nat.mul_one]; exact List.take_of_length_le (by rw [cellsI_len]; exact Nat.le_refl _)⟩⟩
/-- A row of the call's own, cut. -/
theorem kids_cut {w : World} {base : Nat} {p : Option Addr} {n c : Nat} {ks : List Int} (h : KidsO base w (.slice p n c) ks) {m : Nat} (hm : m ≤ ks.length) (h0 : 0 < ks.length) : KidsO base w (.slice p m c) (ks.take m) := by
  refine ⟨by rw [cellsI_len, Nat.mul_one], ?_⟩
  rcases h.2 with ⟨_, q⟩ | ⟨g, cap, cur, e, hb, hg, h1, h2, h3, h4⟩
  · omega
  · cases e
    refine .inr ⟨g, c, cur, by rw [List.length_take, Nat.min_eq_left hm], hb, hg, by rw [List.length_take]; omega, h2, h3, ?_⟩
    rw [List.length_take, Nat.min_eq_left hm, Nat.mul_one]
    rw [Nat.mul_one] at h4
    have : cellsI (ks.take m) = (cellsI ks).take m := by simp [cellsI, List.map_take]
    rw [this, ← h4, List.take_take, Nat.min_eq_left hm]
theorem kids_form {w : World} {base : Nat} {v : Value} {ks : List Int} (h : KidsO base w v ks) : ∃ p c, v = .slice p ks.length c ∧ ks.length ≤ c := by
  rcases h.2 with ⟨rfl, q⟩ | ⟨g, cap, cur, e, hb, hg, h1, h2, h3, h4⟩
  · exact ⟨none, 0, by rw [q], by omega⟩
  · exact ⟨_, cap, e, h1⟩
def lenV : Value → Nat
  | .slice _ n _ => n
  | _ => 0
theorem kids_len {w : World} {base : Nat} {v : Value} {ks : List Int} (h : KidsO base w v ks) : lenV v = ks.length := by
  obtain ⟨p, c, e, _⟩ := kids_form h
  rw [e]; rfl
/-- What is gone to, what is to be gone to, and what comes of it. -/
structure OInv (l : List Nd) (id : Int) (xs st : List Int) (R : List Int) : Prop where
  inv : Inv l id xs st
  go : ∃ N, l.length + 1 ≤ N + xs.length ∧ xs ++ orderF l N st = R
theorem OInv.few {l : List Nd} {id : Int} {xs st R : List Int} (h : OInv l id xs st R) : xs.length + st.length ≤ l.length := by
  have := nodup_len l.length (xs ++ st) h.inv.once (fun x hx => by have := h.inv.rng x hx; exact ⟨this.1, this.2.1⟩)
  rwa [List.length_append] at this
theorem OInv.step {l : List Nd} (hR : Right l) {id : Int} {xs st R : List Int} {k : Int} (h : OInv l id xs (k :: st) R) : OInv l id (xs ++ [k]) ((nd l k.toNat).kids ++ st) R := by
  refine ⟨inv_step hR h.inv, ?_⟩
  obtain ⟨N, h1, h2⟩ := h.go
  have := h.few
  rw [List.length_cons] at this
  obtain ⟨M, rfl⟩ : ∃ M, N = M + 1 := ⟨N - 1, by omega⟩
  refine ⟨M, by rw [List.length_append, List.length_singleton]; omega, ?_⟩
  rw [← h2, List.append_assoc]; rfl
theorem OInv.done {l : List Nd} {id : Int} {xs R : List Int} (h : OInv l id xs [] R) : xs = R := by
  obtain ⟨N, _, h2⟩ := h.go
  rw [← h2]
  have : orderF l N [] = [] := by cases N <;> rfl
  rw [this, List.append_nil]
set_option maxHeartbeats 8000000 in
set_option maxRecDepth 100000 in
theorem refOrder_any (v : Value) (l : List Nd) (m0 : Nat) (w : World) (hv : NodesV w v l) (hR : Right l) (h0 : m0 < l.length) :
    Calls Tryd.prog 43 #[v, .int .i64 (m0 : Int)] w fun e w' => ∃ v', e = .returned v' ∧ KidsO w.heap.size w' v' (orderP l (m0 : Int)) ∧ Below w.heap.size w w' := by
  have hlen := hR.len.2
  obtain ⟨p, c, rfl, hv⟩ := hv
  rcases hv with hv | ⟨b, o, rfl, hv⟩
  · rw [hv] at h0; simp at h0
  have HC := hide hv
  have HRt := hide hR
  have I0 : Hid (OInv l (m0 : Int) [] [(m0 : Int)] (orderP l (m0 : Int))) := ⟨inv_zero hR (by omega) (by omega), l.length + 1, by simp, rfl⟩
  obtain ⟨iI, hI0, hI1, hI2, hI3⟩ := info_parts infoI
  obtain ⟨R, hRR⟩ : ∃ R, Hid (orderP l (m0 : Int) = R) := ⟨_, show orderP l (m0 : Int) = _ from rfl⟩
  rw [hRR.out] at I0
  have RF : Hid (∀ xs, xs = R → xs = orderP l (m0 : Int)) := fun xs e => e.trans hRR.out.symm
  clear hv hR hRR
  go_enter Tryd.func43, Tryd.ntmps43
  go_wp2_with fail
  generalize hw1 : w.alloc (.cells #[Value.int .i64 (m0 : Int)] 3) = w1
  have K1 : Hid (KidsO w.heap.size w1 (.slice (some ⟨w.heap.size, 0, none⟩) 1 1) [(m0 : Int)]) := by rw [← hw1]; exact kids_lit w _ (Nat.le_refl _) [(m0 : Int)] (show 1 ≤ maxLen by decide)
  have B1 : Hid (Below w.heap.size w w1) := by rw [← hw1]; exact (Below.refl _ w).alloc (Nat.le_refl _) _
  clear hw1
  go_loopw [5, 6] (fun ov nv wr => ∃ (xs st : List Int), Hid (OInv l (m0 : Int) xs st R) ∧ Hid (KidsO w.heap.size wr ov xs) ∧ Hid (KidsO w.heap.size wr nv st.reverse) ∧ Hid (∀ k, ov.ownBlock = some k → nv.ownBlock ≠ some k) ∧ Hid (Below w.heap.size w wr)) (fun ov _ _ => l.length - lenV ov)
  case atStart => exact ⟨[], [(m0 : Int)], I0, World.ownsRow_nil _ _ _ _, K1, (fun k q => by cases q), B1⟩
  case round =>
    rename World => wr
    obtain ⟨xs, st, OI, KX, KS, SP, BW⟩ := hrel
    clear I0 K1 B1
    obtain ⟨px, cx, ex, hcx⟩ := kids_form KX.out
    have hfew := OI.out.few
    cases st with
    | nil =>
      obtain ⟨ps, cs, es, hcs⟩ := kids_form KS.out
      have E := hide (RF.out xs OI.out.done)
      rw [List.reverse_nil, List.length_nil] at es
      clear RF OI hcs hcx hfew
      subst es
      go_wp2_with fail
      go_ret
      exact ⟨_, rfl, by rw [← E.out]; exact KX.out, BW.out⟩
    | cons k st =>
      have hk := OI.out.inv.rng k (List.mem_append_right _ (List.mem_cons_self ..))
      obtain ⟨m, rfl⟩ : ∃ m : Nat, k = (m : Int) := ⟨k.toNat, by have := hk.1; omega⟩
      have hm : m < l.length := by have := hk.2.1; omega
      have ST := hide (OI.out.step HRt.out)
      rw [Int.toNat_natCast, nd_at hm] at ST
      have F2 := hide ST.out.few
      rw [List.reverse_cons] at KS
      have el : (st.reverse ++ [(m : Int)]).length = st.length + 1 := by simp
      obtain ⟨g, cs, es, eb, g0, g1, hcs, _⟩ := owns_at KS.out (by rw [el]; omega)
      rw [el] at es hcs
      have c0 : wr.cell? ⟨g, st.length, none⟩ = some (.int .i64 (m : Int)) := by
        refine owns_cell KS.out eb ?_
        rw [cellsI_at (by rw [el]; omega)]
        simp
      have KC : Hid (KidsO w.heap.size wr (.slice (some ⟨g, 0, none⟩) st.length cs) st.reverse) := by
        have := KS.out
        rw [es] at this
        have := kids_cut this (m := st.length) (by rw [el]; omega) (by rw [el]; omega)
        rw [List.take_left' (by simp)] at this
        exact this
      have SPg : Hid (u5.ownBlock ≠ some g) := fun q => SP.out g q (by rw [eb])
      obtain ⟨va, vk, N0⟩ := HC.out m hm
      obtain ⟨pk, ck, rfl, hks⟩ := N0.ks
      have NW : Hid (∀ W, Below w.heap.size w W → NodeAt W b (o + m * 5) l[m] va (.slice pk l[m].kids.length ck)) := fun W hb => N0.below hb
      have xl : xs.length ≤ 400 := by omega
      have kl : l[m].kids.length ≤ 400 := by have := F2.out; rw [List.length_append, List.length_append] at this; omega
      have ksl : l[m].kids.length + st.length ≤ 400 := by have := F2.out; rw [List.length_append, List.length_append] at this; omega
      have sl : st.length + 1 ≤ 400 := by rw [List.length_cons] at hfew; omega
      have Bw : w.heap.size ≤ wr.heap.size := BW.out.size
      have OW := hide (World.ownsRow.alloc KX.out (.cells #[.int .i64 (m : Int)] 3))
      have RW := hide ((NB.new wr [.int .i64 (m : Int)] 3).raw 1 1 rfl 1)
      have hBa : Hid (w.heap.size ≤ (wr.alloc (.cells #[.int .i64 (m : Int)] 3)).heap.size) := by show _ ≤ _; simp; omega
      have XL : Hid (lenV u5 = xs.length) := kids_len KX.out
      have i0 : (0 : Int) ≤ (m : Int) := by omega
      have i1 : (m : Int) < (l.length : Int) := by omega
      have j0 : (0 : Int) ≤ (st.length : Int) := by omega
      have j2 : (st.length : Int) ≤ (cs : Int) := by omega
      clear hk el SP hfew eb g0 OI ex hcx
      subst es
      clear KS
      go_wp2_with (at_builtin; refine wpList_append_raw rfl _ _ _ rfl w.heap.size 3 iI _ 1 8 Tryd.underlying41 hI0 hI1 hI2 hI3 rfl (by omega) u5 xs.length (cellsI xs) rfl OW.out _ 1 _ rfl RW.out (by simp [Value.oneCell']) (by unfold maxLen; omega) (by omega) hBa.out ?_; intro q1 c1 w1 own1 gr1 at1; have B1 : Hid (Below w.heap.size w w1) := BW.out.trans (((Chg.alloc wr _).nil.trans (Chg.of_grown gr1)).below Bw (fun k hk => (OW.out.lt k (opt_mem.1 hk)).1)); have a4 := (NW.out w1 B1.out).kids)
      have KX1 : Hid (KidsO w.heap.size w1 (.slice q1 (xs.length + 1) c1) (xs ++ [(m : Int)])) := by
        show w1.ownsRow _ _ 1 _ (xs ++ [(m : Int)]).length (cellsI (xs ++ [(m : Int)]))
        rw [List.length_append, cellsI_app]
        exact own1
      have KN1 : Hid (KidsO w.heap.size w1 (.slice (some ⟨g, 0, none⟩) st.length cs) st.reverse) := owns_kept KC.out ((Chg.alloc wr _).nil.trans (Chg.of_grown gr1)) (fun k hk q => SPg.out (by rw [opt_mem.1 q]; exact hk.symm))
      have SP1 : Hid (∀ k, (Value.slice q1 (xs.length + 1) c1).ownBlock = some k → (Value.slice (some ⟨g, 0, none⟩) st.length cs).ownBlock ≠ some k) := by
        intro k hk e
        have e : g = k := Option.some.inj e
        subst e
        rcases at1 with t | t
        · rw [t] at hk; exact SPg.out hk
        · rw [t] at hk
          have := Option.some.inj hk
          simp at this
          omega
      have AK : Hid (∀ W, Below w.heap.size w W → ∀ i (h : i < l[m].kids.length), ∃ bk ok, pk = some ⟨bk, ok, none⟩ ∧ W.cell? ⟨bk, ok + i, none⟩ = some (.int .i64 l[m].kids[i])) := fun W hb i h => by
        obtain ⟨pk', ck', evk', hks'⟩ := (NW.out W hb).ks
        cases evk'
        rcases hks' with t | ⟨bk, ok, e, t⟩
        · rw [t] at h; simp at h
        · exact ⟨bk, ok, e, t i h⟩
      clear own1 gr1 at1 OW RW hBa KC SPg BW KX hks c0
      go_loopw [6, 8] (fun nv iv wq => ∃ t : Nat, t ≤ l[m].kids.length ∧ iv = .int .i64 ((t : Int) - 1) ∧ Hid (KidsO w.heap.size wq nv (l[m].kids.drop t ++ st).reverse) ∧ Hid (KidsO w.heap.size wq (.slice q1 (xs.length + 1) c1) (xs ++ [(m : Int)])) ∧ Hid (∀ k, (Value.slice q1 (xs.length + 1) c1).ownBlock = some k → nv.ownBlock ≠ some k) ∧ Hid (Below w.heap.size w wq)) (fun _ iv _ => (intOf iv + 1).toNat)
      case atStart => exact ⟨l[m].kids.length, Nat.le_refl _, rfl, by show KidsO _ _ _ _; rw [List.drop_length, List.nil_append]; exact KN1.out, KX1, SP1, B1⟩
      case round =>
        rename World => wq
        obtain ⟨t, ht, rfl, KQ, KX2, SP2, BW2⟩ := hrel
        clear KN1 KX1 SP1 B1 a4
        cases t with
        | zero =>
          have f1 : ¬ (0 : Int) ≤ ((0 : Nat) : Int) - 1 := by omega
          have KQ' := hide KQ.out
          rw [List.drop_zero] at KQ'
          clear KQ
          go_wp2_with fail
          go_roundw
          case rel => exact ⟨xs ++ [(m : Int)], l[m].kids ++ st, ST, KX2, KQ', SP2, BW2⟩
          case measure =>
            have e1 := XL.out
            have e2 := kids_len KX2.out
            rw [List.length_append, List.length_singleton] at e2
            have := F2.out
            rw [List.length_append, List.length_append, List.length_singleton] at this
            show l.length - lenV _ < l.length - lenV _
            rw [e1, e2]
            omega
        | succ t =>
          have f1 : (0 : Int) ≤ ((t + 1 : Nat) : Int) - 1 := by omega
          have f2 : ((t + 1 : Nat) : Int) - 1 = (t : Int) := by omega
          have htl : t < l[m].kids.length := by omega
          obtain ⟨bk, ok, rfl, a5⟩ := AK.out wq BW2.out t htl
          have a4 := (NW.out wq BW2.out).kids
          have e5 : (l[m].kids.drop t ++ st).reverse = (l[m].kids.drop (t + 1) ++ st).reverse ++ [l[m].kids[t]] := by
            rw [List.drop_eq_getElem_cons htl, List.cons_append, List.reverse_cons]
          have el5 : (l[m].kids.drop (t + 1) ++ st).reverse.length ≤ 400 := by
            rw [List.length_reverse, List.length_append, List.length_drop]; omega
          have EL5 := hide el5
          have E5 := hide e5
          have KQn : Hid (KidsO w.heap.size wq u6 (l[m].kids.drop (t + 1) ++ st).reverse) := KQ.out
          generalize (l[m].kids.drop (t + 1) ++ st).reverse = ys at *
          generalize l[m].kids[t] = kt at *
          have OW := hide (World.ownsRow.alloc KQn.out (.cells #[.int .i64 kt] 3))
          have RW := hide ((NB.new wq [.int .i64 kt] 3).raw 1 1 rfl 1)
          have Bq : w.heap.size ≤ wq.heap.size := BW2.out.size
          have hBa : Hid (w.heap.size ≤ (wq.alloc (.cells #[.int .i64 kt] 3)).heap.size) := by show _ ≤ _; simp; omega
          have S6 : Hid (∀ k, u6.ownBlock = some k → k < wq.heap.size) := fun k hk => (KQn.out.lt k hk).2
          have S1 : Hid (∀ k, (Value.slice q1 (xs.length + 1) c1).ownBlock = some k → k < wq.heap.size) := fun k hk => (KX2.out.lt k hk).2
          have t0 : (0 : Int) ≤ (t : Int) := by omega
          have t1 : (t : Int) < (l[m].kids.length : Int) := by omega
          clear e5 KQ f2
          go_wp2_with (at_builtin; refine wpList_append_raw rfl _ _ _ rfl w.heap.size 3 iI _ 1 8 Tryd.underlying41 hI0 hI1 hI2 hI3 rfl (by omega) u6 ys.length (cellsI ys) rfl OW.out _ 1 _ rfl RW.out (by simp [Value.oneCell']) (by unfold maxLen; omega) (by omega) hBa.out ?_; intro q3 c3 w3 own3 gr3 at3)
          have C3 : Hid (Chg u6.ownBlock.toList wq w3) := (Chg.alloc wq _).nil.trans (Chg.of_grown gr3)
          have A3 : Hid ((Value.slice q3 (ys.length + 1) c3).ownBlock = u6.ownBlock ∨ (Value.slice q3 (ys.length + 1) c3).ownBlock = some (wq.heap.size + 1)) := by
            rcases at3 with q | q
            · exact .inl q
            · exact .inr (by rw [q]; simp)
          have K3 : Hid (KidsO w.heap.size w3 (.slice q3 (ys.length + 1) c3) (ys ++ [kt])) := by
            show w3.ownsRow _ _ 1 _ (ys ++ [kt]).length (cellsI (ys ++ [kt]))
            rw [List.length_append, cellsI_app]
            exact own3
          clear own3 gr3 at3
          go_roundw
          case rel =>
            refine ⟨t, by omega, by go_num, ?_, owns_kept KX2.out C3.out (fun k hk q => SP2.out k hk (opt_mem.1 q)), (fun k hk e => ?_), BW2.out.trans (C3.out.below Bq (fun k hk => (KQn.out.lt k (opt_mem.1 hk)).1))⟩
            · show KidsO _ _ _ _
              rw [E5.out]; exact K3.out
            · rcases A3.out with q | q
              · rw [q] at e; exact SP2.out k hk e
              · rw [q] at e; have := Option.some.inj e; have := S1.out k hk; omega
          case measure => simp [intOf]
end Go.Proofs.YtemikdmkjgmflaaDoor

namespace Go.Proofs.YtemikdmkjgmflaaDoor
open Go.RowKit
set_option maxRecDepth 100000
theorem filt_no {p : Int → Bool} {xs : List Int} {k : Nat} (h : k < xs.length) (hp : p xs[k] = false) : (xs.take (k + 1)).filter p = (xs.take k).filter p := by
  rw [List.take_succ_eq_append_getElem h, List.filter_append, List.filter_cons_of_neg (by rw [hp]; decide), List.filter_nil, List.append_nil]
theorem filt_yes {p : Int → Bool} {xs : List Int} {k : Nat} (h : k < xs.length) (hp : p xs[k] = true) : (xs.take (k + 1)).filter p = (xs.take k).filter p ++ [xs[k]] := by
  rw [List.take_succ_eq_append_getElem h, List.filter_append, List.filter_cons_of_pos hp, List.filter_nil]
theorem order_few {l : List Nd} (h : Right l) {m : Nat} (hm : m < l.length) : (orderP l (m : Int)).length ≤ 400 := by
  have h1 := nodup_len l.length _ (order_nodup h (id := (m : Int)) (by omega) (by omega)) (fun x hx => by
    have := (order_mem h (by omega) (by omega) x).1 hx
    exact ⟨this.1, this.2.1⟩)
  have := h.len
  omega
set_option maxHeartbeats 8000000 in
theorem refOList_any (v : Value) (l : List Nd) (id : Int) (w : World) (hv : NodesV w v l) (hz : DocSz l) :
    Calls Tryd.prog 17 #[v, .int .i64 id] w fun e w' => ∃ v', e = .returned v' ∧ KidsO w.heap.size w' v' (listP l id) ∧ Below w.heap.size w w' := by
  have HI := hide (refIs_any v l id 23 w hv hz)
  cases h : isK l id 23 with
  | false =>
    have E : Hid (listP l id = []) := by show _ = _; unfold listP; rw [if_neg (by rw [h]; decide)]
    rw [h] at HI
    obtain ⟨p, c, rfl, _⟩ := hv
    clear h hz
    go_enter Tryd.func17, Tryd.ntmps17
    go_wp2_with fail
    refine HI.out.mono ?_
    rintro e w1 ⟨rfl, b1⟩
    go_wp2_with fail
    go_ret
    exact ⟨_, rfl, by rw [E.out]; exact World.ownsRow_nil _ _ _ _, b1⟩
  | true =>
    have hh : hasN l id = true := by unfold isK at h; rw [Bool.and_eq_true] at h; exact h.1
    obtain ⟨m, hI⟩ := Is.of hh
    obtain ⟨rfl, h0⟩ := (⟨hI.eq, hI.lt⟩ : id = (m : Int) ∧ m < l.length)
    have hR := hide hI.right
    have hlen := hI.right.len.2
    have EL : Hid (listP l (m : Int) = (orderP l (m : Int)).filter (optB l (m : Int))) := if_pos h
    have few := order_few hI.right h0
    have RNG : Hid (∀ x ∈ orderP l (m : Int), 0 ≤ x ∧ x < (l.length : Int)) := fun x hx => by
      have := (order_mem hI.right (by omega) (by omega) x).1 hx
      exact ⟨this.1, this.2.1⟩
    rw [h] at HI
    have hv' := hide hv
    have HOr := hide (fun W (hb : Below w.heap.size w W) => refOrder_any v l m W (hv'.out.below hb) hR.out h0)
    have HOw := hide (fun q W (hq : q < l.length) (hb : Below w.heap.size w W) => refOwner_any v l q W (hv'.out.below hb) hR.out hq)
    obtain ⟨p, c, rfl, hv⟩ := hv
    rcases hv with hv | ⟨b, o, rfl, hv⟩
    · rw [hv] at h0; simp at h0
    have HV := hide hv
    have i0 : (0 : Int) ≤ (m : Int) := by omega
    have i1 : (m : Int) < (l.length : Int) := by omega
    have OB : Hid (∀ q (hq : q < l.length), optB l (m : Int) (q : Int) = (decide (l[q].name = oOpt) && decide (ownP l (q : Int) = (m : Int)))) := fun q hq => by unfold optB; rw [nmI_at hq]
    obtain ⟨iI, hI0, hI1, hI2, hI3⟩ := info_parts infoI
    clear h hh hI hv hz hv' hR
    generalize orderP l (m : Int) = ord at *
    generalize optB l (m : Int) = P at *
    go_enter Tryd.func17, Tryd.ntmps17
    go_wp2_with fail
    refine HI.out.mono ?_
    rintro e w1 ⟨rfl, b1⟩
    go_wp2_with fail
    refine (HOr.out _ b1).mono ?_
    rintro e w2 ⟨av, rfl, ko, b2⟩
    have IV := hide ko.ints
    have B2 := hide (chain b1 b2)
    obtain ⟨pa, ca, rfl, _⟩ := ko.ints
    clear HOr HI ko b1 b2
    go_wp2_with fail
    go_loopw [5, 7] (fun ov iv wr => ∃ k : Nat, k ≤ ord.length ∧ iv = .int .i64 k ∧ Hid (KidsO w2.heap.size wr ov ((ord.take k).filter P)) ∧ Hid (Below w2.heap.size w2 wr)) (fun _ iv _ => ord.length - (intOf iv).toNat)
    case atStart => exact ⟨0, Nat.zero_le _, rfl, World.ownsRow_nil _ _ _ _, Below.refl _ _⟩
    case round =>
      rename World => wr
      obtain ⟨k, hk, rfl, KX, BW⟩ := hrel
      have BWW := hide (chain B2.out BW.out)
      obtain ⟨px, cx, ex, hcx⟩ := kids_form KX.out
      by_cases g : k < ord.length
      · have k1 : (k : Int) < (ord.length : Int) := by omega
        obtain ⟨pa', ca', eva, hav⟩ := IV.out.below BW.out
        cases eva
        rcases hav with hav | ⟨b2, o2, rfl, hav⟩
        · rw [hav] at g; simp at g
        have x0 := hav k g
        have rx := RNG.out ord[k] (List.getElem_mem g)
        obtain ⟨q, eq, hq⟩ := nat_of (z := ord[k]) (n := l.length) (by omega) rx.2
        have OBq := OB.out q hq
        rw [eq] at x0
        have q0 : (0 : Int) ≤ (q : Int) := by omega
        have q1 : (q : Int) < (l.length : Int) := by omega
        obtain ⟨va, vk, N0⟩ := HV.out q hq
        have n0 := cell_below N0.name BWW.out
        have FN := hide (filt_no (p := P) g)
        have FY := hide (filt_yes (p := P) g)
        have fl : ((ord.take k).filter P).length ≤ 400 := by have := List.length_filter_le P (ord.take k); rw [List.length_take] at this; omega
        have HO := hide (fun W hb => HOw.out q W hq hb)
        rw [eq] at FN FY
        clear N0 hav eq rx HOw RNG OB EL
        by_cases g1 : l[q].name = oOpt
        · have t1 : (l[q].name.toList == [111, 112, 116, 105, 111, 110]) = true := lit_yes g1
          rw [decide_eq_true g1, Bool.true_and] at OBq
          by_cases g2 : ownP l (q : Int) = (m : Int)
          · rw [decide_eq_true g2] at OBq
            have E1 := hide (FY.out OBq)
            have d2 : (ownP l (q : Int) == (m : Int)) = true := beq_iff_eq.2 g2
            clear FN FY OBq g1 g2
            generalize ownP l (q : Int) = z at *
            generalize l[q].name = y at *
            generalize (ord.take k).filter P = xs at *
            replace E1 : Hid ((ord.take (k + 1)).filter P = xs ++ [(q : Int)]) := E1
            have Bw : w2.heap.size ≤ wr.heap.size := BW.out.size
            have OW := hide (World.ownsRow.alloc KX.out (.cells #[.int .i64 (q : Int)] 3))
            have RW := hide ((NB.new wr [.int .i64 (q : Int)] 3).raw 1 1 rfl 1)
            have hBa : Hid (w2.heap.size ≤ (wr.alloc (.cells #[.int .i64 (q : Int)] 3)).heap.size) := by show _ ≤ _; simp; omega
            clear ex hcx
            go_wp2_with fail
            refine (HO.out _ BWW.out).mono ?_
            rintro e u ⟨rfl, hu⟩
            obtain rfl : wr = u := hu.symm
            go_wp2_with (at_builtin; refine wpList_append_raw rfl _ _ _ rfl w2.heap.size 3 iI _ 1 8 Tryd.underlying41 hI0 hI1 hI2 hI3 rfl (by omega) u5 xs.length (cellsI xs) rfl OW.out _ 1 _ rfl RW.out (by simp [Value.oneCell']) (by unfold maxLen; omega) (by omega) hBa.out ?_; intro q1 c1 w3 own1 gr1 at1)
            have B3 : Hid (Below w2.heap.size w2 w3) := BW.out.trans (((Chg.alloc wr _).nil.trans (Chg.of_grown gr1)).below Bw (fun k hk => (OW.out.lt k (opt_mem.1 hk)).1))
            have KX1 : Hid (KidsO w2.heap.size w3 (.slice q1 (xs.length + 1) c1) ((ord.take (k + 1)).filter P)) := by
              show w3.ownsRow _ _ 1 _ ((ord.take (k + 1)).filter P).length (cellsI ((ord.take (k + 1)).filter P))
              rw [E1.out, List.length_append, cellsI_app]
              exact own1
            clear own1 gr1 at1 OW RW hBa
            go_roundw
            case rel => exact ⟨k + 1, by omega, by go_num, KX1, B3⟩
            case measure => simp [intOf]; omega
          · rw [decide_eq_false g2] at OBq
            have E1 : Hid (KidsO w2.heap.size wr u5 ((ord.take (k + 1)).filter P)) := by show KidsO _ _ _ _; rw [FN.out OBq]; exact KX.out
            have d2 : (ownP l (q : Int) == (m : Int)) = false := beq_eq_false_iff_ne.2 g2
            clear FN FY OBq g1 g2 KX ex hcx
            generalize ownP l (q : Int) = z at *
            generalize l[q].name = y at *
            go_wp2_with fail
            refine (HO.out _ BWW.out).mono ?_
            rintro e u ⟨rfl, hu⟩
            obtain rfl : wr = u := hu.symm
            go_wp2_with fail
            go_roundw
            case rel => exact ⟨k + 1, by omega, by go_num, E1, BW⟩
            case measure => simp [intOf]; omega
        · have t1 : (l[q].name.toList == [111, 112, 116, 105, 111, 110]) = false := lit_no g1
          rw [decide_eq_false g1, Bool.false_and] at OBq
          have E1 : Hid (KidsO w2.heap.size wr u5 ((ord.take (k + 1)).filter P)) := by show KidsO _ _ _ _; rw [FN.out OBq]; exact KX.out
          clear FN FY OBq g1 KX ex hcx HO
          generalize l[q].name = y at *
          go_wp2_with fail
          go_roundw
          case rel => exact ⟨k + 1, by omega, by go_num, E1, BW⟩
          case measure => simp [intOf]; omega
      · obtain rfl : k = ord.length := by omega
        have KE : Hid (KidsO w.heap.size wr u5 (listP l (m : Int))) := by
          show KidsO _ _ _ _
          rw [EL.out]
          have := KX.out
          rw [List.take_length] at this
          exact owns_mono this B2.out.size
        clear EL KX ex hcx
        go_wp2_with fail
        go_ret
        exact ⟨_, rfl, KE.out, BWW.out⟩

end Go.Proofs.YtemikdmkjgmflaaDoor
