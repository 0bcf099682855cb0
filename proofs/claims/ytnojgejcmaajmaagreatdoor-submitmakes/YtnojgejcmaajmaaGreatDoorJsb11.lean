/- The document's Order of layer 10. The types of kinds. The document's Lower, for every text that the form's reach lets in. -/
import Derived.Test.YtnojgejcmaajmaaGreatDoorJsb2
import Derived.Test.YtnojgejcmaajmaaGreatDoorJsb10

namespace Go.Proofs.YtnojgejcmaajmaaGreatDoor
open Go.RowKit
set_option maxRecDepth 100000
theorem kids_lit (w : World) (base : Nat) (hb : base ≤ w.heap.size) (ks : List Int) (hl : ks.length ≤ maxLen) : KidsO base (w.alloc (.cells (cellsI ks).toArray 3)) (.slice (some ⟨w.heap.size, 0, none⟩) ks.length ks.length) ks :=
  ⟨by rw [cellsI_len, Nat.mul_one], .inr ⟨w.heap.size, ks.length, _, rfl, hb, heap_alloc_new w _, Nat.le_refl _, hl, by simp [cellsI_len], by rw [Nat.mul_one]; exact List.take_of_length_le (by rw [cellsI_len]; exact Nat.le_refl _)⟩⟩
/-- A row of the call's own, cut. -/
theorem kids_cut {w : World} {base : Nat} {p : Option Addr} {n c : Nat} {ks : List Int} (h : KidsO base w (.slice p n c) ks) {m : Nat} (hm : m ≤ ks.length) (h0 : 0 < ks.length) : KidsO base w (.slice p m c) (ks.take m) := by
  refine ⟨by rw [cellsI_len, Nat.mul_one], ?_⟩
  rcases h.2 with ⟨_, q⟩ | ⟨g, cap, cur, e, hb, hg, h1, h2, h3, h4⟩
  · omega
  · cases e
    refine .inr ⟨g, c, cur, by rw [List.length_take, Nat.min_eq_left hm], hb, hg, by rw [List.length_take]; omega, h2, h3, ?_⟩
    rw [List.length_take, Nat.min_eq_left hm, Nat.mul_one]
    rw [Nat.mul_one] at h4
    have : cellsI (ks.take m) = (cellsI ks).take m := by simp [cellsI, List.map_take]
    rw [this, ← h4, List.take_take, Nat.min_eq_left hm]
theorem kids_form {w : World} {base : Nat} {v : Value} {ks : List Int} (h : KidsO base w v ks) : ∃ p c, v = .slice p ks.length c ∧ ks.length ≤ c := by
  rcases h.2 with ⟨rfl, q⟩ | ⟨g, cap, cur, e, hb, hg, h1, h2, h3, h4⟩
  · exact ⟨none, 0, by rw [q], by omega⟩
  · exact ⟨_, cap, e, h1⟩
def lenV : Value → Nat
  | .slice _ n _ => n
  | _ => 0
theorem kids_len {w : World} {base : Nat} {v : Value} {ks : List Int} (h : KidsO base w v ks) : lenV v = ks.length := by
  obtain ⟨p, c, e, _⟩ := kids_form h
  rw [e]; rfl
theorem OInv.done {l : List Nd} {id : Int} {xs R : List Int} (h : OInv l id xs [] R) : xs = R := by
  obtain ⟨N, _, h2⟩ := h.go
  rw [← h2]
  have : orderF l N [] = [] := by cases N <;> rfl
  rw [this, List.append_nil]
set_option maxHeartbeats 8000000 in
set_option maxRecDepth 100000 in
theorem refOrder_any (v : Value) (l : List Nd) (m0 : Nat) (w : World) (hv : NodesV w v l) (hR : Right l) (h0 : m0 < l.length) :
    Calls Tryz.prog 133 #[v, .int .i64 (m0 : Int)] w fun e w' => ∃ v', e = .returned v' ∧ KidsO w.heap.size w' v' (orderP l (m0 : Int)) ∧ Below w.heap.size w w' := by
  have hlen := hR.len.2
  obtain ⟨p, c, rfl, hv⟩ := hv
  rcases hv with hv | ⟨b, o, rfl, hv⟩
  · rw [hv] at h0; simp at h0
  have HC := hide hv
  have HRt := hide hR
  have I0 : Hid (OInv l (m0 : Int) [] [(m0 : Int)] (orderP l (m0 : Int))) := ⟨inv_zero hR (by omega) (by omega), l.length + 1, by simp, rfl⟩
  obtain ⟨iI, hI0, hI1, hI2, hI3⟩ := info_parts infoI
  obtain ⟨R, hRR⟩ : ∃ R, Hid (orderP l (m0 : Int) = R) := ⟨_, show orderP l (m0 : Int) = _ from rfl⟩
  rw [hRR.out] at I0
  have RF : Hid (∀ xs, xs = R → xs = orderP l (m0 : Int)) := fun xs e => e.trans hRR.out.symm
  clear hv hR hRR
  go_enter Tryz.func133, Tryz.ntmps133
  go_wp2_with fail
  generalize hw1 : w.alloc (.cells #[Value.int .i64 (m0 : Int)] 3) = w1
  have K1 : Hid (KidsO w.heap.size w1 (.slice (some ⟨w.heap.size, 0, none⟩) 1 1) [(m0 : Int)]) := by rw [← hw1]; exact kids_lit w _ (Nat.le_refl _) [(m0 : Int)] (show 1 ≤ maxLen by decide)
  have B1 : Hid (Below w.heap.size w w1) := by rw [← hw1]; exact (Below.refl _ w).alloc (Nat.le_refl _) _
  clear hw1
  go_loopw [5, 6] (fun ov nv wr => ∃ (xs st : List Int), Hid (OInv l (m0 : Int) xs st R) ∧ Hid (KidsO w.heap.size wr ov xs) ∧ Hid (KidsO w.heap.size wr nv st.reverse) ∧ Hid (∀ k, ov.ownBlock = some k → nv.ownBlock ≠ some k) ∧ Hid (Below w.heap.size w wr)) (fun ov _ _ => l.length - lenV ov)
  case atStart => exact ⟨[], [(m0 : Int)], I0, World.ownsRow_nil _ _ _ _, K1, (fun k q => by cases q), B1⟩
  case round =>
    rename World => wr
    obtain ⟨xs, st, OI, KX, KS, SP, BW⟩ := hrel
    clear I0 K1 B1
    obtain ⟨px, cx, ex, hcx⟩ := kids_form KX.out
    have hfew := OI.out.few
    cases st with
    | nil =>
      obtain ⟨ps, cs, es, hcs⟩ := kids_form KS.out
      have E := hide (RF.out xs OI.out.done)
      rw [List.reverse_nil, List.length_nil] at es
      clear RF OI hcs hcx hfew
      subst es
      go_wp2_with fail
      go_ret
      exact ⟨_, rfl, by rw [← E.out]; exact KX.out, BW.out⟩
    | cons k st =>
      have hk := OI.out.inv.rng k (List.mem_append_right _ (List.mem_cons_self ..))
      obtain ⟨m, rfl⟩ : ∃ m : Nat, k = (m : Int) := ⟨k.toNat, by have := hk.1; omega⟩
      have hm : m < l.length := by have := hk.2.1; omega
      have ST := hide (OI.out.step HRt.out)
      rw [Int.toNat_natCast, nd_at hm] at ST
      have F2 := hide ST.out.few
      rw [List.reverse_cons] at KS
      have el : (st.reverse ++ [(m : Int)]).length = st.length + 1 := by simp
      obtain ⟨g, cs, es, eb, g0, g1, hcs, _⟩ := owns_at KS.out (by rw [el]; omega)
      rw [el] at es hcs
      have c0 : wr.cell? ⟨g, st.length, none⟩ = some (.int .i64 (m : Int)) := by
        refine owns_cell KS.out eb ?_
        rw [cellsI_at (by rw [el]; omega)]
        simp
      have KC : Hid (KidsO w.heap.size wr (.slice (some ⟨g, 0, none⟩) st.length cs) st.reverse) := by
        have := KS.out
        rw [es] at this
        have := kids_cut this (m := st.length) (by rw [el]; omega) (by rw [el]; omega)
        rw [List.take_left' (by simp)] at this
        exact this
      have SPg : Hid (u5.ownBlock ≠ some g) := fun q => SP.out g q (by rw [eb])
      obtain ⟨va, vk, N0⟩ := HC.out m hm
      obtain ⟨pk, ck, rfl, hks⟩ := N0.ks
      have NW : Hid (∀ W, Below w.heap.size w W → NodeAt W b (o + m * 5) l[m] va (.slice pk l[m].kids.length ck)) := fun W hb => N0.below hb
      have xl : xs.length ≤ 400 := by omega
      have kl : l[m].kids.length ≤ 400 := by have := F2.out; rw [List.length_append, List.length_append] at this; omega
      have ksl : l[m].kids.length + st.length ≤ 400 := by have := F2.out; rw [List.length_append, List.length_append] at this; omega
      have sl : st.length + 1 ≤ 400 := by rw [List.length_cons] at hfew; omega
      have Bw : w.heap.size ≤ wr.heap.size := BW.out.size
      have OW := hide (World.ownsRow.alloc KX.out (.cells #[.int .i64 (m : Int)] 3))
      have RW := hide ((NB.new wr [.int .i64 (m : Int)] 3).raw 1 1 rfl 1)
      have hBa : Hid (w.heap.size ≤ (wr.alloc (.cells #[.int .i64 (m : Int)] 3)).heap.size) := by show _ ≤ _; simp; omega
      have XL : Hid (lenV u5 = xs.length) := kids_len KX.out
      have i0 : (0 : Int) ≤ (m : Int) := by omega
      have i1 : (m : Int) < (l.length : Int) := by omega
      have j0 : (0 : Int) ≤ (st.length : Int) := by omega
      have j2 : (st.length : Int) ≤ (cs : Int) := by omega
      clear hk el SP hfew eb g0 OI ex hcx
      subst es
      clear KS
      go_wp2_with (at_builtin; refine wpList_append_raw rfl _ _ _ rfl w.heap.size 3 iI _ 1 8 Tryz.underlying55 hI0 hI1 hI2 hI3 rfl (by omega) u5 xs.length (cellsI xs) rfl OW.out _ 1 _ rfl RW.out (by simp [Value.oneCell']) (by unfold maxLen; omega) (by omega) hBa.out ?_; intro q1 c1 w1 own1 gr1 at1; have B1 : Hid (Below w.heap.size w w1) := BW.out.trans (((Chg.alloc wr _).nil.trans (Chg.of_grown gr1)).below Bw (fun k hk => (OW.out.lt k (opt_mem.1 hk)).1)); have a4 := (NW.out w1 B1.out).kids)
      have KX1 : Hid (KidsO w.heap.size w1 (.slice q1 (xs.length + 1) c1) (xs ++ [(m : Int)])) := by
        show w1.ownsRow _ _ 1 _ (xs ++ [(m : Int)]).length (cellsI (xs ++ [(m : Int)]))
        rw [List.length_append, cellsI_app]
        exact own1
      have KN1 : Hid (KidsO w.heap.size w1 (.slice (some ⟨g, 0, none⟩) st.length cs) st.reverse) := owns_kept KC.out ((Chg.alloc wr _).nil.trans (Chg.of_grown gr1)) (fun k hk q => SPg.out (by rw [opt_mem.1 q]; exact hk.symm))
      have SP1 : Hid (∀ k, (Value.slice q1 (xs.length + 1) c1).ownBlock = some k → (Value.slice (some ⟨g, 0, none⟩) st.length cs).ownBlock ≠ some k) := by
        intro k hk e
        have e : g = k := Option.some.inj e
        subst e
        rcases at1 with t | t
        · rw [t] at hk; exact SPg.out hk
        · rw [t] at hk
          have := Option.some.inj hk
          simp at this
          omega
      have AK : Hid (∀ W, Below w.heap.size w W → ∀ i (h : i < l[m].kids.length), ∃ bk ok, pk = some ⟨bk, ok, none⟩ ∧ W.cell? ⟨bk, ok + i, none⟩ = some (.int .i64 l[m].kids[i])) := fun W hb i h => by
        obtain ⟨pk', ck', evk', hks'⟩ := (NW.out W hb).ks
        cases evk'
        rcases hks' with t | ⟨bk, ok, e, t⟩
        · rw [t] at h; simp at h
        · exact ⟨bk, ok, e, t i h⟩
      clear own1 gr1 at1 OW RW hBa KC SPg BW KX hks c0
      go_loopw [6, 8] (fun nv iv wq => ∃ t : Nat, t ≤ l[m].kids.length ∧ iv = .int .i64 ((t : Int) - 1) ∧ Hid (KidsO w.heap.size wq nv (l[m].kids.drop t ++ st).reverse) ∧ Hid (KidsO w.heap.size wq (.slice q1 (xs.length + 1) c1) (xs ++ [(m : Int)])) ∧ Hid (∀ k, (Value.slice q1 (xs.length + 1) c1).ownBlock = some k → nv.ownBlock ≠ some k) ∧ Hid (Below w.heap.size w wq)) (fun _ iv _ => (intOf iv + 1).toNat)
      case atStart => exact ⟨l[m].kids.length, Nat.le_refl _, rfl, by show KidsO _ _ _ _; rw [List.drop_length, List.nil_append]; exact KN1.out, KX1, SP1, B1⟩
      case round =>
        rename World => wq
        obtain ⟨t, ht, rfl, KQ, KX2, SP2, BW2⟩ := hrel
        clear KN1 KX1 SP1 B1 a4
        cases t with
        | zero =>
          have f1 : ¬ (0 : Int) ≤ ((0 : Nat) : Int) - 1 := by omega
          have KQ' := hide KQ.out
          rw [List.drop_zero] at KQ'
          clear KQ
          go_wp2_with fail
          go_roundw
          case rel => exact ⟨xs ++ [(m : Int)], l[m].kids ++ st, ST, KX2, KQ', SP2, BW2⟩
          case measure =>
            have e1 := XL.out
            have e2 := kids_len KX2.out
            rw [List.length_append, List.length_singleton] at e2
            have := F2.out
            rw [List.length_append, List.length_append, List.length_singleton] at this
            show l.length - lenV _ < l.length - lenV _
            rw [e1, e2]
            omega
        | succ t =>
          have f1 : (0 : Int) ≤ ((t + 1 : Nat) : Int) - 1 := by omega
          have f2 : ((t + 1 : Nat) : Int) - 1 = (t : Int) := by omega
          have htl : t < l[m].kids.length := by omega
          obtain ⟨bk, ok, rfl, a5⟩ := AK.out wq BW2.out t htl
          have a4 := (NW.out wq BW2.out).kids
          have e5 : (l[m].kids.drop t ++ st).reverse = (l[m].kids.drop (t + 1) ++ st).reverse ++ [l[m].kids[t]] := by
            rw [List.drop_eq_getElem_cons htl, List.cons_append, List.reverse_cons]
          have el5 : (l[m].kids.drop (t + 1) ++ st).reverse.length ≤ 400 := by
            rw [List.length_reverse, List.length_append, List.length_drop]; omega
          have EL5 := hide el5
          have E5 := hide e5
          have KQn : Hid (KidsO w.heap.size wq u6 (l[m].kids.drop (t + 1) ++ st).reverse) := KQ.out
          generalize (l[m].kids.drop (t + 1) ++ st).reverse = ys at *
          generalize l[m].kids[t] = kt at *
          have OW := hide (World.ownsRow.alloc KQn.out (.cells #[.int .i64 kt] 3))
          have RW := hide ((NB.new wq [.int .i64 kt] 3).raw 1 1 rfl 1)
          have Bq : w.heap.size ≤ wq.heap.size := BW2.out.size
          have hBa : Hid (w.heap.size ≤ (wq.alloc (.cells #[.int .i64 kt] 3)).heap.size) := by show _ ≤ _; simp; omega
          have S6 : Hid (∀ k, u6.ownBlock = some k → k < wq.heap.size) := fun k hk => (KQn.out.lt k hk).2
          have S1 : Hid (∀ k, (Value.slice q1 (xs.length + 1) c1).ownBlock = some k → k < wq.heap.size) := fun k hk => (KX2.out.lt k hk).2
          have t0 : (0 : Int) ≤ (t : Int) := by omega
          have t1 : (t : Int) < (l[m].kids.length : Int) := by omega
          clear e5 KQ f2
          go_wp2_with (at_builtin; refine wpList_append_raw rfl _ _ _ rfl w.heap.size 3 iI _ 1 8 Tryz.underlying55 hI0 hI1 hI2 hI3 rfl (by omega) u6 ys.length (cellsI ys) rfl OW.out _ 1 _ rfl RW.out (by simp [Value.oneCell']) (by unfold maxLen; omega) (by omega) hBa.out ?_; intro q3 c3 w3 own3 gr3 at3)
          have C3 : Hid (Chg u6.ownBlock.toList wq w3) := (Chg.alloc wq _).nil.trans (Chg.of_grown gr3)
          have A3 : Hid ((Value.slice q3 (ys.length + 1) c3).ownBlock = u6.ownBlock ∨ (Value.slice q3 (ys.length + 1) c3).ownBlock = some (wq.heap.size + 1)) := by
            rcases at3 with q | q
            · exact .inl q
            · exact .inr (by rw [q]; simp)
          have K3 : Hid (KidsO w.heap.size w3 (.slice q3 (ys.length + 1) c3) (ys ++ [kt])) := by
            show w3.ownsRow _ _ 1 _ (ys ++ [kt]).length (cellsI (ys ++ [kt]))
            rw [List.length_append, cellsI_app]
            exact own3
          clear own3 gr3 at3
          go_roundw
          case rel =>
            refine ⟨t, by omega, by go_num, ?_, owns_kept KX2.out C3.out (fun k hk q => SP2.out k hk (opt_mem.1 q)), (fun k hk e => ?_), BW2.out.trans (C3.out.below Bq (fun k hk => (KQn.out.lt k (opt_mem.1 hk)).1))⟩
            · show KidsO _ _ _ _
              rw [E5.out]; exact K3.out
            · rcases A3.out with q | q
              · rw [q] at e; exact SP2.out k hk e
              · rw [q] at e; have := Option.some.inj e; have := S1.out k hk; omega
          case measure => simp [intOf]
end Go.Proofs.YtnojgejcmaajmaaGreatDoor

namespace Go.Proofs.YtnojgejcmaajmaaGreatDoor
open Go.RowKit
set_option maxRecDepth 100000
theorem typeS_none {k : Int} (h : ∀ n : Nat, 1 ≤ n → n ≤ 29 → ¬ k = (n : Int)) : typeS k = ⟨#[]⟩ := by
  unfold typeS
  split
  · rename_i q
    have : k = 0 := by
      by_cases e : k = 0
      · exact e
      · exact absurd (show k = (k.toNat : Int) by omega) (h k.toNat (by omega) (by omega))
    rw [this]; rfl
  · rfl
set_option maxHeartbeats 4000000 in
theorem refType_any (k : Int) (w : World) :
    Calls Tryz.prog 129 #[.int .i64 k] w fun e w' => e = .returned (.string (typeS k)) ∧ w' = w := by
  by_cases h : 1 ≤ k ∧ k ≤ 29
  · obtain ⟨n, rfl⟩ : ∃ n : Nat, k = (n : Int) := ⟨k.toNat, by omega⟩
    have hn : n < 30 := by omega
    have h1 : 1 ≤ n := by omega
    clear h
    match n, hn, h1 with
    | 1, _, _ =>
      go_enter Tryz.func129, Tryz.ntmps129
      go_wp2_with fail
      go_ret
      exact ⟨rfl, rfl⟩
    | 2, _, _ =>
      go_enter Tryz.func129, Tryz.ntmps129
      go_wp2_with fail
      go_ret
      exact ⟨rfl, rfl⟩
    | 3, _, _ =>
      go_enter Tryz.func129, Tryz.ntmps129
      go_wp2_with fail
      go_ret
      exact ⟨rfl, rfl⟩
    | 4, _, _ =>
      go_enter Tryz.func129, Tryz.ntmps129
      go_wp2_with fail
      go_ret
      exact ⟨rfl, rfl⟩
    | 5, _, _ =>
      go_enter Tryz.func129, Tryz.ntmps129
      go_wp2_with fail
      go_ret
      exact ⟨rfl, rfl⟩
    | 6, _, _ =>
      go_enter Tryz.func129, Tryz.ntmps129
      go_wp2_with fail
      go_ret
      exact ⟨rfl, rfl⟩
    | 7, _, _ =>
      go_enter Tryz.func129, Tryz.ntmps129
      go_wp2_with fail
      go_ret
      exact ⟨rfl, rfl⟩
    | 8, _, _ =>
      go_enter Tryz.func129, Tryz.ntmps129
      go_wp2_with fail
      go_ret
      exact ⟨rfl, rfl⟩
    | 9, _, _ =>
      go_enter Tryz.func129, Tryz.ntmps129
      go_wp2_with fail
      go_ret
      exact ⟨rfl, rfl⟩
    | 10, _, _ =>
      go_enter Tryz.func129, Tryz.ntmps129
      go_wp2_with fail
      go_ret
      exact ⟨rfl, rfl⟩
    | 11, _, _ =>
      go_enter Tryz.func129, Tryz.ntmps129
      go_wp2_with fail
      go_ret
      exact ⟨rfl, rfl⟩
    | 12, _, _ =>
      go_enter Tryz.func129, Tryz.ntmps129
      go_wp2_with fail
      go_ret
      exact ⟨rfl, rfl⟩
    | 13, _, _ =>
      go_enter Tryz.func129, Tryz.ntmps129
      go_wp2_with fail
      go_ret
      exact ⟨rfl, rfl⟩
    | 14, _, _ =>
      go_enter Tryz.func129, Tryz.ntmps129
      go_wp2_with fail
      go_ret
      exact ⟨rfl, rfl⟩
    | 15, _, _ =>
      go_enter Tryz.func129, Tryz.ntmps129
      go_wp2_with fail
      go_ret
      exact ⟨rfl, rfl⟩
    | 16, _, _ =>
      go_enter Tryz.func129, Tryz.ntmps129
      go_wp2_with fail
      go_ret
      exact ⟨rfl, rfl⟩
    | 17, _, _ =>
      go_enter Tryz.func129, Tryz.ntmps129
      go_wp2_with fail
      go_ret
      exact ⟨rfl, rfl⟩
    | 18, _, _ =>
      go_enter Tryz.func129, Tryz.ntmps129
      go_wp2_with fail
      go_ret
      exact ⟨rfl, rfl⟩
    | 19, _, _ =>
      go_enter Tryz.func129, Tryz.ntmps129
      go_wp2_with fail
      go_ret
      exact ⟨rfl, rfl⟩
    | 20, _, _ =>
      go_enter Tryz.func129, Tryz.ntmps129
      go_wp2_with fail
      go_ret
      exact ⟨rfl, rfl⟩
    | 21, _, _ =>
      go_enter Tryz.func129, Tryz.ntmps129
      go_wp2_with fail
      go_ret
      exact ⟨rfl, rfl⟩
    | 22, _, _ =>
      go_enter Tryz.func129, Tryz.ntmps129
      go_wp2_with fail
      go_ret
      exact ⟨rfl, rfl⟩
    | 23, _, _ =>
      go_enter Tryz.func129, Tryz.ntmps129
      go_wp2_with fail
      go_ret
      exact ⟨rfl, rfl⟩
    | 24, _, _ =>
      go_enter Tryz.func129, Tryz.ntmps129
      go_wp2_with fail
      go_ret
      exact ⟨rfl, rfl⟩
    | 25, _, _ =>
      go_enter Tryz.func129, Tryz.ntmps129
      go_wp2_with fail
      go_ret
      exact ⟨rfl, rfl⟩
    | 26, _, _ =>
      go_enter Tryz.func129, Tryz.ntmps129
      go_wp2_with fail
      go_ret
      exact ⟨rfl, rfl⟩
    | 27, _, _ =>
      go_enter Tryz.func129, Tryz.ntmps129
      go_wp2_with fail
      go_ret
      exact ⟨rfl, rfl⟩
    | 28, _, _ =>
      go_enter Tryz.func129, Tryz.ntmps129
      go_wp2_with fail
      go_ret
      exact ⟨rfl, rfl⟩
    | 29, _, _ =>
      go_enter Tryz.func129, Tryz.ntmps129
      go_wp2_with fail
      go_ret
      exact ⟨rfl, rfl⟩
    | n + 30, q, _ => exact absurd q (by omega)
  · have E : Hid (typeS k = ⟨#[]⟩) := typeS_none (fun n h1 h2 q => h (by omega))
    have e1 : (k == 1) = false := by rw [beq_eq_false_iff_ne]; omega
    have e2 : (k == 2) = false := by rw [beq_eq_false_iff_ne]; omega
    have e3 : (k == 3) = false := by rw [beq_eq_false_iff_ne]; omega
    have e4 : (k == 4) = false := by rw [beq_eq_false_iff_ne]; omega
    have e5 : (k == 5) = false := by rw [beq_eq_false_iff_ne]; omega
    have e6 : (k == 6) = false := by rw [beq_eq_false_iff_ne]; omega
    have e7 : (k == 7) = false := by rw [beq_eq_false_iff_ne]; omega
    have e8 : (k == 8) = false := by rw [beq_eq_false_iff_ne]; omega
    have e9 : (k == 9) = false := by rw [beq_eq_false_iff_ne]; omega
    have e10 : (k == 10) = false := by rw [beq_eq_false_iff_ne]; omega
    have e11 : (k == 11) = false := by rw [beq_eq_false_iff_ne]; omega
    have e12 : (k == 12) = false := by rw [beq_eq_false_iff_ne]; omega
    have e13 : (k == 13) = false := by rw [beq_eq_false_iff_ne]; omega
    have e14 : (k == 14) = false := by rw [beq_eq_false_iff_ne]; omega
    have e15 : (k == 15) = false := by rw [beq_eq_false_iff_ne]; omega
    have e16 : (k == 16) = false := by rw [beq_eq_false_iff_ne]; omega
    have e17 : (k == 17) = false := by rw [beq_eq_false_iff_ne]; omega
    have e18 : (k == 18) = false := by rw [beq_eq_false_iff_ne]; omega
    have e19 : (k == 19) = false := by rw [beq_eq_false_iff_ne]; omega
    have e20 : (k == 20) = false := by rw [beq_eq_false_iff_ne]; omega
    have e21 : (k == 21) = false := by rw [beq_eq_false_iff_ne]; omega
    have e22 : (k == 22) = false := by rw [beq_eq_false_iff_ne]; omega
    have e23 : (k == 23) = false := by rw [beq_eq_false_iff_ne]; omega
    have e24 : (k == 24) = false := by rw [beq_eq_false_iff_ne]; omega
    have e25 : (k == 25) = false := by rw [beq_eq_false_iff_ne]; omega
    have e26 : (k == 26) = false := by rw [beq_eq_false_iff_ne]; omega
    have e27 : (k == 27) = false := by rw [beq_eq_false_iff_ne]; omega
    have e28 : (k == 28) = false := by rw [beq_eq_false_iff_ne]; omega
    have e29 : (k == 29) = false := by rw [beq_eq_false_iff_ne]; omega
    clear h
    go_enter Tryz.func129, Tryz.ntmps129
    go_wp2_with fail
    go_ret
    exact ⟨ret_str E.out.symm, rfl⟩
end Go.Proofs.YtnojgejcmaajmaaGreatDoor

namespace Go.Proofs.YtnojgejcmaajmaaGreatDoor
open Go.RowKit
set_option maxRecDepth 100000
/-- 'out = append(out, c)', a row of bytes of the call's own, up to 2^47 - 1 of them. -/
theorem wpList_append_byteR {P : Program} {t e st : TypeId} (bt : ByteTypes P t e st) {ops : Array Oper} {rest : List Oper} {o : Oper} {a : Act} {Q : Exit → Act → World → Prop} (w : World) (y : Int)
    (hgd : o.guard = none) (s x : Operand) (ho : o.op = .call { callee := .builtin .append, args := #[s, x], argTypes := #[t, t] })
    (base : Nat) (v : Value) (l : List UInt8) (c : UInt8) (hy : y = (c.toNat : Int)) (hs : a.eval s = v) (hown : OwnsB e base w v l)
    (hx : a.eval x = .slice (some ⟨w.heap.size, 0, none⟩) 1 1) (hlen : l.length ≤ 140737488355327) (hbase : base ≤ w.heap.size)
    (h : ∀ v' w', OwnsB e base w' v' (l ++ [c]) → Below base w w' → wpList P ops Q rest (a.put o.dst v') w') : wpList P ops Q (o :: rest) a (w.alloc (.cells #[.int .u8 y] e)) := by
  subst hy
  obtain ⟨i, hi, hz0, hz1, hz2⟩ := info_parts bt.info
  have hown' : (w.alloc (.cells #[.int .u8 (c.toNat : Int)] e)).ownsRow base e 1 v l.length (l.map cellB) := World.ownsRow.alloc hown _
  refine wpList_append_own (P := P) _ hgd s x t ho base e i (.int .u8 0) 1 1 bt.sl hi hz0 hz1 hz2 rfl (by decide) v l.length (l.map cellB) hs hown' ⟨w.heap.size, 0, none⟩ 1 1 [cellB c] hx rfl (cell_one_new _ _ _) (fun u hu => by simp at hu; subst hu; rfl) (by unfold maxLen; omega) (by omega) (by simp; omega) ?_
  intro v' w' h1 h2 _
  refine h v' w' ?_ (((Below.refl base w).alloc hbase _).trans (grown_below hown' h2 (by simp; omega)))
  simpa [OwnsB] using h1
set_option maxHeartbeats 400000 in
theorem refLower_reach (s : ByteArray) (w : World) (hs : s.size ≤ 140737488351232) :
    Calls Tryz.prog 86 #[.string s] w fun e w' => e = .returned (.string (lowS s)) ∧ Below w.heap.size w w' := by
  go_enter Tryz.func86, Tryz.ntmps86
  go_wp2
  go_loopw [3, 4] (fun v i wr => ∃ k : Nat, k ≤ s.size ∧ i = .int .i64 k ∧ OwnsB 5 w.heap.size wr v (lowL (s.data.toList.take k)) ∧ Below w.heap.size w wr) (fun _ i _ => s.size - (intOf i).toNat)
  case atStart => exact ⟨0, Nat.zero_le _, rfl, OwnsB.nil _ _ _, Below.refl _ _⟩
  case round =>
    obtain ⟨k, hk, rfl, hown, hb⟩ := hrel
    by_cases hlt : k < s.size
    · have hll : (lowL (s.data.toList.take k)).length ≤ k := by rw [lowL_length]; exact List.length_take_le _ _
      have HT := hide (lowL_take s k hlt)
      have hsz := hb.size
      have hbe := byteAt_eq s k hlt
      rcases (show (65 ≤ (s[k].toNat : Int) ∧ (s[k].toNat : Int) ≤ 90) ∨ (65 ≤ (s[k].toNat : Int) ∧ 90 < (s[k].toNat : Int)) ∨ (s[k].toNat : Int) < 65 by omega) with ⟨h1, h2⟩ | ⟨h1, h2⟩ | h1
      · have HV : Hid ((s[k].toNat : Int) + 32 = ((lowB (byteAt s k)).toNat : Int)) := by
          rw [← hbe, lowB_yes _ (by omega) (by omega)]; exact (Int.natCast_add _ _).symm
        clear hbe
        go_wp2_with (at_builtin; refine wpList_append_byteR byteTypes wr _ rfl _ _ rfl w.heap.size _ _ (lowB (byteAt s k)) HV.out rfl hown rfl (by omega) (by omega) ?_; intro v' w' hown' hb')
        go_roundw
        case rel => exact ⟨k + 1, by omega, by go_num, by rw [HT.out]; exact hown', hb.trans hb'⟩
        case measure => simp [intOf]; omega
      · have HV : Hid ((s[k].toNat : Int) = ((lowB (byteAt s k)).toNat : Int)) := by
          rw [← hbe, lowB_no _ (by omega)]; exact rfl
        clear hbe
        go_wp2_with (at_builtin; refine wpList_append_byteR byteTypes wr _ rfl _ _ rfl w.heap.size _ _ (lowB (byteAt s k)) HV.out rfl hown rfl (by omega) (by omega) ?_; intro v' w' hown' hb')
        go_roundw
        case rel => exact ⟨k + 1, by omega, by go_num, by rw [HT.out]; exact hown', hb.trans hb'⟩
        case measure => simp [intOf]; omega
      · have HV : Hid ((s[k].toNat : Int) = ((lowB (byteAt s k)).toNat : Int)) := by
          rw [← hbe, lowB_no _ (by omega)]; exact rfl
        clear hbe
        go_wp2_with (at_builtin; refine wpList_append_byteR byteTypes wr _ rfl _ _ rfl w.heap.size _ _ (lowB (byteAt s k)) HV.out rfl hown rfl (by omega) (by omega) ?_; intro v' w' hown' hb')
        go_roundw
        case rel => exact ⟨k + 1, by omega, by go_num, by rw [HT.out]; exact hown', hb.trans hb'⟩
        case measure => simp [intOf]; omega
    · have e : k = s.size := by omega
      subst e
      have ht : s.data.toList.take s.size = s.data.toList := List.take_of_length_le (by simp)
      rw [ht] at hown
      have hend := hown.text byteTypes
      go_wp2
      go_ret
      exact ⟨rfl, hb⟩

end Go.Proofs.YtnojgejcmaajmaaGreatDoor
