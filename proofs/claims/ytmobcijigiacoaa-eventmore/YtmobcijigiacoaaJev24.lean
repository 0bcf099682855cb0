/- Documents that are changed stay right. A node and what is within it, in order. Paths to nodes, and the listeners that an event calls, as functions of documents and listeners. The document's Order of layer 10. The document's Path, Bubbles, Cancels of layer 23. -/
import Derived.Test.YtmobcijigiacoaaJev26

namespace Go.Proofs.Ytmobcijigiacoaa
open Go.RowKit
theorem cnt_pos {l : List Int} {x : Int} : x ∈ l ↔ 0 < cntI l x := List.count_pos_iff.symm
end Go.Proofs.Ytmobcijigiacoaa

namespace Go.Proofs.Ytmobcijigiacoaa
open Go.RowKit
def orderP (l : List Nd) (id : Int) : List Int := orderF l (l.length + 1) [id]
theorem inv_zero {l : List Nd} (h : Right l) {id : Int} (h0 : 0 ≤ id) (hi : id < l.length) : Inv l id [] [id] := by
  refine ⟨by simp, fun x hx => ?_, fun x hx => .inl (by simpa using hx), (fun x hx => by cases hx), fun X k Y e => ?_, by simp⟩
  · have : x = id := by simpa using hx
    rw [this]; exact ⟨h0, hi, anc_self h h0 hi⟩
  · cases X <;> cases e
theorem inv_done {l : List Nd} (h : Right l) {id : Int} : ∀ (n : Nat) (out st : List Int), Inv l id out st → l.length + 1 ≤ n + out.length → Inv l id (out ++ orderF l n st) []
  | 0, out, st, v, hn => by
    have h1 := nodup_len l.length out (List.nodup_append.1 v.once).1 (fun x hx => by
      have := v.rng x (List.mem_append.2 (.inl hx))
      exact ⟨this.1, this.2.1⟩)
    omega
  | n + 1, out, [], v, _ => by
    show Inv l id (out ++ []) []
    rw [List.append_nil]; exact v
  | n + 1, out, k :: st, v, hn => by
    have := inv_done h n (out ++ [k]) ((nd l k.toNat).kids ++ st) (inv_step h v) (by simp; omega)
    rw [List.append_assoc] at this
    exact this
theorem order_inv {l : List Nd} (h : Right l) {id : Int} (h0 : 0 ≤ id) (hi : id < l.length) : Inv l id (orderP l id) [] := by
  have := inv_done h (l.length + 1) [] [id] (inv_zero h h0 hi) (by simp)
  exact this
/-- Just what is within it, each once, parents first. -/
theorem order_mem {l : List Nd} (h : Right l) {id : Int} (h0 : 0 ≤ id) (hi : id < l.length) (x : Int) : x ∈ orderP l id ↔ 0 ≤ x ∧ x < (l.length : Int) ∧ id ∈ anc l x := by
  have v := order_inv h h0 hi
  constructor
  · intro hx
    exact v.rng x (by rw [List.append_nil]; exact hx)
  · rintro ⟨x0, x1, x2⟩
    have key : ∀ (d : Nat) (x : Int), 0 ≤ x → x < (l.length : Int) → hgt l x ≤ d → id ∈ anc l x → x ∈ orderP l id := by
      intro d
      induction d with
      | zero =>
        intro x a b c e
        have := hgt_up (h.ende b) (by omega)
        omega
      | succ d ih =>
        intro x a b c e
        have hu := hgt_up (h.ende b) (by omega)
        rw [anc_up (h.ende b) (by omega)] at e
        rcases List.mem_cons.1 e with q | q
        · have := v.has
          rw [List.append_nil] at this
          rw [← q]; exact this
        · have hp := h.up (show ¬ x < 0 by omega) b
          have hp0 : 0 ≤ parI l x := by
            rcases Int.lt_or_le (parI l x) 0 with r | r
            · rw [anc_neg r] at q; cases q
            · exact r
          have hin := ih (parI l x) hp0 hp.2 (by omega) q
          have hcn := h.cnt x.toNat (by omega) (by show ¬ parI l x < 0; omega)
          rw [Int.toNat_of_nonneg a] at hcn
          have hkid : x ∈ (nd l (parI l x).toNat).kids := cnt_pos.2 (by
            have : cntI (nd l (parI l x).toNat).kids x = 1 := hcn
            omega)
          have := v.kid (parI l x) hin x hkid
          rw [List.append_nil] at this
          exact this
    exact key _ x x0 x1 (Nat.le_refl _) x2
theorem order_nodup {l : List Nd} (h : Right l) {id : Int} (h0 : 0 ≤ id) (hi : id < l.length) : (orderP l id).Nodup := by
  have := (order_inv h h0 hi).once
  rw [List.append_nil] at this
  exact this
end Go.Proofs.Ytmobcijigiacoaa

namespace Go.Proofs.Ytmobcijigiacoaa
open Go.RowKit
def pthB (l : List Nd) (t x : Int) : Bool := decide (x = t) || withinB l t x
/-- The order of a tree, of what is on the way up alone. -/
theorem prec {l : List Nd} (h : Right l) {O : List Int} {id : Int} (hf : ∀ X k Y, O = X ++ k :: Y → k = id ∨ parI l k ∈ X) (hid : parI l id < 0) : ∀ (d : Nat) {y : Int} {X Y : List Int}, 0 ≤ y → y < (l.length : Int) → hgt l y ≤ d → O = X ++ y :: Y → ∀ x ∈ anc l (parI l y), x ∈ X
  | 0, y, X, Y, y0, hy, hd, _, x, hx => by
    have := hgt_up (h.ende hy) (by omega)
    omega
  | d + 1, y, X, Y, y0, hy, hd, e, x, hx => by
    have hh := hgt_up (h.ende hy) (by omega)
    rcases hf X y Y e with q | q
    · rw [q, anc_neg hid] at hx; cases hx
    · by_cases p0 : parI l y < 0
      · rw [anc_neg p0] at hx; cases hx
      · have pr := h.up (k := y) (by omega) hy
        rw [anc_up (h.ende pr.2) p0] at hx
        rcases List.mem_cons.1 hx with t | t
        · rw [t]; exact q
        · obtain ⟨X', Y', e2⟩ := List.append_of_mem q
          have := prec h hf hid d (y := parI l y) (X := X') (Y := Y' ++ y :: Y) (by omega) pr.2 (by omega) (by rw [e, e2]; simp) x t
          rw [e2]
          exact List.mem_append.2 (.inl this)
theorem path_filter {l : List Nd} (h : Right l) {O : List Int} {id : Int} (hf : ∀ X k Y, O = X ++ k :: Y → k = id ∨ parI l k ∈ X) (hid : parI l id < 0) (hn : O.Nodup) : ∀ (d : Nat) {y : Int}, 0 ≤ y → y < (l.length : Int) → hgt l y ≤ d → y ∈ O → O.filter (fun x => decide (x ∈ anc l y)) = (anc l y).reverse
  | 0, y, y0, hy, hd, _ => by
    have := hgt_up (h.ende hy) (by omega)
    omega
  | d + 1, y, y0, hy, hd, hm => by
    have hh := hgt_up (h.ende hy) (by omega)
    obtain ⟨X, Y, e⟩ := List.append_of_mem hm
    have pc := prec h hf hid (d + 1) (X := X) (Y := Y) y0 hy hd e
    have nd := hn
    rw [e] at nd
    have nd1 := List.nodup_append.1 nd
    have yX : y ∉ X := fun q => nd1.2.2 y q y List.mem_cons_self rfl
    have yY : y ∉ Y := (List.nodup_cons.1 nd1.2.1).1
    have pY : ∀ x ∈ anc l (parI l y), x ∉ Y := fun x hx q => nd1.2.2 x (pc x hx) x (List.mem_cons_of_mem _ q) rfl
    have yp : y ∉ anc l (parI l y) := fun q => yX (pc y q)
    have eu := anc_up (h.ende hy) (by omega)
    have f1 : X.filter (fun x => decide (x ∈ anc l y)) = X.filter (fun x => decide (x ∈ anc l (parI l y))) := List.filter_congr fun x hx => by
      rw [eu]
      congr 1
      exact propext ⟨fun t => (List.mem_cons.1 t).elim (fun t => absurd (t ▸ hx) yX) (fun t => t), List.mem_cons_of_mem _⟩
    have f2 : Y.filter (fun x => decide (x ∈ anc l y)) = [] := List.filter_eq_nil_iff.2 fun x hx q => by
      rw [decide_eq_true_eq, eu] at q
      rcases List.mem_cons.1 q with t | t
      · exact yY (t ▸ hx)
      · exact pY x t hx
    have f3 : O.filter (fun x => decide (x ∈ anc l (parI l y))) = X.filter (fun x => decide (x ∈ anc l (parI l y))) := by
      rw [e, List.filter_append, List.filter_cons, if_neg (by rw [decide_eq_true_eq]; exact yp), List.filter_eq_nil_iff.2 (fun x hx q => pY x (of_decide_eq_true q) hx), List.append_nil]
    have L : O.filter (fun x => decide (x ∈ anc l y)) = O.filter (fun x => decide (x ∈ anc l (parI l y))) ++ [y] := by
      rw [f3, e, List.filter_append, List.filter_cons, if_pos (by rw [decide_eq_true_eq, eu]; exact List.mem_cons_self), f1, f2]
    rw [L]
    by_cases p0 : parI l y < 0
    · rw [eu, anc_neg p0]
      have : O.filter (fun x => decide (x ∈ ([] : List Int))) = [] := List.filter_eq_nil_iff.2 fun x _ q => by simp at q
      rw [this]; rfl
    · have pr := h.up (k := y) (by omega) hy
      have pm : parI l y ∈ O := by
        rw [e]
        exact List.mem_append.2 (.inl (pc _ (by rw [anc_up (h.ende pr.2) p0]; exact List.mem_cons_self)))
      rw [path_filter h hf hid hn d (by omega) pr.2 (by omega) pm, eu, List.reverse_cons]
/-- The path as the document tells it. -/
theorem path_is {l : List Nd} {t : Int} (h : hasN l t = true) : (orderP l (topP l t)).filter (pthB l t) = pathP l t := by
  obtain ⟨hR, t0, t1⟩ := hasN_is h
  have a := top_rootE hR _ t0 t1 (Nat.le_refl _)
  have r := anc_range l (fun i hi => (hR.par i hi).2) _ _ t1 _ a.1
  have iv := order_inv hR r.1 r.2
  unfold pathP
  rw [if_pos h, ← path_filter hR iv.first a.2 (order_nodup hR r.1 r.2) _ t0 t1 (Nat.le_refl _) ((order_mem hR r.1 r.2 t).2 ⟨t0, t1, a.1⟩)]
  refine List.filter_congr fun x _ => ?_
  unfold pthB withinB
  rw [anc_up (hR.ende t1) (by omega), Bool.eq_iff_iff, Bool.or_eq_true, decide_eq_true_eq, decide_eq_true_eq, List.mem_cons, List.contains_iff_mem]
end Go.Proofs.Ytmobcijigiacoaa

namespace Go.Proofs.Ytmobcijigiacoaa
open Go.RowKit
set_option maxRecDepth 100000
theorem kids_lit (w : World) (base : Nat) (hb : base ≤ w.heap.size) (ks : List Int) (hl : ks.length ≤ maxLen) : KidsO base (w.alloc (.cells (cellsI ks).toArray 3)) (.slice (some ⟨w.heap.size, 0, none⟩) ks.length ks.length) ks :=
  ⟨by rw [cellsI_len, Nat.mul_one], .inr ⟨w.heap.size, ks.length, _, rfl, hb, heap_alloc_new w _, Nat.le_refl _, hl, by simp [cellsI_len], by rw [Nat.mul_one]; exact List.take_of_length_le (by rw [cellsI_len]; exact Nat.le_refl _)⟩⟩
/-- A row of the call's own, cut. -/
theorem kids_cut {w : World} {base : Nat} {p : Option Addr} {n c : Nat} {ks : List Int} (h : KidsO base w (.slice p n c) ks) {m : Nat} (hm : m ≤ ks.length) (h0 : 0 < ks.length) : KidsO base w (.slice p m c) (ks.take m) := by
  refine ⟨by rw [cellsI_len, Nat.mul_one], ?_⟩
  rcases h.2 with ⟨_, q⟩ | ⟨g, cap, cur, e, hb, hg, h1, h2, h3, h4⟩
  · omega
  · cases e
    refine .inr ⟨g, c, cur, by rw [List.length_take, Nat.min_eq_left hm], hb, hg, by rw [List.length_take]; omega, h2, h3, ?_⟩
    rw [List.length_take, Nat.min_eq_left hm, Nat.mul_one]
    rw [Nat.mul_one] at h4
    have : cellsI (ks.take m) = (cellsI ks).take m := by simp [cellsI, List.map_take]
    rw [this, ← h4, List.take_take, Nat.min_eq_left hm]
theorem kids_form {w : World} {base : Nat} {v : Value} {ks : List Int} (h : KidsO base w v ks) : ∃ p c, v = .slice p ks.length c ∧ ks.length ≤ c := by
  rcases h.2 with ⟨rfl, q⟩ | ⟨g, cap, cur, e, hb, hg, h1, h2, h3, h4⟩
  · exact ⟨none, 0, by rw [q], by omega⟩
  · exact ⟨_, cap, e, h1⟩
def lenV : Value → Nat
  | .slice _ n _ => n
  | _ => 0
theorem kids_len {w : World} {base : Nat} {v : Value} {ks : List Int} (h : KidsO base w v ks) : lenV v = ks.length := by
  obtain ⟨p, c, e, _⟩ := kids_form h
  rw [e]; rfl
theorem OInv.done {l : List Nd} {id : Int} {xs R : List Int} (h : OInv l id xs [] R) : xs = R := by
  obtain ⟨N, _, h2⟩ := h.go
  rw [← h2]
  have : orderF l N [] = [] := by cases N <;> rfl
  rw [this, List.append_nil]
set_option maxHeartbeats 8000000 in
set_option maxRecDepth 100000 in
theorem refOrder_any (v : Value) (l : List Nd) (m0 : Nat) (w : World) (hv : NodesV w v l) (hR : Right l) (h0 : m0 < l.length) :
    Calls Try.prog 24 #[v, .int .i64 (m0 : Int)] w fun e w' => ∃ v', e = .returned v' ∧ KidsO w.heap.size w' v' (orderP l (m0 : Int)) ∧ Below w.heap.size w w' := by
  have hlen := hR.len.2
  obtain ⟨p, c, rfl, hv⟩ := hv
  rcases hv with hv | ⟨b, o, rfl, hv⟩
  · rw [hv] at h0; simp at h0
  have HC := hide hv
  have HRt := hide hR
  have I0 : Hid (OInv l (m0 : Int) [] [(m0 : Int)] (orderP l (m0 : Int))) := ⟨inv_zero hR (by omega) (by omega), l.length + 1, by simp, rfl⟩
  obtain ⟨iI, hI0, hI1, hI2, hI3⟩ := info_parts infoI
  obtain ⟨R, hRR⟩ : ∃ R, Hid (orderP l (m0 : Int) = R) := ⟨_, show orderP l (m0 : Int) = _ from rfl⟩
  rw [hRR.out] at I0
  have RF : Hid (∀ xs, xs = R → xs = orderP l (m0 : Int)) := fun xs e => e.trans hRR.out.symm
  clear hv hR hRR
  go_enter Try.func24, Try.ntmps24
  go_wp2_with fail
  generalize hw1 : w.alloc (.cells #[Value.int .i64 (m0 : Int)] 3) = w1
  have K1 : Hid (KidsO w.heap.size w1 (.slice (some ⟨w.heap.size, 0, none⟩) 1 1) [(m0 : Int)]) := by rw [← hw1]; exact kids_lit w _ (Nat.le_refl _) [(m0 : Int)] (show 1 ≤ maxLen by decide)
  have B1 : Hid (Below w.heap.size w w1) := by rw [← hw1]; exact (Below.refl _ w).alloc (Nat.le_refl _) _
  clear hw1
  go_loopw [5, 6] (fun ov nv wr => ∃ (xs st : List Int), Hid (OInv l (m0 : Int) xs st R) ∧ Hid (KidsO w.heap.size wr ov xs) ∧ Hid (KidsO w.heap.size wr nv st.reverse) ∧ Hid (∀ k, ov.ownBlock = some k → nv.ownBlock ≠ some k) ∧ Hid (Below w.heap.size w wr)) (fun ov _ _ => l.length - lenV ov)
  case atStart => exact ⟨[], [(m0 : Int)], I0, World.ownsRow_nil _ _ _ _, K1, (fun k q => by cases q), B1⟩
  case round =>
    rename World => wr
    obtain ⟨xs, st, OI, KX, KS, SP, BW⟩ := hrel
    clear I0 K1 B1
    obtain ⟨px, cx, ex, hcx⟩ := kids_form KX.out
    have hfew := OI.out.few
    cases st with
    | nil =>
      obtain ⟨ps, cs, es, hcs⟩ := kids_form KS.out
      have E := hide (RF.out xs OI.out.done)
      rw [List.reverse_nil, List.length_nil] at es
      clear RF OI hcs hcx hfew
      subst es
      go_wp2_with fail
      go_ret
      exact ⟨_, rfl, by rw [← E.out]; exact KX.out, BW.out⟩
    | cons k st =>
      have hk := OI.out.inv.rng k (List.mem_append_right _ (List.mem_cons_self ..))
      obtain ⟨m, rfl⟩ : ∃ m : Nat, k = (m : Int) := ⟨k.toNat, by have := hk.1; omega⟩
      have hm : m < l.length := by have := hk.2.1; omega
      have ST := hide (OI.out.step HRt.out)
      rw [Int.toNat_natCast, nd_at hm] at ST
      have F2 := hide ST.out.few
      rw [List.reverse_cons] at KS
      have el : (st.reverse ++ [(m : Int)]).length = st.length + 1 := by simp
      obtain ⟨g, cs, es, eb, g0, g1, hcs, _⟩ := owns_at KS.out (by rw [el]; omega)
      rw [el] at es hcs
      have c0 : wr.cell? ⟨g, st.length, none⟩ = some (.int .i64 (m : Int)) := by
        refine owns_cell KS.out eb ?_
        rw [cellsI_at (by rw [el]; omega)]
        simp
      have KC : Hid (KidsO w.heap.size wr (.slice (some ⟨g, 0, none⟩) st.length cs) st.reverse) := by
        have := KS.out
        rw [es] at this
        have := kids_cut this (m := st.length) (by rw [el]; omega) (by rw [el]; omega)
        rw [List.take_left' (by simp)] at this
        exact this
      have SPg : Hid (u5.ownBlock ≠ some g) := fun q => SP.out g q (by rw [eb])
      obtain ⟨va, vk, N0⟩ := HC.out m hm
      obtain ⟨pk, ck, rfl, hks⟩ := N0.ks
      have NW : Hid (∀ W, Below w.heap.size w W → NodeAt W b (o + m * 5) l[m] va (.slice pk l[m].kids.length ck)) := fun W hb => N0.below hb
      have xl : xs.length ≤ 400 := by omega
      have kl : l[m].kids.length ≤ 400 := by have := F2.out; rw [List.length_append, List.length_append] at this; omega
      have ksl : l[m].kids.length + st.length ≤ 400 := by have := F2.out; rw [List.length_append, List.length_append] at this; omega
      have sl : st.length + 1 ≤ 400 := by rw [List.length_cons] at hfew; omega
      have Bw : w.heap.size ≤ wr.heap.size := BW.out.size
      have OW := hide (World.ownsRow.alloc KX.out (.cells #[.int .i64 (m : Int)] 3))
      have RW := hide ((NB.new wr [.int .i64 (m : Int)] 3).raw 1 1 rfl 1)
      have hBa : Hid (w.heap.size ≤ (wr.alloc (.cells #[.int .i64 (m : Int)] 3)).heap.size) := by show _ ≤ _; simp; omega
      have XL : Hid (lenV u5 = xs.length) := kids_len KX.out
      have i0 : (0 : Int) ≤ (m : Int) := by omega
      have i1 : (m : Int) < (l.length : Int) := by omega
      have j0 : (0 : Int) ≤ (st.length : Int) := by omega
      have j2 : (st.length : Int) ≤ (cs : Int) := by omega
      clear hk el SP hfew eb g0 OI ex hcx
      subst es
      clear KS
      go_wp2_with (at_builtin; refine wpList_append_raw rfl _ _ _ rfl w.heap.size 3 iI _ 1 8 Try.underlying25 hI0 hI1 hI2 hI3 rfl (by omega) u5 xs.length (cellsI xs) rfl OW.out _ 1 _ rfl RW.out (by simp [Value.oneCell']) (by unfold maxLen; omega) (by omega) hBa.out ?_; intro q1 c1 w1 own1 gr1 at1; have B1 : Hid (Below w.heap.size w w1) := BW.out.trans (((Chg.alloc wr _).nil.trans (Chg.of_grown gr1)).below Bw (fun k hk => (OW.out.lt k (opt_mem.1 hk)).1)); have a4 := (NW.out w1 B1.out).kids)
      have KX1 : Hid (KidsO w.heap.size w1 (.slice q1 (xs.length + 1) c1) (xs ++ [(m : Int)])) := by
        show w1.ownsRow _ _ 1 _ (xs ++ [(m : Int)]).length (cellsI (xs ++ [(m : Int)]))
        rw [List.length_append, cellsI_app]
        exact own1
      have KN1 : Hid (KidsO w.heap.size w1 (.slice (some ⟨g, 0, none⟩) st.length cs) st.reverse) := owns_kept KC.out ((Chg.alloc wr _).nil.trans (Chg.of_grown gr1)) (fun k hk q => SPg.out (by rw [opt_mem.1 q]; exact hk.symm))
      have SP1 : Hid (∀ k, (Value.slice q1 (xs.length + 1) c1).ownBlock = some k → (Value.slice (some ⟨g, 0, none⟩) st.length cs).ownBlock ≠ some k) := by
        intro k hk e
        have e : g = k := Option.some.inj e
        subst e
        rcases at1 with t | t
        · rw [t] at hk; exact SPg.out hk
        · rw [t] at hk
          have := Option.some.inj hk
          simp at this
          omega
      have AK : Hid (∀ W, Below w.heap.size w W → ∀ i (h : i < l[m].kids.length), ∃ bk ok, pk = some ⟨bk, ok, none⟩ ∧ W.cell? ⟨bk, ok + i, none⟩ = some (.int .i64 l[m].kids[i])) := fun W hb i h => by
        obtain ⟨pk', ck', evk', hks'⟩ := (NW.out W hb).ks
        cases evk'
        rcases hks' with t | ⟨bk, ok, e, t⟩
        · rw [t] at h; simp at h
        · exact ⟨bk, ok, e, t i h⟩
      clear own1 gr1 at1 OW RW hBa KC SPg BW KX hks c0
      go_loopw [6, 8] (fun nv iv wq => ∃ t : Nat, t ≤ l[m].kids.length ∧ iv = .int .i64 ((t : Int) - 1) ∧ Hid (KidsO w.heap.size wq nv (l[m].kids.drop t ++ st).reverse) ∧ Hid (KidsO w.heap.size wq (.slice q1 (xs.length + 1) c1) (xs ++ [(m : Int)])) ∧ Hid (∀ k, (Value.slice q1 (xs.length + 1) c1).ownBlock = some k → nv.ownBlock ≠ some k) ∧ Hid (Below w.heap.size w wq)) (fun _ iv _ => (intOf iv + 1).toNat)
      case atStart => exact ⟨l[m].kids.length, Nat.le_refl _, rfl, by show KidsO _ _ _ _; rw [List.drop_length, List.nil_append]; exact KN1.out, KX1, SP1, B1⟩
      case round =>
        rename World => wq
        obtain ⟨t, ht, rfl, KQ, KX2, SP2, BW2⟩ := hrel
        clear KN1 KX1 SP1 B1 a4
        cases t with
        | zero =>
          have f1 : ¬ (0 : Int) ≤ ((0 : Nat) : Int) - 1 := by omega
          have KQ' := hide KQ.out
          rw [List.drop_zero] at KQ'
          clear KQ
          go_wp2_with fail
          go_roundw
          case rel => exact ⟨xs ++ [(m : Int)], l[m].kids ++ st, ST, KX2, KQ', SP2, BW2⟩
          case measure =>
            have e1 := XL.out
            have e2 := kids_len KX2.out
            rw [List.length_append, List.length_singleton] at e2
            have := F2.out
            rw [List.length_append, List.length_append, List.length_singleton] at this
            show l.length - lenV _ < l.length - lenV _
            rw [e1, e2]
            omega
        | succ t =>
          have f1 : (0 : Int) ≤ ((t + 1 : Nat) : Int) - 1 := by omega
          have f2 : ((t + 1 : Nat) : Int) - 1 = (t : Int) := by omega
          have htl : t < l[m].kids.length := by omega
          obtain ⟨bk, ok, rfl, a5⟩ := AK.out wq BW2.out t htl
          have a4 := (NW.out wq BW2.out).kids
          have e5 : (l[m].kids.drop t ++ st).reverse = (l[m].kids.drop (t + 1) ++ st).reverse ++ [l[m].kids[t]] := by
            rw [List.drop_eq_getElem_cons htl, List.cons_append, List.reverse_cons]
          have el5 : (l[m].kids.drop (t + 1) ++ st).reverse.length ≤ 400 := by
            rw [List.length_reverse, List.length_append, List.length_drop]; omega
          have EL5 := hide el5
          have E5 := hide e5
          have KQn : Hid (KidsO w.heap.size wq u6 (l[m].kids.drop (t + 1) ++ st).reverse) := KQ.out
          generalize (l[m].kids.drop (t + 1) ++ st).reverse = ys at *
          generalize l[m].kids[t] = kt at *
          have OW := hide (World.ownsRow.alloc KQn.out (.cells #[.int .i64 kt] 3))
          have RW := hide ((NB.new wq [.int .i64 kt] 3).raw 1 1 rfl 1)
          have Bq : w.heap.size ≤ wq.heap.size := BW2.out.size
          have hBa : Hid (w.heap.size ≤ (wq.alloc (.cells #[.int .i64 kt] 3)).heap.size) := by show _ ≤ _; simp; omega
          have S6 : Hid (∀ k, u6.ownBlock = some k → k < wq.heap.size) := fun k hk => (KQn.out.lt k hk).2
          have S1 : Hid (∀ k, (Value.slice q1 (xs.length + 1) c1).ownBlock = some k → k < wq.heap.size) := fun k hk => (KX2.out.lt k hk).2
          have t0 : (0 : Int) ≤ (t : Int) := by omega
          have t1 : (t : Int) < (l[m].kids.length : Int) := by omega
          clear e5 KQ f2
          go_wp2_with (at_builtin; refine wpList_append_raw rfl _ _ _ rfl w.heap.size 3 iI _ 1 8 Try.underlying25 hI0 hI1 hI2 hI3 rfl (by omega) u6 ys.length (cellsI ys) rfl OW.out _ 1 _ rfl RW.out (by simp [Value.oneCell']) (by unfold maxLen; omega) (by omega) hBa.out ?_; intro q3 c3 w3 own3 gr3 at3)
          have C3 : Hid (Chg u6.ownBlock.toList wq w3) := (Chg.alloc wq _).nil.trans (Chg.of_grown gr3)
          have A3 : Hid ((Value.slice q3 (ys.length + 1) c3).ownBlock = u6.ownBlock ∨ (Value.slice q3 (ys.length + 1) c3).ownBlock = some (wq.heap.size + 1)) := by
            rcases at3 with q | q
            · exact .inl q
            · exact .inr (by rw [q]; simp)
          have K3 : Hid (KidsO w.heap.size w3 (.slice q3 (ys.length + 1) c3) (ys ++ [kt])) := by
            show w3.ownsRow _ _ 1 _ (ys ++ [kt]).length (cellsI (ys ++ [kt]))
            rw [List.length_append, cellsI_app]
            exact own3
          clear own3 gr3 at3
          go_roundw
          case rel =>
            refine ⟨t, by omega, by go_num, ?_, owns_kept KX2.out C3.out (fun k hk q => SP2.out k hk (opt_mem.1 q)), (fun k hk e => ?_), BW2.out.trans (C3.out.below Bq (fun k hk => (KQn.out.lt k (opt_mem.1 hk)).1))⟩
            · show KidsO _ _ _ _
              rw [E5.out]; exact K3.out
            · rcases A3.out with q | q
              · rw [q] at e; exact SP2.out k hk e
              · rw [q] at e; have := Option.some.inj e; have := S1.out k hk; omega
          case measure => simp [intOf]
end Go.Proofs.Ytmobcijigiacoaa

namespace Go.Proofs.Ytmobcijigiacoaa
open Go.RowKit
set_option maxRecDepth 100000
theorem filtE_no {p : Int → Bool} {xs : List Int} {k : Nat} (h : k < xs.length) (hp : p xs[k] = false) : (xs.take (k + 1)).filter p = (xs.take k).filter p := by
  rw [List.take_succ_eq_append_getElem h, List.filter_append, List.filter_cons_of_neg (by rw [hp]; decide), List.filter_nil, List.append_nil]
theorem filtE_yes {p : Int → Bool} {xs : List Int} {k : Nat} (h : k < xs.length) (hp : p xs[k] = true) : (xs.take (k + 1)).filter p = (xs.take k).filter p ++ [xs[k]] := by
  rw [List.take_succ_eq_append_getElem h, List.filter_append, List.filter_cons_of_pos hp, List.filter_nil]
theorem order_fewE {l : List Nd} (h : Right l) {m : Nat} (hm : m < l.length) : (orderP l (m : Int)).length ≤ 400 := by
  have a := nodup_sub (order_nodup h (id := (m : Int)) (by omega) (by omega)) (B := (List.range l.length).map fun i : Nat => (i : Int)) (fun x hx => by
    have := (order_mem h (by omega) (by omega) x).1 hx
    rw [List.mem_map]
    exact ⟨x.toNat, List.mem_range.2 (by omega), by omega⟩)
  rw [List.length_map, List.length_range] at a
  have := h.len
  omega
set_option maxHeartbeats 8000000 in
theorem refPath23_any (v : Value) (l : List Nd) (id : Int) (w : World) (hv : NodesV w v l) (hz : DocSz l) :
    Calls Try.prog 12 #[v, .int .i64 id] w fun e w' => ∃ q k, e = .returned (.slice q (pathP l id).length k) ∧ KidsO w.heap.size w' (.slice q (pathP l id).length k) (pathP l id) ∧ Below w.heap.size w w' := by
  have HI := hide (refHas_any v l id w hv hz)
  cases h : hasN l id with
  | false =>
    have E : Hid (pathP l id = []) := path_none h
    rw [h] at HI
    obtain ⟨p, c, rfl, _⟩ := hv
    clear h hz
    go_enter Try.func12, Try.ntmps12
    go_wp2_with fail
    refine HI.out.mono ?_
    rintro e w1 ⟨rfl, b1⟩
    go_wp2_with fail
    go_ret
    exact ⟨none, 0, by rw [E.out]; rfl, by rw [E.out]; exact World.ownsRow_nil _ _ _ _, b1⟩
  | true =>
    obtain ⟨m, hI⟩ := Is.of h
    obtain ⟨rfl, h0⟩ := (⟨hI.eq, hI.lt⟩ : id = (m : Int) ∧ m < l.length)
    have hR := hide hI.right
    have hlen := hI.right.len.2
    obtain ⟨t, et, ht⟩ := top_inE hI.right h0
    have EL : Hid ((orderP l (t : Int)).filter (pthB l (m : Int)) = pathP l (m : Int)) := by show _ = _; rw [← et]; exact path_is h
    have few := order_fewE hI.right ht
    have RNG : Hid (∀ x ∈ orderP l (t : Int), 0 ≤ x ∧ x < (l.length : Int)) := fun x hx => by
      have := (order_mem hI.right (by omega) (by omega) x).1 hx
      exact ⟨this.1, this.2.1⟩
    rw [h] at HI
    have hv' := hide hv
    have HTp := hide (fun W (hb : Below w.heap.size w W) => refTop_any v l (m : Int) m W (hv'.out.below hb) hI)
    rw [et] at HTp
    have HOr := hide (fun W (hb : Below w.heap.size w W) => refOrder_any v l t W (hv'.out.below hb) hR.out ht)
    have HFm := hide (fun x W (hb : Below w.heap.size w W) => refWithin_any v l (m : Int) m x W (hv'.out.below hb) hI)
    have OB : Hid (∀ x : Int, pthB l (m : Int) x = (decide (x = (m : Int)) || withinB l (m : Int) x)) := fun _ => rfl
    obtain ⟨p, c, rfl, _⟩ := hv
    obtain ⟨iI, hI0, hI1, hI2, hI3⟩ := info_parts infoI
    clear h hI hz hv' hR et
    generalize orderP l (t : Int) = ord at *
    generalize pthB l (m : Int) = P at *
    generalize pathP l (m : Int) = RES at *
    go_enter Try.func12, Try.ntmps12
    go_wp2_with fail
    refine HI.out.mono ?_
    rintro e w1 ⟨rfl, b1⟩
    go_wp2_with fail
    refine (HTp.out _ b1).mono ?_
    rintro e u ⟨rfl, hu⟩
    obtain rfl : w1 = u := hu.symm
    go_wp2_with fail
    refine (HOr.out _ b1).mono ?_
    rintro e w2 ⟨av, rfl, ko, b2⟩
    have IV := hide ko.ints
    have B2 := hide (chain b1 b2)
    obtain ⟨pa, ca, rfl, _⟩ := ko.ints
    clear HOr HI ko b1 b2 HTp
    go_wp2_with fail
    go_loopw [5, 7] (fun ov iv wr => ∃ (k : Nat) (q : Option Addr) (cp : Nat), k ≤ ord.length ∧ iv = .int .i64 k ∧ ov = .slice q ((ord.take k).filter P).length cp ∧ Hid (KidsO w2.heap.size wr (.slice q ((ord.take k).filter P).length cp) ((ord.take k).filter P)) ∧ Hid (Below w2.heap.size w2 wr)) (fun _ iv _ => ord.length - (intOf iv).toNat)
    case atStart => exact ⟨0, none, 0, Nat.zero_le _, rfl, rfl, World.ownsRow_nil _ _ _ _, Below.refl _ _⟩
    case round =>
      rename World => wr
      obtain ⟨k, px, cx, hk, rfl, rfl, KX, BW⟩ := hrel
      have BWW := hide (chain B2.out BW.out)
      by_cases g : k < ord.length
      · have k1 : (k : Int) < (ord.length : Int) := by omega
        have k0 : (0 : Int) ≤ (k : Int) := by omega
        obtain ⟨pa', ca', eva, hav⟩ := IV.out.below BW.out
        cases eva
        rcases hav with hav | ⟨b2, o2, rfl, hav⟩
        · rw [hav] at g; simp at g
        have x0 := hav k g
        have FN := hide (filtE_no (p := P) g)
        have FY := hide (filtE_yes (p := P) g)
        have fl : ((ord.take k).filter P).length ≤ 400 := by have := List.length_filter_le P (ord.take k); rw [List.length_take] at this; omega
        have OBq := OB.out ord[k]
        have HFq := hide (HFm.out ord[k] wr BWW.out)
        have AL : Hid (Below wr.heap.size wr (wr.alloc (.cells #[.int .i64 ord[k]] 3))) := (Below.refl _ _).alloc (Nat.le_refl _) _
        have OZ := hide (owns_below KX.out AL.out)
        have RAW := hide ((Bk.new wr [.int .i64 ord[k]] 3).raw 1 1 rfl 1)
        have WZ : Hid (w2.heap.size ≤ (wr.alloc (.cells #[.int .i64 ord[k]] 3)).heap.size) := by
          have h1 := BW.out.size
          have h2 := AL.out.size
          show _ ≤ _
          omega
        have BA : Hid (Below w2.heap.size w2 (wr.alloc (.cells #[.int .i64 ord[k]] 3))) := chain BW.out AL.out
        have IX := hide (fun W (hb : Below w2.heap.size w2 W) => (by
          obtain ⟨pa3, ca3, eva3, hav3⟩ := IV.out.below hb
          cases eva3
          exact (hav3.resolve_left (fun t => by rw [t] at g; simp at g)).elim fun b3 ⟨o3, e3, h3⟩ => by cases e3; exact h3 k g : W.cell? ⟨b2, o2 + k, none⟩ = some (.int .i64 ord[k])))
        clear hav HFm RNG OB AL
        generalize ord[k] = x at *
        generalize (ord.take k).filter P = xs at *
        by_cases lb : x = (m : Int)
        · have dk : (x == (m : Int)) = true := beq_iff_eq.2 lb
          rw [decide_eq_true lb, Bool.true_or] at OBq
          have E1 := hide (FY.out OBq)
          clear FN FY OBq lb HFq
          go_wp2_with (at_builtin; refine wpList_append_raw rfl _ _ _ rfl w2.heap.size 3 iI _ 1 8 Try.underlying25 hI0 hI1 hI2 hI3 rfl (by omega) _ xs.length (cellsI xs) rfl OZ.out _ 1 _ rfl RAW.out (by simp [Value.oneCell']) (by unfold maxLen; omega) (by omega) WZ.out ?_; intro q8 k8 w8 own8 gr8 at8)
          have B8 := hide (rowGrown_below BA.out WZ.out gr8 (fun k e => (OZ.out.lt k e).1))
          have O8 : Hid (KidsO w2.heap.size w8 (.slice q8 (xs.length + 1) k8) (xs ++ [x])) := by
            show World.ownsRow _ _ _ _ _ _ _
            rw [List.length_append, cellsI_app]
            exact own8
          clear own8 gr8 at8 OZ RAW
          go_roundw
          case rel => exact ⟨k + 1, q8, k8, by omega, by go_num, by rw [E1.out, List.length_append]; rfl, by show KidsO _ _ _ _; rw [E1.out, List.length_append]; exact O8.out, B8⟩
          case measure => simp [intOf]; omega
        · have dk : (x == (m : Int)) = false := beq_eq_false_iff_ne.2 lb
          rw [decide_eq_false lb, Bool.false_or] at OBq
          cases g2 : withinB l (m : Int) x with
          | true =>
            rw [g2] at OBq HFq
            have E1 := hide (FY.out OBq)
            clear FN FY OBq lb g2
            go_wp2_with fail
            refine HFq.out.mono ?_
            rintro e u ⟨rfl, hu⟩
            obtain rfl : wr = u := hu.symm
            go_wp2_with (at_builtin; refine wpList_append_raw rfl _ _ _ rfl w2.heap.size 3 iI _ 1 8 Try.underlying25 hI0 hI1 hI2 hI3 rfl (by omega) _ xs.length (cellsI xs) rfl OZ.out _ 1 _ rfl RAW.out (by simp [Value.oneCell']) (by unfold maxLen; omega) (by omega) WZ.out ?_; intro q8 k8 w8 own8 gr8 at8)
            have B8 := hide (rowGrown_below BA.out WZ.out gr8 (fun k e => (OZ.out.lt k e).1))
            have O8 : Hid (KidsO w2.heap.size w8 (.slice q8 (xs.length + 1) k8) (xs ++ [x])) := by
              show World.ownsRow _ _ _ _ _ _ _
              rw [List.length_append, cellsI_app]
              exact own8
            clear own8 gr8 at8 OZ RAW
            go_roundw
            case rel => exact ⟨k + 1, q8, k8, by omega, by go_num, by rw [E1.out, List.length_append]; rfl, by show KidsO _ _ _ _; rw [E1.out, List.length_append]; exact O8.out, B8⟩
            case measure => simp [intOf]; omega
          | false =>
            rw [g2] at OBq HFq
            have E1 := hide (FN.out OBq)
            clear FN FY OBq lb g2 OZ RAW WZ
            go_wp2_with fail
            refine HFq.out.mono ?_
            rintro e u ⟨rfl, hu⟩
            obtain rfl : wr = u := hu.symm
            go_wp2_with fail
            go_roundw
            case rel => exact ⟨k + 1, px, cx, by omega, by go_num, by rw [E1.out], by show KidsO _ _ _ _; rw [E1.out]; exact KX.out, BW⟩
            case measure => simp [intOf]; omega
      · obtain rfl : k = ord.length := by omega
        rw [List.take_length] at KX
        rw [EL.out] at KX
        rw [List.take_length, EL.out]
        have b2s := B2.out.size
        go_wp2_with fail
        go_ret
        exact ⟨px, cx, rfl, owns_mono KX.out b2s, BWW.out⟩

end Go.Proofs.Ytmobcijigiacoaa
