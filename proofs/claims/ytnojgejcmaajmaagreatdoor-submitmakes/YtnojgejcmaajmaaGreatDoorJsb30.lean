/- The program's Form, Elements, Default, Control, Disabled of layer 16. What a range over the program's iterator of layer 15 keeps. The program's iterator of layer 15. The example of layer 15's statements, and how long the states are that its functions answer. The program's find, has, isMultiple, digits, rows, isA of layer 15. The program's isOff, selectOf, Right, Off, Size of layer 15. The program's slices.AppendSeq, slices.Collect over its iterator, List of layer 15. The program's first, selectOnly of layer 15. The program's fix of layer 15. The program's copied of layer 14. The program's changed, Fix of layer 15. The program's Text of layer 10. The program's value, Text of layer 15. The program's Value of layer 15. -/
import Derived.Test.YtnojgejcmaajmaaGreatDoorJsb5
import Derived.Test.YtnojgejcmaajmaaGreatDoorJsb21

namespace Go.Proofs.YtnojgejcmaajmaaGreatDoor
open Go.RowKit
set_option maxRecDepth 100000
theorem hasN_of {l : List Nd} {m : Nat} (h : m < l.length) (hr : rightB l = true) : hasN l (m : Int) = true := by unfold hasN; rw [decide_eq_true ⟨by omega, by omega⟩, hr]; rfl
end Go.Proofs.YtnojgejcmaajmaaGreatDoor

namespace Go.Proofs.YtnojgejcmaajmaaGreatDoor
open Go.RowKit Go.Shelf
set_option maxRecDepth 100000
attribute [local go_sem] Oper.semAt_some
/-- What a round keeps: what lay below a bound, and some blocks besides. -/
def KpB (n : Nat) (bs : List Nat) (W W' : World) : Prop := Below n W W' ∧ ∀ b ∈ bs, W'.heap[b]? = W.heap[b]?
theorem kpB_t {n : Nat} {bs : List Nat} {A B C : World} (h : KpB n bs A B) (k : KpB n bs B C) : KpB n bs A C := ⟨h.1.trans k.1, fun b hb => (k.2 b hb).trans (h.2 b hb)⟩
theorem kpB_b {n : Nat} {bs : List Nat} {w : World} (hn : n ≤ w.heap.size) (hb : ∀ b ∈ bs, b < w.heap.size) (W : World) (l : Nat) (o o' : Obj) (hl : w.heap.size ≤ l) (h : W.heap[l]? = some o) (h1 : o.isCells = false) (h2 : o.isWalk = false) : KpB n bs W (W.putObj l o') :=
  ⟨belowK_b hn W l o o' hl h h1 h2, fun b q => World.putObj_heap_other (by have := hb b q; omega)⟩
set_option maxHeartbeats 4000000 in
theorem options_any (p : Option Addr) (n c : Nat) (sel : Int) (w : World) :
    Calls Tryz.prog 191 #[.slice p n c, .int .i64 sel] w fun e w' => e = .returned (.func (.func 228) #[] #[.pointer (some ⟨w.heap.size, 0, none⟩), .pointer (some ⟨w.heap.size + 1, 0, none⟩)]) ∧ w' = (w.alloc (.cells #[.slice p n c] 22)).alloc (.cells #[.int .i64 sel] 3) := by
  go_enter Tryz.func191, Tryz.ntmps191
  go_wp2_with fail
  go_ret
  exact ⟨by simp, rfl⟩
/-- One of a select's options. -/
abbrev OptA (l : List Nd) (sel : Int) : Type := { x : Int // x ∈ optsP l sel }
def vals {l : List Nd} {sel : Int} (xs : List (OptA l sel)) : List Int := xs.map (·.1)
/-- The iterator's contract, at every world behind. -/
def Iter (l : List Nd) (sel : Int) (p : Option Addr) (c : Nat) (w : World) : Prop := ∀ (W : World) (Bl Bs : Nat), Below w.heap.size w W → Boxed W Bl 22 (.slice p l.length c) → Boxed W Bs 3 (.int .i64 sel) →
  SeqStopsK Fence.wide 2 Tryz.prog 228 #[.pointer (some ⟨Bl, 0, none⟩), .pointer (some ⟨Bs, 0, none⟩)] (fun x : OptA l sel => #[Value.int .i64 x.1]) (KpB w.heap.size [Bl, Bs]) (fun ys => vals ys = optsP l sel) (fun pre => vals pre <+: optsP l sel) (optsP l sel).length W
end Go.Proofs.YtnojgejcmaajmaaGreatDoor

namespace Go.Proofs.YtnojgejcmaajmaaGreatDoor
open Go.RowKit Go.Shelf
set_option maxRecDepth 100000
attribute [local go_sem] Oper.semAt_some
theorem flat_split {f : Int → List Int} {xs : List Int} {k : Nat} (h : k < xs.length) : xs.flatMap f = (xs.take k).flatMap f ++ (f xs[k] ++ (xs.drop (k + 1)).flatMap f) := by
  conv => lhs; rw [← List.take_append_drop k xs, List.drop_eq_getElem_cons h]
  rw [List.flatMap_append, List.flatMap_cons]
theorem flat_take {f : Int → List Int} {xs : List Int} {k : Nat} (h : k < xs.length) : (xs.take (k + 1)).flatMap f = (xs.take k).flatMap f ++ f xs[k] := by
  rw [List.take_succ_eq_append_getElem h, List.flatMap_append]
  simp
theorem flat_pre {f : Int → List Int} {xs : List Int} {k : Nat} (h : k < xs.length) {q : List Int} (hq : q <+: f xs[k]) : (xs.take k).flatMap f ++ q <+: xs.flatMap f := by
  obtain ⟨r, hr⟩ := hq
  rw [flat_split h, ← hr, List.append_assoc]
  exact ⟨r ++ (xs.drop (k + 1)).flatMap f, by simp⟩
theorem filter_take {p : Int → Bool} {xs : List Int} {j : Nat} (h : j < xs.length) : (xs.take (j + 1)).filter p = (xs.take j).filter p ++ (if p xs[j] = true then [xs[j]] else []) := by
  rw [List.take_succ_eq_append_getElem h, List.filter_append, List.filter_cons]
  rfl
theorem filter_pre (p : Int → Bool) (xs : List Int) (j : Nat) : (xs.take j).filter p <+: xs.filter p := by
  conv => rhs; rw [← List.take_append_drop j xs]
  rw [List.filter_append]
  exact List.prefix_append _ _
theorem vals_app {l : List Nd} {sel : Int} (xs : List (OptA l sel)) (x : OptA l sel) : vals (xs ++ [x]) = vals xs ++ [x.1] := by unfold vals; rw [List.map_append]; rfl
theorem abide {β : Type} {B : Nat} {J : List β → World → Prop} (h : AbidesFrom B J) {s : List β} {W W' : World} (hj : J s W) (b : Below W.heap.size W W') : J s W' :=
  h s W W' none hj ⟨b.os, b.tape, b.output, b.size, fun k hk _ => b.block k hk⟩ (fun r e => by cases e)
theorem kp_step {n : Nat} {bs : List Nat} {W W' W'' : World} (h : KpB n bs W W') (hb : ∀ b ∈ bs, b < W'.heap.size) (hn : n ≤ W'.heap.size) (b : Below W'.heap.size W' W'') : KpB n bs W W'' :=
  ⟨h.1.trans (b.mono hn), fun k hk => (b.block k (hb k hk)).trans (h.2 k hk)⟩
theorem kp_box {n : Nat} {bs : List Nat} {W W' : World} (h : KpB n bs W W') {B : Nat} (hB : B ∈ bs) {t : TypeId} {v : Value} (hb : Boxed W B t v) : Boxed W' B t v := (h.2 B hB).trans hb
set_option maxHeartbeats 8000000 in
theorem optIter_any (l : List Nd) (sel : Int) (p : Option Addr) (c : Nat) (w : World) (hv : NodesV w (.slice p l.length c) l) (hL : Linked l) (hs : inR l sel) (hT : KTabs w) (hz : ∀ n ∈ l, n.attrs.length ≤ 4398046511104 ∧ n.kids.length ≤ 400 ∧ ∀ a ∈ n.attrs, a.2.size ≤ 140737488351232) : Iter l sel p c w := by
  intro W Bl Bs hB bL bS y J Jx W1 hW1 hJ hJx hY h0
  obtain ⟨m, rfl, hm⟩ : ∃ m : Nat, sel = (m : Int) ∧ m < l.length := ⟨sel.toNat, by have := hs.1; omega, by have := hs.1; have := hs.2; omega⟩
  obtain ⟨b, o, rfl, hn⟩ : ∃ b o, p = some ⟨b, o, none⟩ ∧ ∀ i (h : i < l.length), ∃ va vk, NodeAt w b (o + i * 5) l[i] va vk := by
    obtain ⟨p', c', e, h⟩ := hv
    cases e
    rcases h with h | h
    · rw [h] at hm; cases hm
    · exact h
  have BW1 := hide (chain hB hW1)
  have bL1 := hide (show Boxed W1 Bl _ _ from (hW1.block _ bL.lt).trans bL)
  have bS1 := hide (show Boxed W1 Bs _ _ from (hW1.block _ bS.lt).trans bS)
  have OFK : Hid (∀ (i : Nat) (hi : i < l.length) (va vk : Value), NodeAt w b (o + i * 5) l[i] va vk → ∀ V, Below w.heap.size w V → CallsIn Fence.wide 1 Tryz.prog 23 #[.agg #[.string l[i].name, .string l[i].text, va, .int .i64 l[i].parent, vk]] V fun e w' => e = .returned (.int .i64 (kOf l[i].name (tyOf l[i].attrs))) ∧ Below V.heap.size V w') := fun i hi va vk N V hb =>
    callsIn_wide.2 (of_any l[i] va vk V (hT.below hb) (N.at_.below hb) (hz _ (List.getElem_mem hi)).1 (hz _ (List.getElem_mem hi)).2.2)
  have HN := hide hn
  have HJ := hide hJ
  have HY := hide hY
  have HL := hide hL
  have lB : Bl < W1.heap.size := bL1.out.lt
  have lS : Bs < W1.heap.size := bS1.out.lt
  have lw : w.heap.size ≤ W1.heap.size := BW1.out.size
  obtain ⟨va, vk, N0⟩ := hn m hm
  have kl := (hz _ (List.getElem_mem hm)).2.1
  have KZ : Hid (∀ i (hi : i < l.length), l[i].kids.length ≤ 400) := fun i hi => (hz _ (List.getElem_mem hi)).2.1
  have N1 := hide (N0.below BW1.out)
  obtain ⟨pk, ck, rfl, hkc⟩ := N0.ks
  have HKC := hide hkc
  have ek : kidsI l (m : Int) = l[m].kids := by unfold kidsI; rw [Int.toNat_natCast, nd_at hm]
  have eo : optsP l (m : Int) = l[m].kids.flatMap (optsC l) := by unfold optsP; rw [ek]
  have EO := hide eo
  have RNG : Hid (∀ i (h : i < l[m].kids.length), inR l l[m].kids[i]) := fun i h => (hL.kidI hs (c := l[m].kids[i]) (by rw [ek]; exact List.getElem_mem h)).1
  have x1 := bL1.out.cell
  have x2 := bS1.out.cell
  have x3 := N1.out.kids
  have m0 : (0 : Int) ≤ (m : Int) := by omega
  have m1 : (m : Int) < (l.length : Int) := by omega
  clear hn hJ hJx hY hL hz hv hT hs N0 hkc N1 eo
  generalize hKS : l[m].kids = KS at *
  refine callsIn_of_wp Tryz.func228 rfl trivial ?_ rfl
  simp only [Tryz.ntmps228, List.size_toArray, List.length_cons, List.length_nil, Nat.reduceAdd, Nat.reduceSub, Array.replicate_succ, Array.replicate_zero, List.push_toArray, List.append_toArray, List.nil_append, List.cons_append]
  gi_wp2
  gi_loopw [14] (fun iv wr => ∃ k : Nat, k ≤ KS.length ∧ iv = .int .i64 k ∧ (∃ pre, Hid (vals pre = (KS.take k).flatMap (optsC l)) ∧ Hid (J pre wr)) ∧ Hid (KpB w.heap.size [Bl, Bs] W1 wr)) (fun iv _ => KS.length - (intOf iv).toNat)
  case atStart => exact ⟨0, Nat.zero_le _, rfl, ⟨[], by show vals _ = _; rw [List.take_zero]; rfl, h0⟩, Below.refl _ _, fun _ _ => rfl⟩
  case round =>
    obtain ⟨k, hk, rfl, ⟨pre, hpre, hJs⟩, hKp⟩ := hrel
    by_cases hlt : k < KS.length
    · have k1 : (k : Int) < (KS.length : Int) := by omega
      have k0 : (0 : Int) ≤ (k : Int) := by omega
      obtain ⟨q, eq, hq⟩ : ∃ q : Nat, KS[k] = (q : Int) ∧ q < l.length := by
        have r := RNG.out k hlt
        have r0 := r.1
        have r1 := r.2
        exact ⟨KS[k].toNat, by omega, by omega⟩
      have BWr := hide (BW1.out.trans (hKp.out.1.mono (Nat.le_refl _)))
      have szr : W1.heap.size ≤ wr.heap.size := hKp.out.1.size
      have bLr := hide (kp_box hKp.out (by simp) bL1.out)
      have y1 := bLr.out.cell
      obtain ⟨kb, ko, rfl, hkc⟩ : ∃ kb ko, pk = some ⟨kb, ko, none⟩ ∧ ∀ i (h : i < KS.length), w.cell? ⟨kb, ko + i, none⟩ = some (.int .i64 KS[i]) := by
        rcases HKC.out with t | t
        · rw [t] at hlt; simp at hlt
        · exact t
      have y2 := cell_below (hkc k hlt) BWr.out
      rw [eq] at y2
      obtain ⟨va', vk', N⟩ := HN.out q hq
      have HO := hide (OFK.out q hq va' vk' N)
      have NN := hide N
      obtain ⟨pa', ca', rfl, _⟩ := N.at_
      obtain ⟨pk', ck', rfl, hkc'⟩ := N.ks
      have HKC' := hide hkc'
      have Nr := hide (N.below BWr.out)
      have z0 := Nr.out.name
      have z1 := Nr.out.text
      have z2 := Nr.out.attrs
      have z3 := Nr.out.parent
      have z4 := Nr.out.kids
      have q0 : (0 : Int) ≤ (q : Int) := by omega
      have q1 : (q : Int) < (l.length : Int) := by omega
      have enm : nmI l (q : Int) = l[q].name := by unfold nmI; rw [Int.toNat_natCast, nd_at hq]
      have ekq : kidsI l (q : Int) = l[q].kids := by unfold kidsI; rw [Int.toNat_natCast, nd_at hq]
      have K32 : Hid (kOf l[q].name (tyOf l[q].attrs) = 32 ↔ nmI l (q : Int) = oOpt) := by rw [enm]; exact kOf_opt
      have K33 : Hid (kOf l[q].name (tyOf l[q].attrs) = 33 ↔ nmI l (q : Int) = oGrp) := by rw [enm]; exact kOf_grp
      have gz := KZ.out q hq
      clear N hkc hkc' HKC enm
      generalize kOf l[q].name (tyOf l[q].attrs) = kq at *
      gi_wp2
      refine ⟨trivial, ?_⟩
      refine (HO.out _ BWr.out).mono ?_
      rintro e w4 ⟨rfl, b4⟩
      have J4 := hide (abide HJ.out hJs.out b4)
      have K4 := hide (kp_step hKp.out (by intro b q; simp at q; omega) (by omega) b4)
      have BW4 := hide (BW1.out.trans (K4.out.1.mono (Nat.le_refl _)))
      have sz4 : W1.heap.size ≤ w4.heap.size := K4.out.1.size
      have bL4 := hide (kp_box K4.out (by simp) bL1.out)
      clear y1 y2 z0 z1 z2 z3 z4 Nr b4 hJs hKp HO bLr
      by_cases c32 : kq = 32
      · have eC : optsC l (q : Int) = [(q : Int)] := by unfold optsC; rw [if_pos (K32.out.1 c32)]
        subst c32
        obtain ⟨xq, hxq⟩ : ∃ x : OptA l (m : Int), x.1 = (q : Int) := ⟨⟨(q : Int), by rw [EO.out, flat_split hlt, eq, eC]; simp⟩, rfl⟩
        obtain ⟨fn, tmps, assign, body, hy, hRd⟩ := HY.out pre xq w4 J4.out (by rw [EO.out, show pre.length = (vals pre).length by unfold vals; rw [List.length_map], hpre.out, flat_split hlt, eq, eC, List.length_append, List.length_append]; simp; omega)
        rw [hxq] at hy
        gi_wp2
        refine hRd.mono ?_
        rintro e w5 (⟨rfl, J5, K5⟩ | ⟨rfl, Jx5⟩)
        · gi_wp2
          go_roundw
          case rel => exact ⟨k + 1, by omega, by go_num, ⟨_, by show vals _ = _; rw [vals_app, hxq, hpre.out, flat_take hlt, eq, eC], J5⟩, kpB_t K4.out K5⟩
          case measure => simp [intOf]; omega
        · gi_wp2
          refine bodyPost_ret (results_none rfl _ _ _) rfl ?_
          exact ⟨⟨_, rfl⟩, .inr ⟨_, by rw [vals_app, hxq, hpre.out, EO.out]; exact flat_pre hlt (by rw [eq, eC]; exact List.prefix_refl _), Jx5⟩⟩
      · have n32 : (kq == 32) = false := beq_eq_false_iff_ne.2 c32
        have no : ¬ nmI l (q : Int) = oOpt := fun r => c32 (K32.out.2 r)
        by_cases c33 : kq = 33
        · have eC : optsC l (q : Int) = l[q].kids.filter (fun d => decide (nmI l d = oOpt)) := by unfold optsC; rw [if_neg no, if_pos (K33.out.1 c33), ekq]
          subst c33
          have RNG' : Hid (∀ i (h : i < l[q].kids.length), inR l l[q].kids[i]) := fun i h => (HL.out.kidI ⟨q0, q1⟩ (c := l[q].kids[i]) (by rw [ekq]; exact List.getElem_mem h)).1
          have N4 := hide (NN.out.below BW4.out)
          have y1 := bL4.out.cell
          have z4 := N4.out.kids
          have PRE : Hid (∀ j x, j < l[q].kids.length → decide (nmI l x = oOpt) = true → ∀ h : j < l[q].kids.length, l[q].kids[j] = x → ((KS.take k).flatMap (optsC l) ++ (l[q].kids.take j).filter (fun d => decide (nmI l d = oOpt))).length < (KS.flatMap (optsC l)).length) := fun j x hj hx h e => by
            have pr := filter_pre (fun d => decide (nmI l d = oOpt)) l[q].kids (j + 1)
            rw [filter_take h, e, if_pos hx] at pr
            have := (flat_pre (f := optsC l) hlt (q := (l[q].kids.take j).filter (fun d => decide (nmI l d = oOpt)) ++ [x]) (by rw [eq, eC]; exact pr)).length_le
            simp at this ⊢
            omega
          have MEM : Hid (∀ j x, ∀ h : j < l[q].kids.length, decide (nmI l x = oOpt) = true → l[q].kids[j] = x → x ∈ KS.flatMap (optsC l)) := fun j x h hx e => by
            rw [flat_split hlt, eq, eC]
            exact List.mem_append_right _ (List.mem_append_left _ (List.mem_filter.2 ⟨by rw [← e]; exact List.getElem_mem h, hx⟩))
          clear ekq K32 K33 no n32 NN
          generalize hGK : l[q].kids = GK at *
          gi_wp2
          gi_loopw [37] (fun iv wq => ∃ j : Nat, j ≤ GK.length ∧ iv = .int .i64 j ∧ (∃ pre, Hid (vals pre = (KS.take k).flatMap (optsC l) ++ (GK.take j).filter (fun d => decide (nmI l d = oOpt))) ∧ Hid (J pre wq)) ∧ Hid (KpB w.heap.size [Bl, Bs] W1 wq)) (fun iv _ => GK.length - (intOf iv).toNat)
          case atStart => exact ⟨0, Nat.zero_le _, rfl, ⟨pre, by show vals _ = _; rw [List.take_zero, List.filter_nil, List.append_nil]; exact hpre.out, J4⟩, K4⟩
          case round =>
            obtain ⟨j, hj, rfl, ⟨pr2, hpr2, hJq⟩, hKq⟩ := hrel
            by_cases hjt : j < GK.length
            · have j1 : (j : Int) < (GK.length : Int) := by omega
              have j0 : (0 : Int) ≤ (j : Int) := by omega
              obtain ⟨r, er, hr⟩ : ∃ r : Nat, GK[j] = (r : Int) ∧ r < l.length := by
                have t := RNG'.out j hjt
                have t0 := t.1
                have t1 := t.2
                exact ⟨GK[j].toNat, by omega, by omega⟩
              have BWq := hide (BW1.out.trans (hKq.out.1.mono (Nat.le_refl _)))
              have szq : W1.heap.size ≤ wr.heap.size := hKq.out.1.size
              have bLq := hide (kp_box hKq.out (by simp) bL1.out)
              have u1 := bLq.out.cell
              obtain ⟨gb, go, rfl, hgc⟩ : ∃ gb go, pk' = some ⟨gb, go, none⟩ ∧ ∀ i (h : i < GK.length), w.cell? ⟨gb, go + i, none⟩ = some (.int .i64 GK[i]) := by
                rcases HKC'.out with t | t
                · rw [t] at hjt; simp at hjt
                · exact t
              have u2 := cell_below (hgc j hjt) BWq.out
              rw [er] at u2
              obtain ⟨vb, vc, M⟩ := HN.out r hr
              have HO := hide (OFK.out r hr vb vc M)
              obtain ⟨pb, cb, rfl, _⟩ := M.at_
              obtain ⟨pc', cc', rfl, _⟩ := M.ks
              have Mr := hide (M.below BWq.out)
              have t0 := Mr.out.name
              have t1 := Mr.out.text
              have t2 := Mr.out.attrs
              have t3 := Mr.out.parent
              have t4 := Mr.out.kids
              have r0 : (0 : Int) ≤ (r : Int) := by omega
              have r1 : (r : Int) < (l.length : Int) := by omega
              have emr : nmI l (r : Int) = l[r].name := by unfold nmI; rw [Int.toNat_natCast, nd_at hr]
              have R32 : Hid (kOf l[r].name (tyOf l[r].attrs) = 32 ↔ nmI l (r : Int) = oOpt) := by rw [emr]; exact kOf_opt
              clear M hgc HKC' emr
              generalize kOf l[r].name (tyOf l[r].attrs) = kr at *
              gi_wp2
              refine ⟨trivial, ?_⟩
              refine (HO.out _ BWq.out).mono ?_
              rintro e w6 ⟨rfl, b6⟩
              have J6 := hide (abide HJ.out hJq.out b6)
              have K6 := hide (kp_step hKq.out (by intro b q; simp at q; omega) (by omega) b6)
              clear u1 u2 t0 t1 t2 t3 t4 Mr b6 hJq hKq HO bLq
              by_cases d32 : kr = 32
              · have hx : decide (nmI l (r : Int) = oOpt) = true := decide_eq_true (R32.out.1 d32)
                subst d32
                obtain ⟨xr, hxr⟩ : ∃ x : OptA l (m : Int), x.1 = (r : Int) := ⟨⟨(r : Int), by rw [EO.out]; exact MEM.out j (r : Int) hjt hx er⟩, rfl⟩
                obtain ⟨fn, tmps, assign, body, hy, hRd⟩ := HY.out pr2 xr w6 J6.out (by rw [EO.out, show pr2.length = (vals pr2).length by unfold vals; rw [List.length_map], hpr2.out]; exact PRE.out j (r : Int) hjt hx hjt er)
                rw [hxr] at hy
                gi_wp2
                refine hRd.mono ?_
                rintro e w7 (⟨rfl, J7, K7⟩ | ⟨rfl, Jx7⟩)
                · gi_wp2
                  go_roundw
                  case rel => exact ⟨j + 1, by omega, by go_num, ⟨_, by show vals _ = _; rw [vals_app, hxr, hpr2.out, filter_take hjt, er, if_pos hx, ← List.append_assoc], J7⟩, kpB_t K6.out K7⟩
                  case measure => simp [intOf]; omega
                · gi_wp2
                  refine bodyPost_ret (results_none rfl _ _ _) rfl ?_
                  refine ⟨⟨_, rfl⟩, .inr ⟨_, ?_, Jx7⟩⟩
                  rw [vals_app, hxr, hpr2.out, EO.out, List.append_assoc]
                  refine flat_pre hlt ?_
                  rw [eq, eC]
                  have pr := filter_pre (fun d => decide (nmI l d = oOpt)) GK (j + 1)
                  rw [filter_take hjt, er, if_pos hx] at pr
                  exact pr
              · have s32 : (kr == 32) = false := beq_eq_false_iff_ne.2 d32
                have hx : ¬ decide (nmI l (r : Int) = oOpt) = true := fun t => d32 (R32.out.2 (of_decide_eq_true t))
                gi_wp2
                refine ⟨fun _ h => (by cases h), ?_⟩
                gi_wp2
                go_roundw
                case rel => exact ⟨j + 1, by omega, by go_num, ⟨pr2, by show vals _ = _; rw [filter_take hjt, er, if_neg hx, List.append_nil]; exact hpr2.out, J6⟩, K6⟩
                case measure => simp [intOf]; omega
            · obtain rfl : j = GK.length := by omega
              gi_wp2
              go_roundw
              case rel => exact ⟨k + 1, by omega, by go_num, ⟨pr2, by show vals _ = _; rw [flat_take hlt, eq, eC, hpr2.out, List.take_length], hJq⟩, hKq⟩
              case measure => simp [intOf]; omega
        · have n33 : (kq == 33) = false := beq_eq_false_iff_ne.2 c33
          have eC : optsC l (q : Int) = [] := by unfold optsC; rw [if_neg no, if_neg (fun r => c33 (K33.out.2 r))]
          gi_wp2
          go_roundw
          case rel => exact ⟨k + 1, by omega, by go_num, ⟨pre, by show vals _ = _; rw [flat_take hlt, eq, eC, List.append_nil]; exact hpre.out, J4⟩, K4⟩
          case measure => simp [intOf]; omega
    · obtain rfl : k = KS.length := by omega
      gi_wp2
      go_end0
      exact ⟨⟨_, rfl⟩, .inl ⟨pre, by rw [hpre.out, List.take_length, EO.out], hJs.out⟩⟩
end Go.Proofs.YtnojgejcmaajmaaGreatDoor

namespace Go.Proofs.YtnojgejcmaajmaaGreatDoor
open Go.RowKit
theorem Alike.refl (C : List Ct) : Alike C C := ⟨rfl, fun _ h => ⟨_, List.getElem_mem h, rfl, rfl, rfl⟩⟩
end Go.Proofs.YtnojgejcmaajmaaGreatDoor

namespace Go.Proofs.YtnojgejcmaajmaaGreatDoor
open Go.RowKit
set_option maxRecDepth 100000
theorem ret_fndO {a b : ByteArray} {c d : Bool} (h : a = b) (g : c = d) : Ending.returned (.tuple #[.string a, .bool c]) = .returned (.tuple #[.string b, .bool d]) := by rw [h, g]
set_option maxHeartbeats 4000000 in
theorem opFind1_any (s : ByteArray) (B : Nat) (x : ByteArray × ByteArray) (W : World) (hc : W.cell? ⟨B, 0, none⟩ = some (.string s)) :
    Calls Tryz.prog 247 #[.agg #[.string x.1, .string x.2], .pointer (some ⟨B, 0, none⟩)] W fun e w' => e = .returned (.bool (isN s x)) ∧ Below W.heap.size W w' := by
  have hB := World.block_lt_of_cell? _ _ hc
  have hne : B ≠ W.heap.size := by have : B < W.heap.size := hB; omega
  have E := hide (txt_beq x.1 s)
  unfold isN
  generalize x.1 = a at *
  generalize x.2 = b at *
  generalize hR : decide (a = s) = R at *
  clear hR
  go_enter Tryz.func247, Tryz.ntmps247
  go_wp2_with fail
  go_ret
  exact ⟨ret_bool E.out, (Below.refl _ W).alloc (Nat.le_refl _) _⟩
theorem entersOpFind : ∀ args w, (callFunc 247 args).run Tryz.prog w = .ok (.enter 247 args) w := Go.Proofs.enters_of Tryz.func247 (by kernel_rfl) rfl
set_option maxHeartbeats 4000000 in
theorem opFind_any (n : Nd) (va : Value) (pk : Option Addr) (nk ck : Nat) (s : ByteArray) (w : World) (hv : AttrsV w va n.attrs) (hl : n.attrs.length ≤ 4398046511104) :
    Calls Tryz.prog 229 #[.agg #[.string n.name, .string n.text, va, .int .i64 n.parent, .slice pk nk ck], .string s] w fun e w' => e = .returned (.tuple #[.string (fndS n.attrs s), .bool (hasA n s)]) ∧ Below w.heap.size w w' := by
  have B0 : Hid (Below w.heap.size w ((w.alloc (.cells #[.string n.name, .string n.text, va, .int .i64 n.parent, .slice pk nk ck] 57)).alloc (.cells #[.string s] 9))) := ((Below.refl _ w).alloc (Nat.le_refl _) _).alloc (by simp) _
  have PR : PredA 247 #[.pointer (some ⟨w.heap.size + 1, 0, none⟩)] (isN s) ((w.alloc (.cells #[.string n.name, .string n.text, va, .int .i64 n.parent, .slice pk nk ck] 57)).alloc (.cells #[.string s] 9)) := fun W x hb =>
    opFind1_any s (w.heap.size + 1) x W ((hb.cell (by simp)).trans (by simp))
  have HC := hide (indexFuncA_any va n.attrs (isN s) 247 #[.pointer (some ⟨w.heap.size + 1, 0, none⟩)] entersOpFind ((w.alloc (.cells #[.string n.name, .string n.text, va, .int .i64 n.parent, .slice pk nk ck] 57)).alloc (.cells #[.string s] 9)) (hv.below B0.out) PR hl)
  have HIT := hide (fun k hk (h : n.attrs.findIdx? (isN s) = some k) => fnd_hit (ax := n.attrs) (n := s) (k := k) hk h)
  have MISS := hide (fun (h : n.attrs.findIdx? (isN s) = none) => fnd_miss (ax := n.attrs) (n := s) h)
  clear PR
  unfold hasA
  obtain ⟨p, c, rfl, hk⟩ := hv
  generalize fndS n.attrs s = R1 at *
  generalize (findA n.attrs s).isSome = R2 at *
  generalize n.name = n0 at *
  generalize n.text = n1 at *
  generalize n.parent = n3 at *
  generalize n.attrs = ax at *
  cases h : ax.findIdx? (isN s) with
  | none =>
    have E := hide (MISS.out h)
    rw [h, show findV none = -1 from rfl] at HC
    clear hk HIT MISS h
    go_enter Tryz.func229, Tryz.ntmps229
    go_wp2_with fail
    refine HC.out.mono ?_
    rintro e w1 ⟨rfl, b1⟩
    go_wp2_with fail
    go_ret2
    exact ⟨ret_fndO E.out.1.symm E.out.2.symm, chain B0.out b1⟩
  | some i =>
    obtain ⟨hi, _, _⟩ := List.findIdx?_eq_some_iff_getElem.1 h
    have E := hide (HIT.out i hi h)
    rw [h, show findV (some i) = (i : Int) from rfl] at HC
    have i0 : (0 : Int) ≤ (i : Int) := by omega
    have i1 : (i : Int) < (ax.length : Int) := by omega
    have i2 : ¬ (i : Int) < 0 := by omega
    obtain ⟨b, o, rfl, hc⟩ : ∃ b o, p = some ⟨b, o, none⟩ ∧ ∀ i (h : i < ax.length), w.cell? ⟨b, o + i * 2, none⟩ = some (.string ax[i].1) ∧ w.cell? ⟨b, o + i * 2 + 1, none⟩ = some (.string ax[i].2) := by
      rcases hk with t | t
      · rw [t] at hi; simp at hi
      · exact t
    have c1 := hide (hc i hi).2
    have CN := hide (show ((w.alloc (.cells #[.string n0, .string n1, .slice (some ⟨b, o, none⟩) ax.length c, .int .i64 n3, .slice pk nk ck] 57)).alloc (.cells #[.string s] 9)).cell? ⟨w.heap.size, 2, none⟩ = some (.slice (some ⟨b, o, none⟩) ax.length c) by simp)
    clear hc HIT MISS h
    generalize ax[i].2 = t at *
    go_enter Tryz.func229, Tryz.ntmps229
    go_wp2_with fail
    refine HC.out.mono ?_
    rintro e w1 ⟨rfl, b1⟩
    have y1 := cell_below (cell_below c1.out B0.out) b1
    have y2 := cell_below CN.out b1
    go_wp2_with fail
    go_ret2
    exact ⟨ret_fndO E.out.1.symm E.out.2.symm, chain B0.out b1⟩
/-- Is there a node of that number, and of that kind? -/
def isAB (l : List Nd) (id k : Int) : Bool := decide (0 ≤ id ∧ id < (l.length : Int)) && decide (kN (nd l id.toNat) = k)
theorem isA_out {l : List Nd} {id k : Int} (h : ¬ (0 ≤ id ∧ id < (l.length : Int))) : isAB l id k = false := by unfold isAB; rw [decide_eq_false h]; rfl
theorem isA_at {l : List Nd} {m : Nat} {k : Int} (h : m < l.length) : isAB l (m : Int) k = decide (kN l[m] = k) := by
  unfold isAB; rw [decide_eq_true (by omega), Int.toNat_natCast, nd_at h, Bool.true_and]
theorem isA_K {l : List Nd} {id k : Int} : (isAB l id k && rightB l) = isK l id k := by
  unfold isAB isK hasN
  cases decide (0 ≤ id ∧ id < (l.length : Int)) <;> cases rightB l <;> cases decide (kN (nd l id.toNat) = k) <;> rfl
set_option maxHeartbeats 4000000 in
theorem opIsA_any (v : Value) (l : List Nd) (id k : Int) (w : World) (hv : NodesV w v l) (hz : DocSz l) (hT : KTabs w) :
    Calls Tryz.prog 190 #[v, .int .i64 id, .int .i64 k] w fun e w' => e = .returned (.bool (isAB l id k)) ∧ Below w.heap.size w w' := by
  obtain ⟨p, c, rfl, hv⟩ := hv
  by_cases h0 : 0 ≤ id
  · by_cases h1 : id < (l.length : Int)
    · obtain ⟨m, rfl⟩ : ∃ m : Nat, id = (m : Int) := ⟨id.toNat, by omega⟩
      have hm : m < l.length := by omega
      rcases hv with hv | ⟨b, o, rfl, hv⟩
      · rw [hv] at hm; simp at hm
      obtain ⟨va, vk, N⟩ := hv m hm
      have nz := hz.nds _ (List.getElem_mem hm)
      have HO := hide (of_any l[m] va vk w hT N.at_ nz.attrs nz.tx)
      have E : Hid (isAB l (m : Int) k = (kOf l[m].name (tyOf l[m].attrs) == k)) := by
        show _ = _
        rw [isA_at hm]
        unfold kN
        cases q : (kOf l[m].name (tyOf l[m].attrs) == k) with
        | true => exact decide_eq_true (by simpa using q)
        | false => exact decide_eq_false (by simpa using q)
      obtain ⟨pa, ca, rfl, hxx⟩ := N.at_
      clear hxx
      obtain ⟨pk, ck, rfl, hxx⟩ := N.ks
      clear hxx
      have c0 := N.name
      have c1 := N.text
      have c2 := N.attrs
      have c3 := N.parent
      have c4 := N.kids
      clear N hv hz hT nz
      generalize kOf l[m].name (tyOf l[m].attrs) = kk at *
      generalize l[m].name = n0 at *
      generalize l[m].text = n1 at *
      generalize l[m].parent = n3 at *
      generalize l[m].attrs.length = n5 at *
      generalize l[m].kids.length = n6 at *
      go_enter Tryz.func190, Tryz.ntmps190
      go_wp2_with fail
      refine HO.out.mono ?_
      rintro e w1 ⟨rfl, b1⟩
      go_wp2_with fail
      go_ret
      exact ⟨ret_bool E.out.symm, b1⟩
    · have E := hide (isA_out (l := l) (id := id) (k := k) (fun t => h1 t.2))
      have d1 : decide (id < (l.length : Int)) = false := decide_eq_false h1
      clear hv hz hT
      go_enter Tryz.func190, Tryz.ntmps190
      go_wp2_with fail
      go_ret
      exact ⟨ret_bool E.out.symm, Below.refl _ _⟩
  · have E := hide (isA_out (l := l) (id := id) (k := k) (fun t => h0 t.1))
    have d0 : decide (0 ≤ id) = false := decide_eq_false h0
    clear hv hz hT
    go_enter Tryz.func190, Tryz.ntmps190
    go_wp2_with fail
    go_ret
    exact ⟨ret_bool E.out.symm, Below.refl _ _⟩
end Go.Proofs.YtnojgejcmaajmaaGreatDoor

namespace Go.Proofs.YtnojgejcmaajmaaGreatDoor
open Go.RowKit
set_option maxRecDepth 100000
/-- A node that lies in the world, told by its number. -/
theorem node_of {w : World} {p : Option Addr} {c : Nat} {l : List Nd} (hv : NodesV w (.slice p l.length c) l) {m : Nat} (hm : m < l.length) : ∃ b o va pk nk ck, p = some ⟨b, o, none⟩ ∧ NodeAt w b (o + m * 5) l[m] va (.slice pk nk ck) := by
  obtain ⟨p', c', e, h⟩ := hv
  cases e
  rcases h with h | ⟨b, o, rfl, h⟩
  · rw [h] at hm; cases hm
  · obtain ⟨va, vk, N⟩ := h m hm
    obtain ⟨pk, ck, rfl, hxx⟩ := N.ks
    clear hxx
    exact ⟨b, o, va, pk, _, ck, rfl, N⟩
theorem rd_eq {l : List Nd} {C : List Ct} : rightD l C = (((C.length : Int) == (l.length : Int)) && rightB l) := by
  unfold rightD
  rw [Bool.and_comm]
  congr 1
  rw [Bool.eq_iff_iff, decide_eq_true_iff, beq_iff_eq]
  omega
theorem nds_formG {w : World} {v : Value} {l : List Nd} (h : NodesV w v l) : ∃ p c, v = .slice p l.length c := by
  obtain ⟨p, c, e, _⟩ := h
  exact ⟨p, c, e⟩
theorem cts_formG {w : World} {v : Value} {C : List Ct} (h : CtsV w v C) : ∃ p c, v = .slice p C.length c := by
  obtain ⟨_, _, p, c, e, _⟩ := h
  exact ⟨p, c, e⟩
set_option maxHeartbeats 4000000 in
theorem opRightG_any (nv cv : Value) (l : List Nd) (C : List Ct) (w : World) (hD : DocV w nv cv l C) (hz : DocSz l) :
    Calls Tryz.prog 22 #[.agg #[nv, cv]] w fun e w' => e = .returned (.bool (rightD l C)) ∧ Below w.heap.size w w' := by
  have B0 : Hid (Below w.heap.size w (w.alloc (.cells #[nv, cv] 25))) := (Below.refl _ w).alloc (Nat.le_refl _) _
  have HR := hide (right_any nv l (w.alloc (.cells #[nv, cv] 25)) (hD.nds.below B0.out) hz)
  obtain ⟨p, c, rfl⟩ := nds_formG hD.nds
  obtain ⟨pc, cc, rfl⟩ := cts_formG hD.cts
  have EQ := hide (rd_eq (l := l) (C := C))
  clear hD hz
  generalize rightD l C = R at *
  generalize rightB l = rb at *
  cases q : ((C.length : Int) == (l.length : Int)) with
  | true =>
    have q' : (C.length : Int) = (l.length : Int) := by simpa using q
    rw [q] at EQ
    go_enter Tryz.func22, Tryz.ntmps22
    go_wp2_with fail
    refine HR.out.mono ?_
    rintro e w1 ⟨rfl, b1⟩
    go_wp2_with fail
    go_ret
    exact ⟨ret_bool (by rw [EQ.out]; rfl), chain B0.out b1⟩
  | false =>
    rw [q] at EQ
    clear HR
    go_enter Tryz.func22, Tryz.ntmps22
    go_wp2_with fail
    go_ret
    exact ⟨ret_bool (by rw [EQ.out]; rfl), B0.out⟩
end Go.Proofs.YtnojgejcmaajmaaGreatDoor

namespace Go.Proofs.YtnojgejcmaajmaaGreatDoor
open Go.RowKit Go.Shelf
set_option maxRecDepth 100000
attribute [local go_sem] Oper.semAt_some
/-- What the iterator asks of a right document. -/
theorem iter_of {w : World} {p : Option Addr} {c : Nat} {l : List Nd} {sel : Int} (hv : NodesV w (.slice p l.length c) l) (hz : DocSz l) (hT : KTabs w) (hR : Right l) (hs : inR l sel) : Iter l sel p c w :=
  optIter_any l sel p c w hv (right_linked hR) hs hT (fun n hn => by
    obtain ⟨i, hi, rfl⟩ := List.getElem_of_mem hn
    have k := kids_few hR hi
    rw [nd_at hi] at k
    have nz := hz.nds _ (List.getElem_mem hi)
    exact ⟨nz.attrs, by omega, nz.tx⟩)
end Go.Proofs.YtnojgejcmaajmaaGreatDoor

namespace Go.Proofs.YtnojgejcmaajmaaGreatDoor
open Go.RowKit Go.Shelf
set_option maxRecDepth 100000
attribute [local go_sem] Oper.semAt_some
theorem bk_own {β : Type} (B : Nat) (cs : List Value) (t : TypeId) : Own (fun (_ : β) W => Bk W B cs t) := fun _ X Y row hs hg hrow =>
  ⟨(hg.block B hs.lt (fun e' => by obtain ⟨o, ho, hc⟩ := hrow B e'.symm; rw [hs.lies] at ho; cases ho; cases hc)).trans hs.lies⟩
theorem find_hit' {f : Int → Bool} {xs : List Int} : ∀ {pre : List Int} {x : Int}, pre ++ [x] <+: xs → (∀ y ∈ pre, f y = false) → f x = true → xs.find? f = some x := by
  intro pre x h h1 h2
  obtain ⟨r, rfl⟩ := h
  rw [List.append_assoc, List.find?_append, List.find?_eq_none.2 (fun y hy => by rw [h1 y hy]; decide)]
  simp [h2]
end Go.Proofs.YtnojgejcmaajmaaGreatDoor

namespace Go.Proofs.YtnojgejcmaajmaaGreatDoor
open Go.RowKit Go.Shelf
set_option maxRecDepth 100000
attribute [local go_sem] Oper.semAt_some
theorem opts_opt {l : List Nd} {sel x : Int} (hk : isK l sel 23 = true) (hx : x ∈ optsP l sel) : ∃ m : Nat, x = (m : Int) ∧ m < l.length ∧ isK l x 32 = true := by
  have hr : rightB l = true := by
    unfold isK hasN at hk
    rw [Bool.and_eq_true, Bool.and_eq_true] at hk
    exact hk.1.2
  rw [← list_opts hk] at hx
  have e := list_in.2 x hx
  refine ⟨x.toNat, by omega, by omega, ?_⟩
  unfold listP at hx
  rw [if_pos hk] at hx
  have q := (List.mem_filter.1 hx).2
  unfold optB at q
  rw [Bool.and_eq_true, decide_eq_true_eq] at q
  unfold isK hasN kN
  rw [decide_eq_true e, hr, Bool.true_and, Bool.true_and]
  exact decide_eq_true (kOf_opt.2 q.1)
theorem isK_inO {l : List Nd} {sel k : Int} (h : isK l sel k = true) : inR l sel := by
  unfold isK hasN at h
  rw [Bool.and_eq_true, Bool.and_eq_true, decide_eq_true_eq] at h
  exact h.1.1
end Go.Proofs.YtnojgejcmaajmaaGreatDoor

namespace Go.Proofs.YtnojgejcmaajmaaGreatDoor
open Go.RowKit
set_option maxRecDepth 100000
theorem list_same : ∀ {l : List Value} {k : Nat} {u : Value}, l[k]? = some u → l.set k u = l
  | _ :: _, 0, _, h => by cases h; rfl
  | a :: l, k + 1, u, h => by show a :: l.set k u = _; rw [list_same (l := l) (k := k) h]
theorem Bk.same {w : World} {n : Nat} {cs : List Value} {t : TypeId} (h : Bk w n cs t) (k : Nat) {u : Value} (hu : cs[k]? = some u) : Bk (w.setCell ⟨n, k, none⟩ u) n cs t := by
  have := h.set k u
  rwa [list_same hu] at this
end Go.Proofs.YtnojgejcmaajmaaGreatDoor

namespace Go.Proofs.YtnojgejcmaajmaaGreatDoor
open Go.RowKit Go.Shelf
set_option maxRecDepth 100000
theorem rd_parts {l : List Nd} {C : List Ct} (h : rightD l C = true) : Right l ∧ C.length = l.length := by
  unfold rightD at h
  rw [Bool.and_eq_true, decide_eq_true_eq] at h
  exact ⟨right_is.1 h.1, by have := h.2; omega⟩
theorem isA_right {l : List Nd} {sel k : Int} (hR : Right l) : isAB l sel k = isK l sel k := by rw [← isA_K, right_is.2 hR, Bool.and_true]
end Go.Proofs.YtnojgejcmaajmaaGreatDoor

namespace Go.Proofs.YtnojgejcmaajmaaGreatDoor
open Go.RowKit
def textQ (l : List Nd) (id : Int) : ByteArray := if hasN l id = true then textP l id else ⟨#[]⟩
theorem txt_app (s : List UInt8) (t : ByteArray) : txt (s ++ t.data.toList) = txt s ++ t := by
  apply ByteArray.ext
  show (s ++ t.data.toList).toArray = _
  rw [ByteArray.data_append]
  show (s ++ t.data.toList).toArray = s.toArray ++ t.data
  simp
set_option maxHeartbeats 4000000 in
set_option maxRecDepth 100000 in
theorem text_any (v : Value) (l : List Nd) (id : Int) (w : World) (hv : NodesV w v l) (hz : DocSz l) :
    Calls Tryz.prog 231 #[v, .int .i64 id] w fun e w' => e = .returned (.string (textQ l id)) ∧ Below w.heap.size w w' := by
  have HH := hide (isThere_any v l id w hv hz)
  obtain ⟨p, c, rfl, hv⟩ := hv
  have HV := hide hv
  clear hv hz
  cases q : hasN l id with
  | false =>
    rw [q] at HH
    have E : Hid (textQ l id = ⟨#[]⟩) := by show _ = _; unfold textQ; rw [q]; rfl
    clear q
    go_enter Tryz.func231, Tryz.ntmps231
    go_wp2_with fail
    refine HH.out.mono ?_
    rintro e w1 ⟨rfl, b1⟩
    go_wp2_with fail
    go_ret
    exact ⟨by rw [E.out]; rfl, b1⟩
  | true =>
    rw [q] at HH
    obtain ⟨hR, hi⟩ := has_is q
    obtain ⟨m0, rfl⟩ : ∃ m : Nat, id = (m : Int) := ⟨id.toNat, by have := hi.1; omega⟩
    have h0 : m0 < l.length := by have := hi.2; omega
    have E : Hid (textQ l (m0 : Int) = textF l l[m0].text l[m0].kids) := by show _ = _; unfold textQ; rw [q]; show textP l (m0 : Int) = _; unfold textP; rw [Int.toNat_natCast, nd_at h0]
    have hlen := hR.len.2
    obtain ⟨b, o, rfl, hcell⟩ : ∃ b o, p = some ⟨b, o, none⟩ ∧ ∀ i (h : i < l.length), ∃ va vk, NodeAt w b (o + i * 5) l[i] va vk := by
      rcases HV.out with t | t
      · rw [t] at h0; simp at h0
      · exact t
    have HC := hide hcell
    obtain ⟨va, vk, N0⟩ := hcell m0 h0
    have ts := text_small hR h0
    have kf := kids_few hR h0
    have KD := hide (fun x hx => hR.kid m0 h0 x hx)
    have TS := hide (fun i hi => text_small hR (i := i) hi)
    rw [nd_at h0] at ts kf KD
    obtain ⟨pk, ck, rfl, hks⟩ := N0.ks
    have HK := hide hks
    have NW : Hid (∀ W, Below w.heap.size w W → NodeAt W b (o + m0 * 5) l[m0] va (.slice pk l[m0].kids.length ck)) := fun W hb => N0.below hb
    have i0 : (0 : Int) ≤ (m0 : Int) := by omega
    have i1 : (m0 : Int) < (l.length : Int) := by omega
    clear q hi hR hcell HV N0 hks
    go_enter Tryz.func231, Tryz.ntmps231
    go_wp2_with fail
    refine HH.out.mono ?_
    rintro e w1 ⟨rfl, b1⟩
    have a1 := (NW.out w1 b1).text
    have ln : b < w1.heap.size := World.block_lt_of_cell? _ _ a1
    have lne : b ≠ w1.heap.size := by omega
    have HB0 := hide (HoldsB.fresh w1)
    have B1 := hide b1
    clear HH b1
    go_wp2_with fail
    have W1 : w1.heap.size ≤ (w1.alloc (.cells #[.pointer none, .slice none 0 0] 94)).heap.size := by simp
    refine (writeString w1.heap.size w1.heap.size [] l[m0].text _ HB0.out (by rw [List.length_nil]; omega) W1).mono ?_
    rintro e w2 ⟨rfl, hb2, b2⟩
    have HB2 := hide hb2
    rw [List.nil_append] at HB2
    have B2a : Hid (Below w1.heap.size w1 w2) := ((Below.refl _ w1).alloc (Nat.le_refl _) _).trans b2
    have B2 : Hid (Below w.heap.size w w2) := chain B1.out B2a.out
    have a4 := (NW.out w2 B2.out).kids
    clear hb2 b2 HB0 W1 a1 ln lne
    go_wp2_with fail
    go_loopw [24] (fun iv wr => ∃ (j : Nat) (s : List UInt8), j ≤ l[m0].kids.length ∧ iv = .int .i64 j ∧ s.length ≤ 4000 + 4000 * j ∧ Hid (HoldsB w1.heap.size w1.heap.size s wr) ∧ Hid (textF l (txt s) (l[m0].kids.drop j) = textQ l (m0 : Int)) ∧ Hid (Below w1.heap.size w1 wr)) (fun iv _ => l[m0].kids.length - (intOf iv).toNat)
    case atStart => exact ⟨0, l[m0].text.data.toList, Nat.zero_le _, rfl, by simpa using ts, HB2, by show _ = _; rw [List.drop_zero, txt_toList]; exact E.out.symm, B2a⟩
    case round =>
      rename World => wr
      obtain ⟨j, s, hj, rfl, hs, HBr, hc, BW⟩ := hrel
      clear HB2 B2a B2 a4
      have Bw := hide (chain B1.out BW.out)
      by_cases h : j < l[m0].kids.length
      · have j1 : (j : Int) < (l[m0].kids.length : Int) := by omega
        have j0 : (0 : Int) ≤ (j : Int) := by omega
        obtain ⟨bk, ok, rfl, hk⟩ : ∃ bk ok, pk = some ⟨bk, ok, none⟩ ∧ ∀ t (h : t < l[m0].kids.length), w.cell? ⟨bk, ok + t, none⟩ = some (.int .i64 l[m0].kids[t]) := by
          rcases HK.out with q | q
          · rw [q] at h; simp at h
          · exact q
        have a5 := cell_below (hk j h) Bw.out
        have hkd := KD.out l[m0].kids[j] (List.getElem_mem _)
        obtain ⟨m, em⟩ : ∃ m : Nat, l[m0].kids[j] = (m : Int) := ⟨l[m0].kids[j].toNat, by omega⟩
        have hm : m < l.length := by omega
        have hc1 := hc.out
        rw [List.drop_eq_getElem_cons h] at hc1
        have hc2 : textF l (txt s ++ (nd l l[m0].kids[j].toNat).text) (l[m0].kids.drop (j + 1)) = textQ l (m0 : Int) := hc1
        rw [em, Int.toNat_natCast, nd_at hm, ← txt_app] at hc2
        have tm := TS.out m hm
        rw [nd_at hm] at tm
        obtain ⟨vam, vkm, NM⟩ := HC.out m hm
        have a6 := (NM.below Bw.out).text
        rw [em] at a5
        have m0' : (0 : Int) ≤ (m : Int) := by omega
        have m1 : (m : Int) < (l.length : Int) := by omega
        have HC2 := hide hc2
        have HWS := hide (writeString w1.heap.size w1.heap.size s l[m].text wr HBr.out (by omega) BW.out.size)
        have SZ : Hid ((s ++ l[m].text.data.toList).length ≤ 4000 + 4000 * (j + 1)) := by
          show _ ≤ _
          rw [List.length_append]
          have : l[m].text.data.toList.length = l[m].text.size := by simp
          omega
        clear hk hkd em hc hc1 hc2 NM tm
        go_wp2_with fail
        refine HWS.out.mono ?_
        rintro e w3 ⟨rfl, hb3, b3⟩
        go_wp2_with fail
        go_roundw
        case rel => exact ⟨j + 1, _, by omega, by go_num, SZ.out, hb3, HC2, BW.out.trans b3⟩
        case measure => simp [intOf]; omega
      · obtain rfl : j = l[m0].kids.length := by omega
        have E2 : Hid (txt s = textQ l (m0 : Int)) := by
          have := hc.out
          rw [List.drop_length] at this
          exact this
        have HS := hide (builderText w1.heap.size w1.heap.size s wr HBr.out BW.out.size)
        clear hc h
        go_wp2_with fail
        refine HS.out.mono ?_
        rintro e w3 ⟨rfl, b3⟩
        go_wp2_with fail
        go_ret
        exact ⟨by rw [← E2.out]; rfl, chain B1.out (BW.out.trans b3)⟩
end Go.Proofs.YtnojgejcmaajmaaGreatDoor

namespace Go.Proofs.YtnojgejcmaajmaaGreatDoor
open Go.RowKit
set_option maxRecDepth 100000
/-- An option's value, as the program asks. -/
def valA (l : List Nd) (m : Nat) : ByteArray := if hasA (nd l m) oVal = true then fndS (nd l m).attrs oVal else collapseS (textP l (m : Int))
theorem text_valA {l : List Nd} {m : Nat} (h : isK l (m : Int) 32 = true) : textO l (m : Int) = valA l m := by
  unfold textO valA
  rw [if_pos h, Int.toNat_natCast]
theorem fnd_small {n : Nd} {s : ByteArray} {k : Nat} (h : ∀ a ∈ n.attrs, a.2.size ≤ k) : (fndS n.attrs s).size ≤ k := by
  unfold fndS
  split
  · exact Nat.zero_le _
  · rename_i i e
    obtain ⟨hi, _, _⟩ := List.findIdx?_eq_some_iff_getElem.1 (show n.attrs.findIdx? (isN s) = some i from e)
    rw [show n.attrs.getD i at0 = n.attrs[i] by simp [List.getD, hi]]
    exact h _ (List.getElem_mem hi)
set_option maxHeartbeats 4000000 in
theorem opValueOf_any (v : Value) (l : List Nd) (m : Nat) (w : World) (hv : NodesV w v l) (hz : DocSz l) (hR : Right l) (hm : m < l.length) :
    Calls Tryz.prog 192 #[v, .int .i64 (m : Int)] w fun e w' => e = .returned (.string (valA l m)) ∧ Below w.heap.size w w' := by
  have HX := hide (fun W (hb : Below w.heap.size w W) => text_any v l (m : Int) W (hv.below hb) hz)
  have hh : hasN l (m : Int) = true := by unfold hasN; rw [decide_eq_true (by omega), right_is.2 hR]; rfl
  rw [show textQ l (m : Int) = textP l (m : Int) from if_pos hh] at HX
  have ts := textP_small hR hm
  have HC := hide (fun W => collapse_any (textP l (m : Int)) W (by omega))
  obtain ⟨p, c, rfl⟩ := nds_formG hv
  obtain ⟨b, o, va, pk, nk, ck, rfl, N⟩ := node_of hv hm
  have nz := hz.nds _ (List.getElem_mem hm)
  have HF := hide (opFind_any l[m] va pk nk ck oVal w N.at_ nz.attrs)
  have HL := hide (fun W => clone_any (fndS l[m].attrs oVal) W (by have := fnd_small (s := oVal) nz.tx; omega))
  have EQ : Hid (valA l m = if hasA l[m] oVal = true then fndS l[m].attrs oVal else collapseS (textP l (m : Int))) := by show _ = _; unfold valA; rw [nd_at hm]
  obtain ⟨pa, ca, rfl, hxx⟩ := N.at_
  clear hxx
  have c0 := N.name
  have c1 := N.text
  have c2 := N.attrs
  have c3 := N.parent
  have c4 := N.kids
  have m0 : (0 : Int) ≤ (m : Int) := by omega
  have m1 : (m : Int) < (l.length : Int) := by omega
  clear N nz hv hz hR hh ts
  rw [show oVal = ⟨#[118, 97, 108, 117, 101]⟩ from rfl] at HF HL EQ
  generalize valA l m = R at *
  generalize textP l (m : Int) = tp at *
  generalize fndS l[m].attrs ⟨#[118, 97, 108, 117, 101]⟩ = fs at *
  generalize hasA l[m] ⟨#[118, 97, 108, 117, 101]⟩ = d at *
  generalize l[m].name = n0 at *
  generalize l[m].text = n1 at *
  generalize l[m].parent = n3 at *
  generalize l[m].attrs.length = n5 at *
  cases d with
  | true =>
    rw [if_pos rfl] at EQ
    clear HX HC
    go_enter Tryz.func192, Tryz.ntmps192
    go_wp2_with fail
    refine HF.out.mono ?_
    rintro e w1 ⟨rfl, b1⟩
    go_wp2_with fail
    refine (HL.out _).mono ?_
    rintro e w2 ⟨rfl, b2⟩
    go_wp2_with fail
    go_ret
    exact ⟨ret_str EQ.out.symm, chain b1 b2⟩
  | false =>
    rw [if_neg (by decide)] at EQ
    clear HL
    go_enter Tryz.func192, Tryz.ntmps192
    go_wp2_with fail
    refine HF.out.mono ?_
    rintro e w1 ⟨rfl, b1⟩
    go_wp2_with fail
    refine (HX.out _ b1).mono ?_
    rintro e w2 ⟨rfl, b2⟩
    go_wp2_with fail
    refine (HC.out _).mono ?_
    rintro e w3 ⟨rfl, b3⟩
    go_wp2_with fail
    go_ret
    exact ⟨ret_str EQ.out.symm, chain (chain b1 b2) b3⟩
end Go.Proofs.YtnojgejcmaajmaaGreatDoor

namespace Go.Proofs.YtnojgejcmaajmaaGreatDoor
open Go.RowKit Go.Shelf
set_option maxRecDepth 100000
attribute [local go_sem] Oper.semAt_some
/-- The value of an option, if there is one. -/
def valO (l : List Nd) : Option Int → ByteArray
  | none => ⟨#[]⟩
  | some i => textO l i
set_option maxHeartbeats 8000000 in
theorem opValue_x (l : List Nd) (sel : Int) (nv cv : Value) (C : List Ct) (w : World) (hD : DocV w nv cv l C) (HI : ∀ p c, nv = .slice p l.length c → Iter l sel p c w) (hr : ∀ i ∈ optsP l sel, 0 ≤ i ∧ i < (C.length : Int))
    (HR : ∀ W, Below w.heap.size w W → Calls Tryz.prog 22 #[.agg #[nv, cv]] W fun e w' => e = .returned (.bool true) ∧ Below W.heap.size W w')
    (HK : ∀ W, Below w.heap.size w W → Calls Tryz.prog 190 #[nv, .int .i64 sel, .int .i64 23] W fun e w' => e = .returned (.bool true) ∧ Below W.heap.size W w')
    (HX : ∀ x ∈ optsP l sel, ∀ W, Below w.heap.size w W → Calls Tryz.prog 192 #[nv, .int .i64 x] W fun e w' => e = .returned (.string (textO l x)) ∧ Below W.heap.size W w') :
    Calls Tryz.prog 146 #[.agg #[nv, cv], .int .i64 sel] w fun e w' => e = .returned (.string (valO l ((optsP l sel).find? fun i => (st C i).sel))) ∧ Below w.heap.size w w' := by
  obtain ⟨p, c, rfl⟩ := nds_formG hD.nds
  have HIT := hide (HI p c rfl)
  have H1 := hide HR
  have H2 := hide HK
  have H3 := hide HX
  have HRg := hide hr
  have HCT := hide hD.cts
  obtain ⟨pc, kc, rfl⟩ := cts_formG hD.cts
  clear HI HR HK HX hr hD
  obtain ⟨RES, hRES⟩ : ∃ R : ByteArray, (valO l ((optsP l sel).find? fun i => (st C i).sel)) = R := ⟨_, rfl⟩
  have FN : Hid ((∀ y ∈ optsP l sel, (st C y).sel = false) → RES = ⟨#[]⟩) := fun h => by
    rw [← hRES, List.find?_eq_none.2 (fun y hy => by rw [h y hy]; decide)]; rfl
  have FH : Hid (∀ pr x, pr ++ [x] <+: optsP l sel → (∀ y ∈ pr, (st C y).sel = false) → (st C x).sel = true → RES = textO l x) := fun pr x h1 h2 h3 => by
    rw [← hRES, find_hit' (f := fun i => (st C i).sel) h1 h2 h3]; rfl
  rw [hRES]
  clear hRES
  refine (callsIn_wide (n := 3)).1 ?_
  refine callsIn_of_wp_marks Tryz.func146 rfl trivial ?_ rfl
  simp only [Tryz.ntmps146, List.size_toArray, List.length_cons, List.length_nil, Nat.reduceAdd, Nat.reduceSub, Array.replicate_succ, Array.replicate_zero, List.push_toArray, List.append_toArray, List.nil_append, List.cons_append]
  have B0 : Hid (Below w.heap.size w ((w.alloc (.cells #[.slice p l.length c, .slice pc C.length kc] 25)).alloc (.cells #[.string ⟨#[]⟩] 9))) := ((Below.refl _ w).alloc (Nat.le_refl _) _).alloc (by simp) _
  have ND := hide ((Bk.new w [.slice p l.length c, .slice pc C.length kc] 25).below ((Below.refl _ (w.alloc (.cells #[.slice p l.length c, .slice pc C.length kc] 25))).alloc (Nat.le_refl _) (.cells #[.string ⟨#[]⟩] 9)))
  have NS : Hid (Boxed ((w.alloc (.cells #[.slice p l.length c, .slice pc C.length kc] 25)).alloc (.cells #[.string ⟨#[]⟩] 9)) (w.heap.size + 1) 9 (.string ⟨#[]⟩)) := by
    have := Boxed.new (w.alloc (.cells #[.slice p l.length c, .slice pc C.length kc] 25)) 9 (.string ⟨#[]⟩)
    rw [World.size_alloc] at this
    exact this
  have x0 := ND.out.cell 0 rfl
  gi_wp2
  refine ⟨trivial, ?_⟩
  refine (callsIn_wide.2 (H2.out _ B0.out)).mono ?_
  rintro e w1 ⟨rfl, b1⟩
  have B1 := hide (chain B0.out b1)
  replace ND := hide (ND.out.below b1)
  replace NS := hide (show Boxed w1 _ _ _ from (b1.block _ NS.out.lt).trans NS.out)
  clear b1 B0 x0
  have x0 := ND.out.cell 0 rfl
  have x1 := ND.out.cell 1 rfl
  gi_wp2
  refine ⟨trivial, ?_⟩
  refine (callsIn_wide.2 (H1.out _ B1.out)).mono ?_
  rintro e w2 ⟨rfl, b2⟩
  have B2 := hide (chain B1.out b2)
  replace ND := hide (ND.out.below b2)
  replace NS := hide (show Boxed w2 _ _ _ from (b2.block _ NS.out.lt).trans NS.out)
  clear b2 B1 x0 x1
  have x0 := ND.out.cell 0 rfl
  gi_wp2
  refine ⟨trivial, ?_⟩
  refine (callsIn_wide.2 (options_any p l.length c sel w2)).mono ?_
  rintro e w3 ⟨rfl, rfl⟩
  gi_wp2
  obtain ⟨w4, hw4⟩ : ∃ w4, (w2.alloc (.cells #[.slice p l.length c] 22)).alloc (.cells #[.int .i64 sel] 3) = w4 := ⟨_, rfl⟩
  have s4 : w4.heap.size = w2.heap.size + 1 + 1 := by rw [← hw4]; simp
  have b4 : Below w2.heap.size w2 w4 := by rw [← hw4]; exact ((Below.refl _ w2).alloc (Nat.le_refl _) _).alloc (by simp) _
  have bL : Boxed w4 w2.heap.size 22 (.slice p l.length c) := by rw [← hw4]; exact (Boxed.new w2 _ _).alloc _
  have bS : Boxed w4 (w2.heap.size + 1) 3 (.int .i64 sel) := by
    have := Boxed.new (w2.alloc (.cells #[.slice p l.length c] 22)) 3 (.int .i64 sel)
    rw [World.size_alloc] at this
    rw [← hw4]; exact this
  have B4 := hide (chain B2.out b4)
  have lS : w.heap.size + 1 < w2.heap.size := NS.out.lt
  have ND4 := hide (ND.out.below b4)
  have NS4 := hide (show Boxed w4 _ _ _ from (b4.block _ NS.out.lt).trans NS.out)
  rw [hw4]
  refine wpIn_rangeFunc_ownG rfl (by omega) (gf := 228) (lb := #[.pointer (some ⟨w2.heap.size, 0, none⟩), .pointer (some ⟨w2.heap.size + 1, 0, none⟩)]) rfl trivial (enters_of Tryz.func228 (by kernel_rfl) rfl)
    (HIT.out w4 w2.heap.size (w2.heap.size + 1) B4.out bL bS) kpB_t (kpB_b (by omega) (by intro b q; simp at q; omega)) (Below.refl _ _) (fun _ => rfl)
    (fun (pre : List (OptA l sel)) W => (Bk W w.heap.size [.slice p l.length c, .slice pc C.length kc] 25 ∧ Boxed W (w.heap.size + 1) 9 (.string ⟨#[]⟩)) ∧ (∀ x ∈ vals pre, (st C x).sel = false) ∧ Below w.heap.size w W)
    (fun d (pre : List (OptA l sel)) W => (d = .ret ∧ ∃ pr x, vals pre = pr ++ [x] ∧ (∀ y ∈ pr, (st C y).sel = false) ∧ (st C x).sel = true ∧ Boxed W (w.heap.size + 1) 9 (.string (textO l x))) ∧ Below w.heap.size w W)
    (OwnFrom.and (OwnFrom.and (Own.from (bk_own _ _ _) _) (Own.from (boxed_own _ _ (fun _ => .string ⟨#[]⟩)) _)) (OwnFrom.and (ownFrom_pure _ _) (ownFrom_below (Nat.le_refl _) (by omega))))
    (fun d => OwnFrom.and (fun s X Y row hs hg hr => by
      obtain ⟨e, pr, x, e1, e2, e3, hb⟩ := hs
      exact ⟨e, pr, x, e1, e2, e3, (boxed_own (β := Unit) _ _ (fun _ => .string (textO l x))) () X Y row hb hg (fun r q => (hr r q).2)⟩) (ownFrom_below (Nat.le_refl _) (by omega)))
    ⟨⟨ND4.out, NS4.out⟩, (fun x q => by cases q), B4.out⟩
    (fun x => { tmps := #[.agg #[.slice p l.length c, .slice pc C.length kc], .int .i64 sel, .pointer (some ⟨w.heap.size, 0, none⟩), undef, .pointer (some ⟨w.heap.size + 1, 0, none⟩), .int .i64 x.1, .pointer (some ⟨w.heap.size, 0, none⟩), .slice p l.length c, .int .i64 sel, .bool true, .bool false, .bool false, .agg #[.slice p l.length c, .slice pc C.length kc], .bool true, .bool false, .bool false, .pointer (some ⟨w.heap.size, 0, none⟩), .slice p l.length c, .int .i64 sel, .func (.func 228) #[] #[.pointer (some ⟨w2.heap.size, 0, none⟩), .pointer (some ⟨w2.heap.size + 1, 0, none⟩)], .int .i64 x.1, undef, undef, undef, undef, undef, undef, undef, undef, undef, undef], defers := [] }) ?assign ?body ?done ?stop
  case assign =>
    intro y x W K hK
    gi_wp2
    exact hK
  case body =>
    rintro y pre x W ⟨⟨hDk, hSb⟩, hno, hB⟩ hlt
    have rx := HRg.out x.1 x.2
    obtain ⟨q, eq, hq⟩ : ∃ q : Nat, x.1 = (q : Int) ∧ q < C.length := ⟨x.1.toNat, by omega, by omega⟩
    obtain ⟨F, _, p', k', e', hcell⟩ := HCT.out.below hB
    cases e'
    obtain ⟨cb, co, rfl, hcl⟩ : ∃ b o, pc = some ⟨b, o, none⟩ ∧ ∀ i (h : i < C.length), CtAt W b (o + i * 10) C[i] (fvAt F i) := by
      rcases hcell with t | t
      · rw [t] at hq; cases hq
      · exact t
    have c6 := hcl q hq 6 _ rfl
    have x1 := hDk.cell 1 rfl
    have x0 := hDk.cell 0 rfl
    have hs1 := hSb.cell
    have hs2 := hSb.frozen
    have q0 : (0 : Int) ≤ (q : Int) := by omega
    have q1 : (q : Int) < (C.length : Int) := by omega
    have es : (st C (q : Int)).sel = C[q].sel := by unfold st; rw [Int.toNat_natCast, List.getD_eq_getElem?_getD, List.getElem?_eq_getElem hq, Option.getD_some]
    have EV := hide (show vals (pre ++ [x]) = vals pre ++ [(q : Int)] by rw [vals_app, eq])
    have ES := hide es
    have HT := hide (fun W (hb : Below w.heap.size w W) => H3.out (q : Int) (by rw [← eq]; exact x.2) W hb)
    rw [eq]
    clear hcell hcl rx es
    cases hsq : C[q].sel with
    | false =>
      rw [hsq] at c6
      gi_wp2
      exact ⟨KeepsFrom.refl _ _, ⟨Below.refl _ _, fun _ _ => rfl⟩, ⟨⟨hDk, hSb⟩, (fun z hz => by
        rw [EV.out] at hz
        rcases List.mem_append.1 hz with t | t
        · exact hno z t
        · rw [List.mem_singleton.1 t, ES.out]; exact hsq), hB⟩⟩
    | true =>
      rw [hsq] at c6
      gi_wp2
      refine ⟨trivial, ?_⟩
      refine (CallsIn.inRound y (callsIn_wide.2 (HT.out _ hB))).mono ?_
      rintro e w5 ⟨rfl, b5⟩
      have hS5 : Boxed w5 (w.heap.size + 1) 9 (.string ⟨#[]⟩) := (b5.block _ hSb.lt).trans hSb
      have u1 := hS5.cell
      have u2 := hS5.frozen
      gi_wp2
      refine ⟨((KeepsOthers.of_grownBy (row := none) ⟨b5.os, b5.tape, b5.output, b5.size, fun k hk _ => b5.block k hk⟩ (fun j o e => by cases e)).trans (KeepsOthers.setCell _ _ _)).from _, ⟨rfl, vals pre, (q : Int), EV.out, hno, by rw [ES.out]; exact hsq, hS5.set _⟩, ?_⟩
      exact (hB.trans (b5.mono hB.size)).setCell (p := ⟨w.heap.size + 1, 0, none⟩) (Nat.le_succ _) _
  case done =>
    rintro D ys W hD hys ⟨⟨hDk, hSb⟩, hno, hB⟩ hK
    rw [hys] at hno
    have hs1 := hSb.cell
    have hs2 := hSb.frozen
    have e := FN.out hno
    subst e
    gi_wp2
    have hK2 := (KeepsOthers.setCell W ⟨w.heap.size + 1, 0, none⟩ (.string ⟨#[]⟩)).same D _ hK rfl
    have hc2 := cell_kept (hSb.set (.string ⟨#[]⟩)).cell (grownBy_putObj' _ D (.deferred none)) (fun r e => by cases e; exact ⟨_, hK2, rfl⟩)
    have bF : Below w.heap.size w (W.setCell ⟨w.heap.size + 1, 0, none⟩ (.string ⟨#[]⟩)) := hB.setCell (p := ⟨w.heap.size + 1, 0, none⟩) (Nat.le_succ _) _
    refine ⟨by simp, .inl ⟨_, _, rfl, run_takeDeferred hK2, ?_⟩⟩
    refine ⟨.string ⟨#[]⟩, by simp [results, go_sem, hc2], rfl, bF.trans (belowK_b (w := w) (Nat.le_refl _) _ D _ _ (by omega) hK2 rfl rfl)⟩
  case stop =>
    rintro D d pre W hD hSp ⟨⟨rfl, pr, x, e1, e2, e3, hb⟩, hB⟩ hK
    rw [e1] at hSp
    have e := FH.out pr x hSp e2 e3
    subst e
    have hs1 := hb.cell
    gi_wp2
    have hc2 := cell_kept hs1 (grownBy_putObj' _ D (.deferred none)) (fun r e => by cases e; exact ⟨_, hK, rfl⟩)
    refine ⟨by simp, .inl ⟨_, _, rfl, run_takeDeferred hK, ?_⟩⟩
    refine ⟨.string (textO l x), by simp [results, go_sem, hc2], rfl, hB.trans (belowK_b (w := w) (Nat.le_refl _) _ D _ _ (by omega) hK rfl rfl)⟩
set_option maxHeartbeats 8000000 in
theorem opValueG_any (nv cv : Value) (l : List Nd) (C : List Ct) (sel : Int) (w : World) (hD : DocV w nv cv l C) (hz : DocSz l) (hT : KTabs w) :
    Calls Tryz.prog 146 #[.agg #[nv, cv], .int .i64 sel] w fun e w' => e = .returned (.string (valueO l C sel)) ∧ Below w.heap.size w w' := by
  have HA := hide (fun W (hb : Below w.heap.size w W) => opIsA_any nv l sel 23 W (hD.nds.below hb) hz (hT.below hb))
  have HR := hide (fun W (hb : Below w.heap.size w W) => opRightG_any nv cv l C W (hD.below hb) hz)
  have NO : Hid ((isAB l sel 23 && rightD l C) = false → valueO l C sel = ⟨#[]⟩) := fun h => by
    unfold valueO
    split
    · rename_i r
      rw [r, Bool.and_true, isA_right (rd_parts r).1] at h
      have e : listP l sel = [] := if_neg (by rw [h]; decide)
      rw [e]; rfl
    · rfl
  cases h : isAB l sel 23 with
  | false =>
    have E := hide (NO.out (by rw [h]; rfl))
    rw [h] at HA
    obtain ⟨p, c, rfl⟩ := nds_formG hD.nds
    obtain ⟨pc, kc, rfl⟩ := cts_formG hD.cts
    have B0 : Hid (Below w.heap.size w ((w.alloc (.cells #[.slice p l.length c, .slice pc C.length kc] 25)).alloc (.cells #[.string ⟨#[]⟩] 9))) := ((Below.refl _ w).alloc (Nat.le_refl _) _).alloc (by simp) _
    have x0 : ((w.alloc (.cells #[.slice p l.length c, .slice pc C.length kc] 25)).alloc (.cells #[.string ⟨#[]⟩] 9)).cell? ⟨w.heap.size, 0, none⟩ = some (.slice p l.length c) := by simp
    have NS : Boxed ((w.alloc (.cells #[.slice p l.length c, .slice pc C.length kc] 25)).alloc (.cells #[.string ⟨#[]⟩] 9)) (w.heap.size + 1) 9 (.string ⟨#[]⟩) := by
      have := Boxed.new (w.alloc (.cells #[.slice p l.length c, .slice pc C.length kc] 25)) 9 (.string ⟨#[]⟩)
      rw [World.size_alloc] at this
      exact this
    clear HR NO hD hz hT h
    go_enter Tryz.func146, Tryz.ntmps146
    go_wp2_with fail
    refine (HA.out _ B0.out).mono ?_
    rintro e w1 ⟨rfl, b1⟩
    have N1 : Boxed w1 (w.heap.size + 1) 9 (.string ⟨#[]⟩) := (b1.block _ NS.lt).trans NS
    have c1 := N1.cell
    have c2 := N1.frozen
    have c3 := (N1.set (.string ⟨#[]⟩)).cell
    clear x0
    go_wp2_with fail
    refine bodyPost_ret (v := .string ⟨#[]⟩) (by simp [results, go_sem, c3]) rfl ?_
    exact ⟨ret_str E.out.symm, (chain B0.out b1).setCell (p := ⟨w.heap.size + 1, 0, none⟩) (Nat.le_succ _) _⟩
  | true =>
    cases r : rightD l C with
    | false =>
      have E := hide (NO.out (by rw [h, r]; rfl))
      rw [h] at HA
      rw [r] at HR
      obtain ⟨p, c, rfl⟩ := nds_formG hD.nds
      obtain ⟨pc, kc, rfl⟩ := cts_formG hD.cts
      have B0 : Hid (Below w.heap.size w ((w.alloc (.cells #[.slice p l.length c, .slice pc C.length kc] 25)).alloc (.cells #[.string ⟨#[]⟩] 9))) := ((Below.refl _ w).alloc (Nat.le_refl _) _).alloc (by simp) _
      have BD := hide ((Bk.new w [.slice p l.length c, .slice pc C.length kc] 25).below ((Below.refl _ (w.alloc (.cells #[.slice p l.length c, .slice pc C.length kc] 25))).alloc (Nat.le_refl _) (.cells #[.string ⟨#[]⟩] 9)))
      have NS : Boxed ((w.alloc (.cells #[.slice p l.length c, .slice pc C.length kc] 25)).alloc (.cells #[.string ⟨#[]⟩] 9)) (w.heap.size + 1) 9 (.string ⟨#[]⟩) := by
        have := Boxed.new (w.alloc (.cells #[.slice p l.length c, .slice pc C.length kc] 25)) 9 (.string ⟨#[]⟩)
        rw [World.size_alloc] at this
        exact this
      have x0 := BD.out.cell 0 rfl
      clear NO hD hz hT h r
      go_enter Tryz.func146, Tryz.ntmps146
      go_wp2_with fail
      refine (HA.out _ B0.out).mono ?_
      rintro e w1 ⟨rfl, b1⟩
      have D1 := hide (BD.out.below b1)
      have y0 := D1.out.cell 0 rfl
      have y1 := D1.out.cell 1 rfl
      go_wp2_with fail
      refine (HR.out _ (chain B0.out b1)).mono ?_
      rintro e w2 ⟨rfl, b2⟩
      have N2 : Boxed w2 (w.heap.size + 1) 9 (.string ⟨#[]⟩) := ((chain b1 b2).block _ NS.lt).trans NS
      have c1 := N2.cell
      have c2 := N2.frozen
      have c3 := (N2.set (.string ⟨#[]⟩)).cell
      clear x0
      go_wp2_with fail
      refine bodyPost_ret (v := .string ⟨#[]⟩) (by simp [results, go_sem, c3]) rfl ?_
      exact ⟨ret_str E.out.symm, (chain (chain B0.out b1) b2).setCell (p := ⟨w.heap.size + 1, 0, none⟩) (Nat.le_succ _) _⟩
    | true =>
      obtain ⟨hR, hlen⟩ := rd_parts r
      have hk : isK l sel 23 = true := by rw [← isA_right hR]; exact h
      have EV : valueO l C sel = (valO l ((optsP l sel).find? fun i => (st C i).sel)) := by
        unfold valueO
        rw [if_pos r, list_opts hk]
        cases (optsP l sel).find? (fun i => (st C i).sel) <;> rfl
      rw [EV]
      rw [h] at HA
      rw [r] at HR
      refine opValue_x l sel nv cv C w hD (fun p c e => by subst e; exact iter_of hD.nds hz hT hR (isK_inO hk)) (fun i hi => by
        rw [← list_opts hk] at hi
        have := list_in.2 i hi
        rw [hlen]; exact this) HR.out HA.out (fun x hx W hb => ?_)
      obtain ⟨m, rfl, hm, hk'⟩ := opts_opt hk hx
      rw [text_valA hk']
      exact opValueOf_any nv l m W (hD.nds.below hb) hz hR hm

end Go.Proofs.YtnojgejcmaajmaaGreatDoor
