/- What a range over the program's iterator of layer 15 keeps. The program's isOff, selectOf, Right, Off, Size of layer 15. The program's slices.AppendSeq, slices.Collect over its iterator, List of layer 15. The program's value, Text of layer 15. Stage 15's wakes and its law OptionLists, walked. -/
import Derived.Test.YtemikdmkjgmflaaGreatDoorJoz30
import Derived.Test.YtemikdmkjgmflaaGreatDoorJoz36
import Derived.Test.YtemikdmkjgmflaaGreatDoorJoz44

namespace Go.Proofs.YtemikdmkjgmflaaGreatDoor
open Go.RowKit Go.Shelf
set_option maxRecDepth 100000
attribute [local go_sem] Oper.semAt_some
theorem own_zero {w : World} {base : Nat} {e : TypeId} {size : Nat} {v : Value} {n : Nat} {xs : List Value} (h : w.ownsRow base e size v n xs) : w.ownsRow 0 e size v n xs := owns_mono h (Nat.zero_le _)
theorem own_lowW {w : World} {base : Nat} {e : TypeId} {size : Nat} {v : Value} {n : Nat} {xs : List Value} (h : w.ownsRow base e size v n xs) {m : Nat} (hm : m < base) (k : Nat) (u : Value) : (w.setCell ⟨m, k, none⟩ u).ownsRow base e size v n xs :=
  owns_kept h (Chg.setB _ _ _ _) (fun j hj q => by have := (h.lt j hj).1; have := List.mem_singleton.1 q; omega)
theorem ownFrom_size {β : Type} {B s : Nat} : OwnFrom B (fun (_ : β) W => s ≤ W.heap.size) := fun _ _ _ _ hs hg _ => Nat.le_trans hs hg.size
/-- What an append to a row of the loop's own, stored into a box, leaves as it was. -/
theorem grew_low {W w3 : World} {tmp : Obj} {u v' : Value} {base B k : Nat} {e : TypeId} {size n : Nat} {xs : List Value} (hrow : W.ownsRow base e size u n xs) (hg : (W.alloc tmp).grownBy w3 u.ownBlock) (hk : k < base) (hn : k ≠ B) (hb : base ≤ W.heap.size) : (w3.setCell ⟨B, 0, none⟩ v').heap[k]? = W.heap[k]? := by
  rw [Below.heap_setCell _ _ _ _ hn, hg.block k (by simp; omega) (fun q => by have := (hrow.lt k q.symm).1; omega), Below.heap_alloc W tmp k (by omega)]
end Go.Proofs.YtemikdmkjgmflaaGreatDoor

namespace Go.Proofs.YtemikdmkjgmflaaGreatDoor
open Go.RowKit
set_option maxRecDepth 100000
set_option maxHeartbeats 4000000 in
theorem opOff_any (v : Value) (l : List Nd) (id : Int) (w : World) (hv : NodesV w v l) (hz : DocSz l) (hT : KTabs w) :
    Calls Tryz.prog 13 #[v, .int .i64 id] w fun e w' => e = .returned (.bool (offP l id)) ∧ Below w.heap.size w w' := by
  have HA := hide (opIsA_any v l id 32 w hv hz hT)
  have HR := hide (fun W (hb : Below w.heap.size w W) => right_any v l W (hv.below hb) hz)
  have EK := hide (isA_K (l := l) (id := id) (k := 32))
  cases h : isAB l id 32 with
  | false =>
    have E : Hid (offP l id = false) := by
      have EK := EK.out
      rw [h] at EK
      show _ = _; unfold offP; rw [← EK]; rfl
    rw [h] at HA
    obtain ⟨p, c, rfl⟩ := nds_formG hv
    clear HR EK hv hz hT h
    go_enter Tryz.func13, Tryz.ntmps13
    go_wp2_with fail
    refine HA.out.mono ?_
    rintro e w1 ⟨rfl, b1⟩
    go_wp2_with fail
    go_ret
    exact ⟨ret_bool E.out.symm, b1⟩
  | true =>
    cases r : rightB l with
    | false =>
      have E : Hid (offP l id = false) := by
        have EK := EK.out
        rw [h, r] at EK
        show _ = _; unfold offP; rw [← EK]; rfl
      rw [h] at HA
      rw [r] at HR
      obtain ⟨p, c, rfl⟩ := nds_formG hv
      clear EK hv hz hT h r
      go_enter Tryz.func13, Tryz.ntmps13
      go_wp2_with fail
      refine HA.out.mono ?_
      rintro e w1 ⟨rfl, b1⟩
      go_wp2_with fail
      refine (HR.out _ b1).mono ?_
      rintro e w2 ⟨rfl, b2⟩
      go_wp2_with fail
      go_ret
      exact ⟨ret_bool E.out.symm, chain b1 b2⟩
    | true =>
      have hk : isK l id 32 = true := by rw [← EK.out, h, r]; rfl
      have hR := right_is.1 r
      have hr : 0 ≤ id ∧ id < (l.length : Int) := by
        apply Classical.byContradiction
        intro q
        rw [isA_out q] at h
        cases h
      obtain ⟨m, rfl⟩ : ∃ m : Nat, id = (m : Int) := ⟨id.toNat, by omega⟩
      have hm : m < l.length := by omega
      rw [h] at HA
      rw [r] at HR
      have hp : parI l (m : Int) < (l.length : Int) := parI_lt hR hr.1 hr.2
      have HO := hide (fun W (hb : Below w.heap.size w W) => opIsOff_any v l m W (hv.below hb) hz hm hp (hT.below hb))
      rw [← off_is hR hm hk] at HO
      obtain ⟨p, c, rfl⟩ := nds_formG hv
      have i0 : (0 : Int) ≤ (m : Int) := by omega
      have i1 : (m : Int) < (l.length : Int) := by omega
      clear EK hv hz hT h r hk hR hr
      go_enter Tryz.func13, Tryz.ntmps13
      go_wp2_with fail
      refine HA.out.mono ?_
      rintro e w1 ⟨rfl, b1⟩
      go_wp2_with fail
      refine (HR.out _ b1).mono ?_
      rintro e w2 ⟨rfl, b2⟩
      have bb := chain b1 b2
      go_wp2_with fail
      refine (HO.out _ bb).mono ?_
      rintro e w3 ⟨rfl, b3⟩
      go_wp2_with fail
      go_ret
      exact ⟨rfl, chain bb b3⟩
set_option maxHeartbeats 4000000 in
theorem opSize_any (v : Value) (l : List Nd) (id : Int) (w : World) (hv : NodesV w v l) (hz : DocSz l) (hT : KTabs w) :
    Calls Tryz.prog 11 #[v, .int .i64 id] w fun e w' => e = .returned (.int .i64 (sizeP l id)) ∧ Below w.heap.size w w' := by
  have HA := hide (opIsA_any v l id 23 w hv hz hT)
  have HR := hide (fun W (hb : Below w.heap.size w W) => right_any v l W (hv.below hb) hz)
  have EK := hide (isA_K (l := l) (id := id) (k := 23))
  cases h : isAB l id 23 with
  | false =>
    have E : Hid (sizeP l id = 0) := by
      have EK := EK.out
      rw [h] at EK
      show _ = _; unfold sizeP; rw [← EK]; rfl
    rw [h] at HA
    obtain ⟨p, c, rfl⟩ := nds_formG hv
    clear HR EK hv hz hT h
    go_enter Tryz.func11, Tryz.ntmps11
    go_wp2_with fail
    refine HA.out.mono ?_
    rintro e w1 ⟨rfl, b1⟩
    go_wp2_with fail
    go_ret
    exact ⟨ret_int E.out.symm, b1⟩
  | true =>
    cases r : rightB l with
    | false =>
      have E : Hid (sizeP l id = 0) := by
        have EK := EK.out
        rw [h, r] at EK
        show _ = _; unfold sizeP; rw [← EK]; rfl
      rw [h] at HA
      rw [r] at HR
      obtain ⟨p, c, rfl⟩ := nds_formG hv
      clear EK hv hz hT h r
      go_enter Tryz.func11, Tryz.ntmps11
      go_wp2_with fail
      refine HA.out.mono ?_
      rintro e w1 ⟨rfl, b1⟩
      go_wp2_with fail
      refine (HR.out _ b1).mono ?_
      rintro e w2 ⟨rfl, b2⟩
      go_wp2_with fail
      go_ret
      exact ⟨ret_int E.out.symm, chain b1 b2⟩
    | true =>
      have hk : isK l id 23 = true := by rw [← EK.out, h, r]; rfl
      have hR := right_is.1 r
      have hr : 0 ≤ id ∧ id < (l.length : Int) := by
        apply Classical.byContradiction
        intro q
        rw [isA_out q] at h
        cases h
      obtain ⟨m, rfl⟩ : ∃ m : Nat, id = (m : Int) := ⟨id.toNat, by omega⟩
      have hm : m < l.length := by omega
      rw [h] at HA
      rw [r] at HR
      obtain ⟨p, c, rfl⟩ := nds_formG hv
      have i0 : (0 : Int) ≤ (m : Int) := by omega
      have i1 : (m : Int) < (l.length : Int) := by omega
      obtain ⟨b, o, va, pk, nk, ck, rfl, N⟩ := node_of hv hm
      have nz := hz.nds _ (List.getElem_mem hm)
      have N0 := hide N
      have HO := hide (fun W (hb : Below w.heap.size w W) => opRows_any l[m] va pk nk ck W (N0.out.at_.below hb) nz.attrs)
      have EQ := hide (size_rows hk)
      rw [Int.toNat_natCast, nd_at hm] at EQ
      obtain ⟨pa, ca, rfl, hxx⟩ := N.at_
      clear hxx
      clear N nz
      clear EK hv hz hT h r hk hR hr
      go_enter Tryz.func11, Tryz.ntmps11
      go_wp2_with fail
      refine HA.out.mono ?_
      rintro e w1 ⟨rfl, b1⟩
      go_wp2_with fail
      refine (HR.out _ b1).mono ?_
      rintro e w2 ⟨rfl, b2⟩
      have bb := chain b1 b2
      have u0 := cell_below N0.out.name bb
      have u1 := cell_below N0.out.text bb
      have u2 := cell_below N0.out.attrs bb
      have u3 := cell_below N0.out.parent bb
      have u4 := cell_below N0.out.kids bb
      go_wp2_with fail
      refine (HO.out _ bb).mono ?_
      rintro e w3 ⟨rfl, b3⟩
      go_wp2_with fail
      go_ret
      exact ⟨ret_int EQ.out.symm, chain bb b3⟩
end Go.Proofs.YtemikdmkjgmflaaGreatDoor

namespace Go.Proofs.YtemikdmkjgmflaaGreatDoor
open Go.RowKit Go.Shelf
set_option maxRecDepth 100000
attribute [local go_sem] Oper.semAt_some
set_option maxHeartbeats 8000000 in
theorem appendSeq_any (l : List Nd) (sel : Int) (p : Option Addr) (c : Nat) (w0 w : World) (Bl Bs : Nat) (HI : Iter l sel p c w0) (hb : Below w0.heap.size w0 w) (bL : Boxed w Bl 22 (.slice p l.length c)) (bS : Boxed w Bs 3 (.int .i64 sel)) (hn : (optsP l sel).length ≤ 160000) :
    Calls Tryz.prog 61 #[.slice none 0 0, .func (.func 62) #[] #[.pointer (some ⟨Bl, 0, none⟩), .pointer (some ⟨Bs, 0, none⟩)]] w fun e w' => ∃ v', e = .returned v' ∧ KidsO w.heap.size w' v' (optsP l sel) ∧ Below w.heap.size w w' := by
  have HIT := hide HI
  obtain ⟨i0, hi0, hz0, hz1, hz2⟩ := info_parts infoI
  obtain ⟨w2, hw2⟩ : ∃ w2, w.alloc (.cells #[.slice none 0 0] 26) = w2 := ⟨_, rfl⟩
  have s2 : w2.heap.size = w.heap.size + 1 := by rw [← hw2]; simp
  have b2 : Below w.heap.size w w2 := by rw [← hw2]; exact (Below.refl _ w).alloc (Nat.le_refl _) _
  have bO2 : Boxed w2 w.heap.size 26 (.slice none 0 0) := by rw [← hw2]; exact Boxed.new w _ _
  have bL2 : Boxed w2 Bl 22 (.slice p l.length c) := (b2.block _ bL.lt).trans bL
  have bS2 : Boxed w2 Bs 3 (.int .i64 sel) := (b2.block _ bS.lt).trans bS
  have lL := bL.lt
  have lS := bS.lt
  have l0 := hb.size
  clear HI
  refine (callsIn_wide (n := 3)).1 ?_
  refine callsIn_of_wp_marks Tryz.func61 rfl trivial ?_ rfl
  simp only [Tryz.ntmps61, List.size_toArray, List.length_cons, List.length_nil, Nat.reduceAdd, Nat.reduceSub, Array.replicate_succ, Array.replicate_zero, List.push_toArray, List.append_toArray, List.nil_append, List.cons_append]
  gi_wp2
  refine wpIn_rangeFunc_ownG rfl (by omega) (gf := 62) (lb := #[.pointer (some ⟨Bl, 0, none⟩), .pointer (some ⟨Bs, 0, none⟩)]) rfl trivial (enters_of Tryz.func62 (by kernel_rfl) rfl)
    (HIT.out w2 Bl Bs (chain hb b2) bL2 bS2) kpB_t (kpB_b (by omega) (by intro b q; simp at q; omega)) (Below.refl _ _) (fun _ => rfl)
    (fun (pre : List (OptA l sel)) W => (∃ u, Boxed W w.heap.size 26 u ∧ W.ownsRow w2.heap.size 3 1 u pre.length ((vals pre).map (Value.int .i64)) ∧ True) ∧ Below w.heap.size w W ∧ w2.heap.size ≤ W.heap.size)
    (fun _ _ _ => False)
    (OwnFrom.and (Own.from (holdsRow_own w2.heap.size w.heap.size 26 3 1 (fun pre : List (OptA l sel) => pre.length) (fun pre : List (OptA l sel) => (vals pre).map (Value.int .i64)) (fun _ _ => True)) _) (OwnFrom.and (ownFrom_below (Nat.le_refl _) (by omega)) ownFrom_size))
    (fun _ _ _ _ _ hs _ _ => hs)
    ⟨⟨_, bO2, World.ownsRow_nil _ _ _ _, trivial⟩, b2, Nat.le_refl _⟩
    (fun x => { tmps := #[.slice none 0 0, .func (.func 62) #[] #[.pointer (some ⟨Bl, 0, none⟩), .pointer (some ⟨Bs, 0, none⟩)], .pointer (some ⟨w.heap.size, 0, none⟩), undef, .slice none 0 0, .int .i64 x.1, .func (.func 62) #[] #[.pointer (some ⟨Bl, 0, none⟩), .pointer (some ⟨Bs, 0, none⟩)], .int .i64 x.1, undef, undef, undef, undef, undef], defers := [] }) ?assign ?body ?done ?stop
  case assign =>
    intro y x W K hK
    gi_wp2
    exact hK
  case body =>
    rintro y pre x W ⟨⟨u, hu, hrow, _⟩, hB, hs⟩ hlt
    have hc := hu.cell
    gi_wp2_with (gi_at_builtin; refine wpListIn_append_own _ rfl _ _ 26 rfl w2.heap.size 3 i0 (.int .i64 0) 1 8 Tryz.underlying26 hi0 hz0 hz1 hz2 rfl (by decide) _ _ _ rfl (hrow.alloc _) ⟨W.heap.size, 0, none⟩ 1 1 [.int .i64 x.1] rfl rfl (cell_one_new _ _ _) (by simp [Value.oneCell']) (by unfold maxLen; omega) (by omega) (by simp; omega) ?_; intro v' w3 hown' hgrow _; obtain ⟨g', cap', rfl⟩ := ownsRow_succ hown'; obtain ⟨hv1, hv2, hr2, hk2, _⟩ := hu.appended (by decide) (own_zero hrow) (Nat.zero_le _) (Nat.zero_le _) (own_zero hown') hgrow; have hc1 := hv1.cell; have hf1 := hv1.frozen)
    have low : ∀ k, k < w2.heap.size → k ≠ w.heap.size → (w3.setCell ⟨w.heap.size, 0, none⟩ (.slice (some ⟨g', 0, none⟩) (pre.length + 1) cap')).heap[k]? = W.heap[k]? := fun k h1 h2 => grew_low hrow hgrow h1 h2 hs
    have sz : W.heap.size ≤ (w3.setCell ⟨w.heap.size, 0, none⟩ (.slice (some ⟨g', 0, none⟩) (pre.length + 1) cap')).heap.size := hk2.size
    have bW : Below w.heap.size W (w3.setCell ⟨w.heap.size, 0, none⟩ (.slice (some ⟨g', 0, none⟩) (pre.length + 1) cap')) := ⟨hgrow.os, hgrow.tape, hgrow.output, sz, fun k hk => low k (by omega) (by omega)⟩
    refine ⟨hk2.from _, ⟨⟨bW.os, bW.tape, bW.output, bW.size, fun k hk => low k (by omega) (by omega)⟩, fun b q => low b (by simp at q; omega) (by simp at q; omega)⟩, ⟨⟨_, hv2, ?_, trivial⟩, hB.trans bW, Nat.le_trans hs sz⟩⟩
    unfold vals
    rw [List.length_append, List.map_append, List.map_append]
    exact own_lowW hown' (by omega) 0 _
  case done =>
    rintro D ys W hD hys ⟨⟨u, hu, hrow, _⟩, hB, hs⟩ hK
    rw [hys, show ys.length = (optsP l sel).length by rw [← hys]; unfold vals; rw [List.length_map]] at hrow
    have hc := hu.cell
    gi_wp2
    refine ⟨by simp, .inl ⟨_, _, rfl, run_takeDeferred hK, ?_⟩⟩
    exact ⟨_, results_tmp rfl _ _ _, u, rfl, owns_mono (ownsRow_putObj hrow _ hK rfl) (by omega), hB.trans (belowK_b (w := w) (Nat.le_refl _) W D _ _ (by omega) hK rfl rfl)⟩
  case stop =>
    rintro D d pre W _ _ h _
    exact h.elim
set_option maxHeartbeats 8000000 in
theorem collect_any (l : List Nd) (sel : Int) (p : Option Addr) (c : Nat) (w0 w : World) (Bl Bs : Nat) (HI : Iter l sel p c w0) (hb : Below w0.heap.size w0 w) (bL : Boxed w Bl 22 (.slice p l.length c)) (bS : Boxed w Bs 3 (.int .i64 sel)) (hn : (optsP l sel).length ≤ 160000) :
    Calls Tryz.prog 31 #[.func (.func 62) #[] #[.pointer (some ⟨Bl, 0, none⟩), .pointer (some ⟨Bs, 0, none⟩)]] w fun e w' => ∃ v', e = .returned v' ∧ KidsO w.heap.size w' v' (optsP l sel) ∧ Below w.heap.size w w' := by
  have HS := hide (appendSeq_any l sel p c w0 w Bl Bs HI hb bL bS hn)
  clear HI hb bL bS hn
  go_enter Tryz.func31, Tryz.ntmps31
  go_wp2_with fail
  refine HS.out.mono ?_
  rintro e w1 ⟨v1, rfl, k1, b1⟩
  go_wp2_with fail
  go_ret
  exact ⟨_, rfl, k1, b1⟩
theorem opts_few {l : List Nd} {sel : Int} (h : isK l sel 23 = true) (hR : Right l) : (optsP l sel).length ≤ 160000 := by
  rw [← list_opts h]
  have e := list_in (l := l) (sel := sel)
  have hl := hR.len.2
  have := nodup_len l.length _ e.1 e.2
  omega
set_option maxHeartbeats 8000000 in
theorem opList_any (v : Value) (l : List Nd) (id : Int) (w : World) (hv : NodesV w v l) (hz : DocSz l) (hT : KTabs w) :
    Calls Tryz.prog 9 #[v, .int .i64 id] w fun e w' => ∃ v', e = .returned v' ∧ IntsV w' v' (listP l id) ∧ Below w.heap.size w w' := by
  have HA := hide (opIsA_any v l id 23 w hv hz hT)
  have HR := hide (fun W (hb : Below w.heap.size w W) => right_any v l W (hv.below hb) hz)
  have EK := hide (isA_K (l := l) (id := id) (k := 23))
  have NL : Hid (isK l id 23 = false → ∀ W, IntsV W (.slice none 0 0) (listP l id)) := fun q W => by
    have : listP l id = [] := by unfold listP; rw [q]; rfl
    rw [this]
    exact ⟨none, 0, rfl, .inl rfl⟩
  cases h : isAB l id 23 with
  | false =>
    have E := hide (NL.out (by rw [← EK.out, h]; rfl))
    rw [h] at HA
    obtain ⟨p, c, rfl⟩ := nds_formG hv
    clear HR EK hv hz hT h NL
    go_enter Tryz.func9, Tryz.ntmps9
    go_wp2_with fail
    refine HA.out.mono ?_
    rintro e w1 ⟨rfl, b1⟩
    go_wp2_with fail
    go_ret
    exact ⟨_, rfl, E.out _, b1⟩
  | true =>
    cases r : rightB l with
    | false =>
      have E := hide (NL.out (by rw [← EK.out, h, r]; rfl))
      rw [h] at HA
      rw [r] at HR
      obtain ⟨p, c, rfl⟩ := nds_formG hv
      clear EK hv hz hT h r NL
      go_enter Tryz.func9, Tryz.ntmps9
      go_wp2_with fail
      refine HA.out.mono ?_
      rintro e w1 ⟨rfl, b1⟩
      go_wp2_with fail
      refine (HR.out _ b1).mono ?_
      rintro e w2 ⟨rfl, b2⟩
      go_wp2_with fail
      go_ret
      exact ⟨_, rfl, E.out _, chain b1 b2⟩
    | true =>
      have hk : isK l id 23 = true := by rw [← EK.out, h, r]; rfl
      have hR := right_is.1 r
      have hr : 0 ≤ id ∧ id < (l.length : Int) := by
        apply Classical.byContradiction
        intro q
        rw [isA_out q] at h
        cases h
      rw [h] at HA
      rw [r] at HR
      obtain ⟨p, c, rfl⟩ := nds_formG hv
      have HIT := hide (iter_of hv hz hT hR hr)
      have FEW := hide (opts_few hk hR)
      have EL := hide (list_opts hk)
      clear EK hv hz hT h r hk hR hr NL
      go_enter Tryz.func9, Tryz.ntmps9
      go_wp2_with fail
      refine HA.out.mono ?_
      rintro e w1 ⟨rfl, b1⟩
      go_wp2_with fail
      refine (HR.out _ b1).mono ?_
      rintro e w2 ⟨rfl, b2⟩
      have bb := chain b1 b2
      go_wp2_with fail
      refine (options_any p l.length c id w2).mono ?_
      rintro e w3 ⟨rfl, hw3⟩
      have b3 : Below w2.heap.size w2 w3 := by rw [hw3]; exact ((Below.refl _ w2).alloc (Nat.le_refl _) _).alloc (by simp) _
      have bL : Boxed w3 w2.heap.size 22 (.slice p l.length c) := by
        rw [hw3]; exact (Boxed.new w2 _ _).alloc _
      have bS : Boxed w3 (w2.heap.size + 1) 3 (.int .i64 id) := by
        have := Boxed.new (w2.alloc (.cells #[.slice p l.length c] 22)) 3 (.int .i64 id)
        rw [World.size_alloc] at this
        rw [hw3]; exact this
      have HC := hide (collect_any l id p c w w3 w2.heap.size (w2.heap.size + 1) HIT.out (chain bb b3) bL bS FEW.out)
      clear hw3 bL bS
      go_wp2_with fail
      refine HC.out.mono ?_
      rintro e w4 ⟨v4, rfl, k4, b4⟩
      go_wp2_with fail
      go_ret
      exact ⟨_, rfl, by rw [EL.out]; exact k4.ints, chain (chain bb b3) b4⟩
end Go.Proofs.YtemikdmkjgmflaaGreatDoor

namespace Go.Proofs.YtemikdmkjgmflaaGreatDoor
open Go.RowKit
set_option maxRecDepth 100000
set_option maxHeartbeats 4000000 in
theorem opText_any (v : Value) (l : List Nd) (id : Int) (w : World) (hv : NodesV w v l) (hz : DocSz l) (hT : KTabs w) :
    Calls Tryz.prog 15 #[v, .int .i64 id] w fun e w' => e = .returned (.string (textO l id)) ∧ Below w.heap.size w w' := by
  have HA := hide (opIsA_any v l id 32 w hv hz hT)
  have HR := hide (fun W (hb : Below w.heap.size w W) => right_any v l W (hv.below hb) hz)
  have EK := hide (isA_K (l := l) (id := id) (k := 32))
  cases h : isAB l id 32 with
  | false =>
    have E : Hid (textO l id = ⟨#[]⟩) := by
      have EK := EK.out
      rw [h] at EK
      show _ = _; unfold textO; rw [← EK]; rfl
    rw [h] at HA
    obtain ⟨p, c, rfl⟩ := nds_formG hv
    clear HR EK hv hz hT h
    go_enter Tryz.func15, Tryz.ntmps15
    go_wp2_with fail
    refine HA.out.mono ?_
    rintro e w1 ⟨rfl, b1⟩
    go_wp2_with fail
    go_ret
    exact ⟨ret_str E.out.symm, b1⟩
  | true =>
    cases r : rightB l with
    | false =>
      have E : Hid (textO l id = ⟨#[]⟩) := by
        have EK := EK.out
        rw [h, r] at EK
        show _ = _; unfold textO; rw [← EK]; rfl
      rw [h] at HA
      rw [r] at HR
      obtain ⟨p, c, rfl⟩ := nds_formG hv
      clear EK hv hz hT h r
      go_enter Tryz.func15, Tryz.ntmps15
      go_wp2_with fail
      refine HA.out.mono ?_
      rintro e w1 ⟨rfl, b1⟩
      go_wp2_with fail
      refine (HR.out _ b1).mono ?_
      rintro e w2 ⟨rfl, b2⟩
      go_wp2_with fail
      go_ret
      exact ⟨ret_str E.out.symm, chain b1 b2⟩
    | true =>
      have hk : isK l id 32 = true := by rw [← EK.out, h, r]; rfl
      have hR := right_is.1 r
      have hr : 0 ≤ id ∧ id < (l.length : Int) := by
        apply Classical.byContradiction
        intro q
        rw [isA_out q] at h
        cases h
      obtain ⟨m, rfl⟩ : ∃ m : Nat, id = (m : Int) := ⟨id.toNat, by omega⟩
      have hm : m < l.length := by omega
      rw [h] at HA
      rw [r] at HR
      have HO := hide (fun W (hb : Below w.heap.size w W) => opValueOf_any v l m W (hv.below hb) hz hR hm)
      rw [← text_valA hk] at HO
      obtain ⟨p, c, rfl⟩ := nds_formG hv
      have i0 : (0 : Int) ≤ (m : Int) := by omega
      have i1 : (m : Int) < (l.length : Int) := by omega
      clear EK hv hz hT h r hk hR hr
      go_enter Tryz.func15, Tryz.ntmps15
      go_wp2_with fail
      refine HA.out.mono ?_
      rintro e w1 ⟨rfl, b1⟩
      go_wp2_with fail
      refine (HR.out _ b1).mono ?_
      rintro e w2 ⟨rfl, b2⟩
      have bb := chain b1 b2
      go_wp2_with fail
      refine (HO.out _ bb).mono ?_
      rintro e w3 ⟨rfl, b3⟩
      go_wp2_with fail
      go_ret
      exact ⟨rfl, chain bb b3⟩
end Go.Proofs.YtemikdmkjgmflaaGreatDoor

namespace Go.Proofs.YtemikdmkjgmflaaGreatDoor
open Go.RowKit
set_option maxRecDepth 100000
set_option maxHeartbeats 8000000 in
theorem optionLists_walk (v : Value) (l : List Nd) (id : Int) (w : World) (hv : NodesV w v l) (hz : DocSz l) (hT : OpTabs w) :
    Calls Tryz.prog 3 #[v, .int .i64 id] w fun e w' => e = .returned (.bool true) ∧ Below w.heap.size w w' := by
  have HV := hide hv
  have HZ := hide hz
  have HT := hide hT
  have HW := hide (opWakes_any w hT)
  have HC := hide (fun W (hb : Below w.heap.size w W) => refCopied_any v l W (HV.out.below hb) HZ.out)
  have H1 := hide (fun u W (hb : Below w.heap.size w W) (hu : NodesV W u l) => opList_any u l id W hu HZ.out (HT.out.below hb))
  have H2 := hide (fun W (hb : Below w.heap.size w W) => refOList_any v l id W (HV.out.below hb) HZ.out)
  have LF : Hid ((listP l id).length ≤ 17592186044416) := by
    show _ ≤ _
    by_cases hR : Right l
    · exact Nat.le_trans (list_few hR id) (by decide)
    · have : listP l id = [] := by
        unfold listP
        rw [if_neg (fun q => hR (by
          unfold isK hasN at q
          rw [Bool.and_eq_true, Bool.and_eq_true] at q
          exact right_is.1 q.1.2))]
      rw [this]; exact Nat.zero_le _
  have H3 := hide (fun va vb W (ha : IntsV W va (listP l id)) (hb : IntsV W vb (listP l id)) => refSameInts_any va vb (listP l id) (listP l id) W ha hb LF.out)
  rw [show decide (listP l id = listP l id) = true from decide_eq_true rfl] at H3
  have H4 := hide (fun u W (hb : Below w.heap.size w W) (hu : NodesV W u l) => opSize_any u l id W hu HZ.out (HT.out.below hb))
  have H5 := hide (fun W (hb : Below w.heap.size w W) => refOSize_any v l id W (HV.out.below hb) HZ.out)
  have H6 := hide (fun u W (hb : Below w.heap.size w W) (hu : NodesV W u l) => opOff_any u l id W hu HZ.out (HT.out.below hb))
  have H7 := hide (fun W (hb : Below w.heap.size w W) => refOff_any v l id W (HV.out.below hb) HZ.out)
  have H8 := hide (fun u W (hb : Below w.heap.size w W) (hu : NodesV W u l) => opText_any u l id W hu HZ.out (HT.out.below hb))
  have H9 := hide (fun W (hb : Below w.heap.size w W) => refOText_any v l id W (HV.out.below hb) HZ.out)
  generalize listP l id = lp at *
  generalize sizeP l id = sz at *
  generalize offP l id = off at *
  generalize textO l id = tx at *
  obtain ⟨p, k, rfl⟩ := nds_form hv
  clear hv hz hT LF HV HZ HT
  go_enter Tryz.func3, Tryz.ntmps3
  go_wp2_with fail
  refine HW.out.mono ?_
  rintro e w1 ⟨rfl, b1⟩
  go_wp2_with fail
  refine (HC.out _ b1).mono ?_
  rintro e w2 ⟨v2, L2, rfl, o2, e2, b2⟩
  have N2 : Hid (NodesV w2 v2 l) := by show NodesV _ _ _; rw [← e2]; exact o2.nodes
  obtain ⟨p2, k2, rfl⟩ := own_form o2 e2
  have B2 := hide (chain b1 b2)
  clear o2 e2 b1 b2
  go_wp2_with fail
  refine (H1.out _ _ B2.out N2.out).mono ?_
  rintro e w3 ⟨v3, rfl, i3, b3⟩
  have I3 := hide i3
  obtain ⟨p3, k3, rfl, _⟩ := i3
  have B3 := hide (chain B2.out b3)
  have N3 := hide (N2.out.below b3)
  clear b3 B2 N2
  go_wp2_with fail
  refine (H2.out _ B3.out).mono ?_
  rintro e w4 ⟨v4, rfl, i4, b4⟩
  have I4 := hide i4.ints
  have J4 := hide (I3.out.below b4)
  obtain ⟨p4, k4, rfl, _⟩ := i4.ints
  have B4 := hide (chain B3.out b4)
  have N4 := hide (N3.out.below b4)
  clear b4 B3 N3 i4 I3
  go_wp2_with fail
  refine (H3.out _ _ _ J4.out I4.out).mono ?_
  rintro e w5 ⟨rfl, m5, rfl⟩
  have B5 := hide (belRO B4.out m5)
  have N5 : Hid (NodesV (w4.drewN m5) (.slice p2 l.length k2) l) := N4.out.below ⟨rfl, rfl, rfl, Nat.le_refl _, fun _ _ => rfl⟩
  clear J4 I4 B4 N4
  generalize w4.drewN m5 = w5 at *
  go_wp2_with fail
  refine (H4.out _ _ B5.out N5.out).mono ?_
  rintro e w6 ⟨rfl, b6⟩
  have B6 := hide (chain B5.out b6)
  have N6 := hide (N5.out.below b6)
  clear b6 B5 N5
  go_wp2_with fail
  refine (H5.out _ B6.out).mono ?_
  rintro e w7 ⟨rfl, b7⟩
  have B7 := hide (chain B6.out b7)
  have N7 := hide (N6.out.below b7)
  clear b7 B6 N6
  go_wp2_with fail
  refine (H6.out _ _ B7.out N7.out).mono ?_
  rintro e w8 ⟨rfl, b8⟩
  have B8 := hide (chain B7.out b8)
  have N8 := hide (N7.out.below b8)
  clear b8 B7 N7
  go_wp2_with fail
  refine (H7.out _ B8.out).mono ?_
  rintro e w9 ⟨rfl, b9⟩
  have B9 := hide (chain B8.out b9)
  have N9 := hide (N8.out.below b9)
  clear b9 B8 N8
  go_wp2_with fail
  refine (H8.out _ _ B9.out N9.out).mono ?_
  rintro e w10 ⟨rfl, b10⟩
  have B10 := hide (chain B9.out b10)
  have N10 := hide (N9.out.below b10)
  clear b10 B9 N9
  go_wp2_with fail
  refine (H9.out _ B10.out).mono ?_
  rintro e w11 ⟨rfl, b11⟩
  have B11 := hide (chain B10.out b11)
  have N11 := hide (N10.out.below b11)
  clear b11 B10 N10
  go_wp2_with fail
  go_ret
  exact ⟨rfl, B11.out⟩

end Go.Proofs.YtemikdmkjgmflaaGreatDoor
