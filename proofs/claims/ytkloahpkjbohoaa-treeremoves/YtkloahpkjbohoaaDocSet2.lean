/- The program's Set of layer 10, of an attribute that is there; Unset. Conditions: as there. -/
import Derived.Test.YtkloahpkjbohoaaDocSet
namespace Go.Proofs.Ytkloahpkjbohoaa
open Go.RowKit

theorem cellsA_set2 : ∀ {ax : List (ByteArray × ByteArray)} {k : Nat} (h : k < ax.length) (v : ByteArray), (cellsA ax).set (k * 2 + 1) (.string v) = cellsA (ax.set k (ax[k].1, v))
  | a :: t, 0, _, v => rfl
  | a :: t, k + 1, h, v => by
    have := cellsA_set2 (ax := t) (k := k) (by simpa using h) v
    show (Value.string a.1 :: Value.string a.2 :: cellsA t).set ((k + 1) * 2 + 1) _ = Value.string a.1 :: Value.string a.2 :: cellsA (t.set k ((t[k]'(by simpa using h)).1, v))
    rw [show (k + 1) * 2 + 1 = (k * 2 + 1) + 1 + 1 by omega, List.set_cons_succ, List.set_cons_succ, this]
theorem called_predX (n : ByteArray) (w : World) (S : List Nat) (hS : w.heap.size ∉ S) : PredX 73 #[.pointer (some ⟨w.heap.size, 0, none⟩)] encA (isN n) S (w.alloc (.cells #[.string n] 9)) := fun W x hc =>
  called1_any n w.heap.size x W (hc.cell ((NB.new w [.string n] 9).cell 0 rfl) hS)
set_option maxHeartbeats 4000000 in
set_option maxRecDepth 100000 in
theorem set_old (v : Value) (l : List Nd) (m : Nat) (name value : ByteArray) (w : World) (hv : NodesV w v l) (hz : DocSz l) (hs : name.size ≤ maxLen) (hR : Right l) (hm : m < l.length) (h1 : noName l[m].name = false) (h2 : nameOk name = true) (h3 : value.size ≤ 4000) {k : Nat} (h4 : findA l[m].attrs name = some k) :
    Calls Try.prog 20 #[v, .int .i64 (m : Int), .string name, .string value] w fun e w' => ∃ v', e = .returned (.tuple #[v', .int .i64 0]) ∧ NodesV w' v' (setP l m name value) ∧ Below w.heap.size w w' := by
  have HC := hide (fun W (hb : Below w.heap.size w W) => copied_any v l W (hv.below hb) hR)
  have HCt := hide (fun W => clone_any value W (by omega))
  have HP := hide (isThere_any v l (m : Int) w hv hz)
  have e1 : hasN l (m : Int) = true := by unfold hasN; rw [decide_eq_true ⟨by omega, by omega⟩, right_is.2 hR]; rfl
  rw [e1] at HP
  obtain ⟨pp, cc, rfl, hv⟩ := hv
  rcases hv with hv | ⟨b, o, rfl, hv⟩
  · rw [hv] at hm; simp at hm
  obtain ⟨va, vk, N0⟩ := hv m hm
  have NW : Hid (∀ W, Below w.heap.size w W → NodeAt W b (o + m * 5) l[m] va vk) := fun W hb => N0.below hb
  have HT := hide (fun W => isText_any l[m].name l[m].text va l[m].parent vk W)
  have i0 : (0 : Int) ≤ (m : Int) := by omega
  have i1 : (m : Int) < (l.length : Int) := by omega
  have hlen := hR.len.2
  have HN := hide (fun W => isName_any name W hs)
  have ZA := hide (hz.nds l[m] (List.getElem_mem _)).attrs
  have zz := ZA.out
  rw [h1] at HT
  rw [h2] at HN
  obtain ⟨hk, hk1, _⟩ := find_some h4
  have t1 : ¬ (4000 : Int) < (value.size : Int) := by omega
  have hF : Hid (l[m].attrs.findIdx? (isN name) = some k) := h4
  have f1 : ¬ (k : Int) < 0 := by omega
  have f2 : findV (some k) = (k : Int) := rfl
  have k0 : (0 : Int) ≤ (k : Int) := by omega
  have k1 : (k : Int) < (l[m].attrs.length : Int) := by omega
  have H4 := hide h4
  have K1 := hide hk1
  clear hv N0 hz hR e1 h1 h2 h4 hk1
  go_enter Try.func20, Try.ntmps20
  go_wp2_with fail
  refine HP.out.mono ?_
  rintro e w1 ⟨rfl, b1⟩
  have a0 := (NW.out w1 b1).name
  have a1 := (NW.out w1 b1).text
  have a2 := (NW.out w1 b1).attrs
  have a3 := (NW.out w1 b1).parent
  have a4 := (NW.out w1 b1).kids
  go_wp2_with fail
  refine (HT.out _).mono ?_
  rintro e w2 ⟨rfl, b2⟩
  have B2 := hide (chain b1 b2)
  clear b1 b2 a0 a1 a2 a3 a4 HP HT
  go_wp2_with fail
  refine (HN.out _).mono ?_
  rintro e w3 ⟨rfl, hw⟩
  obtain rfl : w2 = w3 := hw.symm
  go_wp2_with fail
  have D2 := (NW.out w2 B2.out).attrs
  have HA := hide (NW.out w2 B2.out).at_
  have ln : b < w2.heap.size := World.block_lt_of_cell? _ _ D2
  have lne : b ≠ w2.heap.size := by omega
  have AB : Hid (∀ m, Below w2.heap.size w2 ((w2.alloc (.cells #[.string name] 9)).drewN m)) := fun m => bel_drewN ((Below.refl _ w2).alloc (Nat.le_refl _) _) m
  have HCF := hide (fun t => indexFuncA_any va l[m].attrs (isN name) 73 #[.pointer (some ⟨w2.heap.size, 0, none⟩)] entersCalled ((w2.alloc (.cells #[.string name] 9)).drewN t) (HA.out.below (AB.out t)) ((called_pred name w2).later (bel_drewN (Below.refl _ _) t)) ZA.out)
  rw [hF.out] at HCF
  go_region_held3 (fun w' => w'.cell? ⟨b, o + m * 5 + 2, none⟩ = some va) (first | go_keep | exact cell_below D2 (chain (AB.out 1) bb))
    (first | (go_at_call 57; refine (called_any name _).mono ?_; rintro e w' ⟨rfl, rfl⟩) | (go_at_call 56; refine (HCF.out 1).mono ?_; rintro e w4 ⟨rfl, bb⟩))
  have B4 : Hid (Below w.heap.size w w4) := chain B2.out (chain (AB.out 1) bb)
  have d2 := (NW.out w4 B4.out).attrs
  obtain ⟨pa, ca, eva, _⟩ := (NW.out w4 B4.out).at_
  clear bb AB HCF HA ln lne D2
  subst eva
  go_wp2_with fail
  refine (HC.out _ B4.out).mono ?_
  rintro e w5 ⟨v5, L, rfl, o5, l5, b5⟩
  have LL : L.length = l.length := by rw [← ndsOf_len, l5]
  have hmL : m < L.length := by omega
  have O5 := hide (OwnD.mono o5 B4.out.size)
  obtain ⟨G, cp, ev, eb, g0, g1, _⟩ := owns_at O5.out.row (by omega)
  have B5 := hide (chain B4.out b5)
  have NN : Hid (nd l m = L[m].n) := by show _ = _; rw [← l5]; exact ndsOf_at hmL
  have NA := O5.out.nodeAt eb hmL
  have c2 := NA.attrs
  have fz := owns_free O5.out.row eb (m * 5 + 2)
  have j1 : (m : Int) < (L.length : Int) := by omega
  have L5 := hide l5
  have EB := hide eb
  have nab : Hid (G ∉ blks L[m]) := own_ne O5.out hmL eb
  have AO : Hid (AttrsO w.heap.size w5 L[m].a l[m].attrs) := by
    have := O5.out.at_ L[m] (List.getElem_mem _)
    rw [← NN.out, nd_at hm] at this
    exact this
  have LH := hide LL
  clear o5 l5 b5 eb NA LL
  subst ev
  obtain ⟨ga, cpa, ea, eab, ga0, ga1, _⟩ := owns_at AO.out (by omega)
  have EA := hide ea
  have EAB := hide eab
  rw [ea] at c2
  have x1 := owns_cell AO.out eab (cellsA_at hk).2
  have xf := owns_free AO.out eab (k * 2 + 1)
  clear ea eab
  go_wp2_with fail
  have BW : Hid (w.heap.size ≤ w5.heap.size) := B5.out.size
  go_region_law (go_simp; go_at_call 44; refine (HCt.out _).mono ?_; rintro e wb ⟨rfl, bb⟩; have bB : Below w5.heap.size w5 wb := undrew bb; have d2 := cell_below c2 bB; have e1 := cell_below x1 bB; have ef := (bB.frozen (p := ⟨ga, k * 2 + 1, none⟩) ga1).trans xf)
  all_goals
    go_wp2_with fail
    go_ret2
    have AX : AttrsO w.heap.size (wb.setCell ⟨ga, k * 2 + 1, none⟩ (.string value)) L[m].a (l[m].attrs.set k (name, value)) := by
      have r := owns_set (owns_kept AO.out (Chg.of_below bB) (fun _ _ q => by cases q)) EAB.out (k * 2 + 1) (.string value)
      rw [cellsA_set2 hk value, K1.out] at r
      unfold AttrsO
      rw [List.length_set]
      exact r
    have C6 : Chg L[m].a.ownBlock.toList w5 (wb.setCell ⟨ga, k * 2 + 1, none⟩ (.string value)) := by
      rw [EAB.out]
      exact (Chg.of_below bB).nil.trans (Chg.setB _ _ _ _)
    have D := OwnD.inA O5.out hmL C6 AX (by rw [EB.out]; simp)
    have E : ndsOf (L.set m ⟨{ L[m].n with attrs := l[m].attrs.set k (name, value) }, L[m].a, L[m].k⟩) = setP l m name value := by
      rw [ndsOf_set, L5.out]
      unfold setP upd setA
      rw [nd_at hm, H4.out, ← NN.out, nd_at hm]
    have D2 := D.nodes
    rw [E] at D2
    exact ⟨_, rfl, D2, B5.out.trans (C6.below BW.out (fun k q => (World.ownsRow.lt AO.out k (opt_mem.1 q)).1))⟩

set_option maxHeartbeats 2000000 in
theorem unset_gone (v : Value) (l : List Nd) (id : Int) (name : ByteArray) (w : World) (hv : NodesV w v l) (hz : DocSz l) (hh : hasN l id = false) :
    Calls Try.prog 22 #[v, .int .i64 id, .string name] w fun e w' => e = .returned (.tuple #[.slice none 0 0, .int .i64 4]) ∧ Below w.heap.size w w' := by
  have HP := hide (isThere_any v l id w hv hz)
  rw [hh] at HP
  clear hv hz hh
  go_enter Try.func22, Try.ntmps22
  go_wp2_with fail
  refine HP.out.mono ?_
  rintro e w1 ⟨rfl, b1⟩
  go_wp2_with fail
  go_ret2
  exact ⟨rfl, b1⟩

set_option maxHeartbeats 2000000 in
theorem unset_kind (v : Value) (l : List Nd) (m : Nat) (name : ByteArray) (w : World) (hv : NodesV w v l) (hz : DocSz l) (hR : Right l) (hm : m < l.length) (h1 : noName l[m].name = true) :
    Calls Try.prog 22 #[v, .int .i64 (m : Int), .string name] w fun e w' => e = .returned (.tuple #[.slice none 0 0, .int .i64 3]) ∧ Below w.heap.size w w' := by
  have HP := hide (isThere_any v l (m : Int) w hv hz)
  have e1 : hasN l (m : Int) = true := by unfold hasN; rw [decide_eq_true ⟨by omega, by omega⟩, right_is.2 hR]; rfl
  rw [e1] at HP
  obtain ⟨pp, cc, rfl, hv⟩ := hv
  rcases hv with hv | ⟨b, o, rfl, hv⟩
  · rw [hv] at hm; simp at hm
  obtain ⟨va, vk, N0⟩ := hv m hm
  have NW : Hid (∀ W, Below w.heap.size w W → NodeAt W b (o + m * 5) l[m] va vk) := fun W hb => N0.below hb
  have HT := hide (fun W => isText_any l[m].name l[m].text va l[m].parent vk W)
  have i0 : (0 : Int) ≤ (m : Int) := by omega
  have i1 : (m : Int) < (l.length : Int) := by omega
  have hlen := hR.len.2
  rw [h1] at HT
  clear hv N0 hz hR e1 h1
  go_enter Try.func22, Try.ntmps22
  go_wp2_with fail
  refine HP.out.mono ?_
  rintro e w1 ⟨rfl, b1⟩
  have a0 := (NW.out w1 b1).name
  have a1 := (NW.out w1 b1).text
  have a2 := (NW.out w1 b1).attrs
  have a3 := (NW.out w1 b1).parent
  have a4 := (NW.out w1 b1).kids
  go_wp2_with fail
  refine (HT.out _).mono ?_
  rintro e w2 ⟨rfl, b2⟩
  have B2 := hide (chain b1 b2)
  clear b1 b2 a0 a1 a2 a3 a4 HP HT
  go_wp2_with fail
  go_ret2
  exact ⟨rfl, B2.out⟩

set_option maxHeartbeats 4000000 in
set_option maxRecDepth 100000 in
theorem unset_ok (v : Value) (l : List Nd) (m : Nat) (name : ByteArray) (w : World) (hv : NodesV w v l) (hz : DocSz l) (hR : Right l) (hm : m < l.length) (h1 : noName l[m].name = false) :
    Calls Try.prog 22 #[v, .int .i64 (m : Int), .string name] w fun e w' => ∃ v', e = .returned (.tuple #[v', .int .i64 0]) ∧ NodesV w' v' (unsetP l m name) ∧ Below w.heap.size w w' := by
  have HC := hide (fun W (hb : Below w.heap.size w W) => copied_any v l W (hv.below hb) hR)
  have HP := hide (isThere_any v l (m : Int) w hv hz)
  have e1 : hasN l (m : Int) = true := by unfold hasN; rw [decide_eq_true ⟨by omega, by omega⟩, right_is.2 hR]; rfl
  rw [e1] at HP
  obtain ⟨pp, cc, rfl, hv⟩ := hv
  rcases hv with hv | ⟨b, o, rfl, hv⟩
  · rw [hv] at hm; simp at hm
  obtain ⟨va, vk, N0⟩ := hv m hm
  have NW : Hid (∀ W, Below w.heap.size w W → NodeAt W b (o + m * 5) l[m] va vk) := fun W hb => N0.below hb
  have HT := hide (fun W => isText_any l[m].name l[m].text va l[m].parent vk W)
  have i0 : (0 : Int) ≤ (m : Int) := by omega
  have i1 : (m : Int) < (l.length : Int) := by omega
  have hlen := hR.len.2
  have ZA := hide (hz.nds l[m] (List.getElem_mem _)).attrs
  have zz := ZA.out
  rw [h1] at HT
  clear hv N0 hz hR e1 h1
  go_enter Try.func22, Try.ntmps22
  go_wp2_with fail
  refine HP.out.mono ?_
  rintro e w1 ⟨rfl, b1⟩
  have a0 := (NW.out w1 b1).name
  have a1 := (NW.out w1 b1).text
  have a2 := (NW.out w1 b1).attrs
  have a3 := (NW.out w1 b1).parent
  have a4 := (NW.out w1 b1).kids
  go_wp2_with fail
  refine (HT.out _).mono ?_
  rintro e w2 ⟨rfl, b2⟩
  have B2 := hide (chain b1 b2)
  clear b1 b2 a0 a1 a2 a3 a4 HP HT
  go_wp2_with fail
  refine (HC.out _ B2.out).mono ?_
  rintro e w5 ⟨v5, L, rfl, o5, l5, b5⟩
  have LL : L.length = l.length := by rw [← ndsOf_len, l5]
  have hmL : m < L.length := by omega
  have O5 := hide (OwnD.mono o5 B2.out.size)
  obtain ⟨G, cp, ev, eb, g0, g1, _⟩ := owns_at O5.out.row (by omega)
  have B5 := hide (chain B2.out b5)
  have NN : Hid (nd l m = L[m].n) := by show _ = _; rw [← l5]; exact ndsOf_at hmL
  have NA := O5.out.nodeAt eb hmL
  have c2 := NA.attrs
  have fz := owns_free O5.out.row eb (m * 5 + 2)
  have j1 : (m : Int) < (L.length : Int) := by omega
  have L5 := hide l5
  have EB := hide eb
  have nab : Hid (G ∉ blks L[m]) := own_ne O5.out hmL eb
  have AO : Hid (AttrsO w.heap.size w5 L[m].a l[m].attrs) := by
    have := O5.out.at_ L[m] (List.getElem_mem _)
    rw [← NN.out, nd_at hm] at this
    exact this
  have LH := hide LL
  clear o5 l5 b5 eb NA LL
  subst ev
  have BW : Hid (w.heap.size ≤ w5.heap.size) := B5.out.size
  have nS : Hid (w5.drew.heap.size ∉ L[m].a.ownBlock.toList) := fun q => by
    have := (World.ownsRow.lt AO.out _ (opt_mem.1 q)).2
    exact Nat.lt_irrefl _ this
  have C0 : Hid (Chg [] w5 (w5.drew.alloc (.cells #[.string name] 9))) := (Chg.drew _).trans (Chg.alloc _ _)
  have HD := hide (deleteFuncA_any w.heap.size L[m].a l[m].attrs (isN name) 73 #[.pointer (some ⟨w5.drew.heap.size, 0, none⟩)] entersCalled (w5.drew.alloc (.cells #[.string name] 9)) (owns_kept AO.out C0.out (fun _ _ q => by cases q)) (called_predX name w5.drew _ nS.out) ZA.out)
  have nG5 : G ≠ w5.heap.size := by omega
  have nG : Hid (G ∉ L[m].a.ownBlock.toList) := fun t => nab.out (List.mem_append_left _ t)
  have c2' := C0.out.cell c2 (by simp)
  go_wp2_with fail
  go_region_law (first
    | (go_simp; go_at_call 57; refine (called_any name _).mono ?_; rintro e w' ⟨rfl, rfl⟩)
    | (go_simp; go_at_call 59; refine HD.out.mono ?_; rintro e w6 ⟨q6, n6, c6, rfl, o6, ch6, bl6⟩; have C6 : Chg L[m].a.ownBlock.toList w5 w6 := C0.out.nil.trans ch6; have k2 := C6.cell c2 nG.out; have kf := owns_free (owns_kept O5.out.row C6 (fun k hk q => nG.out (by have e : G = k := Option.some.inj (EB.out.symm.trans hk); rw [e]; exact q))) EB.out (m * 5 + 2)))
  all_goals
    go_wp2_with fail
    go_ret2
    have EU : (l[m].attrs.filter fun x => !isN name x) = unsetA l[m].attrs name := by
      unfold unsetA
      congr 1
      funext x
      unfold isN
      rw [decide_not]
    rw [EU] at o6
    have D := OwnD.putA O5.out EB.out hmL C6 o6 (.inl bl6)
    have E : ndsOf (L.set m ⟨{ L[m].n with attrs := unsetA l[m].attrs name }, .slice q6 n6 c6, L[m].k⟩) = unsetP l m name := by
      rw [ndsOf_set, L5.out]
      unfold unsetP upd
      rw [nd_at hm, ← NN.out, nd_at hm]
    have D2 := D.nodes
    rw [E] at D2
    refine ⟨_, rfl, D2, B5.out.trans (Chg.below (S := G :: L[m].a.ownBlock.toList) ((C6.mono (fun k q _ => List.mem_cons_of_mem _ q)).trans ((Chg.setB _ _ _ _).mono (fun k q _ => by rw [List.mem_singleton.1 q]; exact List.mem_cons_self ..))) BW.out (fun k q => ?_))⟩
    rcases List.mem_cons.1 q with t | t
    · rw [t]; exact g0
    · exact (World.ownsRow.lt AO.out k (opt_mem.1 t)).1

end Go.Proofs.Ytkloahpkjbohoaa
