/- The document's without and Remove of layer 10: 'remP', or an error. Conditions: a document as it lies in the world; rows of at most 2^47 bytes. -/
import Derived.Test.YtkloahpkjbohoaaDocV
import Derived.Test.YtkloahpkjbohoaaDocC1
import Derived.Test.YtkloahpkjbohoaaDocR4
import Derived.Test.YtkloahpkjbohoaaDocJ
namespace Go.Proofs.Ytkloahpkjbohoaa
open Go.RowKit

def wout (ks : List Int) (n : Int) : List Int := ks.filter fun x => decide (x ≠ n)
theorem wout_take {ks : List Int} {k : Nat} (h : k < ks.length) (n : Int) : wout (ks.take (k + 1)) n = wout (ks.take k) n ++ (if ks[k] = n then [] else [ks[k]]) := by
  unfold wout
  rw [List.take_succ_eq_append_getElem h, List.filter_append]
  congr 1
  by_cases q : ks[k] = n
  · rw [if_pos q]; simp [q]
  · rw [if_neg q]; simp [q]
theorem wout_len (ks : List Int) (n : Int) : (wout ks n).length ≤ ks.length := List.length_filter_le _ _

set_option maxHeartbeats 4000000 in
set_option maxRecDepth 100000 in
theorem refWithout_any (v : Value) (ks : List Int) (n : Int) (w : World) (hv : IntsV w v ks) (hl : ks.length ≤ 4398046511104) :
    Calls Try.prog 55 #[v, .int .i64 n] w fun e w' => ∃ q c, e = .returned (.slice q (wout ks n).length c) ∧ KidsO w.heap.size w' (.slice q (wout ks n).length c) (wout ks n) ∧ Below w.heap.size w w' := by
  obtain ⟨p, c, rfl, hv⟩ := hv
  have HV := hide hv
  obtain ⟨iI, hI0, hI1, hI2, hI3⟩ := info_parts infoI
  clear hv
  go_enter Try.func55, Try.ntmps55
  go_wp2_with fail
  go_loopw [5, 6] (fun ov iv wr => ∃ k : Nat, k ≤ ks.length ∧ iv = .int .i64 k ∧ Hid (KidsO w.heap.size wr ov (wout (ks.take k) n)) ∧ Hid (Below w.heap.size w wr)) (fun _ iv _ => ks.length - (intOf iv).toNat)
  case atStart => exact ⟨0, Nat.zero_le _, rfl, World.ownsRow_nil _ _ _ _, Below.refl _ _⟩
  case round =>
    rename World => wr
    obtain ⟨k, hk, rfl, OU, BB⟩ := hrel
    by_cases h : k < ks.length
    · have k1 : (k : Int) < (ks.length : Int) := by omega
      have k0 : (0 : Int) ≤ (k : Int) := by omega
      obtain ⟨b, o, rfl, hc⟩ : ∃ b o, p = some ⟨b, o, none⟩ ∧ ∀ i (h : i < ks.length), w.cell? ⟨b, o + i, none⟩ = some (.int .i64 ks[i]) := by
        rcases HV.out with t | t
        · rw [t] at h; simp at h
        · exact t
      have x0 := cell_below (hc k h) BB.out
      have UT := hide (wout_take h n)
      have UL : Hid ((wout (ks.take k) n).length ≤ k) := Nat.le_trans (wout_len _ _) (by rw [List.length_take]; omega)
      clear hc HV
      obtain ⟨y, hy⟩ : ∃ y, Hid (ks[k] = y) := ⟨_, show _ = _ from rfl⟩
      rw [hy.out] at x0 UT
      by_cases q : y = n
      · have tb : (y == n) = true := by rw [q]; exact beq_self_eq_true n
        rw [if_pos q, List.append_nil] at UT
        clear q
        go_wp2_with fail
        go_roundw
        case rel => exact ⟨k + 1, by omega, by go_num, by show KidsO _ _ _ _; rw [UT.out]; exact OU.out, BB⟩
        case measure => simp [intOf]; omega
      · have tb : (y == n) = false := by rw [beq_eq_false_iff_ne]; exact q
        rw [if_neg q] at UT
        clear q
        have CB : Hid (Chg [] wr (wr.alloc (.cells #[.int .i64 y] 3))) := Chg.alloc _ _
        have OW := hide (owns_kept OU.out CB.out (fun _ _ q => by cases q))
        have R6 := hide ((NB.new wr [.int .i64 y] 3).raw 1 1 rfl 1)
        have W6 : Hid (w.heap.size ≤ (wr.alloc (.cells #[.int .i64 y] 3)).heap.size) := Nat.le_trans BB.out.size CB.out.size
        have ul := UL.out
        go_wp2_with (at_builtin; refine wpList_append_raw rfl _ _ _ rfl w.heap.size 3 iI _ 1 8 Try.underlying43 hI0 hI1 hI2 hI3 rfl (by omega) _ (wout (ks.take k) n).length (cellsI (wout (ks.take k) n)) rfl OW.out (.slice (some ⟨wr.heap.size, 0, none⟩) 1 1) 1 [.int .i64 y] rfl R6.out (by simp [Value.oneCell']) (by unfold maxLen; omega) (by omega) W6.out ?_; intro q6 c6 w6 own6 gr6 at6)
        go_roundw
        case rel =>
          refine ⟨k + 1, by omega, by go_num, ?_, ?_⟩
          · show KidsO _ _ _ _
            rw [UT.out]
            unfold KidsO
            rw [List.length_append, cellsI_app]
            exact own6
          · exact BB.out.trans (Chg.below (CB.out.nil.trans (Chg.of_grown gr6)) BB.out.size (fun k q => (World.ownsRow.lt OU.out k (opt_mem.1 q)).1))
        case measure => simp [intOf]; omega
    · obtain rfl : k = ks.length := by omega
      have OF : Hid (KidsO w.heap.size wr u5 (wout ks n)) := by have := OU.out; rw [List.take_length] at this; exact this
      obtain ⟨qu, cu, eu, _⟩ := OF.out.ints
      clear h OU
      subst eu
      go_wp2_with fail
      go_ret
      exact ⟨qu, cu, rfl, OF.out, BB.out⟩

set_option maxHeartbeats 2000000 in
theorem refRemove_gone (v : Value) (l : List Nd) (id : Int) (w : World) (hv : NodesV w v l) (hz : DocSz l) (hh : hasN l id = false) :
    Calls Try.prog 19 #[v, .int .i64 id] w fun e w' => e = .returned (.tuple #[.slice none 0 0, .int .i64 4]) ∧ Below w.heap.size w w' := by
  have HP := hide (refHas_any v l id w hv hz)
  rw [hh] at HP
  clear hv hz hh
  go_enter Try.func19, Try.ntmps19
  go_wp2_with fail
  refine HP.out.mono ?_
  rintro e w1 ⟨rfl, b1⟩
  go_wp2_with fail
  go_ret2
  exact ⟨rfl, b1⟩

set_option maxHeartbeats 2000000 in
theorem refRemove_root (v : Value) (l : List Nd) (m : Nat) (w : World) (hv : NodesV w v l) (hz : DocSz l) (hR : Right l) (hm : m < l.length) (h1 : l[m].parent = -1) :
    Calls Try.prog 19 #[v, .int .i64 (m : Int)] w fun e w' => e = .returned (.tuple #[.slice none 0 0, .int .i64 8]) ∧ Below w.heap.size w w' := by
  have HP := hide (refHas_any v l (m : Int) w hv hz)
  have e1 : hasN l (m : Int) = true := by unfold hasN; rw [decide_eq_true ⟨by omega, by omega⟩, right_is.2 hR]; rfl
  rw [e1] at HP
  obtain ⟨pp, cc, rfl, hv⟩ := hv
  rcases hv with hv | ⟨b, o, rfl, hv⟩
  · rw [hv] at hm; simp at hm
  obtain ⟨va, vk, N0⟩ := hv m hm
  have NW : Hid (∀ W, Below w.heap.size w W → NodeAt W b (o + m * 5) l[m] va vk) := fun W hb => N0.below hb
  have i0 : (0 : Int) ≤ (m : Int) := by omega
  have i1 : (m : Int) < (l.length : Int) := by omega
  have hlen := hR.len.2
  clear hv N0 hz hR e1
  go_enter Try.func19, Try.ntmps19
  go_wp2_with fail
  refine HP.out.mono ?_
  rintro e w1 ⟨rfl, b1⟩
  have a3 := (NW.out w1 b1).parent
  rw [h1] at a3
  go_wp2_with fail
  go_ret2
  exact ⟨rfl, b1⟩

set_option maxHeartbeats 4000000 in
set_option maxRecDepth 100000 in
theorem refRemove_ok (v : Value) (l : List Nd) (m : Nat) (w : World) (hv : NodesV w v l) (hz : DocSz l) (hR : Right l) (hm : m < l.length) (h1 : ¬ l[m].parent = -1) :
    Calls Try.prog 19 #[v, .int .i64 (m : Int)] w fun e w' => ∃ v', e = .returned (.tuple #[v', .int .i64 0]) ∧ NodesV w' v' (remP l m) ∧ Below w.heap.size w w' := by
  have HP := hide (refHas_any v l (m : Int) w hv hz)
  have e1 : hasN l (m : Int) = true := by unfold hasN; rw [decide_eq_true ⟨by omega, by omega⟩, right_is.2 hR]; rfl
  rw [e1] at HP
  have HC := hide (fun W (hb : Below w.heap.size w W) => refCopied_any v l W (hv.below hb) hz)
  have pr := hR.par m hm
  rw [nd_at hm] at pr
  obtain ⟨p, hpp⟩ : ∃ p : Nat, l[m].parent = (p : Int) := ⟨l[m].parent.toNat, by have := pr.1; omega⟩
  have hp : p < l.length := by have := pr.2; omega
  have pne : ¬ p = m := par_ne hR hm (by rw [nd_at hm]; exact hpp)
  have KL : Hid (l[p].kids.length ≤ 400) := (right_texts hR hp).2.2.2.2
  obtain ⟨pp, cc, rfl, hv⟩ := hv
  rcases hv with hv | ⟨b, o, rfl, hv⟩
  · rw [hv] at hm; simp at hm
  obtain ⟨va, vk, N0⟩ := hv m hm
  have NW : Hid (∀ W, Below w.heap.size w W → NodeAt W b (o + m * 5) l[m] va vk) := fun W hb => N0.below hb
  have i0 : (0 : Int) ≤ (m : Int) := by omega
  have i1 : (m : Int) < (l.length : Int) := by omega
  have p0 : (0 : Int) ≤ (p : Int) := by omega
  have p1 : (p : Int) < (l.length : Int) := by omega
  have p2 : ¬ (p : Int) < 0 := by omega
  have ne1 : ¬ m * 5 + 3 = p * 5 + 4 := by omega
  have ne2 : ¬ p * 5 + 4 = m * 5 + 3 := by omega
  have hlen := hR.len.2
  have HPP := hide hpp
  clear hv N0 hz hR e1 pr h1
  go_enter Try.func19, Try.ntmps19
  go_wp2_with fail
  refine HP.out.mono ?_
  rintro e w1 ⟨rfl, b1⟩
  have a3 := (NW.out w1 b1).parent
  rw [hpp] at a3
  clear hpp
  go_wp2_with fail
  refine (HC.out _ b1).mono ?_
  rintro e w5 ⟨v5, L, rfl, o5, l5, b5⟩
  have B5 := hide (chain b1 b5)
  have LL : L.length = l.length := by rw [← ndsOf_len, l5]
  have O5 := hide (OwnD.mono o5 b1.size)
  have hmL : m < L.length := by omega
  have hpL : p < L.length := by omega
  obtain ⟨G, cp, ev, eb, g0, g1, _⟩ := owns_at O5.out.row (by omega)
  have NM : Hid (l[m] = L[m].n) := by show _ = _; rw [← nd_at hm, ← l5]; exact ndsOf_at hmL
  have NP : Hid (l[p] = L[p].n) := by show _ = _; rw [← nd_at hp, ← l5]; exact ndsOf_at hpL
  have c3 := (O5.out.nodeAt eb hmL).parent
  have c4 := (O5.out.nodeAt eb hpL).kids
  have f3 := owns_free O5.out.row eb (m * 5 + 3)
  have f4 := owns_free O5.out.row eb (p * 5 + 4)
  have j1 : (m : Int) < (L.length : Int) := by omega
  have j2 : (p : Int) < (L.length : Int) := by omega
  have KO : Hid (KidsO w.heap.size w5 L[p].k l[p].kids) := by
    have := O5.out.ks L[p] (List.getElem_mem _)
    rw [← NP.out] at this
    exact this
  have HW := hide (refWithout_any L[p].k l[p].kids (m : Int) w5 KO.out.ints (by have := KL.out; omega))
  have L5 := hide l5
  have EB := hide eb
  have LH := hide LL
  clear o5 l5 b5 b1 a3 LL HP HC eb
  subst ev
  go_wp2_with fail
  refine HW.out.mono ?_
  rintro e w6 ⟨q6, c6, rfl, o6, b6⟩
  have k3 := cell_below c3 b6
  have k4 := cell_below c4 b6
  have kf3 := (b6.frozen (p := ⟨G, m * 5 + 3, none⟩) g1).trans f3
  have kf4 := (b6.frozen (p := ⟨G, p * 5 + 4, none⟩) g1).trans f4
  have O6 := hide o6
  have B6 := hide b6
  clear o6 b6 c3 c4 f3 f4 HW
  go_wp2_with fail
  go_ret2
  have D1 := OwnD.putK O5.out EB.out hpL (w1 := w6) (Chg.of_below B6.out).nil (owns_mono O6.out B5.out.size) (.inr (fun k hk => (World.ownsRow.lt O6.out k hk).1))
  have hm2 : m < (L.set p ⟨{ L[p].n with kids := wout l[p].kids (m : Int) }, L[p].a, .slice q6 (wout l[p].kids (m : Int)).length c6⟩).length := by rw [List.length_set]; exact hmL
  have D2 := OwnD.putP D1 EB.out hm2 (-1)
  have E : ndsOf ((L.set p ⟨{ L[p].n with kids := wout l[p].kids (m : Int) }, L[p].a, .slice q6 (wout l[p].kids (m : Int)).length c6⟩).set m ⟨{ (L.set p ⟨{ L[p].n with kids := wout l[p].kids (m : Int) }, L[p].a, .slice q6 (wout l[p].kids (m : Int)).length c6⟩)[m].n with parent := -1 }, (L.set p ⟨{ L[p].n with kids := wout l[p].kids (m : Int) }, L[p].a, .slice q6 (wout l[p].kids (m : Int)).length c6⟩)[m].a, (L.set p ⟨{ L[p].n with kids := wout l[p].kids (m : Int) }, L[p].a, .slice q6 (wout l[p].kids (m : Int)).length c6⟩)[m].k⟩) = remP l m := by
    have X : (L.set p ⟨{ L[p].n with kids := wout l[p].kids (m : Int) }, L[p].a, .slice q6 (wout l[p].kids (m : Int)).length c6⟩)[m] = L[m] := List.getElem_set_ne pne _
    rw [ndsOf_set, ndsOf_set, X, L5.out]
    unfold remP cutK
    rw [nd_at hm, HPP.out, if_neg (by omega), Int.toNat_natCast]
    unfold upd
    rw [nd_at hp, ← NP.out, ← NM.out]
    have Y : nd (l.set p { l[p] with kids := l[p].kids.filter fun x => decide (x ≠ (m : Int)) }) m = l[m] := by
      rw [nd_at (by rw [List.length_set]; exact hm), List.getElem_set_ne pne]
    rw [Y]
    rfl
  have N2 := D2.nodes
  rw [E] at N2
  have CG : ∀ (W : World) (j : Nat) (u : Value), Chg [G] W (W.setCell ⟨G, j, none⟩ u) := fun W j u => Chg.setB W G j u
  exact ⟨_, rfl, N2, B5.out.trans (Chg.below (((Chg.of_below B6.out).nil.trans (CG _ _ _)).trans (CG _ _ _)) B5.out.size (fun k q => by rw [List.mem_singleton.1 q]; exact g0))⟩

end Go.Proofs.Ytkloahpkjbohoaa
