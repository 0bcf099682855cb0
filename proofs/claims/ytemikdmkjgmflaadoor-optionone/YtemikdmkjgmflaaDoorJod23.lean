/- The program's areReached, Right, isThere of layer 10. -/
import Derived.Test.YtemikdmkjgmflaaDoorJod21
import Derived.Laws.MakeOwn

namespace Go.Proofs.YtemikdmkjgmflaaDoor
open Go.RowKit
def rootsTo (l : List Nd) (i : Nat) : List Int := ((List.range i).filter fun i => (nd l i).parent == -1).map fun i : Nat => (i : Int)
theorem rootsTo_succ (l : List Nd) (i : Nat) : rootsTo l (i + 1) = rootsTo l i ++ (if (nd l i).parent = -1 then [(i : Int)] else []) := by
  unfold rootsTo
  rw [List.range_succ, List.filter_append, List.map_append]
  congr 1
  by_cases h : (nd l i).parent = -1
  · rw [if_pos h, List.filter_cons, if_pos (by rw [h]; rfl)]; rfl
  · rw [if_neg h, List.filter_cons, if_neg (by rw [beq_iff_eq]; exact h)]; rfl
theorem rootsTo_sub {l : List Nd} {i : Nat} (h : i ≤ l.length) : ((rootsTo l i).flatMap (downF l l.length)).length ≤ (allL l).length := by
  obtain ⟨k, hk⟩ : ∃ k, l.length = i + k := ⟨l.length - i, by omega⟩
  unfold allL rootsL rootsTo
  rw [show List.range l.length = List.range (i + k) by rw [hk], List.range_add, List.filter_append, List.map_append, List.flatMap_append, List.length_append]
  omega
theorem all_len {l : List Nd} (h : Linked l) : (allL l).length ≤ l.length := nodup_len _ _ (all_nodup h) fun _ hx => all_range h hx
set_option maxHeartbeats 4000000 in
set_option maxRecDepth 100000 in
theorem areReached_any (v : Value) (l : List Nd) (w : World) (hv : NodesV w v l) (h4 : l.length ≤ 400) (hl : Linked l) :
    Calls Tryd.prog 61 #[v] w fun e w' => e = .returned (.bool (decide ((allL l).length = l.length))) ∧ Below w.heap.size w w' := by
  have HV := hide hv
  obtain ⟨p, c, rfl, hv⟩ := hv
  have HP := hide hv
  obtain ⟨iI, hI0, hI1, hI2, hI3⟩ := info_parts infoI
  have MK := hide (fun w => run_make (P := Tryd.prog) w 41 3 iI (.int .i64 0) Tryd.underlying41 hI0 hI1 .i64 .i64 (0 : Int) (l.length : Int) (by omega) (by omega) (by rw [hI3]; omega) (by omega))
  rw [hI2] at MK
  have HLk := hide hl
  have HD := hide (fun (k : Int) (xs : List Int) (lv : Value) (W : World) => down_any w _ l HV.out l.length k xs lv W)
  have mk := fun w => MK.out w
  clear hv hl hI0 hI1 hI2 hI3
  go_enter Tryd.func61, Tryd.ntmps61
  go_wp2_with fail
  generalize hw1 : w.alloc (.cells (madeCells #[Value.int .i64 0] l.length) 3) = w1
  have K1 : Hid (KidsO w.heap.size w1 (.slice (some ⟨w.heap.size, 0, none⟩) 0 l.length) []) := by
    rw [← hw1]
    exact World.ownsRow_made w _ _ (Nat.le_refl _) (by unfold maxLen; omega) (by rw [size_madeCells]; simp)
  have B1 : Hid (Below w.heap.size w w1) := by rw [← hw1]; exact (Below.refl _ w).alloc (Nat.le_refl _) _
  clear hw1 mk MK
  go_loopw [3, 10] (fun sv iv wr => ∃ i : Nat, i ≤ l.length ∧ iv = .int .i64 i ∧ Hid (KidsO w.heap.size wr sv ((rootsTo l i).flatMap (downF l l.length))) ∧ Hid (Below w.heap.size w wr)) (fun _ iv _ => l.length - (intOf iv).toNat)
  case atStart => exact ⟨0, Nat.zero_le _, rfl, K1, B1⟩
  case round =>
    rename World => wr
    obtain ⟨i, hi, rfl, KO, BW⟩ := hrel
    clear K1 B1
    by_cases h : i < l.length
    · have i1 : (i : Int) < (l.length : Int) := by omega
      have i0 : (0 : Int) ≤ (i : Int) := by omega
      obtain ⟨b, o, rfl, hcell⟩ : ∃ b o, p = some ⟨b, o, none⟩ ∧ ∀ i (h : i < l.length), ∃ va vk, NodeAt w b (o + i * 5) l[i] va vk := by
        rcases HP.out with q | q
        · rw [q] at h; simp at h
        · exact q
      obtain ⟨va, vk, N0⟩ := hcell i h
      have a3 := (N0.below BW.out).parent
      have E := rootsTo_succ l i
      rw [nd_at h] at E
      have PI := hide (parI_nat h)
      have ER := hide E
      clear N0 hcell E
      by_cases q : l[i].parent = -1
      · have f1 : (l[i].parent == -1) = true := by rw [q]; rfl
        have f2 : (l[i].parent != -1) = false := by rw [q]; rfl
        have e1 : rootsTo l (i + 1) = rootsTo l i ++ [(i : Int)] := by rw [ER.out, if_pos q]
        have hs : Sub l l.length (i : Int) := root_sub HLk.out (mem_roots.2 ⟨⟨i0, i1⟩, by rw [PI.out, q]⟩)
        have e2 : (rootsTo l (i + 1)).flatMap (downF l l.length) = (rootsTo l i).flatMap (downF l l.length) ++ downF l l.length (i : Int) := by rw [e1, List.flatMap_append, List.flatMap_singleton]
        have L1 := rootsTo_sub (l := l) (i := i + 1) (by omega)
        have L2 := all_len HLk.out
        have HC := hide (HD.out (i : Int) _ _ wr BW.out KO.out hs (by rw [e2, List.length_append] at L1; omega))
        rw [← e2] at HC
        clear q e1 hs e2 L1 L2 ER PI KO HD
        generalize l[i].parent = pm at *
        go_wp2_with fail
        refine HC.out.mono ?_
        rintro e w2 ⟨v2, rfl, k2, b2⟩
        go_wp2_with fail
        go_roundw
        case rel => exact ⟨i + 1, by omega, by go_num, k2, b2⟩
        case measure => simp [intOf]; omega
      · have f1 : (l[i].parent == -1) = false := by rw [beq_eq_false_iff_ne]; exact q
        have f2 : (l[i].parent != -1) = true := by rw [bne_iff_ne]; exact q
        have e1 : rootsTo l (i + 1) = rootsTo l i := by rw [ER.out, if_neg q, List.append_nil]
        have KO' := hide KO.out
        rw [← e1] at KO'
        clear q e1 ER PI KO HD
        generalize l[i].parent = pm at *
        go_wp2_with fail
        go_roundw
        case rel => exact ⟨i + 1, by omega, by go_num, KO', BW⟩
        case measure => simp [intOf]; omega
    · obtain rfl : i = l.length := by omega
      have KF := KO.out
      have e1 : (rootsTo l l.length).flatMap (downF l l.length) = allL l := rfl
      rw [e1] at KF
      obtain ⟨pp, cc, ev, _⟩ := KF.ints
      have E : Hid ((((allL l).length : Int) == (l.length : Int)) = decide ((allL l).length = l.length)) := by
        show _ = _
        by_cases t : (allL l).length = l.length
        · rw [decide_eq_true t, t]; simp
        · rw [decide_eq_false t, beq_eq_false_iff_ne]; omega
      clear KF e1 KO h HD
      subst ev
      go_wp2_with fail
      go_ret
      exact ⟨ret_bool E.out, BW.out⟩
theorem not_right {l : List Nd} (h : ¬ Right l) : rightB l = false := by
  cases q : rightB l with
  | false => rfl
  | true => exact absurd (right_is.1 q) h
set_option maxHeartbeats 4000000 in
set_option maxRecDepth 100000 in
theorem right_any (v : Value) (l : List Nd) (w : World) (hv : NodesV w v l) (hz : DocSz l) :
    Calls Tryd.prog 45 #[v] w fun e w' => e = .returned (.bool (rightB l)) ∧ Below w.heap.size w w' := by
  have HV := hide hv
  obtain ⟨p, c, rfl, hv⟩ := hv
  have HP := hide hv
  have hlen := hz.len
  have HZ := hide hz
  clear hv hz
  by_cases h1 : l.length < 1
  · have E := hide (not_right (l := l) (fun r => by have := r.len; omega))
    have i1 : (l.length : Int) < 1 := by omega
    clear h1
    go_enter Tryd.func45, Tryd.ntmps45
    go_wp2_with fail
    go_ret
    exact ⟨ret_bool E.out.symm, Below.refl _ _⟩
  by_cases h2 : 400 < l.length
  · have E := hide (not_right (l := l) (fun r => by have := r.len; omega))
    have i1 : ¬ (l.length : Int) < 1 := by omega
    have i2 : (400 : Int) < (l.length : Int) := by omega
    clear h1 h2
    go_enter Tryd.func45, Tryd.ntmps45
    go_wp2_with fail
    go_ret
    exact ⟨ret_bool E.out.symm, Below.refl _ _⟩
  have i1 : ¬ (l.length : Int) < 1 := by omega
  have i2 : ¬ (400 : Int) < (l.length : Int) := by omega
  have i3 : decide ((400 : Int) < (l.length : Int)) = false := decide_eq_false i2
  have n4 : l.length ≤ 400 := by omega
  have p0 : 0 < l.length := by omega
  have i4 : (0 : Int) < (l.length : Int) := by omega
  obtain ⟨b, o, rfl, hcell⟩ : ∃ b o, p = some ⟨b, o, none⟩ ∧ ∀ i (h : i < l.length), ∃ va vk, NodeAt w b (o + i * 5) l[i] va vk := by
    rcases HP.out with q | q
    · rw [q] at p0; simp at p0
    · exact q
  have HC := hide hcell
  obtain ⟨va, vk, N0⟩ := hcell 0 p0
  rw [Nat.zero_mul, Nat.add_zero] at N0
  have a0 := N0.name
  have a1 := N0.text
  have a2 := N0.attrs
  have a3 := N0.parent
  have a4 := N0.kids
  have NW : Hid (∀ W, Below w.heap.size w W → NodeAt W b o l[0] va vk) := fun W hb => N0.below hb
  have HT := hide (fun W => isText_any l[0].name l[0].text va l[0].parent vk W)
  have e0 : nd l 0 = l[0] := nd_at p0
  clear hcell N0 HP h1 h2
  cases q1 : noName l[0].name with
  | true =>
    have E := hide (not_right (l := l) (fun r => r.head (by rw [e0]; unfold noName at q1; exact beq_iff_eq.1 q1)))
    rw [q1] at HT
    clear q1 e0
    go_enter Tryd.func45, Tryd.ntmps45
    go_wp2_with fail
    refine (HT.out _).mono ?_
    rintro e w1 ⟨rfl, b1⟩
    go_wp2_with fail
    go_ret
    exact ⟨ret_bool E.out.symm, b1⟩
  | false =>
    rw [q1] at HT
    have NH : Hid (¬ (nd l 0).name.size = 0) := by rw [e0]; intro t; unfold noName at q1; rw [t] at q1; cases q1
    clear q1
    by_cases q2 : l[0].parent = -1
    rotate_left
    · have E := hide (not_right (l := l) (fun r => q2 (by rw [← e0]; exact r.root)))
      have f1 : (l[0].parent != -1) = true := by rw [bne_iff_ne]; exact q2
      have f2 : (l[0].parent == -1) = false := by rw [beq_eq_false_iff_ne]; exact q2
      clear q2 e0
      go_enter Tryd.func45, Tryd.ntmps45
      go_wp2_with fail
      refine (HT.out _).mono ?_
      rintro e w1 ⟨rfl, b1⟩
      have d3 := (NW.out w1 b1).parent
      go_wp2_with fail
      go_ret
      exact ⟨ret_bool E.out.symm, b1⟩
    have f1 : (l[0].parent != -1) = false := by rw [q2]; rfl
    have f2 : (l[0].parent == -1) = true := by rw [q2]; rfl
    have RT : Hid ((nd l 0).parent = -1) := by rw [e0]; exact q2
    clear e0 q2
    go_enter Tryd.func45, Tryd.ntmps45
    go_wp2_with fail
    refine (HT.out _).mono ?_
    rintro e w1 ⟨rfl, b1⟩
    have d3 := (NW.out w1 b1).parent
    go_wp2_with fail
    have B1 := hide b1
    clear b1 d3 a0 a1 a2 a3 a4 NW HT f1 f2
    go_loopw [27] (fun iv wr => ∃ i : Nat, i ≤ l.length ∧ iv = .int .i64 i ∧ Hid (∀ j, j < i → aloneB (nd l j) = true) ∧ Hid (Below w.heap.size w wr)) (fun iv _ => l.length - (intOf iv).toNat)
    case atStart => exact ⟨0, Nat.zero_le _, rfl, fun j q => by omega, B1⟩
    case round =>
      rename World => wr
      obtain ⟨i, hi, rfl, AL, BW⟩ := hrel
      clear B1
      by_cases h : i < l.length
      · have j1 : (i : Int) < (l.length : Int) := by omega
        have j0 : (0 : Int) ≤ (i : Int) := by omega
        obtain ⟨va, vk, N0⟩ := HC.out i h
        have HF := hide (isFormed_any b (o + i * 5) l[i] va vk wr (N0.below BW.out) (HZ.out.nds l[i] (List.getElem_mem _)))
        have e0 : nd l i = l[i] := nd_at h
        clear N0
        cases q : aloneB l[i] with
        | false =>
          have E := hide (not_right (l := l) (fun r => by have := r.alone i h; rw [e0, q] at this; cases this))
          rw [q] at HF
          clear q e0
          go_wp2_with fail
          refine HF.out.mono ?_
          rintro e w2 ⟨rfl, b2⟩
          go_wp2_with fail
          go_ret
          exact ⟨ret_bool E.out.symm, chain BW.out b2⟩
        | true =>
          have E : Hid (∀ j, j < i + 1 → aloneB (nd l j) = true) := fun j hj => by
            rcases Nat.lt_or_ge j i with t | t
            · exact AL.out j t
            · obtain rfl : j = i := by omega
              rw [e0]; exact q
          rw [q] at HF
          clear q e0 AL
          go_wp2_with fail
          refine HF.out.mono ?_
          rintro e w2 ⟨rfl, b2⟩
          go_wp2_with fail
          go_roundw
          case rel => exact ⟨i + 1, by omega, by go_num, E, chain BW.out b2⟩
          case measure => simp [intOf]; omega
      · obtain rfl : i = l.length := by omega
        have HL := hide (areLinked_any _ l wr (HV.out.below BW.out) HZ.out n4)
        have HR := hide (fun (hl : Linked l) W (hb : Below w.heap.size w W) => areReached_any _ l W (HV.out.below hb) n4 hl)
        clear h
        go_wp2_with fail
        refine HL.out.mono ?_
        rintro e w2 ⟨⟨r, rfl, hr⟩, b2⟩
        have HR2 := hide hr
        clear hr
        cases r with
        | false =>
          have E := hide (not_right (l := l) (fun r => by have := HR2.out.2 (right_linked r); cases this))
          clear HL HR HR2
          go_wp2_with fail
          go_ret
          exact ⟨ret_bool E.out.symm, chain BW.out b2⟩
        | true =>
          have LK := HR2.out.1 rfl
          have HR' := hide (HR.out LK w2 (chain BW.out b2))
          by_cases t : (allL l).length = l.length
          · have E := hide (right_is.2 (right_of (l := l) ⟨p0, n4⟩ NH.out RT.out (fun i hi => AL.out i hi) LK t))
            rw [decide_eq_true t] at HR'
            clear HL HR HR2 t LK
            go_wp2_with fail
            refine HR'.out.mono ?_
            rintro e w3 ⟨rfl, b3⟩
            go_wp2_with fail
            go_ret
            exact ⟨ret_bool E.out.symm, chain (chain BW.out b2) b3⟩
          · have E := hide (not_right (l := l) (fun r => t (right_reached r)))
            rw [decide_eq_false t] at HR'
            clear HL HR HR2 t LK
            go_wp2_with fail
            refine HR'.out.mono ?_
            rintro e w3 ⟨rfl, b3⟩
            go_wp2_with fail
            go_ret
            exact ⟨ret_bool E.out.symm, chain (chain BW.out b2) b3⟩

end Go.Proofs.YtemikdmkjgmflaaDoor
