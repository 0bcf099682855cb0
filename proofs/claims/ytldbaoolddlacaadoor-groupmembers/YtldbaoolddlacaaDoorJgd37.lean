/- The document's Has, Is, Owner, Off of layer 15. The document's Together, Members of layer 17. Stage 17's wakes and its law GroupMembers, walked. -/
import Derived.Test.YtldbaoolddlacaaDoorJgd30
import Derived.Test.YtldbaoolddlacaaDoorJgd32
import Derived.Test.YtldbaoolddlacaaDoorJgd38
import Derived.Test.YtldbaoolddlacaaDoorJgd39

namespace Go.Proofs.YtldbaoolddlacaaDoor
open Go.RowKit
set_option maxRecDepth 100000
set_option maxHeartbeats 4000000 in
theorem refIs_any (v : Value) (l : List Nd) (id k : Int) (w : World) (hv : NodesV w v l) (hz : DocSz l) :
    Calls Tryd.prog 18 #[v, .int .i64 id, .int .i64 k] w fun e w' => e = .returned (.bool (isK l id k)) ∧ Below w.heap.size w w' := by
  have HH := hide (refHas_any v l id w hv hz)
  cases h : hasN l id with
  | false =>
    have E : Hid (isK l id k = false) := by show _ = _; unfold isK; rw [h]; rfl
    rw [h] at HH
    obtain ⟨p, c, rfl, _⟩ := hv
    clear h hz
    go_enter Tryd.func18, Tryd.ntmps18
    go_wp2_with fail
    refine HH.out.mono ?_
    rintro e w1 ⟨rfl, b1⟩
    go_wp2_with fail
    go_ret
    exact ⟨ret_bool E.out.symm, b1⟩
  | true =>
    obtain ⟨m, hI⟩ := Is.of h
    obtain ⟨rfl, h0⟩ := (⟨hI.eq, hI.lt⟩ : id = (m : Int) ∧ m < l.length)
    have sz := right_attrsO hI.right h0
    have hlen := hI.right.len.2
    have E : Hid ((kOf l[m].name (tyOf l[m].attrs) == k) = isK l (m : Int) k) := by
      show _ = _
      unfold isK kN
      rw [h, Int.toNat_natCast, nd_at h0, Bool.true_and]
      rfl
    rw [nd_at h0] at sz
    rw [h] at HH
    obtain ⟨p, c, rfl, hv⟩ := hv
    rcases hv with hv | ⟨b, o, rfl, hv⟩
    · rw [hv] at h0; simp at h0
    obtain ⟨va, vk, N0⟩ := hv m h0
    have N1 := hide N0
    have HO := hide (fun W (hb : Below w.heap.size w W) => refOf_any l[m] va vk W (N1.out.at_.below hb) (by omega) (fun a q => by have := sz.2 a q; omega))
    have i0 : (0 : Int) ≤ (m : Int) := by omega
    have i1 : (m : Int) < (l.length : Int) := by omega
    clear h hz hI hv N0 sz
    generalize kOf l[m].name (tyOf l[m].attrs) = z at *
    go_enter Tryd.func18, Tryd.ntmps18
    go_wp2_with fail
    refine HH.out.mono ?_
    rintro e w1 ⟨rfl, b1⟩
    have a0 := cell_below N1.out.name b1
    have a1 := cell_below N1.out.text b1
    have a2 := cell_below N1.out.attrs b1
    have a3 := cell_below N1.out.parent b1
    have a4 := cell_below N1.out.kids b1
    go_wp2_with fail
    refine (HO.out _ b1).mono ?_
    rintro e w2 ⟨rfl, b2⟩
    go_wp2_with fail
    go_ret
    exact ⟨ret_bool E.out, chain b1 b2⟩
-- more
theorem nat_of {z : Int} {n : Nat} (h : ¬ z < 0) (h1 : z < (n : Int)) : ∃ p : Nat, z = (p : Int) ∧ p < n := ⟨z.toNat, by omega, by omega⟩
end Go.Proofs.YtldbaoolddlacaaDoor

namespace Go.Proofs.YtldbaoolddlacaaDoor
open Go.RowKit
set_option maxRecDepth 100000
set_option maxHeartbeats 8000000 in
theorem refGMembers_any (v : Value) (l : List Nd) (id : Int) (w : World) (hv : NodesV w v l) (hz : DocSz l) :
    Calls Tryd.prog 9 #[v, .int .i64 id] w fun e w' => ∃ v', e = .returned v' ∧ KidsO w.heap.size w' v' (membersP l id) ∧ Below w.heap.size w w' := by
  have HI := hide (refIs_any v l id 17 w hv hz)
  cases h : isK l id 17 with
  | false =>
    have E : Hid (membersP l id = []) := by show _ = _; unfold membersP; rw [if_neg (by rw [h]; decide)]
    rw [h] at HI
    obtain ⟨p, c, rfl, _⟩ := hv
    clear h hz
    go_enter Tryd.func9, Tryd.ntmps9
    go_wp2_with fail
    refine HI.out.mono ?_
    rintro e w1 ⟨rfl, b1⟩
    go_wp2_with fail
    go_ret
    exact ⟨_, rfl, by rw [E.out]; exact World.ownsRow_nil _ _ _ _, b1⟩
  | true =>
    have hh : hasN l id = true := by unfold isK at h; rw [Bool.and_eq_true] at h; exact h.1
    obtain ⟨m, hI⟩ := Is.of hh
    obtain ⟨rfl, h0⟩ := (⟨hI.eq, hI.lt⟩ : id = (m : Int) ∧ m < l.length)
    have hR := hide hI.right
    have hlen := hI.right.len.2
    obtain ⟨t, et, ht⟩ := top_in hI.right h0
    have EL : Hid (membersP l (m : Int) = (orderP l (t : Int)).filter (memB l (m : Int))) := by show _ = _; unfold membersP; rw [if_pos h, et]
    have few := order_few hI.right ht
    have RNG : Hid (∀ x ∈ orderP l (t : Int), 0 ≤ x ∧ x < (l.length : Int)) := fun x hx => by
      have := (order_mem hI.right (by omega) (by omega) x).1 hx
      exact ⟨this.1, this.2.1⟩
    rw [h] at HI
    have hv' := hide hv
    have HTp := hide (fun W (hb : Below w.heap.size w W) => refTop_any v l (m : Int) m W (hv'.out.below hb) hI)
    rw [et] at HTp
    have HOr := hide (fun W (hb : Below w.heap.size w W) => refOrder_any v l t W (hv'.out.below hb) hR.out ht)
    have HFm := hide (fun (q : Nat) (hq : q < l.length) W (hb : Below w.heap.size w W) => refTog_any v l m q W (hv'.out.below hb) hz hR.out h0 hq)
    have OB : Hid (∀ q : Int, memB l (m : Int) q = (decide (kI l q = 17) && togB l (m : Int) q)) := fun _ => rfl
    obtain ⟨p, c, rfl, hvv⟩ := hv
    obtain ⟨gb, go, rfl, hnn⟩ : ∃ b o, p = some ⟨b, o, none⟩ ∧ ∀ i (h : i < l.length), ∃ va vk, NodeAt w b (o + i * 5) l[i] va vk := by
      rcases hvv with t | t
      · rw [t] at h0; simp at h0
      · exact t
    have HNN := hide hnn
    have HZ := hide hz
    clear hnn hvv
    obtain ⟨iI, hI0, hI1, hI2, hI3⟩ := info_parts infoI
    clear h hh hI hz hv' hR et
    generalize orderP l (t : Int) = ord at *
    generalize memB l (m : Int) = P at *
    go_enter Tryd.func9, Tryd.ntmps9
    go_wp2_with fail
    refine HI.out.mono ?_
    rintro e w1 ⟨rfl, b1⟩
    go_wp2_with fail
    refine (HTp.out _ b1).mono ?_
    rintro e u ⟨rfl, hu⟩
    obtain rfl : w1 = u := hu.symm
    go_wp2_with fail
    refine (HOr.out _ b1).mono ?_
    rintro e w2 ⟨av, rfl, ko, b2⟩
    have IV := hide ko.ints
    have B2 := hide (chain b1 b2)
    obtain ⟨pa, ca, rfl, _⟩ := ko.ints
    clear HOr HI ko b1 b2 HTp
    go_wp2_with fail
    go_loopw [5, 7] (fun ov iv wr => ∃ (k : Nat) (q : Option Addr) (cp : Nat), k ≤ ord.length ∧ iv = .int .i64 k ∧ ov = .slice q ((ord.take k).filter P).length cp ∧ Hid (KidsO w2.heap.size wr (.slice q ((ord.take k).filter P).length cp) ((ord.take k).filter P)) ∧ Hid (Below w2.heap.size w2 wr)) (fun _ iv _ => ord.length - (intOf iv).toNat)
    case atStart => exact ⟨0, none, 0, Nat.zero_le _, rfl, rfl, World.ownsRow_nil _ _ _ _, Below.refl _ _⟩
    case round =>
      rename World => wr
      obtain ⟨k, px, cx, hk, rfl, rfl, KX, BW⟩ := hrel
      have BWW := hide (chain B2.out BW.out)
      by_cases g : k < ord.length
      · have k1 : (k : Int) < (ord.length : Int) := by omega
        have k0 : (0 : Int) ≤ (k : Int) := by omega
        obtain ⟨pa', ca', eva, hav⟩ := IV.out.below BW.out
        cases eva
        rcases hav with hav | ⟨b2, o2, rfl, hav⟩
        · rw [hav] at g; simp at g
        have x0 := hav k g
        have rx := RNG.out ord[k] (List.getElem_mem g)
        obtain ⟨q, eq, hq⟩ := nat_of (z := ord[k]) (n := l.length) (by omega) rx.2
        have EQ := hide eq
        have OBq := OB.out (q : Int)
        rw [eq] at x0
        have FN := hide (filt_no (p := P) g)
        have FY := hide (filt_yes (p := P) g)
        have fl : ((ord.take k).filter P).length ≤ 400 := by have := List.length_filter_le P (ord.take k); rw [List.length_take] at this; omega
        obtain ⟨va, vk, NN⟩ := HNN.out q hq
        have nz := HZ.out.nds _ (List.getElem_mem hq)
        have HKq := hide (fun W (hb : Below w.heap.size w W) => refOf_any l[q] va vk W (NN.at_.below hb) nz.attrs nz.tx)
        have EK : kI l (q : Int) = kOf l[q].name (tyOf l[q].attrs) := by unfold kI kN; rw [Int.toNat_natCast, nd_at hq]
        rw [← EK] at HKq
        have HFq := hide (fun W hb => HFm.out q hq W hb)
        obtain ⟨pva, cva, rfl, hxx⟩ := NN.at_
        clear hxx
        obtain ⟨pvk, cvk, rfl, hxx⟩ := NN.ks
        clear hxx
        have u0 := cell_below NN.name BWW.out
        have u1 := cell_below NN.text BWW.out
        have u2 := cell_below NN.attrs BWW.out
        have u3 := cell_below NN.parent BWW.out
        have u4 := cell_below NN.kids BWW.out
        have q0 : (0 : Int) ≤ (q : Int) := by omega
        have q1 : (q : Int) < (l.length : Int) := by omega
        rw [eq] at FN FY
        clear hav eq rx HFm RNG OB EL NN nz EK HNN HZ
        by_cases lb : kI l (q : Int) = 17
        rotate_left
        · have dk : (kI l (q : Int) == 17) = false := beq_eq_false_iff_ne.2 lb
          rw [decide_eq_false lb, Bool.false_and] at OBq
          have E1 := hide (FN.out OBq)
          clear FN FY OBq lb
          generalize kI l (q : Int) = kq at *
          go_wp2_with fail
          refine (HKq.out _ BWW.out).mono ?_
          rintro e w3 ⟨rfl, b3⟩
          have B3 := hide (chain BWW.out b3)
          have BL3 := hide (chain BW.out b3)
          have KX3 := hide (owns_kept KX.out (Chg.of_below b3) (fun _ _ q => by cases q))
          clear b3
          go_wp2_with fail
          go_roundw
          case rel => exact ⟨k + 1, px, cx, by omega, by go_num, by rw [E1.out], by show KidsO _ _ _ _; rw [E1.out]; exact KX3.out, BL3⟩
          case measure => simp [intOf]; omega
        · have dk : (kI l (q : Int) == 17) = true := beq_iff_eq.2 lb
          rw [decide_eq_true lb, Bool.true_and] at OBq
          rw [lb] at HKq
          cases g2 : togB l (m : Int) (q : Int) with
          | true =>
            rw [g2] at OBq HFq
            have E1 := hide (FY.out OBq)
            clear FN FY OBq lb g2 dk
            generalize (ord.take k).filter P = xs at *
            replace E1 : Hid ((ord.take (k + 1)).filter P = xs ++ [(q : Int)]) := E1
            go_wp2_with fail
            refine (HKq.out _ BWW.out).mono ?_
            rintro e w3 ⟨rfl, b3⟩
            have B3 := hide (chain BWW.out b3)
            have BL3 := hide (chain BW.out b3)
            have KX3 := hide (owns_kept KX.out (Chg.of_below b3) (fun _ _ q => by cases q))
            clear b3
            obtain ⟨pa3, ca3, eva3, hav3⟩ := IV.out.below BL3.out
            cases eva3
            have x3 := (hav3.resolve_left (fun t => by rw [t] at g; simp at g))
            obtain ⟨b3', o3', e3', hav3'⟩ := x3
            cases e3'
            have y0 := hav3' k g
            rw [EQ.out] at y0
            clear hav3 hav3'
            go_wp2_with fail
            refine (HFq.out _ B3.out).mono ?_
            rintro e w4 ⟨rfl, b4⟩
            have BL4 := hide (chain BL3.out b4)
            have KX4 := hide (owns_kept KX3.out (Chg.of_below b4) (fun _ _ q => by cases q))
            obtain ⟨pa4, ca4, eva4, hav4⟩ := IV.out.below BL4.out
            cases eva4
            have x4 := (hav4.resolve_left (fun t => by rw [t] at g; simp at g))
            obtain ⟨b4', o4', e4', hav4'⟩ := x4
            cases e4'
            have y4 := hav4' k g
            rw [EQ.out] at y4
            clear hav4 hav4'
            have Bw : w2.heap.size ≤ w4.heap.size := BL4.out.size
            have OW := hide (World.ownsRow.alloc KX4.out (.cells #[.int .i64 (q : Int)] 3))
            have RW := hide ((NB.new w4 [.int .i64 (q : Int)] 3).raw 1 1 rfl 1)
            have hBa : Hid (w2.heap.size ≤ (w4.alloc (.cells #[.int .i64 (q : Int)] 3)).heap.size) := by show _ ≤ _; simp; omega
            go_wp2_with (at_builtin; refine wpList_append_raw rfl _ _ _ rfl w2.heap.size 3 iI _ 1 8 Tryd.underlying25 hI0 hI1 hI2 hI3 rfl (by omega) _ xs.length (cellsI xs) rfl OW.out _ 1 _ rfl RW.out (by simp [Value.oneCell']) (by unfold maxLen; omega) (by omega) hBa.out ?_; intro q1 c1 w5 own1 gr1 at1)
            have B5 : Hid (Below w2.heap.size w2 w5) := BL4.out.trans (((Chg.alloc w4 _).nil.trans (Chg.of_grown gr1)).below Bw (fun k hk => (OW.out.lt k (opt_mem.1 hk)).1))
            have KX1 : Hid (KidsO w2.heap.size w5 (.slice q1 (xs.length + 1) c1) (xs ++ [(q : Int)])) := by
              show w5.ownsRow _ _ 1 _ (xs ++ [(q : Int)]).length (cellsI (xs ++ [(q : Int)]))
              rw [List.length_append, cellsI_app]
              exact own1
            clear own1 gr1 at1 OW RW hBa
            go_roundw
            case rel => exact ⟨k + 1, q1, c1, by omega, by go_num, by rw [E1.out, List.length_append]; rfl, by show KidsO _ _ _ _; rw [E1.out, List.length_append]; exact KX1.out, B5⟩
            case measure => simp [intOf]; omega
          | false =>
            rw [g2] at OBq HFq
            have E1 := hide (FN.out OBq)
            clear FN FY OBq lb g2 dk
            go_wp2_with fail
            refine (HKq.out _ BWW.out).mono ?_
            rintro e w3 ⟨rfl, b3⟩
            have B3 := hide (chain BWW.out b3)
            have BL3 := hide (chain BW.out b3)
            have KX3 := hide (owns_kept KX.out (Chg.of_below b3) (fun _ _ q => by cases q))
            clear b3
            obtain ⟨pa3, ca3, eva3, hav3⟩ := IV.out.below BL3.out
            cases eva3
            have x3 := (hav3.resolve_left (fun t => by rw [t] at g; simp at g))
            obtain ⟨b3', o3', e3', hav3'⟩ := x3
            cases e3'
            have y0 := hav3' k g
            rw [EQ.out] at y0
            clear hav3 hav3'
            go_wp2_with fail
            refine (HFq.out _ B3.out).mono ?_
            rintro e w4 ⟨rfl, b4⟩
            have BL4 := hide (chain BL3.out b4)
            have KX4 := hide (owns_kept KX3.out (Chg.of_below b4) (fun _ _ q => by cases q))
            go_wp2_with fail
            go_roundw
            case rel => exact ⟨k + 1, px, cx, by omega, by go_num, by rw [E1.out], by show KidsO _ _ _ _; rw [E1.out]; exact KX4.out, BL4⟩
            case measure => simp [intOf]; omega
      · obtain rfl : k = ord.length := by omega
        rw [List.take_length] at KX
        have KX2 : Hid (KidsO w.heap.size wr (.slice px (ord.filter P).length cx) (ord.filter P)) := owns_mono KX.out (by have := B2.out.size; omega)
        rw [List.take_length]
        go_wp2_with fail
        go_ret
        exact ⟨_, rfl, by rw [EL.out]; exact KX2.out, BWW.out⟩
end Go.Proofs.YtldbaoolddlacaaDoor

namespace Go.Proofs.YtldbaoolddlacaaDoor
open Go.RowKit
set_option maxRecDepth 100000
set_option maxHeartbeats 8000000 in
theorem groupMembers_walk (v : Value) (l : List Nd) (id : Int) (w : World) (hv : NodesV w v l) (hz : DocSz l) (hT : GpTabs w) :
    Calls Tryd.prog 3 #[v, .int .i64 id] w fun e w' => e = .returned (.bool true) ∧ Below w.heap.size w w' := by
  have HV := hide hv
  have HW := hide (gpWakes_any w hT)
  have HC := hide (fun W (hb : Below w.heap.size w W) => refCopied_any v l W (HV.out.below hb) hz)
  have H1 := hide (fun u i W (hb : Below w.heap.size w W) (hu : NodesV W u l) => gpMembers_any u l i W hu hz (hT.below hb))
  have H2 := hide (fun W (hb : Below w.heap.size w W) => refGMembers_any v l id W (HV.out.below hb) hz)
  have SAME : Hid (∀ k ∈ membersP l id, membersP l k = membersP l id) := fun k hk => by
    have q : isK l id 17 = true := by
      apply Classical.byContradiction
      intro t
      have : membersP l id = [] := if_neg t
      rw [this] at hk; cases hk
    have r : rightB l = true := by
      unfold isK hasN at q
      rw [Bool.and_eq_true, Bool.and_eq_true] at q
      exact q.1.2
    exact mem_same (right_is.1 r) hk
  have FEW : (membersP l id).length ≤ 400 := by
    by_cases q : isK l id 17 = true
    · have r : rightB l = true := by
        unfold isK hasN at q
        rw [Bool.and_eq_true, Bool.and_eq_true] at q
        exact q.1.2
      have R := right_is.1 r
      exact Nat.le_trans (nodup_len l.length _ (mem_nodup R) (fun x hx => ((mem_mem R).1 hx).2.1)) R.len.2
    · rw [show membersP l id = [] from if_neg q]; exact Nat.zero_le _
  have HI := hide (fun u W (hb : Below w.heap.size w W) (hu : NodesV W u l) => H1.out u id W hb hu)
  have HK : Hid (∀ u k W, k ∈ membersP l id → Below w.heap.size w W → NodesV W u l → Calls Tryd.prog 7 #[u, .int .i64 k] W fun e w' => ∃ v', e = .returned v' ∧ IntsV w' v' (membersP l id) ∧ Below W.heap.size W w') := fun u k W hk hb hu => by
    have := H1.out u k W hb hu
    rw [SAME.out k hk] at this
    exact this
  clear SAME H1
  generalize membersP l id = ms at *
  have H5 := hide (fun va vb W (ha : IntsV W va ms) (hb : IntsV W vb ms) => refSameInts_any va vb ms ms W ha hb (by omega))
  rw [decide_eq_true (rfl : ms = ms)] at H5
  obtain ⟨p, k, rfl⟩ : ∃ p k, v = .slice p l.length k := by obtain ⟨p, k, e, _⟩ := hv; exact ⟨p, k, e⟩
  clear hv hz hT HV
  go_enter Tryd.func3, Tryd.ntmps3
  go_wp2_with fail
  refine HW.out.mono ?_
  rintro e w1 ⟨rfl, b1⟩
  go_wp2_with fail
  refine (HC.out _ b1).mono ?_
  rintro e w2 ⟨v2, L2, rfl, o2, e2, b2⟩
  have N2 : Hid (NodesV w2 v2 l) := by show NodesV _ _ _; rw [← e2]; exact o2.nodes
  obtain ⟨p2, k2, rfl⟩ : ∃ p k, v2 = .slice p l.length k := by obtain ⟨p, k, e, _⟩ := N2.out; exact ⟨p, k, e⟩
  have B2 := hide (chain b1 b2)
  clear o2 e2 b1 b2 HW HC
  go_wp2_with fail
  refine (HI.out _ _ B2.out N2.out).mono ?_
  rintro e w3 ⟨v3, rfl, i3, b3⟩
  have B3 := hide (chain B2.out b3)
  have N3 := hide (N2.out.below b3)
  have I3 := hide i3
  obtain ⟨p3, k3, rfl, _⟩ := i3
  clear b3 N2 B2
  go_wp2_with fail
  refine (H2.out _ B3.out).mono ?_
  rintro e w4 ⟨v4, rfl, i4, b4⟩
  have B4 := hide (chain B3.out b4)
  have I4 := hide (I3.out.below b4)
  have N4 := hide (N3.out.below b4)
  have J4 := hide i4.ints
  obtain ⟨p4, k4, rfl, _⟩ := i4.ints
  clear b4 i4 I3 N3 B3 H2 HI
  go_wp2_with fail
  refine (H5.out _ _ _ I4.out J4.out).mono ?_
  rintro e u ⟨rfl, nn, rfl⟩
  have DN := hide (dr_below w4 nn)
  have B5 := hide (chain B4.out DN.out)
  have I5 := hide (I4.out.below DN.out)
  have N5 := hide (N4.out.below DN.out)
  clear B4 I4 N4 J4
  go_wp2_with fail
  go_loopw [24] (fun iv wr => ∃ j : Nat, j ≤ ms.length ∧ iv = .int .i64 j ∧ Hid (IntsV wr (.slice p3 ms.length k3) ms) ∧ Hid (NodesV wr (.slice p2 l.length k2) l) ∧ Hid (Below w.heap.size w wr)) (fun iv _ => ms.length - (intOf iv).toNat)
  case atStart => exact ⟨0, Nat.zero_le _, rfl, I5.out, N5.out, B5.out⟩
  case round =>
    rename World => wr
    obtain ⟨j, hj, rfl, IR, NR, BR⟩ := hrel
    clear I5 N5 B5 DN
    by_cases hlt : j < ms.length
    · have j1 : (j : Int) < (ms.length : Int) := by omega
      have j0 : (0 : Int) ≤ (j : Int) := by omega
      have HKj := hide (HK.out (.slice p2 l.length k2) ms[j] wr (List.getElem_mem hlt) BR.out NR.out)
      obtain ⟨p3', k3', e3, h3⟩ := IR.out
      cases e3
      obtain ⟨g3, o3, rfl, h3y⟩ := h3.resolve_left (fun t => by rw [t] at hlt; simp at hlt)
      have x0 := h3y j hlt
      clear h3 h3y
      generalize ms[j] = kk at *
      go_wp2_with fail
      refine HKj.out.mono ?_
      rintro e w6 ⟨v6, rfl, i6, b6⟩
      have I6 := hide (IR.out.below b6)
      have N6 := hide (NR.out.below b6)
      have B6 := hide (chain BR.out b6)
      have J6 := hide i6
      obtain ⟨p6, k6, rfl, _⟩ := i6
      clear b6 IR NR BR HKj x0
      go_wp2_with fail
      refine (H5.out _ _ _ J6.out I6.out).mono ?_
      rintro e u ⟨rfl, nn, rfl⟩
      have DM := hide (dr_below w6 nn)
      have I7 := hide (I6.out.below DM.out)
      have N7 := hide (N6.out.below DM.out)
      have B7 := hide (chain B6.out DM.out)
      clear I6 N6 B6 J6 DM
      go_wp2_with fail
      go_roundw
      case rel => exact ⟨j + 1, by omega, by go_num, I7.out, N7.out, B7.out⟩
      case measure => simp [intOf]; omega
    · obtain rfl : j = ms.length := by omega
      go_wp2_with fail
      go_ret
      exact ⟨rfl, BR.out⟩

end Go.Proofs.YtldbaoolddlacaaDoor
