/- The document's List of layer 15. -/
import Derived.Test.YtlppocdhfeejkaaGreatDoorJvv18

namespace Go.Proofs.YtlppocdhfeejkaaGreatDoor
open Go.RowKit
set_option maxRecDepth 100000
theorem filt_no {p : Int → Bool} {xs : List Int} {k : Nat} (h : k < xs.length) (hp : p xs[k] = false) : (xs.take (k + 1)).filter p = (xs.take k).filter p := by
  rw [List.take_succ_eq_append_getElem h, List.filter_append, List.filter_cons_of_neg (by rw [hp]; decide), List.filter_nil, List.append_nil]
theorem filt_yes {p : Int → Bool} {xs : List Int} {k : Nat} (h : k < xs.length) (hp : p xs[k] = true) : (xs.take (k + 1)).filter p = (xs.take k).filter p ++ [xs[k]] := by
  rw [List.take_succ_eq_append_getElem h, List.filter_append, List.filter_cons_of_pos hp, List.filter_nil]
theorem order_few {l : List Nd} (h : Right l) {m : Nat} (hm : m < l.length) : (orderP l (m : Int)).length ≤ 400 := by
  have h1 := nodup_len l.length _ (order_nodup h (id := (m : Int)) (by omega) (by omega)) (fun x hx => by
    have := (order_mem h (by omega) (by omega) x).1 hx
    exact ⟨this.1, this.2.1⟩)
  have := h.len
  omega
set_option maxHeartbeats 8000000 in
theorem refOList_any (v : Value) (l : List Nd) (id : Int) (w : World) (hv : NodesV w v l) (hz : DocSz l) :
    Calls Tryz.prog 35 #[v, .int .i64 id] w fun e w' => ∃ v', e = .returned v' ∧ KidsO w.heap.size w' v' (listP l id) ∧ Below w.heap.size w w' := by
  have HI := hide (refIs_any v l id 23 w hv hz)
  cases h : isK l id 23 with
  | false =>
    have E : Hid (listP l id = []) := by show _ = _; unfold listP; rw [if_neg (by rw [h]; decide)]
    rw [h] at HI
    obtain ⟨p, c, rfl, _⟩ := hv
    clear h hz
    go_enter Tryz.func35, Tryz.ntmps35
    go_wp2_with fail
    refine HI.out.mono ?_
    rintro e w1 ⟨rfl, b1⟩
    go_wp2_with fail
    go_ret
    exact ⟨_, rfl, by rw [E.out]; exact World.ownsRow_nil _ _ _ _, b1⟩
  | true =>
    have hh : hasN l id = true := by unfold isK at h; rw [Bool.and_eq_true] at h; exact h.1
    obtain ⟨m, hI⟩ := Is.of hh
    obtain ⟨rfl, h0⟩ := (⟨hI.eq, hI.lt⟩ : id = (m : Int) ∧ m < l.length)
    have hR := hide hI.right
    have hlen := hI.right.len.2
    have EL : Hid (listP l (m : Int) = (orderP l (m : Int)).filter (optB l (m : Int))) := if_pos h
    have few := order_few hI.right h0
    have RNG : Hid (∀ x ∈ orderP l (m : Int), 0 ≤ x ∧ x < (l.length : Int)) := fun x hx => by
      have := (order_mem hI.right (by omega) (by omega) x).1 hx
      exact ⟨this.1, this.2.1⟩
    rw [h] at HI
    have hv' := hide hv
    have HOr := hide (fun W (hb : Below w.heap.size w W) => refOrder_any v l m W (hv'.out.below hb) hR.out h0)
    have HOw := hide (fun q W (hq : q < l.length) (hb : Below w.heap.size w W) => refOwner_any v l q W (hv'.out.below hb) hR.out hq)
    obtain ⟨p, c, rfl, hv⟩ := hv
    rcases hv with hv | ⟨b, o, rfl, hv⟩
    · rw [hv] at h0; simp at h0
    have HV := hide hv
    have i0 : (0 : Int) ≤ (m : Int) := by omega
    have i1 : (m : Int) < (l.length : Int) := by omega
    have OB : Hid (∀ q (hq : q < l.length), optB l (m : Int) (q : Int) = (decide (l[q].name = oOpt) && decide (ownP l (q : Int) = (m : Int)))) := fun q hq => by unfold optB; rw [nmI_at hq]
    obtain ⟨iI, hI0, hI1, hI2, hI3⟩ := info_parts infoI
    clear h hh hI hv hz hv' hR
    generalize orderP l (m : Int) = ord at *
    generalize optB l (m : Int) = P at *
    go_enter Tryz.func35, Tryz.ntmps35
    go_wp2_with fail
    refine HI.out.mono ?_
    rintro e w1 ⟨rfl, b1⟩
    go_wp2_with fail
    refine (HOr.out _ b1).mono ?_
    rintro e w2 ⟨av, rfl, ko, b2⟩
    have IV := hide ko.ints
    have B2 := hide (chain b1 b2)
    obtain ⟨pa, ca, rfl, _⟩ := ko.ints
    clear HOr HI ko b1 b2
    go_wp2_with fail
    go_loopw [5, 7] (fun ov iv wr => ∃ k : Nat, k ≤ ord.length ∧ iv = .int .i64 k ∧ Hid (KidsO w2.heap.size wr ov ((ord.take k).filter P)) ∧ Hid (Below w2.heap.size w2 wr)) (fun _ iv _ => ord.length - (intOf iv).toNat)
    case atStart => exact ⟨0, Nat.zero_le _, rfl, World.ownsRow_nil _ _ _ _, Below.refl _ _⟩
    case round =>
      rename World => wr
      obtain ⟨k, hk, rfl, KX, BW⟩ := hrel
      have BWW := hide (chain B2.out BW.out)
      obtain ⟨px, cx, ex, hcx⟩ := kids_form KX.out
      by_cases g : k < ord.length
      · have k1 : (k : Int) < (ord.length : Int) := by omega
        obtain ⟨pa', ca', eva, hav⟩ := IV.out.below BW.out
        cases eva
        rcases hav with hav | ⟨b2, o2, rfl, hav⟩
        · rw [hav] at g; simp at g
        have x0 := hav k g
        have rx := RNG.out ord[k] (List.getElem_mem g)
        obtain ⟨q, eq, hq⟩ := nat_of (z := ord[k]) (n := l.length) (by omega) rx.2
        have OBq := OB.out q hq
        rw [eq] at x0
        have q0 : (0 : Int) ≤ (q : Int) := by omega
        have q1 : (q : Int) < (l.length : Int) := by omega
        obtain ⟨va, vk, N0⟩ := HV.out q hq
        have n0 := cell_below N0.name BWW.out
        have FN := hide (filt_no (p := P) g)
        have FY := hide (filt_yes (p := P) g)
        have fl : ((ord.take k).filter P).length ≤ 400 := by have := List.length_filter_le P (ord.take k); rw [List.length_take] at this; omega
        have HO := hide (fun W hb => HOw.out q W hq hb)
        rw [eq] at FN FY
        clear N0 hav eq rx HOw RNG OB EL
        by_cases g1 : l[q].name = oOpt
        · have t1 : (l[q].name.toList == [111, 112, 116, 105, 111, 110]) = true := lit_yes g1
          rw [decide_eq_true g1, Bool.true_and] at OBq
          by_cases g2 : ownP l (q : Int) = (m : Int)
          · rw [decide_eq_true g2] at OBq
            have E1 := hide (FY.out OBq)
            have d2 : (ownP l (q : Int) == (m : Int)) = true := beq_iff_eq.2 g2
            clear FN FY OBq g1 g2
            generalize ownP l (q : Int) = z at *
            generalize l[q].name = y at *
            generalize (ord.take k).filter P = xs at *
            replace E1 : Hid ((ord.take (k + 1)).filter P = xs ++ [(q : Int)]) := E1
            have Bw : w2.heap.size ≤ wr.heap.size := BW.out.size
            have OW := hide (World.ownsRow.alloc KX.out (.cells #[.int .i64 (q : Int)] 3))
            have RW := hide ((NB.new wr [.int .i64 (q : Int)] 3).raw 1 1 rfl 1)
            have hBa : Hid (w2.heap.size ≤ (wr.alloc (.cells #[.int .i64 (q : Int)] 3)).heap.size) := by show _ ≤ _; simp; omega
            clear ex hcx
            go_wp2_with fail
            refine (HO.out _ BWW.out).mono ?_
            rintro e u ⟨rfl, hu⟩
            obtain rfl : wr = u := hu.symm
            go_wp2_with (at_builtin; refine wpList_append_raw rfl _ _ _ rfl w2.heap.size 3 iI _ 1 8 Tryz.underlying41 hI0 hI1 hI2 hI3 rfl (by omega) u5 xs.length (cellsI xs) rfl OW.out _ 1 _ rfl RW.out (by simp [Value.oneCell']) (by unfold maxLen; omega) (by omega) hBa.out ?_; intro q1 c1 w3 own1 gr1 at1)
            have B3 : Hid (Below w2.heap.size w2 w3) := BW.out.trans (((Chg.alloc wr _).nil.trans (Chg.of_grown gr1)).below Bw (fun k hk => (OW.out.lt k (opt_mem.1 hk)).1))
            have KX1 : Hid (KidsO w2.heap.size w3 (.slice q1 (xs.length + 1) c1) ((ord.take (k + 1)).filter P)) := by
              show w3.ownsRow _ _ 1 _ ((ord.take (k + 1)).filter P).length (cellsI ((ord.take (k + 1)).filter P))
              rw [E1.out, List.length_append, cellsI_app]
              exact own1
            clear own1 gr1 at1 OW RW hBa
            go_roundw
            case rel => exact ⟨k + 1, by omega, by go_num, KX1, B3⟩
            case measure => simp [intOf]; omega
          · rw [decide_eq_false g2] at OBq
            have E1 : Hid (KidsO w2.heap.size wr u5 ((ord.take (k + 1)).filter P)) := by show KidsO _ _ _ _; rw [FN.out OBq]; exact KX.out
            have d2 : (ownP l (q : Int) == (m : Int)) = false := beq_eq_false_iff_ne.2 g2
            clear FN FY OBq g1 g2 KX ex hcx
            generalize ownP l (q : Int) = z at *
            generalize l[q].name = y at *
            go_wp2_with fail
            refine (HO.out _ BWW.out).mono ?_
            rintro e u ⟨rfl, hu⟩
            obtain rfl : wr = u := hu.symm
            go_wp2_with fail
            go_roundw
            case rel => exact ⟨k + 1, by omega, by go_num, E1, BW⟩
            case measure => simp [intOf]; omega
        · have t1 : (l[q].name.toList == [111, 112, 116, 105, 111, 110]) = false := lit_no g1
          rw [decide_eq_false g1, Bool.false_and] at OBq
          have E1 : Hid (KidsO w2.heap.size wr u5 ((ord.take (k + 1)).filter P)) := by show KidsO _ _ _ _; rw [FN.out OBq]; exact KX.out
          clear FN FY OBq g1 KX ex hcx HO
          generalize l[q].name = y at *
          go_wp2_with fail
          go_roundw
          case rel => exact ⟨k + 1, by omega, by go_num, E1, BW⟩
          case measure => simp [intOf]; omega
      · obtain rfl : k = ord.length := by omega
        have KE : Hid (KidsO w.heap.size wr u5 (listP l (m : Int))) := by
          show KidsO _ _ _ _
          rw [EL.out]
          have := KX.out
          rw [List.take_length] at this
          exact owns_mono this B2.out.size
        clear EL KX ex hcx
        go_wp2_with fail
        go_ret
        exact ⟨_, rfl, KE.out, BWW.out⟩

end Go.Proofs.YtlppocdhfeejkaaGreatDoor
