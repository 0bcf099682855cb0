/- The questions of kinds, of the document. The document's Elements of layer 16. The document's Default of layer 16. Stage 16's wakes and its laws OwnerForm, OwnerElements, OwnerLabels, OwnerDisabled, walked. -/
import Derived.Test.YtoejiojkpbibcaaDoorJow22
import Derived.Test.YtoejiojkpbibcaaDoorJow35
import Derived.Test.YtoejiojkpbibcaaDoorJow36
import Derived.Test.YtoejiojkpbibcaaDoorJow37
import Derived.Test.YtoejiojkpbibcaaDoorJow38
import Derived.Test.YtoejiojkpbibcaaDoorJow41

namespace Go.Proofs.YtoejiojkpbibcaaDoor
open Go.RowKit
set_option maxHeartbeats 4000000 in
set_option maxRecDepth 100000 in
theorem refIs_5 (k : Int) (w : World) :
    Calls Tryd.prog 22 #[.int .i64 5, .int .i64 k] w fun e w' => e = .returned (.bool (fireB k)) ∧ w' = w := by
  rcases (show (k ≤ 0) ∨ (1 ≤ k ∧ k ≤ 18) ∨ (k = 19) ∨ (k = 20) ∨ (21 ≤ k ∧ k ≤ 22) ∨ (k = 23) ∨ (k = 24) ∨ (k = 25) ∨ (k = 26) ∨ (k = 27) ∨ (28 ≤ k) by omega) with q | q | q | q | q | q | q | q | q | q | q
  all_goals
    first | (have e1 : ¬ (1 ≤ k) := by omega) | (have e1 : 1 ≤ k := by omega)
    first | (have d1 : decide (1 ≤ k) = false := decide_eq_false e1) | (have d1 : decide (1 ≤ k) = true := decide_eq_true e1)
    first | (have e2 : k ≤ 22 := by omega) | (have e2 : ¬ (k ≤ 22) := by omega)
    first | (have d2 : decide (k ≤ 22) = true := decide_eq_true e2) | (have d2 : decide (k ≤ 22) = false := decide_eq_false e2)
    first | (have e3 : (k == 23) = false := by rw [beq_eq_false_iff_ne]; omega) | (have e3 : (k == 23) = true := by rw [beq_iff_eq]; omega)
    first | (have n3 : ¬ k = 23 := by omega) | (have n3 : (k != 23) = false := by unfold bne; rw [e3]; rfl)
    first | (have e4 : (k == 24) = false := by rw [beq_eq_false_iff_ne]; omega) | (have e4 : (k == 24) = true := by rw [beq_iff_eq]; omega)
    first | (have n4 : ¬ k = 24 := by omega) | (have n4 : (k != 24) = false := by unfold bne; rw [e4]; rfl)
    first | (have e5 : (k == 25) = false := by rw [beq_eq_false_iff_ne]; omega) | (have e5 : (k == 25) = true := by rw [beq_iff_eq]; omega)
    first | (have n5 : ¬ k = 25 := by omega) | (have n5 : (k != 25) = false := by unfold bne; rw [e5]; rfl)
    first | (have e6 : (k == 26) = false := by rw [beq_eq_false_iff_ne]; omega) | (have e6 : (k == 26) = true := by rw [beq_iff_eq]; omega)
    first | (have n6 : ¬ k = 26 := by omega) | (have n6 : (k != 26) = false := by unfold bne; rw [e6]; rfl)
    first | (have e7 : (k == 27) = false := by rw [beq_eq_false_iff_ne]; omega) | (have e7 : (k == 27) = true := by rw [beq_iff_eq]; omega)
    first | (have n7 : ¬ k = 27 := by omega) | (have n7 : (k != 27) = false := by unfold bne; rw [e7]; rfl)
    first | (have e8 : (k == 19) = false := by rw [beq_eq_false_iff_ne]; omega) | (have e8 : (k == 19) = true := by rw [beq_iff_eq]; omega)
    first | (have n8 : ¬ k = 19 := by omega) | (have n8 : (k != 19) = false := by unfold bne; rw [e8]; rfl)
    first | (have e9 : (k == 20) = false := by rw [beq_eq_false_iff_ne]; omega) | (have e9 : (k == 20) = true := by rw [beq_iff_eq]; omega)
    first | (have n9 : ¬ k = 20 := by omega) | (have n9 : (k != 20) = false := by unfold bne; rw [e9]; rfl)
    first | (have E := hide (show fireB k = false from decide_eq_false (by omega))) | (have E := hide (show fireB k = true from decide_eq_true (by omega)))
    clear q
    go_enter Tryd.func22, Tryd.ntmps22
    go_wp2_with fail
    go_ret
    exact ⟨ret_bool E.out.symm, rfl⟩
end Go.Proofs.YtoejiojkpbibcaaDoor

namespace Go.Proofs.YtoejiojkpbibcaaDoor
open Go.RowKit
set_option maxRecDepth 100000
theorem anc_rng {l : List Nd} (h : Right l) : ∀ (d : Nat) {k x : Int}, k < l.length → hgt l k ≤ d → x ∈ anc l k → 0 ≤ x ∧ x < (l.length : Int)
  | 0, k, x, hk, hd, hm => by
    by_cases e : k < 0
    · rw [anc_neg e] at hm; cases hm
    · have := hgt_up (h.ende hk) e; omega
  | d + 1, k, x, hk, hd, hm => by
    by_cases e : k < 0
    · rw [anc_neg e] at hm; cases hm
    · rw [anc_up (h.ende hk) e] at hm
      rcases List.mem_cons.1 hm with q | q
      · rw [q]; omega
      · have h1 := hgt_up (h.ende hk) e
        exact anc_rng h d (h.up e hk).2 (by omega) q
theorem top_in {l : List Nd} (h : Right l) {m : Nat} (hm : m < l.length) : ∃ t : Nat, topP l (m : Int) = (t : Int) ∧ t < l.length := by
  have r : 0 ≤ topP l (m : Int) ∧ topP l (m : Int) < (l.length : Int) := by
    unfold topP
    cases e : anc l (m : Int) with
    | nil => exact ⟨by show (0 : Int) ≤ (m : Int); omega, by show (m : Int) < _; omega⟩
    | cons a L =>
      have mem : (a :: L).getLastD (m : Int) ∈ anc l (m : Int) := by
        rw [e, List.getLastD_eq_getLast?, List.getLast?_eq_some_getLast (by simp), Option.getD_some]
        exact List.getLast_mem _
      exact anc_rng h _ (by omega) (Nat.le_refl _) mem
  exact ⟨(topP l (m : Int)).toNat, by omega, by omega⟩
set_option maxHeartbeats 8000000 in
theorem refElements_any (v : Value) (l : List Nd) (id : Int) (w : World) (hv : NodesV w v l) (hz : DocSz l) :
    Calls Tryd.prog 14 #[v, .int .i64 id] w fun e w' => ∃ v', e = .returned v' ∧ KidsO w.heap.size w' v' (elementsP l id) ∧ Below w.heap.size w w' := by
  have HI := hide (refIs_any v l id 30 w hv hz)
  cases h : isK l id 30 with
  | false =>
    have E : Hid (elementsP l id = []) := by show _ = _; unfold elementsP; rw [if_neg (by rw [h]; decide)]
    rw [h] at HI
    obtain ⟨p, c, rfl, _⟩ := hv
    clear h hz
    go_enter Tryd.func14, Tryd.ntmps14
    go_wp2_with fail
    refine HI.out.mono ?_
    rintro e w1 ⟨rfl, b1⟩
    go_wp2_with fail
    go_ret
    exact ⟨_, rfl, by rw [E.out]; exact World.ownsRow_nil _ _ _ _, b1⟩
  | true =>
    have hh : hasN l id = true := by unfold isK at h; rw [Bool.and_eq_true] at h; exact h.1
    obtain ⟨m, hI⟩ := Is.of hh
    obtain ⟨rfl, h0⟩ := (⟨hI.eq, hI.lt⟩ : id = (m : Int) ∧ m < l.length)
    have hR := hide hI.right
    have hlen := hI.right.len.2
    obtain ⟨t, et, ht⟩ := top_in hI.right h0
    have EL : Hid (elementsP l (m : Int) = (orderP l (t : Int)).filter (elB l (m : Int))) := by show _ = _; unfold elementsP; rw [if_pos h, et]
    have few := order_few hI.right ht
    have RNG : Hid (∀ x ∈ orderP l (t : Int), 0 ≤ x ∧ x < (l.length : Int)) := fun x hx => by
      have := (order_mem hI.right (by omega) (by omega) x).1 hx
      exact ⟨this.1, this.2.1⟩
    rw [h] at HI
    have hv' := hide hv
    have HTp := hide (fun W (hb : Below w.heap.size w W) => refTop_any v l (m : Int) m W (hv'.out.below hb) hI)
    rw [et] at HTp
    have HOr := hide (fun W (hb : Below w.heap.size w W) => refOrder_any v l t W (hv'.out.below hb) hR.out ht)
    have HKd := hide (fun q W (hq : q < l.length) (hb : Below w.heap.size w W) => refKind_any v l q W (hv'.out.below hb) hR.out hq)
    have HFm := hide (fun (q : Int) W (hb : Below w.heap.size w W) => refForm_any v l q W (hv'.out.below hb) hz)
    have HLs := hide (fun k W => refIs_1 k W)
    have OB : Hid (∀ q : Int, elB l (m : Int) q = (listB (kI l q) && decide (formP l q = (m : Int)))) := fun _ => rfl
    obtain ⟨p, c, rfl⟩ : ∃ p c, v = .slice p l.length c := by obtain ⟨p, c, e, _⟩ := hv; exact ⟨p, c, e⟩
    obtain ⟨iI, hI0, hI1, hI2, hI3⟩ := info_parts infoI
    clear h hh hI hv hz hv' hR et
    generalize orderP l (t : Int) = ord at *
    generalize elB l (m : Int) = P at *
    go_enter Tryd.func14, Tryd.ntmps14
    go_wp2_with fail
    refine HI.out.mono ?_
    rintro e w1 ⟨rfl, b1⟩
    go_wp2_with fail
    refine (HTp.out _ b1).mono ?_
    rintro e u ⟨rfl, hu⟩
    obtain rfl : w1 = u := hu.symm
    go_wp2_with fail
    refine (HOr.out _ b1).mono ?_
    rintro e w2 ⟨av, rfl, ko, b2⟩
    have IV := hide ko.ints
    have B2 := hide (chain b1 b2)
    obtain ⟨pa, ca, rfl, _⟩ := ko.ints
    clear HOr HI ko b1 b2 HTp
    go_wp2_with fail
    go_loopw [5, 7] (fun ov iv wr => ∃ (k : Nat) (q : Option Addr) (cp : Nat), k ≤ ord.length ∧ iv = .int .i64 k ∧ ov = .slice q ((ord.take k).filter P).length cp ∧ Hid (KidsO w2.heap.size wr (.slice q ((ord.take k).filter P).length cp) ((ord.take k).filter P)) ∧ Hid (Below w2.heap.size w2 wr)) (fun _ iv _ => ord.length - (intOf iv).toNat)
    case atStart => exact ⟨0, none, 0, Nat.zero_le _, rfl, rfl, World.ownsRow_nil _ _ _ _, Below.refl _ _⟩
    case round =>
      rename World => wr
      obtain ⟨k, px, cx, hk, rfl, rfl, KX, BW⟩ := hrel
      have BWW := hide (chain B2.out BW.out)
      by_cases g : k < ord.length
      · have k1 : (k : Int) < (ord.length : Int) := by omega
        have k0 : (0 : Int) ≤ (k : Int) := by omega
        obtain ⟨pa', ca', eva, hav⟩ := IV.out.below BW.out
        cases eva
        rcases hav with hav | ⟨b2, o2, rfl, hav⟩
        · rw [hav] at g; simp at g
        have x0 := hav k g
        have rx := RNG.out ord[k] (List.getElem_mem g)
        obtain ⟨q, eq, hq⟩ := nat_of (z := ord[k]) (n := l.length) (by omega) rx.2
        have EQ := hide eq
        have OBq := OB.out (q : Int)
        rw [eq] at x0
        have FN := hide (filt_no (p := P) g)
        have FY := hide (filt_yes (p := P) g)
        have fl : ((ord.take k).filter P).length ≤ 400 := by have := List.length_filter_le P (ord.take k); rw [List.length_take] at this; omega
        have HKq := hide (fun W hb => HKd.out q W hq hb)
        have HFq := hide (fun W hb => HFm.out (q : Int) W hb)
        have HLq := hide (fun W => HLs.out (kI l (q : Int)) W)
        rw [eq] at FN FY
        clear hav eq rx HKd HFm HLs RNG OB EL
        cases lb : listB (kI l (q : Int)) with
        | false =>
          rw [lb, Bool.false_and] at OBq
          rw [lb] at HLq
          have E1 := hide (FN.out OBq)
          clear FN FY OBq lb
          generalize kI l (q : Int) = kq at *
          go_wp2_with fail
          refine (HKq.out _ BWW.out).mono ?_
          rintro e w3 ⟨rfl, b3⟩
          have B3 := hide (chain BWW.out b3)
          have BL3 := hide (chain BW.out b3)
          have KX3 := hide (owns_kept KX.out (Chg.of_below b3) (fun _ _ q => by cases q))
          clear b3
          go_wp2_with fail
          refine (HLq.out _).mono ?_
          rintro e u ⟨rfl, hu⟩
          obtain rfl : w3 = u := hu.symm
          go_wp2_with fail
          go_roundw
          case rel => exact ⟨k + 1, px, cx, by omega, by go_num, by rw [E1.out], by show KidsO _ _ _ _; rw [E1.out]; exact KX3.out, BL3⟩
          case measure => simp [intOf]; omega
        | true =>
          rw [lb, Bool.true_and] at OBq
          rw [lb] at HLq
          by_cases g2 : formP l (q : Int) = (m : Int)
          · rw [decide_eq_true g2] at OBq
            have E1 := hide (FY.out OBq)
            have d2 : (formP l (q : Int) == (m : Int)) = true := beq_iff_eq.2 g2
            clear FN FY OBq lb g2
            generalize kI l (q : Int) = kq at *
            generalize formP l (q : Int) = fq at *
            generalize (ord.take k).filter P = xs at *
            replace E1 : Hid ((ord.take (k + 1)).filter P = xs ++ [(q : Int)]) := E1
            go_wp2_with fail
            refine (HKq.out _ BWW.out).mono ?_
            rintro e w3 ⟨rfl, b3⟩
            have B3 := hide (chain BWW.out b3)
            have BL3 := hide (chain BW.out b3)
            have KX3 := hide (owns_kept KX.out (Chg.of_below b3) (fun _ _ q => by cases q))
            clear b3
            go_wp2_with fail
            refine (HLq.out _).mono ?_
            rintro e u ⟨rfl, hu⟩
            obtain rfl : w3 = u := hu.symm
            obtain ⟨pa3, ca3, eva3, hav3⟩ := IV.out.below BL3.out
            cases eva3
            have x3 := (hav3.resolve_left (fun t => by rw [t] at g; simp at g))
            obtain ⟨b3', o3', e3', hav3'⟩ := x3
            cases e3'
            have y0 := hav3' k g
            rw [EQ.out] at y0
            clear hav3 hav3'
            go_wp2_with fail
            refine (HFq.out _ B3.out).mono ?_
            rintro e w4 ⟨rfl, b4⟩
            have BL4 := hide (chain BL3.out b4)
            have KX4 := hide (owns_kept KX3.out (Chg.of_below b4) (fun _ _ q => by cases q))
            obtain ⟨pa4, ca4, eva4, hav4⟩ := IV.out.below BL4.out
            cases eva4
            have x4 := (hav4.resolve_left (fun t => by rw [t] at g; simp at g))
            obtain ⟨b4', o4', e4', hav4'⟩ := x4
            cases e4'
            have y4 := hav4' k g
            rw [EQ.out] at y4
            clear hav4 hav4'
            have Bw : w2.heap.size ≤ w4.heap.size := BL4.out.size
            have OW := hide (World.ownsRow.alloc KX4.out (.cells #[.int .i64 (q : Int)] 3))
            have RW := hide ((NB.new w4 [.int .i64 (q : Int)] 3).raw 1 1 rfl 1)
            have hBa : Hid (w2.heap.size ≤ (w4.alloc (.cells #[.int .i64 (q : Int)] 3)).heap.size) := by show _ ≤ _; simp; omega
            go_wp2_with (at_builtin; refine wpList_append_raw rfl _ _ _ rfl w2.heap.size 3 iI _ 1 8 Tryd.underlying28 hI0 hI1 hI2 hI3 rfl (by omega) _ xs.length (cellsI xs) rfl OW.out _ 1 _ rfl RW.out (by simp [Value.oneCell']) (by unfold maxLen; omega) (by omega) hBa.out ?_; intro q1 c1 w5 own1 gr1 at1)
            have B5 : Hid (Below w2.heap.size w2 w5) := BL4.out.trans (((Chg.alloc w4 _).nil.trans (Chg.of_grown gr1)).below Bw (fun k hk => (OW.out.lt k (opt_mem.1 hk)).1))
            have KX1 : Hid (KidsO w2.heap.size w5 (.slice q1 (xs.length + 1) c1) (xs ++ [(q : Int)])) := by
              show w5.ownsRow _ _ 1 _ (xs ++ [(q : Int)]).length (cellsI (xs ++ [(q : Int)]))
              rw [List.length_append, cellsI_app]
              exact own1
            clear own1 gr1 at1 OW RW hBa
            go_roundw
            case rel => exact ⟨k + 1, q1, c1, by omega, by go_num, by rw [E1.out, List.length_append]; rfl, by show KidsO _ _ _ _; rw [E1.out, List.length_append]; exact KX1.out, B5⟩
            case measure => simp [intOf]; omega
          · rw [decide_eq_false g2] at OBq
            have E1 := hide (FN.out OBq)
            have d2 : (formP l (q : Int) == (m : Int)) = false := beq_eq_false_iff_ne.2 g2
            clear FN FY OBq lb g2
            generalize kI l (q : Int) = kq at *
            generalize formP l (q : Int) = fq at *
            go_wp2_with fail
            refine (HKq.out _ BWW.out).mono ?_
            rintro e w3 ⟨rfl, b3⟩
            have B3 := hide (chain BWW.out b3)
            have BL3 := hide (chain BW.out b3)
            have KX3 := hide (owns_kept KX.out (Chg.of_below b3) (fun _ _ q => by cases q))
            clear b3
            go_wp2_with fail
            refine (HLq.out _).mono ?_
            rintro e u ⟨rfl, hu⟩
            obtain rfl : w3 = u := hu.symm
            obtain ⟨pa3, ca3, eva3, hav3⟩ := IV.out.below BL3.out
            cases eva3
            have x3 := (hav3.resolve_left (fun t => by rw [t] at g; simp at g))
            obtain ⟨b3', o3', e3', hav3'⟩ := x3
            cases e3'
            have y0 := hav3' k g
            rw [EQ.out] at y0
            clear hav3 hav3'
            go_wp2_with fail
            refine (HFq.out _ B3.out).mono ?_
            rintro e w4 ⟨rfl, b4⟩
            have BL4 := hide (chain BL3.out b4)
            have KX4 := hide (owns_kept KX3.out (Chg.of_below b4) (fun _ _ q => by cases q))
            go_wp2_with fail
            go_roundw
            case rel => exact ⟨k + 1, px, cx, by omega, by go_num, by rw [E1.out], by show KidsO _ _ _ _; rw [E1.out]; exact KX4.out, BL4⟩
            case measure => simp [intOf]; omega
      · obtain rfl : k = ord.length := by omega
        rw [List.take_length] at KX
        have KX2 : Hid (KidsO w.heap.size wr (.slice px (ord.filter P).length cx) (ord.filter P)) := owns_mono KX.out (by have := B2.out.size; omega)
        rw [List.take_length]
        go_wp2_with fail
        go_ret
        exact ⟨_, rfl, by rw [EL.out]; exact KX2.out, BWW.out⟩
end Go.Proofs.YtoejiojkpbibcaaDoor

namespace Go.Proofs.YtoejiojkpbibcaaDoor
open Go.RowKit
set_option maxRecDepth 100000
set_option maxHeartbeats 8000000 in
theorem refDefault_any (v : Value) (l : List Nd) (id : Int) (w : World) (hv : NodesV w v l) (hz : DocSz l) :
    Calls Tryd.prog 16 #[v, .int .i64 id] w fun e w' => e = .returned (.int .i64 (defaultP l id)) ∧ Below w.heap.size w w' := by
  have HI := hide (refIs_any v l id 30 w hv hz)
  cases h : isK l id 30 with
  | false =>
    have E : Hid (defaultP l id = -1) := by show _ = _; unfold defaultP; rw [if_neg (by rw [h]; decide)]
    rw [h] at HI
    obtain ⟨p, c, rfl, _⟩ := hv
    clear h hz
    go_enter Tryd.func16, Tryd.ntmps16
    go_wp2_with fail
    refine HI.out.mono ?_
    rintro e w1 ⟨rfl, b1⟩
    go_wp2_with fail
    go_ret
    exact ⟨ret_int E.out.symm, b1⟩
  | true =>
    have hh : hasN l id = true := by unfold isK at h; rw [Bool.and_eq_true] at h; exact h.1
    obtain ⟨m, hI⟩ := Is.of hh
    obtain ⟨rfl, h0⟩ := (⟨hI.eq, hI.lt⟩ : id = (m : Int) ∧ m < l.length)
    have hR := hide hI.right
    have hlen := hI.right.len.2
    obtain ⟨t, et, ht⟩ := top_in hI.right h0
    have EL : Hid (defaultP l (m : Int) = ((orderP l (t : Int)).find? (fireF l (m : Int))).getD (-1)) := by show _ = _; unfold defaultP; rw [if_pos h, et]
    have few := order_few hI.right ht
    have RNG : Hid (∀ x ∈ orderP l (t : Int), 0 ≤ x ∧ x < (l.length : Int)) := fun x hx => by
      have := (order_mem hI.right (by omega) (by omega) x).1 hx
      exact ⟨this.1, this.2.1⟩
    rw [h] at HI
    have hv' := hide hv
    have HTp := hide (fun W (hb : Below w.heap.size w W) => refTop_any v l (m : Int) m W (hv'.out.below hb) hI)
    rw [et] at HTp
    have HOr := hide (fun W (hb : Below w.heap.size w W) => refOrder_any v l t W (hv'.out.below hb) hR.out ht)
    have HKd := hide (fun q W (hq : q < l.length) (hb : Below w.heap.size w W) => refKind_any v l q W (hv'.out.below hb) hR.out hq)
    have HFm := hide (fun (q : Int) W (hb : Below w.heap.size w W) => refForm_any v l q W (hv'.out.below hb) hz)
    have HLs := hide (fun k W => refIs_5 k W)
    have OB : Hid (∀ q : Int, fireF l (m : Int) q = (fireB (kI l q) && decide (formP l q = (m : Int)))) := fun _ => rfl
    obtain ⟨p, c, rfl⟩ : ∃ p c, v = .slice p l.length c := by obtain ⟨p, c, e, _⟩ := hv; exact ⟨p, c, e⟩
    clear h hh hI hv hz hv' hR et
    generalize defaultP l (m : Int) = RES at *
    generalize orderP l (t : Int) = ord at *
    generalize fireF l (m : Int) = P at *
    go_enter Tryd.func16, Tryd.ntmps16
    go_wp2_with fail
    refine HI.out.mono ?_
    rintro e w1 ⟨rfl, b1⟩
    go_wp2_with fail
    refine (HTp.out _ b1).mono ?_
    rintro e u ⟨rfl, hu⟩
    obtain rfl : w1 = u := hu.symm
    go_wp2_with fail
    refine (HOr.out _ b1).mono ?_
    rintro e w2 ⟨av, rfl, ko, b2⟩
    have IV := hide ko.ints
    have B2 := hide (chain b1 b2)
    obtain ⟨pa, ca, rfl, _⟩ := ko.ints
    clear HOr HI ko b1 b2 HTp
    go_wp2_with fail
    go_loopw [6] (fun iv wr => ∃ k : Nat, k ≤ ord.length ∧ iv = .int .i64 k ∧ Hid (RES = ((ord.drop k).find? P).getD (-1)) ∧ Hid (Below w2.heap.size w2 wr)) (fun iv _ => ord.length - (intOf iv).toNat)
    case atStart => exact ⟨0, Nat.zero_le _, rfl, by show _ = _; rw [List.drop_zero]; exact EL.out, Below.refl _ _⟩
    case round =>
      rename World => wr
      obtain ⟨k, hk, rfl, HE, BW⟩ := hrel
      have BWW := hide (chain B2.out BW.out)
      by_cases g : k < ord.length
      · have k1 : (k : Int) < (ord.length : Int) := by omega
        have k0 : (0 : Int) ≤ (k : Int) := by omega
        obtain ⟨pa', ca', eva, hav⟩ := IV.out.below BW.out
        cases eva
        rcases hav with hav | ⟨b2, o2, rfl, hav⟩
        · rw [hav] at g; simp at g
        have x0 := hav k g
        have rx := RNG.out ord[k] (List.getElem_mem g)
        obtain ⟨q, eq, hq⟩ := nat_of (z := ord[k]) (n := l.length) (by omega) rx.2
        have EQ := hide eq
        have OBq := OB.out (q : Int)
        rw [eq] at x0
        have FN := hide (find_noW (p := P) g)
        have FY := hide (find_yesW (p := P) g)
        have HKq := hide (fun W hb => HKd.out q W hq hb)
        have HFq := hide (fun W hb => HFm.out (q : Int) W hb)
        have HLq := hide (fun W => HLs.out (kI l (q : Int)) W)
        rw [eq] at FN FY
        clear hav eq rx HKd HFm HLs RNG OB EL
        cases lb : fireB (kI l (q : Int)) with
        | false =>
          rw [lb, Bool.false_and] at OBq
          rw [lb] at HLq
          have E1 : Hid (RES = ((ord.drop (k + 1)).find? P).getD (-1)) := by show _ = _; rw [HE.out, FN.out OBq]
          clear FN FY OBq lb HE
          generalize kI l (q : Int) = kq at *
          go_wp2_with fail
          refine (HKq.out _ BWW.out).mono ?_
          rintro e w3 ⟨rfl, b3⟩
          have B3 := hide (chain BWW.out b3)
          have BL3 := hide (chain BW.out b3)
          clear b3
          go_wp2_with fail
          refine (HLq.out _).mono ?_
          rintro e u ⟨rfl, hu⟩
          obtain rfl : w3 = u := hu.symm
          go_wp2_with fail
          go_roundw
          case rel => exact ⟨k + 1, by omega, by go_num, E1, BL3⟩
          case measure => simp [intOf]; omega
        | true =>
          rw [lb, Bool.true_and] at OBq
          rw [lb] at HLq
          by_cases g2 : formP l (q : Int) = (m : Int)
          · rw [decide_eq_true g2] at OBq
            have E1 : Hid (RES = (q : Int)) := by show _ = _; rw [HE.out, FY.out OBq]; rfl
            have d2 : (formP l (q : Int) == (m : Int)) = true := beq_iff_eq.2 g2
            clear FN FY OBq lb g2 HE
            generalize kI l (q : Int) = kq at *
            generalize formP l (q : Int) = fq at *
            go_wp2_with fail
            refine (HKq.out _ BWW.out).mono ?_
            rintro e w3 ⟨rfl, b3⟩
            have B3 := hide (chain BWW.out b3)
            have BL3 := hide (chain BW.out b3)
            clear b3
            go_wp2_with fail
            refine (HLq.out _).mono ?_
            rintro e u ⟨rfl, hu⟩
            obtain rfl : w3 = u := hu.symm
            obtain ⟨pa3, ca3, eva3, hav3⟩ := IV.out.below BL3.out
            cases eva3
            have x3 := (hav3.resolve_left (fun t => by rw [t] at g; simp at g))
            obtain ⟨b3', o3', e3', hav3'⟩ := x3
            cases e3'
            have y0 := hav3' k g
            rw [EQ.out] at y0
            clear hav3 hav3'
            go_wp2_with fail
            refine (HFq.out _ B3.out).mono ?_
            rintro e w4 ⟨rfl, b4⟩
            have BL4 := hide (chain BL3.out b4)
            have B4 := hide (chain B3.out b4)
            obtain ⟨pa4, ca4, eva4, hav4⟩ := IV.out.below BL4.out
            cases eva4
            have x4 := (hav4.resolve_left (fun t => by rw [t] at g; simp at g))
            obtain ⟨b4', o4', e4', hav4'⟩ := x4
            cases e4'
            have y4 := hav4' k g
            rw [EQ.out] at y4
            clear hav4 hav4'
            go_wp2_with fail
            go_ret
            exact ⟨ret_int E1.out.symm, B4.out⟩
          · rw [decide_eq_false g2] at OBq
            have E1 : Hid (RES = ((ord.drop (k + 1)).find? P).getD (-1)) := by show _ = _; rw [HE.out, FN.out OBq]
            have d2 : (formP l (q : Int) == (m : Int)) = false := beq_eq_false_iff_ne.2 g2
            clear FN FY OBq lb g2 HE
            generalize kI l (q : Int) = kq at *
            generalize formP l (q : Int) = fq at *
            go_wp2_with fail
            refine (HKq.out _ BWW.out).mono ?_
            rintro e w3 ⟨rfl, b3⟩
            have B3 := hide (chain BWW.out b3)
            have BL3 := hide (chain BW.out b3)
            clear b3
            go_wp2_with fail
            refine (HLq.out _).mono ?_
            rintro e u ⟨rfl, hu⟩
            obtain rfl : w3 = u := hu.symm
            obtain ⟨pa3, ca3, eva3, hav3⟩ := IV.out.below BL3.out
            cases eva3
            have x3 := (hav3.resolve_left (fun t => by rw [t] at g; simp at g))
            obtain ⟨b3', o3', e3', hav3'⟩ := x3
            cases e3'
            have y0 := hav3' k g
            rw [EQ.out] at y0
            clear hav3 hav3'
            go_wp2_with fail
            refine (HFq.out _ B3.out).mono ?_
            rintro e w4 ⟨rfl, b4⟩
            have BL4 := hide (chain BL3.out b4)
            have B4 := hide (chain B3.out b4)
            go_wp2_with fail
            go_roundw
            case rel => exact ⟨k + 1, by omega, by go_num, E1, BL4⟩
            case measure => simp [intOf]; omega
      · obtain rfl : k = ord.length := by omega
        have E1 : Hid (RES = -1) := by show _ = _; rw [HE.out, List.drop_length]; rfl
        go_wp2_with fail
        go_ret
        exact ⟨ret_int E1.out.symm, BWW.out⟩
end Go.Proofs.YtoejiojkpbibcaaDoor

namespace Go.Proofs.YtoejiojkpbibcaaDoor
open Go.RowKit
set_option maxRecDepth 100000
theorem els_few {l : List Nd} (f : Int) : (elementsP l f).length ≤ 17592186044416 := by
  unfold elementsP
  split
  · rename_i h
    have hh : hasN l f = true := by unfold isK at h; rw [Bool.and_eq_true] at h; exact h.1
    obtain ⟨m, hI⟩ := Is.of hh
    obtain ⟨t, et, ht⟩ := top_in hI.right hI.lt
    rw [hI.eq, et]
    have := order_few hI.right ht
    have := List.length_filter_le (elB l (m : Int)) (orderP l (t : Int))
    omega
  · exact Nat.zero_le _
set_option maxHeartbeats 8000000 in
theorem ownerElements_walk (v : Value) (l : List Nd) (id : Int) (w : World) (hv : NodesV w v l) (hz : DocSz l) (hT : OwTabs w) :
    Calls Tryd.prog 4 #[v, .int .i64 id] w fun e w' => e = .returned (.bool true) ∧ Below w.heap.size w w' := by
  have HV := hide hv
  have HW := hide (fun W (hb : Below w.heap.size w W) => owWakes_any W (hT.below hb))
  have HC := hide (refCopied_any v l w hv hz)
  have H1 := hide (fun u W (hb : Below w.heap.size w W) (hu : NodesV W u l) => owElements_any u l id W hu hz (hT.below hb))
  have H2 := hide (fun W (hb : Below w.heap.size w W) => refElements_any v l id W (HV.out.below hb) hz)
  have H3 := hide (fun va vb W (ha : IntsV W va (elementsP l id)) (hb : IntsV W vb (elementsP l id)) => refSameInts_any va vb (elementsP l id) (elementsP l id) W ha hb (els_few id))
  rw [show decide (elementsP l id = elementsP l id) = true from decide_eq_true rfl] at H3
  have H4 := hide (fun u W (hb : Below w.heap.size w W) (hu : NodesV W u l) => owDefault_any u l id W hu hz (hT.below hb))
  have H5 := hide (fun W (hb : Below w.heap.size w W) => refDefault_any v l id W (HV.out.below hb) hz)
  generalize elementsP l id = lp at *
  generalize defaultP l id = R at *
  obtain ⟨p, k, rfl⟩ : ∃ p k, v = .slice p l.length k := by obtain ⟨p, k, e, _⟩ := hv; exact ⟨p, k, e⟩
  clear hv hz hT HV
  go_enter Tryd.func4, Tryd.ntmps4
  go_wp2_with fail
  refine HC.out.mono ?_
  rintro e w1 ⟨v2, L2, rfl, o2, e2, b1⟩
  have N1 : Hid (NodesV w1 v2 l) := by show NodesV _ _ _; rw [← e2]; exact o2.nodes
  obtain ⟨p2, k2, rfl⟩ : ∃ p k, v2 = .slice p l.length k := by obtain ⟨p, k, e, _⟩ := N1.out; exact ⟨p, k, e⟩
  have B1 := hide b1
  clear o2 e2 b1
  go_wp2_with fail
  refine (HW.out _ B1.out).mono ?_
  rintro e w2 ⟨rfl, b2⟩
  have B2 := hide (chain B1.out b2)
  have N2 := hide (N1.out.below b2)
  clear b2 B1 N1
  go_wp2_with fail
  refine (H1.out _ _ B2.out N2.out).mono ?_
  rintro e w3 ⟨v3, rfl, i3, b3⟩
  have I3 := hide i3
  obtain ⟨p3, k3, rfl, _⟩ := i3
  have B3 := hide (chain B2.out b3)
  have N3 := hide (N2.out.below b3)
  clear b3 B2 N2
  go_wp2_with fail
  refine (H2.out _ B3.out).mono ?_
  rintro e w4 ⟨v4, rfl, i4, b4⟩
  have I4 := hide i4.ints
  have J4 := hide (I3.out.below b4)
  obtain ⟨p4, k4, rfl, _⟩ := i4.ints
  have B4 := hide (chain B3.out b4)
  have N4 := hide (N3.out.below b4)
  clear b4 B3 N3 i4 I3
  go_wp2_with fail
  refine (H3.out _ _ _ J4.out I4.out).mono ?_
  rintro e w5 ⟨rfl, m5, rfl⟩
  have B5 := hide (belW B4.out m5)
  have N5 : Hid (NodesV (w4.drewN m5) (.slice p2 l.length k2) l) := N4.out.below ⟨rfl, rfl, rfl, Nat.le_refl _, fun _ _ => rfl⟩
  clear J4 I4 B4 N4
  generalize w4.drewN m5 = w5 at *
  go_wp2_with fail
  refine (H4.out _ _ B5.out N5.out).mono ?_
  rintro e w6 ⟨rfl, b6⟩
  have B6 := hide (chain B5.out b6)
  go_wp2_with fail
  refine (H5.out _ B6.out).mono ?_
  rintro e w7 ⟨rfl, b7⟩
  go_wp2_with fail
  go_ret
  exact ⟨rfl, chain B6.out b7⟩

end Go.Proofs.YtoejiojkpbibcaaDoor
