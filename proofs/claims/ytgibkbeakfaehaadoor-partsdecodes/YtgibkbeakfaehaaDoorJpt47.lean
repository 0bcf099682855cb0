/- The document's read of layer 20. -/
import Derived.Test.YtgibkbeakfaehaaDoorJpt23
import Derived.Test.YtgibkbeakfaehaaDoorJpt24
import Derived.Test.YtgibkbeakfaehaaDoorJpt36
import Derived.Test.YtgibkbeakfaehaaDoorJpt46

namespace Go.Proofs.YtgibkbeakfaehaaDoor
open Go.RowKit
set_option maxRecDepth 100000
set_option maxHeartbeats 8000000 in
theorem refRead_any (s : ByteArray) (w : World) (hs : s.size ≤ 16777216) :
    Calls Tryd.prog 48 #[.string s] w fun e w' => ∃ x : En, e = .returned (.tuple #[enV x, .bool (readL (bL s)).isSome]) ∧ (∀ y, readL (bL s) = some y → x = y) ∧ Below w.heap.size w w' := by
  have HF := hide (fun W => refFindP_any s ⟨#[13, 10, 13, 10]⟩ 0 W (by omega) (by decide) (Nat.zero_le _))
  rw [show fndI (bL ⟨#[13, 10, 13, 10]⟩) ((bL s).drop 0) 0 = fndI c4L (bL s) 0 from rfl] at HF
  have KE : Hid (Bk ((w.alloc (.cells #[.string ⟨#[]⟩, .string ⟨#[]⟩, .bool false, .string ⟨#[]⟩, .string ⟨#[]⟩] 44)).alloc (.cells #[.string ⟨#[]⟩, .string ⟨#[]⟩, .bool false, .string ⟨#[]⟩, .string ⟨#[]⟩] 44)) (w.heap.size + 1) [.string ⟨#[]⟩, .string ⟨#[]⟩, .bool false, .string ⟨#[]⟩, .string ⟨#[]⟩] 44) := by
    have := Bk.new (w.alloc (.cells #[.string ⟨#[]⟩, .string ⟨#[]⟩, .bool false, .string ⟨#[]⟩, .string ⟨#[]⟩] 44)) [.string ⟨#[]⟩, .string ⟨#[]⟩, .bool false, .string ⟨#[]⟩, .string ⟨#[]⟩] 44
    rw [World.size_alloc] at this
    exact this
  have KR : Hid (Bk ((w.alloc (.cells #[.string ⟨#[]⟩, .string ⟨#[]⟩, .bool false, .string ⟨#[]⟩, .string ⟨#[]⟩] 44)).alloc (.cells #[.string ⟨#[]⟩, .string ⟨#[]⟩, .bool false, .string ⟨#[]⟩, .string ⟨#[]⟩] 44)) w.heap.size [.string ⟨#[]⟩, .string ⟨#[]⟩, .bool false, .string ⟨#[]⟩, .string ⟨#[]⟩] 44) := (Bk.new w _ _).below ((Below.refl _ _).alloc (Nat.le_refl _) _)
  have B0 : Hid (Below w.heap.size w ((w.alloc (.cells #[.string ⟨#[]⟩, .string ⟨#[]⟩, .bool false, .string ⟨#[]⟩, .string ⟨#[]⟩] 44)).alloc (.cells #[.string ⟨#[]⟩, .string ⟨#[]⟩, .bool false, .string ⟨#[]⟩, .string ⟨#[]⟩] 44))) := ((Below.refl _ w).alloc (Nat.le_refl _) _).alloc (by simp) _
  have ne1 : ¬ w.heap.size + 1 = w.heap.size := by omega
  have ne2 : ¬ w.heap.size = w.heap.size + 1 := by omega
  cases hc : cutL c4L (bL s) with
  | none =>
    have RN : Hid (readL (bL s) = none) := read_no hc
    rw [show fndI c4L (bL s) 0 = -1 by unfold fndI; rw [hc]] at HF
    clear hc
    go_enter Tryd.func48, Tryd.ntmps48
    go_wp2_with fail
    generalize ((w.alloc (.cells #[.string ⟨#[]⟩, .string ⟨#[]⟩, .bool false, .string ⟨#[]⟩, .string ⟨#[]⟩] 44)).alloc (.cells #[.string ⟨#[]⟩, .string ⟨#[]⟩, .bool false, .string ⟨#[]⟩, .string ⟨#[]⟩] 44)) = W0 at *
    refine (HF.out _).mono ?_
    rintro e w1 ⟨rfl, hu⟩
    obtain rfl : W0 = w1 := hu.symm
    have p0 := KE.out.cell 0 rfl
    have p1 := KE.out.cell 1 rfl
    have p2 := KE.out.cell 2 rfl
    have p3 := KE.out.cell 3 rfl
    have p4 := KE.out.cell 4 rfl
    have r0 := KR.out.cell 0 rfl
    have s0 := KR.out.free 0
    have r1 := KR.out.cell 1 rfl
    have s1 := KR.out.free 1
    have r2 := KR.out.cell 2 rfl
    have s2 := KR.out.free 2
    have r3 := KR.out.cell 3 rfl
    have s3 := KR.out.free 3
    have r4 := KR.out.cell 4 rfl
    have s4 := KR.out.free 4
    go_wp2_with fail
    refine bodyPost_ret (v := .tuple #[.agg #[.string ⟨#[]⟩, .string ⟨#[]⟩, .bool false, .string ⟨#[]⟩, .string ⟨#[]⟩], .bool false]) (by simp [results, go_sem, r0, r1, r2, r3, r4]) rfl ?_
    exact ⟨⟨⟨#[]⟩, ⟨#[]⟩, false, ⟨#[]⟩, ⟨#[]⟩⟩, by rw [RN.out]; rfl, fun y t => (by rw [RN.out] at t; cases t), low5 B0.out (Nat.le_refl _) _ _ _ _ _⟩
  | some hv =>
    obtain ⟨h, v⟩ := hv
    have SP := cut_spec hc
    have ez : (bL s).length = h.length + 4 + v.length := by rw [SP]; simp only [List.length_append]; rfl
    rw [len_bL] at ez
    rw [show fndI c4L (bL s) 0 = (h.length : Int) by unfold fndI; rw [hc]; show ((0 + h.length : Nat) : Int) = _; rw [Nat.zero_add]] at HF
    have hd0 : Hid (s.extract 0 h.length = txt h) := by
      show _ = _
      rw [ext_txt, Nat.sub_zero, List.drop_zero, SP, List.append_assoc, List.take_left' rfl]
    have vd0 : Hid (s.extract (h.length + 4) s.size = txt v) := by
      show _ = _
      rw [ext_txt, SP, List.drop_left' (by simp only [List.length_append]; rfl), List.take_of_length_le (by omega)]
    have hz : h.length ≤ s.size := by omega
    have hi0 : (0 : Int) ≤ (h.length : Int) := by omega
    have hi1 : (h.length : Int) ≤ (s.size : Int) := by omega
    have hi2 : ¬ (h.length : Int) < 0 := by omega
    have hi3 : decide ((h.length : Int) < 0) = false := decide_eq_false hi2
    have hi4 : (h.length : Int) + 4 ≤ (s.size : Int) := by omega
    have XZ : Hid ((txt h).size = h.length) := rfl
    have EXT : Hid (∀ t : ByteArray, bL t = h → txt h = t) := fun t e => by rw [← e]; rfl
    have HB1 := hide (fun W => refBegins_any (txt h) ⟨#[67, 111, 110, 116, 101, 110, 116, 45, 68, 105, 115, 112, 111, 115, 105, 116, 105, 111, 110, 58, 32, 102, 111, 114, 109, 45, 100, 97, 116, 97, 59, 32, 110, 97, 109, 101, 61, 34]⟩ 0 W (by show h.length ≤ _; omega) (by decide) (Nat.zero_le _))
    rw [show (bL ⟨#[67, 111, 110, 116, 101, 110, 116, 45, 68, 105, 115, 112, 111, 115, 105, 116, 105, 111, 110, 58, 32, 102, 111, 114, 109, 45, 100, 97, 116, 97, 59, 32, 110, 97, 109, 101, 61, 34]⟩).isPrefixOf ((bL (txt h)).drop 0) = c1L.isPrefixOf h from rfl] at HB1
    clear SP ez
    cases q1 : c1L.isPrefixOf h with
    | false =>
      have RN : Hid (readL (bL s) = none) := read_begin hc q1
      rw [q1] at HB1
      rw [← hd0.out] at HB1
      clear hc q1
      go_enter Tryd.func48, Tryd.ntmps48
      go_wp2_with fail
      generalize ((w.alloc (.cells #[.string ⟨#[]⟩, .string ⟨#[]⟩, .bool false, .string ⟨#[]⟩, .string ⟨#[]⟩] 44)).alloc (.cells #[.string ⟨#[]⟩, .string ⟨#[]⟩, .bool false, .string ⟨#[]⟩, .string ⟨#[]⟩] 44)) = W0 at *
      refine (HF.out _).mono ?_
      rintro e w1 ⟨rfl, hu⟩
      obtain rfl : W0 = w1 := hu.symm
      go_wp2_with fail
      refine (HB1.out _).mono ?_
      rintro e w1 ⟨rfl, hu⟩
      obtain rfl : W0 = w1 := hu.symm
      have p0 := KE.out.cell 0 rfl
      have p1 := KE.out.cell 1 rfl
      have p2 := KE.out.cell 2 rfl
      have p3 := KE.out.cell 3 rfl
      have p4 := KE.out.cell 4 rfl
      have r0 := KR.out.cell 0 rfl
      have s0 := KR.out.free 0
      have r1 := KR.out.cell 1 rfl
      have s1 := KR.out.free 1
      have r2 := KR.out.cell 2 rfl
      have s2 := KR.out.free 2
      have r3 := KR.out.cell 3 rfl
      have s3 := KR.out.free 3
      have r4 := KR.out.cell 4 rfl
      have s4 := KR.out.free 4
      go_wp2_with fail
      refine bodyPost_ret (v := .tuple #[.agg #[.string ⟨#[]⟩, .string ⟨#[]⟩, .bool false, .string ⟨#[]⟩, .string ⟨#[]⟩], .bool false]) (by simp [results, go_sem, r0, r1, r2, r3, r4]) rfl ?_
      exact ⟨⟨⟨#[]⟩, ⟨#[]⟩, false, ⟨#[]⟩, ⟨#[]⟩⟩, by rw [RN.out]; rfl, fun y t => (by rw [RN.out] at t; cases t), low5 B0.out (Nat.le_refl _) _ _ _ _ _⟩
    | true =>
      rw [q1] at HB1
      have h38 : 38 ≤ h.length := by have := (List.isPrefixOf_iff_prefix.1 q1).length_le; exact this
      have HQ1 := hide (fun W => refQuoted_any (txt h) 38 W (by show h.length ≤ _; omega) (by show 38 ≤ h.length; omega))
      rw [show (bL (txt h)).drop 38 = h.drop 38 from rfl] at HQ1
      cases qn : quoL (h.drop 38) with
      | none =>
        have RN : Hid (readL (bL s) = none) := read_quote hc q1 qn
        obtain ⟨y1, y2⟩ := quo_none (k := 38) qn
        rw [y1, y2] at HQ1
        rw [← hd0.out] at HB1 HQ1
        clear hc q1 qn y1 y2
        go_enter Tryd.func48, Tryd.ntmps48
        go_wp2_with fail
        generalize ((w.alloc (.cells #[.string ⟨#[]⟩, .string ⟨#[]⟩, .bool false, .string ⟨#[]⟩, .string ⟨#[]⟩] 44)).alloc (.cells #[.string ⟨#[]⟩, .string ⟨#[]⟩, .bool false, .string ⟨#[]⟩, .string ⟨#[]⟩] 44)) = W0 at *
        refine (HF.out _).mono ?_
        rintro e w1 ⟨rfl, hu⟩
        obtain rfl : W0 = w1 := hu.symm
        go_wp2_with fail
        refine (HB1.out _).mono ?_
        rintro e w1 ⟨rfl, hu⟩
        obtain rfl : W0 = w1 := hu.symm
        go_wp2_with fail
        refine (HQ1.out _).mono ?_
        rintro e w1 ⟨rfl, b1⟩
        replace KE := hide (KE.out.below b1)
        replace KR := hide (KR.out.below b1)
        have B1 := hide (chain B0.out b1)
        have p0 := KE.out.cell 0 rfl
        have p1 := KE.out.cell 1 rfl
        have p2 := KE.out.cell 2 rfl
        have p3 := KE.out.cell 3 rfl
        have p4 := KE.out.cell 4 rfl
        have r0 := KR.out.cell 0 rfl
        have s0 := KR.out.free 0
        have r1 := KR.out.cell 1 rfl
        have s1 := KR.out.free 1
        have r2 := KR.out.cell 2 rfl
        have s2 := KR.out.free 2
        have r3 := KR.out.cell 3 rfl
        have s3 := KR.out.free 3
        have r4 := KR.out.cell 4 rfl
        have s4 := KR.out.free 4
        go_wp2_with fail
        refine bodyPost_ret (v := .tuple #[.agg #[.string ⟨#[]⟩, .string ⟨#[]⟩, .bool false, .string ⟨#[]⟩, .string ⟨#[]⟩], .bool false]) (by simp [results, go_sem, r0, r1, r2, r3, r4]) rfl ?_
        exact ⟨⟨⟨#[]⟩, ⟨#[]⟩, false, ⟨#[]⟩, ⟨#[]⟩⟩, by rw [RN.out]; rfl, fun y t => (by rw [RN.out] at t; cases t), low5 B1.out (Nat.le_refl _) _ _ _ _ _⟩
      | some nr =>
        obtain ⟨n, r⟩ := nr
        rw [quoT_some qn, quoI_some qn] at HQ1
        have SQ := quo_spec qn
        have hl : h.length = 38 + n.length + 1 + r.length := by
          have := congrArg List.length SQ
          rw [List.length_drop, List.length_append, List.length_cons] at this
          omega
        have RD := hide (read_name hc q1 qn)
        have HR : Hid (h.drop (38 + n.length + 1) = r) := by
          show _ = _
          rw [← List.drop_drop, ← List.drop_drop, SQ, List.drop_left' rfl]; rfl
        have A0 : 38 + n.length + 1 + r.length = h.length := hl.symm
        have TN : Hid (txt (unL n) = txt (unL n)) := rfl
        have aS : s.extract 0 h.length = txt h := hd0.out
        rw [← aS] at HB1 HQ1
        clear SQ hl qn q1 hc
        generalize hA : 38 + n.length + 1 = A at *
        clear hA
        have c2b := hide (fun W (q : A ≤ h.length) => refBegins_any (txt h) ⟨#[59, 32, 102, 105, 108, 101, 110, 97, 109, 101, 61, 34]⟩ A W (by show h.length ≤ _; omega) (by decide) q)
        rw [show (bL ⟨#[59, 32, 102, 105, 108, 101, 110, 97, 109, 101, 61, 34]⟩).isPrefixOf ((bL (txt h)).drop A) = c2L.isPrefixOf (h.drop A) from rfl, HR.out] at c2b
        have HB2 := hide (fun W => c2b.out W (by omega))
        have RDH := hide (fun z => readH_nil n z)
        have aA0 : (0 : Int) ≤ (A : Int) := by omega
        have aA1 : (A : Int) ≤ (h.length : Int) := by omega
        have aA2 : decide ((A : Int) < 0) = false := decide_eq_false (by omega)
        have aA3 : ¬ (A : Int) < 0 := by omega
        by_cases rn : r = []
        · have RN : Hid (readL (bL s) = some ⟨txt (unL n), txt v, false, ⟨#[]⟩, ⟨#[]⟩⟩) := by show _ = _; rw [RD.out, rn]; exact RDH.out v
          have eqA : (((A : Int) == (h.length : Int))) = true := by rw [beq_iff_eq]; rw [rn, List.length_nil] at A0; omega
          have eqB : (A : Int) = (h.length : Int) := by rw [beq_iff_eq] at eqA; exact eqA
          rw [← vd0.out] at RN
          have hsz : (s.extract 0 h.length).size = h.length := by rw [hd0.out]; rfl
          have eqC : ((A : Int) == ((s.extract 0 h.length).size : Int)) = true := by rw [hsz]; exact eqA
          clear rn HB2 c2b RDH RD A0 hd0 vd0 aS EXT XZ HR TN eqA hsz eqB
          generalize txt (unL n) = n0 at *
          go_enter Tryd.func48, Tryd.ntmps48
          go_wp2_with fail
          generalize ((w.alloc (.cells #[.string ⟨#[]⟩, .string ⟨#[]⟩, .bool false, .string ⟨#[]⟩, .string ⟨#[]⟩] 44)).alloc (.cells #[.string ⟨#[]⟩, .string ⟨#[]⟩, .bool false, .string ⟨#[]⟩, .string ⟨#[]⟩] 44)) = W0 at *
          refine (HF.out _).mono ?_
          rintro e w1 ⟨rfl, hu⟩
          obtain rfl : W0 = w1 := hu.symm
          go_wp2_with fail
          refine (HB1.out _).mono ?_
          rintro e w1 ⟨rfl, hu⟩
          obtain rfl : W0 = w1 := hu.symm
          go_wp2_with fail
          clear HB1
          generalize s.extract 0 h.length = hd at *
          refine (HQ1.out _).mono ?_
          rintro e w1 ⟨rfl, b1⟩
          replace KE := hide (KE.out.below b1)
          replace KR := hide (KR.out.below b1)
          have B1 := hide (chain B0.out b1)
          have ltE := KE.out.lt
          have e0 := KE.out.cell 0 rfl
          have f0' := KE.out.free 0
          have e1 := KE.out.cell 1 rfl
          have f1' := KE.out.free 1
          have KE2 : Hid (Bk ((w1.setCell ⟨w.heap.size + 1, 0, none⟩ (.string n0)).setCell ⟨w.heap.size + 1, 1, none⟩ (.string (s.extract (h.length + 4) s.size))) (w.heap.size + 1) [.string n0, .string (s.extract (h.length + 4) s.size), .bool false, .string ⟨#[]⟩, .string ⟨#[]⟩] 44) := (KE.out.set 0 _).set 1 _
          have KR2 : Hid (Bk ((w1.setCell ⟨w.heap.size + 1, 0, none⟩ (.string n0)).setCell ⟨w.heap.size + 1, 1, none⟩ (.string (s.extract (h.length + 4) s.size))) w.heap.size [.string ⟨#[]⟩, .string ⟨#[]⟩, .bool false, .string ⟨#[]⟩, .string ⟨#[]⟩] 44) := (KR.out.other ne1 _ _).other ne1 _ _
          have B2 : Hid (Below w.heap.size w ((w1.setCell ⟨w.heap.size + 1, 0, none⟩ (.string n0)).setCell ⟨w.heap.size + 1, 1, none⟩ (.string (s.extract (h.length + 4) s.size)))) := (B1.out.setCell (p := ⟨w.heap.size + 1, 0, none⟩) (Nat.le_succ _) _).setCell (p := ⟨w.heap.size + 1, 1, none⟩) (Nat.le_succ _) _
          clear b1 KE KR B1 B0 HF HQ1
          have eqC2 := eqC
          have p0 := KE2.out.cell 0 rfl
          have p1 := KE2.out.cell 1 rfl
          have p2 := KE2.out.cell 2 rfl
          have p3 := KE2.out.cell 3 rfl
          have p4 := KE2.out.cell 4 rfl
          have r0 := KR2.out.cell 0 rfl
          have s0 := KR2.out.free 0
          have r1 := KR2.out.cell 1 rfl
          have s1 := KR2.out.free 1
          have r2 := KR2.out.cell 2 rfl
          have s2 := KR2.out.free 2
          have r3 := KR2.out.cell 3 rfl
          have s3 := KR2.out.free 3
          have r4 := KR2.out.cell 4 rfl
          have s4 := KR2.out.free 4
          go_wp2_with fail
          refine bodyPost_ret (v := .tuple #[.agg #[.string n0, .string (s.extract (h.length + 4) s.size), .bool false, .string ⟨#[]⟩, .string ⟨#[]⟩], .bool true]) (by simp [results, go_sem, r0, r1, r2, r3, r4]) rfl ?_
          exact ⟨⟨n0, (s.extract (h.length + 4) s.size), false, ⟨#[]⟩, ⟨#[]⟩⟩, by rw [RN.out]; rfl, fun y t => (by rw [RN.out] at t; cases t; rfl), low5 B2.out (Nat.le_refl _) _ _ _ _ _⟩
        · have nA : ¬ (A : Int) = (h.length : Int) := fun t => rn (List.eq_nil_of_length_eq_zero (by omega))
          have hsz : (s.extract 0 h.length).size = h.length := by rw [hd0.out]; rfl
          have eqC : ((A : Int) == ((s.extract 0 h.length).size : Int)) = false := by rw [hsz, beq_eq_false_iff_ne]; exact nA
          have aA4 : (A : Int) ≤ ((s.extract 0 h.length).size : Int) := by rw [hsz]; exact aA1
          cases q2 : c2L.isPrefixOf r with
          | false =>
            have RN : Hid (readL (bL s) = none) := by show _ = _; rw [RD.out]; exact readH_no rn q2
            rw [q2, ← aS] at HB2
            clear rn c2b RDH RD A0 hd0 aS EXT XZ HR TN nA hsz q2
            generalize txt (unL n) = n0 at *
            go_enter Tryd.func48, Tryd.ntmps48
            go_wp2_with fail
            generalize ((w.alloc (.cells #[.string ⟨#[]⟩, .string ⟨#[]⟩, .bool false, .string ⟨#[]⟩, .string ⟨#[]⟩] 44)).alloc (.cells #[.string ⟨#[]⟩, .string ⟨#[]⟩, .bool false, .string ⟨#[]⟩, .string ⟨#[]⟩] 44)) = W0 at *
            refine (HF.out _).mono ?_
            rintro e w1 ⟨rfl, hu⟩
            obtain rfl : W0 = w1 := hu.symm
            go_wp2_with fail
            refine (HB1.out _).mono ?_
            rintro e w1 ⟨rfl, hu⟩
            obtain rfl : W0 = w1 := hu.symm
            go_wp2_with fail
            clear HB1
            generalize s.extract 0 h.length = hd at *
            refine (HQ1.out _).mono ?_
            rintro e w1 ⟨rfl, b1⟩
            replace KE := hide (KE.out.below b1)
            replace KR := hide (KR.out.below b1)
            have B1 := hide (chain B0.out b1)
            have ltE := KE.out.lt
            have e0 := KE.out.cell 0 rfl
            have f0' := KE.out.free 0
            have e1 := KE.out.cell 1 rfl
            have f1' := KE.out.free 1
            have KE2 : Hid (Bk ((w1.setCell ⟨w.heap.size + 1, 0, none⟩ (.string n0)).setCell ⟨w.heap.size + 1, 1, none⟩ (.string (s.extract (h.length + 4) s.size))) (w.heap.size + 1) [.string n0, .string (s.extract (h.length + 4) s.size), .bool false, .string ⟨#[]⟩, .string ⟨#[]⟩] 44) := (KE.out.set 0 _).set 1 _
            have KR2 : Hid (Bk ((w1.setCell ⟨w.heap.size + 1, 0, none⟩ (.string n0)).setCell ⟨w.heap.size + 1, 1, none⟩ (.string (s.extract (h.length + 4) s.size))) w.heap.size [.string ⟨#[]⟩, .string ⟨#[]⟩, .bool false, .string ⟨#[]⟩, .string ⟨#[]⟩] 44) := (KR.out.other ne1 _ _).other ne1 _ _
            have B2 : Hid (Below w.heap.size w ((w1.setCell ⟨w.heap.size + 1, 0, none⟩ (.string n0)).setCell ⟨w.heap.size + 1, 1, none⟩ (.string (s.extract (h.length + 4) s.size)))) := (B1.out.setCell (p := ⟨w.heap.size + 1, 0, none⟩) (Nat.le_succ _) _).setCell (p := ⟨w.heap.size + 1, 1, none⟩) (Nat.le_succ _) _
            clear b1 KE KR B1 B0 HF HQ1
            go_wp2_with fail
            generalize ((w1.setCell ⟨w.heap.size + 1, 0, none⟩ (.string n0)).setCell ⟨w.heap.size + 1, 1, none⟩ (.string (s.extract (h.length + 4) s.size))) = W2 at *
            refine (HB2.out _).mono ?_
            rintro e w2 ⟨rfl, hu⟩
            obtain rfl : W2 = w2 := hu.symm
            have p0 := KE2.out.cell 0 rfl
            have p1 := KE2.out.cell 1 rfl
            have p2 := KE2.out.cell 2 rfl
            have p3 := KE2.out.cell 3 rfl
            have p4 := KE2.out.cell 4 rfl
            have r0 := KR2.out.cell 0 rfl
            have s0 := KR2.out.free 0
            have r1 := KR2.out.cell 1 rfl
            have s1 := KR2.out.free 1
            have r2 := KR2.out.cell 2 rfl
            have s2 := KR2.out.free 2
            have r3 := KR2.out.cell 3 rfl
            have s3 := KR2.out.free 3
            have r4 := KR2.out.cell 4 rfl
            have s4 := KR2.out.free 4
            go_wp2_with fail
            refine bodyPost_ret (v := .tuple #[.agg #[.string n0, .string (s.extract (h.length + 4) s.size), .bool false, .string ⟨#[]⟩, .string ⟨#[]⟩], .bool false]) (by simp [results, go_sem, r0, r1, r2, r3, r4]) rfl ?_
            exact ⟨⟨n0, (s.extract (h.length + 4) s.size), false, ⟨#[]⟩, ⟨#[]⟩⟩, by rw [RN.out]; rfl, fun y t => (by rw [RN.out] at t; cases t), low5 B2.out (Nat.le_refl _) _ _ _ _ _⟩
          | true =>
            have r12 : 12 ≤ r.length := (List.isPrefixOf_iff_prefix.1 q2).length_le
            have HR2 : Hid (h.drop (A + 12) = r.drop 12) := by show _ = _; rw [← List.drop_drop, HR.out]
            have HQ2 := hide (fun W => refQuoted_any (txt h) (A + 12) W (by show h.length ≤ _; omega) (by show A + 12 ≤ h.length; omega))
            rw [show (bL (txt h)).drop (A + 12) = h.drop (A + 12) from rfl, HR2.out] at HQ2
            have cst : ((A + 12 : Nat) : Int) = (A : Int) + 12 := by omega
            rw [cst] at HQ2
            cases qf : quoL (r.drop 12) with
            | none =>
              have RN : Hid (readL (bL s) = none) := by show _ = _; rw [RD.out]; exact readH_quote rn q2 qf
              obtain ⟨y1, y2⟩ := quo_none (k := A + 12) qf
              rw [y1, y2, ← aS] at HQ2
              rw [q2, ← aS] at HB2
              clear rn c2b RDH RD A0 hd0 aS EXT XZ HR HR2 TN nA hsz q2 qf y1 y2 r12 cst
              generalize txt (unL n) = n0 at *
              go_enter Tryd.func48, Tryd.ntmps48
              go_wp2_with fail
              generalize ((w.alloc (.cells #[.string ⟨#[]⟩, .string ⟨#[]⟩, .bool false, .string ⟨#[]⟩, .string ⟨#[]⟩] 44)).alloc (.cells #[.string ⟨#[]⟩, .string ⟨#[]⟩, .bool false, .string ⟨#[]⟩, .string ⟨#[]⟩] 44)) = W0 at *
              refine (HF.out _).mono ?_
              rintro e w1 ⟨rfl, hu⟩
              obtain rfl : W0 = w1 := hu.symm
              go_wp2_with fail
              refine (HB1.out _).mono ?_
              rintro e w1 ⟨rfl, hu⟩
              obtain rfl : W0 = w1 := hu.symm
              go_wp2_with fail
              clear HB1
              generalize s.extract 0 h.length = hd at *
              refine (HQ1.out _).mono ?_
              rintro e w1 ⟨rfl, b1⟩
              replace KE := hide (KE.out.below b1)
              replace KR := hide (KR.out.below b1)
              have B1 := hide (chain B0.out b1)
              have ltE := KE.out.lt
              have e0 := KE.out.cell 0 rfl
              have f0' := KE.out.free 0
              have e1 := KE.out.cell 1 rfl
              have f1' := KE.out.free 1
              have KE2 : Hid (Bk ((w1.setCell ⟨w.heap.size + 1, 0, none⟩ (.string n0)).setCell ⟨w.heap.size + 1, 1, none⟩ (.string (s.extract (h.length + 4) s.size))) (w.heap.size + 1) [.string n0, .string (s.extract (h.length + 4) s.size), .bool false, .string ⟨#[]⟩, .string ⟨#[]⟩] 44) := (KE.out.set 0 _).set 1 _
              have KR2 : Hid (Bk ((w1.setCell ⟨w.heap.size + 1, 0, none⟩ (.string n0)).setCell ⟨w.heap.size + 1, 1, none⟩ (.string (s.extract (h.length + 4) s.size))) w.heap.size [.string ⟨#[]⟩, .string ⟨#[]⟩, .bool false, .string ⟨#[]⟩, .string ⟨#[]⟩] 44) := (KR.out.other ne1 _ _).other ne1 _ _
              have B2 : Hid (Below w.heap.size w ((w1.setCell ⟨w.heap.size + 1, 0, none⟩ (.string n0)).setCell ⟨w.heap.size + 1, 1, none⟩ (.string (s.extract (h.length + 4) s.size)))) := (B1.out.setCell (p := ⟨w.heap.size + 1, 0, none⟩) (Nat.le_succ _) _).setCell (p := ⟨w.heap.size + 1, 1, none⟩) (Nat.le_succ _) _
              clear b1 KE KR B1 B0 HF HQ1
              go_wp2_with fail
              generalize ((w1.setCell ⟨w.heap.size + 1, 0, none⟩ (.string n0)).setCell ⟨w.heap.size + 1, 1, none⟩ (.string (s.extract (h.length + 4) s.size))) = W2 at *
              refine (HB2.out _).mono ?_
              rintro e w2 ⟨rfl, hu⟩
              obtain rfl : W2 = w2 := hu.symm
              go_wp2_with fail
              refine (HQ2.out _).mono ?_
              rintro e w3 ⟨rfl, b3⟩
              replace KE2 := hide (KE2.out.below b3)
              replace KR2 := hide (KR2.out.below b3)
              replace B2 := hide (chain B2.out b3)
              clear b3
              have p0 := KE2.out.cell 0 rfl
              have p1 := KE2.out.cell 1 rfl
              have p2 := KE2.out.cell 2 rfl
              have p3 := KE2.out.cell 3 rfl
              have p4 := KE2.out.cell 4 rfl
              have r0 := KR2.out.cell 0 rfl
              have s0 := KR2.out.free 0
              have r1 := KR2.out.cell 1 rfl
              have s1 := KR2.out.free 1
              have r2 := KR2.out.cell 2 rfl
              have s2 := KR2.out.free 2
              have r3 := KR2.out.cell 3 rfl
              have s3 := KR2.out.free 3
              have r4 := KR2.out.cell 4 rfl
              have s4 := KR2.out.free 4
              go_wp2_with fail
              refine bodyPost_ret (v := .tuple #[.agg #[.string n0, .string (s.extract (h.length + 4) s.size), .bool false, .string ⟨#[]⟩, .string ⟨#[]⟩], .bool false]) (by simp [results, go_sem, r0, r1, r2, r3, r4]) rfl ?_
              exact ⟨⟨n0, (s.extract (h.length + 4) s.size), false, ⟨#[]⟩, ⟨#[]⟩⟩, by rw [RN.out]; rfl, fun y t => (by rw [RN.out] at t; cases t), low5 B2.out (Nat.le_refl _) _ _ _ _ _⟩
            | some fr =>
              obtain ⟨f, r2⟩ := fr
              rw [quoT_some qf, quoI_some qf] at HQ2
              have SQ := quo_spec qf
              have fl : r.length = 12 + f.length + 1 + r2.length := by
                have := congrArg List.length SQ
                rw [List.length_drop, List.length_append, List.length_cons] at this
                omega
              have HR3 : Hid (h.drop (A + 12 + f.length + 1) = r2) := by
                show _ = _
                rw [← List.drop_drop, ← List.drop_drop, HR2.out, SQ, List.drop_left' rfl]; rfl
              have RT := hide (fun t => readH_third (n := n) (v := v) rn q2 qf t)
              have RF := hide (fun t => readH_file (n := n) (v := v) rn q2 qf t)
              have T0 : A + 12 + f.length + 1 + r2.length = h.length := by omega
              rw [q2] at HB2
              clear SQ fl rn q2 qf cst HR HR2 RDH r12
              generalize hT : A + 12 + f.length + 1 = T at *
              clear hT
              have c3b := hide (fun W (q : T ≤ h.length) => refBegins_any (txt h) ⟨#[13, 10, 67, 111, 110, 116, 101, 110, 116, 45, 84, 121, 112, 101, 58, 32]⟩ T W (by show h.length ≤ _; omega) (by decide) q)
              rw [show (bL ⟨#[13, 10, 67, 111, 110, 116, 101, 110, 116, 45, 84, 121, 112, 101, 58, 32]⟩).isPrefixOf ((bL (txt h)).drop T) = c3L.isPrefixOf (h.drop T) from rfl, HR3.out] at c3b
              have HB3 := hide (fun W => c3b.out W (by omega))
              have t0 : (0 : Int) ≤ (T : Int) := by omega
              have t1 : decide ((T : Int) < 0) = false := decide_eq_false (by omega)
              have t2 : ¬ (T : Int) < 0 := by omega
              have aT : (T : Int) ≤ (h.length : Int) := by omega
              cases q3 : c3L.isPrefixOf r2 with
              | false =>
                have RN : Hid (readL (bL s) = none) := by show _ = _; rw [RD.out]; exact RT.out q3
                rw [q3, ← aS] at HB3
                rw [← aS] at HQ2 HB2
                clear c2b c3b RD A0 hd0 aS EXT XZ HR3 TN nA hsz q3 RT RF T0
                generalize txt (unL n) = n0 at *
                generalize txt (unL f) = f0 at *
                go_enter Tryd.func48, Tryd.ntmps48
                go_wp2_with fail
                generalize ((w.alloc (.cells #[.string ⟨#[]⟩, .string ⟨#[]⟩, .bool false, .string ⟨#[]⟩, .string ⟨#[]⟩] 44)).alloc (.cells #[.string ⟨#[]⟩, .string ⟨#[]⟩, .bool false, .string ⟨#[]⟩, .string ⟨#[]⟩] 44)) = W0 at *
                refine (HF.out _).mono ?_
                rintro e w1 ⟨rfl, hu⟩
                obtain rfl : W0 = w1 := hu.symm
                go_wp2_with fail
                refine (HB1.out _).mono ?_
                rintro e w1 ⟨rfl, hu⟩
                obtain rfl : W0 = w1 := hu.symm
                go_wp2_with fail
                clear HB1
                generalize s.extract 0 h.length = hd at *
                refine (HQ1.out _).mono ?_
                rintro e w1 ⟨rfl, b1⟩
                replace KE := hide (KE.out.below b1)
                replace KR := hide (KR.out.below b1)
                have B1 := hide (chain B0.out b1)
                have ltE := KE.out.lt
                have e0 := KE.out.cell 0 rfl
                have f0' := KE.out.free 0
                have e1 := KE.out.cell 1 rfl
                have f1' := KE.out.free 1
                have KE2 : Hid (Bk ((w1.setCell ⟨w.heap.size + 1, 0, none⟩ (.string n0)).setCell ⟨w.heap.size + 1, 1, none⟩ (.string (s.extract (h.length + 4) s.size))) (w.heap.size + 1) [.string n0, .string (s.extract (h.length + 4) s.size), .bool false, .string ⟨#[]⟩, .string ⟨#[]⟩] 44) := (KE.out.set 0 _).set 1 _
                have KR2 : Hid (Bk ((w1.setCell ⟨w.heap.size + 1, 0, none⟩ (.string n0)).setCell ⟨w.heap.size + 1, 1, none⟩ (.string (s.extract (h.length + 4) s.size))) w.heap.size [.string ⟨#[]⟩, .string ⟨#[]⟩, .bool false, .string ⟨#[]⟩, .string ⟨#[]⟩] 44) := (KR.out.other ne1 _ _).other ne1 _ _
                have B2 : Hid (Below w.heap.size w ((w1.setCell ⟨w.heap.size + 1, 0, none⟩ (.string n0)).setCell ⟨w.heap.size + 1, 1, none⟩ (.string (s.extract (h.length + 4) s.size)))) := (B1.out.setCell (p := ⟨w.heap.size + 1, 0, none⟩) (Nat.le_succ _) _).setCell (p := ⟨w.heap.size + 1, 1, none⟩) (Nat.le_succ _) _
                clear b1 KE KR B1 B0 HF HQ1
                go_wp2_with fail
                generalize ((w1.setCell ⟨w.heap.size + 1, 0, none⟩ (.string n0)).setCell ⟨w.heap.size + 1, 1, none⟩ (.string (s.extract (h.length + 4) s.size))) = W2 at *
                refine (HB2.out _).mono ?_
                rintro e w2 ⟨rfl, hu⟩
                obtain rfl : W2 = w2 := hu.symm
                go_wp2_with fail
                refine (HQ2.out _).mono ?_
                rintro e w3 ⟨rfl, b3⟩
                replace KE2 := hide (KE2.out.below b3)
                replace KR2 := hide (KR2.out.below b3)
                replace B2 := hide (chain B2.out b3)
                clear b3
                go_wp2_with fail
                refine (HB3.out _).mono ?_
                rintro e w2 ⟨rfl, hu⟩
                obtain rfl : w3 = w2 := hu.symm
                have p0 := KE2.out.cell 0 rfl
                have p1 := KE2.out.cell 1 rfl
                have p2 := KE2.out.cell 2 rfl
                have p3 := KE2.out.cell 3 rfl
                have p4 := KE2.out.cell 4 rfl
                have r0 := KR2.out.cell 0 rfl
                have s0 := KR2.out.free 0
                have r1 := KR2.out.cell 1 rfl
                have s1 := KR2.out.free 1
                have r2 := KR2.out.cell 2 rfl
                have s2 := KR2.out.free 2
                have r3 := KR2.out.cell 3 rfl
                have s3 := KR2.out.free 3
                have r4 := KR2.out.cell 4 rfl
                have s4 := KR2.out.free 4
                go_wp2_with fail
                refine bodyPost_ret (v := .tuple #[.agg #[.string n0, .string (s.extract (h.length + 4) s.size), .bool false, .string ⟨#[]⟩, .string ⟨#[]⟩], .bool false]) (by simp [results, go_sem, r0, r1, r2, r3, r4]) rfl ?_
                exact ⟨⟨n0, (s.extract (h.length + 4) s.size), false, ⟨#[]⟩, ⟨#[]⟩⟩, by rw [RN.out]; rfl, fun y t => (by rw [RN.out] at t; cases t), low5 B2.out (Nat.le_refl _) _ _ _ _ _⟩
              | true =>
                have t16 : 16 ≤ r2.length := (List.isPrefixOf_iff_prefix.1 q3).length_le
                have RN : Hid (readL (bL s) = if brk (r2.drop 16) = false then some ⟨txt (unL n), txt v, true, txt (unL f), txt (r2.drop 16)⟩ else none) := by show _ = _; rw [RD.out]; exact RF.out q3
                have ty0 : Hid ((txt h).extract (T + 16) (txt h).size = txt (r2.drop 16)) := by
                  show _ = _
                  rw [ext_txt]
                  show txt (((h.drop (T + 16))).take (h.length - (T + 16))) = _
                  rw [← List.drop_drop, HR3.out, List.take_of_length_le (by rw [List.length_drop]; omega)]
                have tyz : (txt (r2.drop 16)).size ≤ 16777216 := by show (r2.drop 16).length ≤ _; rw [List.length_drop]; omega
                have F13 := hide (fun W => refFindP_any (txt (r2.drop 16)) ⟨#[13]⟩ 0 W (by omega) (by decide) (Nat.zero_le _))
                have F10 := hide (fun W => refFindP_any (txt (r2.drop 16)) ⟨#[10]⟩ 0 W (by omega) (by decide) (Nat.zero_le _))
                rw [show fndI (bL ⟨#[13]⟩) ((bL (txt (r2.drop 16))).drop 0) 0 = fndI [13] (r2.drop 16) 0 from rfl] at F13
                rw [show fndI (bL ⟨#[10]⟩) ((bL (txt (r2.drop 16))).drop 0) 0 = fndI [10] (r2.drop 16) 0 from rfl] at F10
                have N13 := hide (fnd_neg (t := [13]) (l := r2.drop 16) (k := 0))
                have N10 := hide (fnd_neg (t := [10]) (l := r2.drop 16) (k := 0))
                have BR := hide (brk_is (r2.drop 16))
                have aT4 : (T : Int) + 16 ≤ ((s.extract 0 h.length).size : Int) := by rw [hsz]; omega
                rw [← vd0.out] at RN
                have tyS : (s.extract 0 h.length).extract (T + 16) (s.extract 0 h.length).size = txt (r2.drop 16) := by rw [hd0.out]; exact ty0.out
                rw [q3, ← aS] at HB3
                rw [← aS] at HQ2 HB2
                rw [← tyS] at F13 F10 RN
                clear c2b c3b RD A0 hd0 vd0 aS EXT XZ HR3 TN nA q3 RT RF T0 ty0 tyz t16 hsz
                generalize fndI [13] (r2.drop 16) 0 = z13 at *
                generalize fndI [10] (r2.drop 16) 0 = z10 at *
                generalize (cutL [13] (r2.drop 16)).isNone = c13 at *
                generalize (cutL [10] (r2.drop 16)).isNone = c10 at *
                generalize brk (r2.drop 16) = bk at *
                clear tyS
                generalize txt (unL n) = n0 at *
                generalize txt (unL f) = f0 at *
                go_enter Tryd.func48, Tryd.ntmps48
                go_wp2_with fail
                generalize ((w.alloc (.cells #[.string ⟨#[]⟩, .string ⟨#[]⟩, .bool false, .string ⟨#[]⟩, .string ⟨#[]⟩] 44)).alloc (.cells #[.string ⟨#[]⟩, .string ⟨#[]⟩, .bool false, .string ⟨#[]⟩, .string ⟨#[]⟩] 44)) = W0 at *
                refine (HF.out _).mono ?_
                rintro e w1 ⟨rfl, hu⟩
                obtain rfl : W0 = w1 := hu.symm
                go_wp2_with fail
                refine (HB1.out _).mono ?_
                rintro e w1 ⟨rfl, hu⟩
                obtain rfl : W0 = w1 := hu.symm
                go_wp2_with fail
                clear HB1
                generalize s.extract 0 h.length = hd at *
                refine (HQ1.out _).mono ?_
                rintro e w1 ⟨rfl, b1⟩
                replace KE := hide (KE.out.below b1)
                replace KR := hide (KR.out.below b1)
                have B1 := hide (chain B0.out b1)
                have ltE := KE.out.lt
                have e0 := KE.out.cell 0 rfl
                have f0' := KE.out.free 0
                have e1 := KE.out.cell 1 rfl
                have f1' := KE.out.free 1
                have KE2 : Hid (Bk ((w1.setCell ⟨w.heap.size + 1, 0, none⟩ (.string n0)).setCell ⟨w.heap.size + 1, 1, none⟩ (.string (s.extract (h.length + 4) s.size))) (w.heap.size + 1) [.string n0, .string (s.extract (h.length + 4) s.size), .bool false, .string ⟨#[]⟩, .string ⟨#[]⟩] 44) := (KE.out.set 0 _).set 1 _
                have KR2 : Hid (Bk ((w1.setCell ⟨w.heap.size + 1, 0, none⟩ (.string n0)).setCell ⟨w.heap.size + 1, 1, none⟩ (.string (s.extract (h.length + 4) s.size))) w.heap.size [.string ⟨#[]⟩, .string ⟨#[]⟩, .bool false, .string ⟨#[]⟩, .string ⟨#[]⟩] 44) := (KR.out.other ne1 _ _).other ne1 _ _
                have B2 : Hid (Below w.heap.size w ((w1.setCell ⟨w.heap.size + 1, 0, none⟩ (.string n0)).setCell ⟨w.heap.size + 1, 1, none⟩ (.string (s.extract (h.length + 4) s.size)))) := (B1.out.setCell (p := ⟨w.heap.size + 1, 0, none⟩) (Nat.le_succ _) _).setCell (p := ⟨w.heap.size + 1, 1, none⟩) (Nat.le_succ _) _
                clear b1 KE KR B1 B0 HF HQ1
                go_wp2_with fail
                generalize ((w1.setCell ⟨w.heap.size + 1, 0, none⟩ (.string n0)).setCell ⟨w.heap.size + 1, 1, none⟩ (.string (s.extract (h.length + 4) s.size))) = W2 at *
                refine (HB2.out _).mono ?_
                rintro e w2 ⟨rfl, hu⟩
                obtain rfl : W2 = w2 := hu.symm
                go_wp2_with fail
                refine (HQ2.out _).mono ?_
                rintro e w3 ⟨rfl, b3⟩
                replace KE2 := hide (KE2.out.below b3)
                replace KR2 := hide (KR2.out.below b3)
                replace B2 := hide (chain B2.out b3)
                clear b3
                go_wp2_with fail
                refine (HB3.out _).mono ?_
                rintro e w2 ⟨rfl, hu⟩
                obtain rfl : w3 = w2 := hu.symm
                have ltE3 := KE2.out.lt
                have e2 := KE2.out.cell 2 rfl
                have f2' := KE2.out.free 2
                have e3 := KE2.out.cell 3 rfl
                have f3' := KE2.out.free 3
                have e4 := KE2.out.cell 4 rfl
                have f4' := KE2.out.free 4
                have KE3 : Hid (Bk (((w3.setCell ⟨w.heap.size + 1, 2, none⟩ (.bool true)).setCell ⟨w.heap.size + 1, 3, none⟩ (.string f0)).setCell ⟨w.heap.size + 1, 4, none⟩ (.string (hd.extract (T + 16) hd.size))) (w.heap.size + 1) [.string n0, .string (s.extract (h.length + 4) s.size), .bool true, .string f0, .string (hd.extract (T + 16) hd.size)] 44) := ((KE2.out.set 2 _).set 3 _).set 4 _
                have KR3 : Hid (Bk (((w3.setCell ⟨w.heap.size + 1, 2, none⟩ (.bool true)).setCell ⟨w.heap.size + 1, 3, none⟩ (.string f0)).setCell ⟨w.heap.size + 1, 4, none⟩ (.string (hd.extract (T + 16) hd.size))) w.heap.size [.string ⟨#[]⟩, .string ⟨#[]⟩, .bool false, .string ⟨#[]⟩, .string ⟨#[]⟩] 44) := ((KR2.out.other ne1 _ _).other ne1 _ _).other ne1 _ _
                have B3 : Hid (Below w.heap.size w (((w3.setCell ⟨w.heap.size + 1, 2, none⟩ (.bool true)).setCell ⟨w.heap.size + 1, 3, none⟩ (.string f0)).setCell ⟨w.heap.size + 1, 4, none⟩ (.string (hd.extract (T + 16) hd.size)))) := ((B2.out.setCell (p := ⟨w.heap.size + 1, 2, none⟩) (Nat.le_succ _) _).setCell (p := ⟨w.heap.size + 1, 3, none⟩) (Nat.le_succ _) _).setCell (p := ⟨w.heap.size + 1, 4, none⟩) (Nat.le_succ _) _
                clear KE2 KR2 B2 HB2 HQ2 HB3
                go_wp2_with fail
                generalize (((w3.setCell ⟨w.heap.size + 1, 2, none⟩ (.bool true)).setCell ⟨w.heap.size + 1, 3, none⟩ (.string f0)).setCell ⟨w.heap.size + 1, 4, none⟩ (.string (hd.extract (T + 16) hd.size))) = W4 at *
                generalize hd.extract (T + 16) hd.size = ty at *
                have DR : Below W4.heap.size W4 W4.drew := ⟨rfl, rfl, rfl, Nat.le_refl _, fun _ _ => rfl⟩
                have KE4 := hide (KE3.out.below DR)
                have KR4 := hide (KR3.out.below DR)
                have B4 := hide (chain B3.out DR)
                have y0 := KE3.out.cell 0 rfl
                have y1 := KE3.out.cell 1 rfl
                have y2 := KE3.out.cell 2 rfl
                have y3 := KE3.out.cell 3 rfl
                have y4 := KE3.out.cell 4 rfl
                have ra0 := KR3.out.cell 0 rfl
                have sa0 := KR3.out.free 0
                have ra1 := KR3.out.cell 1 rfl
                have sa1 := KR3.out.free 1
                have ra2 := KR3.out.cell 2 rfl
                have sa2 := KR3.out.free 2
                have ra3 := KR3.out.cell 3 rfl
                have sa3 := KR3.out.free 3
                have ra4 := KR3.out.cell 4 rfl
                have sa4 := KR3.out.free 4
                have hu0 : undef = Value.tuple #[] := rfl
                clear DR
                cases c13 with
                | false =>
                  have d13 : decide (z13 < 0) = false := N13.out
                  have bk1 : bk = true := by have := BR.out; rw [Bool.false_and] at this; revert this; cases bk <;> simp
                  rw [bk1, if_neg (by decide)] at RN
                  clear N13 N10 BR bk1 F10
                  refine wp_region_held_drew (S := fun X : World => X.cell? ⟨w.heap.size + 1, 0, none⟩ = some (.string n0) ∧ X.cell? ⟨w.heap.size + 1, 1, none⟩ = some (.string (s.extract (h.length + 4) s.size)) ∧ X.cell? ⟨w.heap.size + 1, 2, none⟩ = some (.bool true) ∧ X.cell? ⟨w.heap.size + 1, 3, none⟩ = some (.string f0) ∧ X.cell? ⟨w.heap.size + 1, 4, none⟩ = some (.string ty)) (by kernel_rfl) ?_ (fun hHeld => ?_)
                  · exact ⟨y0, y1, y2, y3, y4⟩
                  refine wpAnyH_take (i := 0) (oi := { dst := some 88, op := Op.load 44 (Operand.tmp 4), type := 44, pos := "ref.go:188", after := #[], guard := none }) (v := ?_) rfl (by kernel_rfl) (by kernel_rfl) (by kernel_rfl) (fun _ _ _ h => h) (Or.inl ⟨by rfl, ?_⟩) (by assumption) ?_
                  rotate_left
                  · (intro w hSw; (try dsimp only at hSw); first | (go_simp; done) | (go_simp; with_reducible rfl))
                  simp only [Act.put, List.setIfInBounds_toArray, List.set_cons_zero, List.set_cons_succ]
                  refine wpAnyH_take (i := 1) (oi := { dst := some 89, op := Op.fieldAddr 44 (Operand.tmp 4) 4, type := 0, pos := "ref.go:188", after := #[], guard := none }) (v := ?_) rfl (by kernel_rfl) (by kernel_rfl) (by kernel_rfl) (fun _ _ _ h => h) (Or.inl ⟨by rfl, ?_⟩) (by assumption) ?_
                  rotate_left
                  · (intro w hSw; (try dsimp only at hSw); first | (go_simp; done) | (go_simp; with_reducible rfl))
                  simp only [Act.put, List.setIfInBounds_toArray, List.set_cons_zero, List.set_cons_succ]
                  refine wpAnyH_take (i := 2) (oi := { dst := some 90, op := Op.load 9 (Operand.tmp 89), type := 9, pos := "ref.go:188", after := #[{ on := 1, ground := Ground.data }], guard := none }) (v := ?_) rfl (by kernel_rfl) (by kernel_rfl) (by kernel_rfl) (fun _ _ _ h => h) (Or.inl ⟨by rfl, ?_⟩) (by assumption) ?_
                  rotate_left
                  · (intro w hSw; (try dsimp only at hSw); first | (go_simp; done) | (go_simp; with_reducible rfl))
                  simp only [Act.put, List.setIfInBounds_toArray, List.set_cons_zero, List.set_cons_succ]
                  refine wpAnyH_ready (rs := [3]) (by kernel_rfl) (by simp) ?_
                  refine AllReadyH.cons (i := 3) (o := { dst := some 91, op := Op.call { callee := Callee.value (Operand.func 31), args := #[Operand.tmp 90, Operand.const (Value.string { data := #[13] }), Operand.const (Value.int IntKind.i64 0)], argTypes := #[9, 9, 3] }, type := 3, pos := "ref.go:188", after := #[{ on := 2, ground := Ground.data }], guard := none }) rfl (fun K hK => ?_) AllReadyH.nil
                  go_simp
                  refine (F13.out _).mono ?_
                  rintro e w5 ⟨rfl, hu⟩
                  obtain rfl : _ = w5 := hu.symm
                  go_wp2_with fail
                  refine hK.out _ _ ?_ (fun hHeld => ?_)
                  · exact ⟨KE4.out.cell 0 rfl, KE4.out.cell 1 rfl, KE4.out.cell 2 rfl, KE4.out.cell 3 rfl, KE4.out.cell 4 rfl⟩
                  clear hK K
                  refine wpAnyH_take (i := 4) (oi := { dst := some 92, op := Op.binOp BinOp.lss 3 (Operand.tmp 91) (Operand.const (Value.int IntKind.i64 0)) 3, type := 4, pos := "ref.go:188", after := #[{ on := 3, ground := Ground.data }], guard := none }) (v := ?_) rfl (by kernel_rfl) (by kernel_rfl) (by kernel_rfl) (fun _ _ _ h => h) (Or.inl ⟨by rfl, ?_⟩) (by assumption) ?_
                  rotate_left
                  · (intro w hSw; (try dsimp only at hSw); first | (go_simp; done) | (go_simp; with_reducible rfl))
                  simp only [Act.put, List.setIfInBounds_toArray, List.set_cons_zero, List.set_cons_succ]
                  refine wpAnyH_take (i := 5) (oi := { dst := some 93, op := Op.move (Operand.tmp 92), type := 4, pos := "ref.go:188", after := #[{ on := 4, ground := Ground.data }, { on := 3, ground := Ground.chain }], guard := none }) (v := ?_) rfl (by kernel_rfl) (by kernel_rfl) (by kernel_rfl) (fun _ _ _ h => h) (Or.inl ⟨by rfl, ?_⟩) (by assumption) ?_
                  rotate_left
                  · (intro w hSw; (try dsimp only at hSw); first | (go_simp; done) | (go_simp; with_reducible rfl))
                  simp only [Act.put, List.setIfInBounds_toArray, List.set_cons_zero, List.set_cons_succ]
                  refine wpAnyH_take (i := 6) (oi := { dst := some 94, op := Op.fieldAddr 44 (Operand.tmp 4) 4, type := 0, pos := "ref.go:188", after := #[{ on := 5, ground := Ground.guard }], guard := some (5, true) }) (v := undef) rfl (by kernel_rfl) (by kernel_rfl) (by kernel_rfl) (fun _ _ _ h => h) (Or.inr ⟨by rfl, rfl⟩) (by assumption) ?_
                  simp only [Act.put, List.setIfInBounds_toArray, List.set_cons_zero, List.set_cons_succ]
                  refine wpAnyH_take (i := 7) (oi := { dst := some 95, op := Op.load 9 (Operand.tmp 94), type := 9, pos := "ref.go:188", after := #[{ on := 6, ground := Ground.data }, { on := 5, ground := Ground.guard }], guard := some (5, true) }) (v := undef) rfl (by kernel_rfl) (by kernel_rfl) (by kernel_rfl) (fun _ _ _ h => h) (Or.inr ⟨by rfl, rfl⟩) (by assumption) ?_
                  simp only [Act.put, List.setIfInBounds_toArray, List.set_cons_zero, List.set_cons_succ]
                  refine wpAnyH_take (i := 8) (oi := { dst := some 96, op := Op.call { callee := Callee.value (Operand.func 31), args := #[Operand.tmp 95, Operand.const (Value.string { data := #[10] }), Operand.const (Value.int IntKind.i64 0)], argTypes := #[9, 9, 3] }, type := 3, pos := "ref.go:188", after := #[{ on := 7, ground := Ground.data }, { on := 5, ground := Ground.chain }, { on := 5, ground := Ground.guard }], guard := some (5, true) }) (v := undef) rfl (by kernel_rfl) (by kernel_rfl) (by kernel_rfl) (fun _ _ _ h => h) (Or.inr ⟨by rfl, rfl⟩) (by assumption) ?_
                  simp only [Act.put, List.setIfInBounds_toArray, List.set_cons_zero, List.set_cons_succ]
                  refine wpAnyH_take (i := 9) (oi := { dst := some 97, op := Op.binOp BinOp.lss 3 (Operand.tmp 96) (Operand.const (Value.int IntKind.i64 0)) 3, type := 4, pos := "ref.go:188", after := #[{ on := 8, ground := Ground.data }, { on := 5, ground := Ground.guard }, { on := 11, ground := Ground.gcOnly Departure.lateStores }], guard := some (5, true) }) (v := undef) rfl (by kernel_rfl) (by kernel_rfl) (by kernel_rfl) (fun _ _ _ h => h) (Or.inr ⟨by rfl, rfl⟩) (by assumption) ?_
                  simp only [Act.put, List.setIfInBounds_toArray, List.set_cons_zero, List.set_cons_succ]
                  refine wpAnyH_take (i := 10) (oi := { dst := some 98, op := Op.pick (Operand.tmp 93) (Operand.tmp 97) (Operand.const (Value.bool false)), type := 4, pos := "ref.go:188", after := #[{ on := 5, ground := Ground.data }, { on := 9, ground := Ground.data }, { on := 11, ground := Ground.gcOnly Departure.lateStores }], guard := none }) (v := ?_) rfl (by kernel_rfl) (by kernel_rfl) (by kernel_rfl) (fun _ _ _ h => h) (Or.inl ⟨by rfl, ?_⟩) (by assumption) ?_
                  rotate_left
                  · (intro w hSw; (try dsimp only at hSw); first | (go_simp; done) | (go_simp; with_reducible rfl))
                  simp only [Act.put, List.setIfInBounds_toArray, List.set_cons_zero, List.set_cons_succ]
                  refine wpAnyH_ready (rs := [11]) (by kernel_rfl) (by simp) ?_
                  refine AllReadyH.cons (i := 11) (o := { dst := none, op := Op.store 44 (Operand.tmp 2) (Operand.tmp 88), type := 0, pos := "ref.go:188", after := #[{ on := 0, ground := Ground.data }, { on := 8, ground := Ground.chain }, { on := 0, ground := Ground.phase }, { on := 1, ground := Ground.textOnly Departure.lateStores }, { on := 2, ground := Ground.textOnly Departure.lateStores }, { on := 3, ground := Ground.textOnly Departure.lateStoresUnsure }, { on := 4, ground := Ground.textOnly Departure.lateStores }, { on := 5, ground := Ground.textOnly Departure.lateStores }, { on := 6, ground := Ground.textOnly Departure.lateStores }, { on := 7, ground := Ground.textOnly Departure.lateStores }, { on := 8, ground := Ground.textOnly Departure.lateStoresUnsure }, { on := 9, ground := Ground.textOnly Departure.lateStores }, { on := 10, ground := Ground.textOnly Departure.lateStores }], guard := none }) rfl (fun K hK => ?_) AllReadyH.nil
                  go_simp
                  refine hK.out _ _ ?_ (fun hHeld => ?_)
                  · exact ⟨(((((KE3.out.other ne2 _ _).other ne2 _ _).other ne2 _ _).other ne2 _ _).other ne2 _ _).drewB.cell 0 rfl, (((((KE3.out.other ne2 _ _).other ne2 _ _).other ne2 _ _).other ne2 _ _).other ne2 _ _).drewB.cell 1 rfl, (((((KE3.out.other ne2 _ _).other ne2 _ _).other ne2 _ _).other ne2 _ _).other ne2 _ _).drewB.cell 2 rfl, (((((KE3.out.other ne2 _ _).other ne2 _ _).other ne2 _ _).other ne2 _ _).other ne2 _ _).drewB.cell 3 rfl, (((((KE3.out.other ne2 _ _).other ne2 _ _).other ne2 _ _).other ne2 _ _).other ne2 _ _).drewB.cell 4 rfl⟩
                  clear hK K
                  refine wpAnyH_take (i := 12) (oi := { dst := some 3, op := Op.assign (Operand.tmp 98), type := 4, pos := "ref.go:188", after := #[{ on := 10, ground := Ground.data }, { on := 11, ground := Ground.chain }, { on := 0, ground := Ground.phase }, { on := 1, ground := Ground.phase }, { on := 2, ground := Ground.phase }, { on := 3, ground := Ground.phase }, { on := 4, ground := Ground.phase }, { on := 5, ground := Ground.phase }, { on := 6, ground := Ground.phase }, { on := 7, ground := Ground.phase }, { on := 8, ground := Ground.phase }, { on := 9, ground := Ground.phase }, { on := 10, ground := Ground.phase }, { on := 11, ground := Ground.phase }], guard := none }) (v := ?_) rfl (by kernel_rfl) (by kernel_rfl) (by kernel_rfl) (fun _ _ _ h => h) (Or.inl ⟨by rfl, ?_⟩) (by assumption) ?_
                  rotate_left
                  · (intro w hSw; (try dsimp only at hSw); first | (go_simp; done) | (go_simp; with_reducible rfl))
                  simp only [Act.put, List.setIfInBounds_toArray, List.set_cons_zero, List.set_cons_succ]
                  refine wpAnyH_done (by kernel_rfl) ?_ _
                  go_wp2_with fail
                  refine bodyPost_ret (v := .tuple #[.agg #[.string n0, .string (s.extract (h.length + 4) s.size), .bool true, .string f0, .string ty], .bool false]) (by simp [results, go_sem, ra0, ra1, ra2, ra3, ra4]) rfl ?_
                  exact ⟨⟨n0, (s.extract (h.length + 4) s.size), true, f0, ty⟩, by rw [RN.out]; rfl, fun y t => (by rw [RN.out] at t; cases t), belD (low5 B3.out (Nat.le_refl _) _ _ _ _ _)⟩
                | true =>
                  have d13 : decide (z13 < 0) = true := N13.out
                  have d10 : decide (z10 < 0) = c10 := N10.out
                  have bk1 : bk = !c10 := by have := BR.out; rw [Bool.true_and] at this; rw [← this, Bool.not_not]
                  have RM : Hid ((readL (bL s)).isSome = c10 ∧ ∀ y, readL (bL s) = some y → (⟨n0, (s.extract (h.length + 4) s.size), true, f0, ty⟩ : En) = y) := by
                    show _ ∧ _
                    rw [RN.out, bk1]
                    cases c10
                    · exact ⟨rfl, fun y t => by cases t⟩
                    · exact ⟨rfl, fun y t => by cases t; rfl⟩
                  clear N13 N10 BR bk1 RN
                  refine wp_region_held_drew (S := fun X : World => X.cell? ⟨w.heap.size + 1, 0, none⟩ = some (.string n0) ∧ X.cell? ⟨w.heap.size + 1, 1, none⟩ = some (.string (s.extract (h.length + 4) s.size)) ∧ X.cell? ⟨w.heap.size + 1, 2, none⟩ = some (.bool true) ∧ X.cell? ⟨w.heap.size + 1, 3, none⟩ = some (.string f0) ∧ X.cell? ⟨w.heap.size + 1, 4, none⟩ = some (.string ty)) (by kernel_rfl) ?_ (fun hHeld => ?_)
                  · exact ⟨y0, y1, y2, y3, y4⟩
                  refine wpAnyH_take (i := 0) (oi := { dst := some 88, op := Op.load 44 (Operand.tmp 4), type := 44, pos := "ref.go:188", after := #[], guard := none }) (v := ?_) rfl (by kernel_rfl) (by kernel_rfl) (by kernel_rfl) (fun _ _ _ h => h) (Or.inl ⟨by rfl, ?_⟩) (by assumption) ?_
                  rotate_left
                  · (intro w hSw; (try dsimp only at hSw); first | (go_simp; done) | (go_simp; with_reducible rfl))
                  simp only [Act.put, List.setIfInBounds_toArray, List.set_cons_zero, List.set_cons_succ]
                  refine wpAnyH_take (i := 1) (oi := { dst := some 89, op := Op.fieldAddr 44 (Operand.tmp 4) 4, type := 0, pos := "ref.go:188", after := #[], guard := none }) (v := ?_) rfl (by kernel_rfl) (by kernel_rfl) (by kernel_rfl) (fun _ _ _ h => h) (Or.inl ⟨by rfl, ?_⟩) (by assumption) ?_
                  rotate_left
                  · (intro w hSw; (try dsimp only at hSw); first | (go_simp; done) | (go_simp; with_reducible rfl))
                  simp only [Act.put, List.setIfInBounds_toArray, List.set_cons_zero, List.set_cons_succ]
                  refine wpAnyH_take (i := 2) (oi := { dst := some 90, op := Op.load 9 (Operand.tmp 89), type := 9, pos := "ref.go:188", after := #[{ on := 1, ground := Ground.data }], guard := none }) (v := ?_) rfl (by kernel_rfl) (by kernel_rfl) (by kernel_rfl) (fun _ _ _ h => h) (Or.inl ⟨by rfl, ?_⟩) (by assumption) ?_
                  rotate_left
                  · (intro w hSw; (try dsimp only at hSw); first | (go_simp; done) | (go_simp; with_reducible rfl))
                  simp only [Act.put, List.setIfInBounds_toArray, List.set_cons_zero, List.set_cons_succ]
                  refine wpAnyH_ready (rs := [3]) (by kernel_rfl) (by simp) ?_
                  refine AllReadyH.cons (i := 3) (o := { dst := some 91, op := Op.call { callee := Callee.value (Operand.func 31), args := #[Operand.tmp 90, Operand.const (Value.string { data := #[13] }), Operand.const (Value.int IntKind.i64 0)], argTypes := #[9, 9, 3] }, type := 3, pos := "ref.go:188", after := #[{ on := 2, ground := Ground.data }], guard := none }) rfl (fun K hK => ?_) AllReadyH.nil
                  go_simp
                  refine (F13.out _).mono ?_
                  rintro e w5 ⟨rfl, hu⟩
                  obtain rfl : _ = w5 := hu.symm
                  go_wp2_with fail
                  refine hK.out _ _ ?_ (fun hHeld => ?_)
                  · exact ⟨KE4.out.cell 0 rfl, KE4.out.cell 1 rfl, KE4.out.cell 2 rfl, KE4.out.cell 3 rfl, KE4.out.cell 4 rfl⟩
                  clear hK K
                  refine wpAnyH_take (i := 4) (oi := { dst := some 92, op := Op.binOp BinOp.lss 3 (Operand.tmp 91) (Operand.const (Value.int IntKind.i64 0)) 3, type := 4, pos := "ref.go:188", after := #[{ on := 3, ground := Ground.data }], guard := none }) (v := ?_) rfl (by kernel_rfl) (by kernel_rfl) (by kernel_rfl) (fun _ _ _ h => h) (Or.inl ⟨by rfl, ?_⟩) (by assumption) ?_
                  rotate_left
                  · (intro w hSw; (try dsimp only at hSw); first | (go_simp; done) | (go_simp; with_reducible rfl))
                  simp only [Act.put, List.setIfInBounds_toArray, List.set_cons_zero, List.set_cons_succ]
                  refine wpAnyH_take (i := 5) (oi := { dst := some 93, op := Op.move (Operand.tmp 92), type := 4, pos := "ref.go:188", after := #[{ on := 4, ground := Ground.data }, { on := 3, ground := Ground.chain }], guard := none }) (v := ?_) rfl (by kernel_rfl) (by kernel_rfl) (by kernel_rfl) (fun _ _ _ h => h) (Or.inl ⟨by rfl, ?_⟩) (by assumption) ?_
                  rotate_left
                  · (intro w hSw; (try dsimp only at hSw); first | (go_simp; done) | (go_simp; with_reducible rfl))
                  simp only [Act.put, List.setIfInBounds_toArray, List.set_cons_zero, List.set_cons_succ]
                  refine wpAnyH_take (i := 6) (oi := { dst := some 94, op := Op.fieldAddr 44 (Operand.tmp 4) 4, type := 0, pos := "ref.go:188", after := #[{ on := 5, ground := Ground.guard }], guard := some (5, true) }) (v := ?_) rfl (by kernel_rfl) (by kernel_rfl) (by kernel_rfl) (fun _ _ _ h => h) (Or.inl ⟨by rfl, ?_⟩) (by assumption) ?_
                  rotate_left
                  · (intro w hSw; (try dsimp only at hSw); first | (go_simp; done) | (go_simp; with_reducible rfl))
                  simp only [Act.put, List.setIfInBounds_toArray, List.set_cons_zero, List.set_cons_succ]
                  refine wpAnyH_take (i := 7) (oi := { dst := some 95, op := Op.load 9 (Operand.tmp 94), type := 9, pos := "ref.go:188", after := #[{ on := 6, ground := Ground.data }, { on := 5, ground := Ground.guard }], guard := some (5, true) }) (v := ?_) rfl (by kernel_rfl) (by kernel_rfl) (by kernel_rfl) (fun _ _ _ h => h) (Or.inl ⟨by rfl, ?_⟩) (by assumption) ?_
                  rotate_left
                  · (intro w hSw; (try dsimp only at hSw); first | (go_simp; done) | (go_simp; with_reducible rfl))
                  simp only [Act.put, List.setIfInBounds_toArray, List.set_cons_zero, List.set_cons_succ]
                  refine wpAnyH_ready (rs := [8]) (by kernel_rfl) (by simp) ?_
                  refine AllReadyH.cons (i := 8) (o := { dst := some 96, op := Op.call { callee := Callee.value (Operand.func 31), args := #[Operand.tmp 95, Operand.const (Value.string { data := #[10] }), Operand.const (Value.int IntKind.i64 0)], argTypes := #[9, 9, 3] }, type := 3, pos := "ref.go:188", after := #[{ on := 7, ground := Ground.data }, { on := 5, ground := Ground.chain }, { on := 5, ground := Ground.guard }], guard := some (5, true) }) rfl (fun K hK => ?_) AllReadyH.nil
                  go_simp
                  refine (F10.out _).mono ?_
                  rintro e w5 ⟨rfl, hu⟩
                  obtain rfl : _ = w5 := hu.symm
                  go_wp2_with fail
                  refine hK.out _ _ ?_ (fun hHeld => ?_)
                  · exact ⟨KE4.out.cell 0 rfl, KE4.out.cell 1 rfl, KE4.out.cell 2 rfl, KE4.out.cell 3 rfl, KE4.out.cell 4 rfl⟩
                  clear hK K
                  refine wpAnyH_take (i := 9) (oi := { dst := some 97, op := Op.binOp BinOp.lss 3 (Operand.tmp 96) (Operand.const (Value.int IntKind.i64 0)) 3, type := 4, pos := "ref.go:188", after := #[{ on := 8, ground := Ground.data }, { on := 5, ground := Ground.guard }, { on := 11, ground := Ground.gcOnly Departure.lateStores }], guard := some (5, true) }) (v := ?_) rfl (by kernel_rfl) (by kernel_rfl) (by kernel_rfl) (fun _ _ _ h => h) (Or.inl ⟨by rfl, ?_⟩) (by assumption) ?_
                  rotate_left
                  · (intro w hSw; (try dsimp only at hSw); first | (go_simp; done) | (go_simp; with_reducible rfl))
                  simp only [Act.put, List.setIfInBounds_toArray, List.set_cons_zero, List.set_cons_succ]
                  refine wpAnyH_take (i := 10) (oi := { dst := some 98, op := Op.pick (Operand.tmp 93) (Operand.tmp 97) (Operand.const (Value.bool false)), type := 4, pos := "ref.go:188", after := #[{ on := 5, ground := Ground.data }, { on := 9, ground := Ground.data }, { on := 11, ground := Ground.gcOnly Departure.lateStores }], guard := none }) (v := ?_) rfl (by kernel_rfl) (by kernel_rfl) (by kernel_rfl) (fun _ _ _ h => h) (Or.inl ⟨by rfl, ?_⟩) (by assumption) ?_
                  rotate_left
                  · (intro w hSw; (try dsimp only at hSw); first | (go_simp; done) | (go_simp; with_reducible rfl))
                  simp only [Act.put, List.setIfInBounds_toArray, List.set_cons_zero, List.set_cons_succ]
                  refine wpAnyH_ready (rs := [11]) (by kernel_rfl) (by simp) ?_
                  refine AllReadyH.cons (i := 11) (o := { dst := none, op := Op.store 44 (Operand.tmp 2) (Operand.tmp 88), type := 0, pos := "ref.go:188", after := #[{ on := 0, ground := Ground.data }, { on := 8, ground := Ground.chain }, { on := 0, ground := Ground.phase }, { on := 1, ground := Ground.textOnly Departure.lateStores }, { on := 2, ground := Ground.textOnly Departure.lateStores }, { on := 3, ground := Ground.textOnly Departure.lateStoresUnsure }, { on := 4, ground := Ground.textOnly Departure.lateStores }, { on := 5, ground := Ground.textOnly Departure.lateStores }, { on := 6, ground := Ground.textOnly Departure.lateStores }, { on := 7, ground := Ground.textOnly Departure.lateStores }, { on := 8, ground := Ground.textOnly Departure.lateStoresUnsure }, { on := 9, ground := Ground.textOnly Departure.lateStores }, { on := 10, ground := Ground.textOnly Departure.lateStores }], guard := none }) rfl (fun K hK => ?_) AllReadyH.nil
                  go_simp
                  refine hK.out _ _ ?_ (fun hHeld => ?_)
                  · exact ⟨(((((KE3.out.other ne2 _ _).other ne2 _ _).other ne2 _ _).other ne2 _ _).other ne2 _ _).drewB.cell 0 rfl, (((((KE3.out.other ne2 _ _).other ne2 _ _).other ne2 _ _).other ne2 _ _).other ne2 _ _).drewB.cell 1 rfl, (((((KE3.out.other ne2 _ _).other ne2 _ _).other ne2 _ _).other ne2 _ _).other ne2 _ _).drewB.cell 2 rfl, (((((KE3.out.other ne2 _ _).other ne2 _ _).other ne2 _ _).other ne2 _ _).other ne2 _ _).drewB.cell 3 rfl, (((((KE3.out.other ne2 _ _).other ne2 _ _).other ne2 _ _).other ne2 _ _).other ne2 _ _).drewB.cell 4 rfl⟩
                  clear hK K
                  refine wpAnyH_take (i := 12) (oi := { dst := some 3, op := Op.assign (Operand.tmp 98), type := 4, pos := "ref.go:188", after := #[{ on := 10, ground := Ground.data }, { on := 11, ground := Ground.chain }, { on := 0, ground := Ground.phase }, { on := 1, ground := Ground.phase }, { on := 2, ground := Ground.phase }, { on := 3, ground := Ground.phase }, { on := 4, ground := Ground.phase }, { on := 5, ground := Ground.phase }, { on := 6, ground := Ground.phase }, { on := 7, ground := Ground.phase }, { on := 8, ground := Ground.phase }, { on := 9, ground := Ground.phase }, { on := 10, ground := Ground.phase }, { on := 11, ground := Ground.phase }], guard := none }) (v := ?_) rfl (by kernel_rfl) (by kernel_rfl) (by kernel_rfl) (fun _ _ _ h => h) (Or.inl ⟨by rfl, ?_⟩) (by assumption) ?_
                  rotate_left
                  · (intro w hSw; (try dsimp only at hSw); first | (go_simp; done) | (go_simp; with_reducible rfl))
                  simp only [Act.put, List.setIfInBounds_toArray, List.set_cons_zero, List.set_cons_succ]
                  refine wpAnyH_done (by kernel_rfl) ?_ _
                  go_wp2_with fail
                  refine bodyPost_ret (v := .tuple #[.agg #[.string n0, .string (s.extract (h.length + 4) s.size), .bool true, .string f0, .string ty], .bool c10]) (by simp [results, go_sem, ra0, ra1, ra2, ra3, ra4]) rfl ?_
                  exact ⟨⟨n0, (s.extract (h.length + 4) s.size), true, f0, ty⟩, by rw [RM.out.1]; rfl, RM.out.2, belD (low5 B3.out (Nat.le_refl _) _ _ _ _ _)⟩

end Go.Proofs.YtgibkbeakfaehaaDoor
