/- Kinds of elements. Which form a control belongs to, a form's elements, a label's control, what is disabled, as functions of documents. The program's way of asking for forms, elements, labels and what is disabled, told by the document's functions. Ways and questions of kinds, of the program and of the document. The questions of kinds, of the document. The program's find, has, the questions of kinds, isOf, firstOf, isRooted, above of layer 16. The program's Form, Elements, Default, Control, Disabled of layer 16. The document's Control of layer 16. Stage 16's wakes and its laws OwnerForm, OwnerElements, OwnerLabels, OwnerDisabled, walked. -/
import Derived.Test.YtoejiojkpbibcaaDoorJow22
import Derived.Test.YtoejiojkpbibcaaDoorJow32
import Derived.Test.YtoejiojkpbibcaaDoorJow33
import Derived.Test.YtoejiojkpbibcaaDoorJow35
import Derived.Test.YtoejiojkpbibcaaDoorJow37
import Derived.Test.YtoejiojkpbibcaaDoorJow38

namespace Go.Proofs.YtoejiojkpbibcaaDoor
open Go.RowKit
def labB (k : Int) : Bool := decide (2 ≤ k ∧ k ≤ 28)
end Go.Proofs.YtoejiojkpbibcaaDoor

namespace Go.Proofs.YtoejiojkpbibcaaDoor
open Go.RowKit
def oFor : ByteArray := ⟨#[102, 111, 114]⟩
def labI (l : List Nd) (i : Int) : Bool := labB (kI l i)
def saidL (l : List Nd) (s : ByteArray) : Int := if 0 ≤ namedP l s ∧ labI l (namedP l s) = true then namedP l s else -1
def controlP (l : List Nd) (b : Int) : Int := if isK l b 31 = true then (if hasA (nd l b.toNat) oFor = true then saidL l (fndS (nd l b.toNat).attrs oFor) else (((orderP l b).drop 1).find? (labI l)).getD (-1)) else -1
end Go.Proofs.YtoejiojkpbibcaaDoor

namespace Go.Proofs.YtoejiojkpbibcaaDoor
open Go.RowKit
def is31 (k : Int) : Bool := k == 31
theorem order_head {l : List Nd} {b : Int} : orderP l b = b :: (orderP l b).drop 1 := by
  unfold orderP orderF
  rfl
def ctlQ (l : List Nd) (b : Int) : Int := if hasA (nd l b.toNat) oFor = true then firB l labB [namedP l (fndS (nd l b.toNat).attrs oFor)] else firB l labB (orderP l b)
theorem control_is {l : List Nd} {b : Int} : controlP l b = if isK l b 31 = true then ctlQ l b else -1 := by
  unfold controlP
  by_cases h : isK l b 31 = true
  · rw [if_pos h, if_pos h]
    obtain ⟨hR, f0, f1⟩ := isK_in h
    unfold ctlQ
    by_cases g : hasA (nd l b.toNat) oFor = true
    · rw [if_pos g, if_pos g]
      unfold saidL firB
      generalize hs : fndS (nd l b.toNat).attrs oFor = s
      have hn : 0 ≤ namedP l s → namedP l s < (l.length : Int) := by
        intro h
        have h0 : 0 < l.length := by have := hR.len.1; omega
        unfold namedP at h ⊢
        split at h
        · omega
        · rename_i q
          rw [if_neg q]
          cases e : (orderP l 0).find? (hasId l s) with
          | none => rw [e] at h; have h : (0 : Int) ≤ -1 := h; omega
          | some x => exact ((order_mem hR (by omega) (by omega) x).1 (List.mem_of_find?_eq_some e)).2.1
      generalize namedP l s = f at *
      by_cases h0 : 0 ≤ f
      · have hok : okB l labB f = labI l f := by rw [ok_in ⟨h0, hn h0⟩]; rfl
        by_cases g : labI l f = true
        · rw [if_pos ⟨h0, g⟩, List.find?_cons_of_pos (by rw [hok, g])]; rfl
        · rw [if_neg (fun t => g t.2), List.find?_cons_of_neg (by rw [hok]; exact g)]; rfl
      · rw [if_neg (fun t => h0 t.1), List.find?_cons_of_neg (by rw [ok_out (fun t => h0 t.1)]; simp)]; rfl
    · rw [if_neg g, if_neg g]
      unfold firB
      have e1 : (orderP l b).find? (okB l labB) = ((orderP l b).drop 1).find? (okB l labB) := by
        conv => lhs; rw [order_head]
        rw [List.find?_cons_of_neg]
        rw [ok_in ⟨f0, f1⟩]
        unfold isK at h
        rw [Bool.and_eq_true] at h
        have hk : kI l b = 31 := of_decide_eq_true h.2
        rw [hk]; decide
      rw [e1, find_same (p := okB l labB) (q := labI l)]
      intro x hx
      have := (order_mem hR f0 f1 x).1 (List.mem_of_mem_drop hx)
      rw [ok_in ⟨this.1, this.2.1⟩]; rfl
  · rw [if_neg h, if_neg h]
end Go.Proofs.YtoejiojkpbibcaaDoor

namespace Go.Proofs.YtoejiojkpbibcaaDoor
open Go.RowKit
set_option maxRecDepth 100000
set_option maxHeartbeats 4000000 in
set_option maxRecDepth 100000 in
theorem labels_any (k : Int) (w : World) :
    Calls Tryd.prog 46 #[.int .i64 k] w fun e w' => e = .returned (.bool (labB k)) ∧ w' = w := by
  rcases (show (k ≤ 0) ∨ (k = 1) ∨ (2 ≤ k ∧ k ≤ 27) ∨ (k = 28) ∨ (29 ≤ k) by omega) with q | q | q | q | q
  all_goals
    have H1 := hide (submits_any k)
    first | (rw [show subB k = false from decide_eq_false (by omega)] at H1) | (rw [show subB k = true from decide_eq_true (by omega)] at H1)
    first | (have e2 : (k == 1) = false := by rw [beq_eq_false_iff_ne]; omega) | (have e2 : (k == 1) = true := by rw [beq_iff_eq]; omega)
    first | (have n2 : ¬ k = 1 := by omega) | (have n2 : (k != 1) = false := by unfold bne; rw [e2]; rfl)
    first | (have e3 : (k == 28) = false := by rw [beq_eq_false_iff_ne]; omega) | (have e3 : (k == 28) = true := by rw [beq_iff_eq]; omega)
    first | (have n3 : ¬ k = 28 := by omega) | (have n3 : (k != 28) = false := by unfold bne; rw [e3]; rfl)
    first | (have E := hide (show labB k = false from decide_eq_false (by omega))) | (have E := hide (show labB k = true from decide_eq_true (by omega)))
    clear q
    go_enter Tryd.func46, Tryd.ntmps46
    go_wp2_with fail
    refine (H1.out _).mono ?_
    rintro e u ⟨rfl, rfl⟩
    go_wp2_with fail
    go_ret
    exact ⟨ret_bool E.out.symm, rfl⟩
end Go.Proofs.YtoejiojkpbibcaaDoor

namespace Go.Proofs.YtoejiojkpbibcaaDoor
open Go.RowKit
set_option maxHeartbeats 4000000 in
set_option maxRecDepth 100000 in
theorem refIs_4 (k : Int) (w : World) :
    Calls Tryd.prog 22 #[.int .i64 4, .int .i64 k] w fun e w' => e = .returned (.bool (labB k)) ∧ w' = w := by
  rcases (show (k ≤ 0) ∨ (k = 1) ∨ (2 ≤ k ∧ k ≤ 22) ∨ (k = 23) ∨ (k = 24) ∨ (k = 25) ∨ (k = 26) ∨ (k = 27) ∨ (k = 28) ∨ (29 ≤ k) by omega) with q | q | q | q | q | q | q | q | q | q
  all_goals
    first | (have e1 : ¬ (1 ≤ k) := by omega) | (have e1 : 1 ≤ k := by omega)
    first | (have d1 : decide (1 ≤ k) = false := decide_eq_false e1) | (have d1 : decide (1 ≤ k) = true := decide_eq_true e1)
    first | (have e2 : k ≤ 22 := by omega) | (have e2 : ¬ (k ≤ 22) := by omega)
    first | (have d2 : decide (k ≤ 22) = true := decide_eq_true e2) | (have d2 : decide (k ≤ 22) = false := decide_eq_false e2)
    first | (have e3 : (k == 23) = false := by rw [beq_eq_false_iff_ne]; omega) | (have e3 : (k == 23) = true := by rw [beq_iff_eq]; omega)
    first | (have n3 : ¬ k = 23 := by omega) | (have n3 : (k != 23) = false := by unfold bne; rw [e3]; rfl)
    first | (have e4 : (k == 24) = false := by rw [beq_eq_false_iff_ne]; omega) | (have e4 : (k == 24) = true := by rw [beq_iff_eq]; omega)
    first | (have n4 : ¬ k = 24 := by omega) | (have n4 : (k != 24) = false := by unfold bne; rw [e4]; rfl)
    first | (have e5 : (k == 25) = false := by rw [beq_eq_false_iff_ne]; omega) | (have e5 : (k == 25) = true := by rw [beq_iff_eq]; omega)
    first | (have n5 : ¬ k = 25 := by omega) | (have n5 : (k != 25) = false := by unfold bne; rw [e5]; rfl)
    first | (have e6 : (k == 26) = false := by rw [beq_eq_false_iff_ne]; omega) | (have e6 : (k == 26) = true := by rw [beq_iff_eq]; omega)
    first | (have n6 : ¬ k = 26 := by omega) | (have n6 : (k != 26) = false := by unfold bne; rw [e6]; rfl)
    first | (have e7 : (k == 27) = false := by rw [beq_eq_false_iff_ne]; omega) | (have e7 : (k == 27) = true := by rw [beq_iff_eq]; omega)
    first | (have n7 : ¬ k = 27 := by omega) | (have n7 : (k != 27) = false := by unfold bne; rw [e7]; rfl)
    first | (have e8 : (k == 1) = false := by rw [beq_eq_false_iff_ne]; omega) | (have e8 : (k == 1) = true := by rw [beq_iff_eq]; omega)
    first | (have n8 : ¬ k = 1 := by omega) | (have n8 : (k != 1) = false := by unfold bne; rw [e8]; rfl)
    first | (have e9 : (k == 28) = false := by rw [beq_eq_false_iff_ne]; omega) | (have e9 : (k == 28) = true := by rw [beq_iff_eq]; omega)
    first | (have n9 : ¬ k = 28 := by omega) | (have n9 : (k != 28) = false := by unfold bne; rw [e9]; rfl)
    first | (have E := hide (show labB k = false from decide_eq_false (by omega))) | (have E := hide (show labB k = true from decide_eq_true (by omega)))
    clear q
    go_enter Tryd.func22, Tryd.ntmps22
    go_wp2_with fail
    go_ret
    exact ⟨ret_bool E.out.symm, rfl⟩
end Go.Proofs.YtoejiojkpbibcaaDoor

namespace Go.Proofs.YtoejiojkpbibcaaDoor
open Go.RowKit
set_option maxRecDepth 100000
theorem suLabels : SuchF 46 labB := ⟨Go.Proofs.enters_of Tryd.func46 (by kernel_rfl) rfl, labels_any⟩
set_option maxHeartbeats 4000000 in
theorem owisLabel_any (k : Int) (w : World) :
    Calls Tryd.prog 43 #[.int .i64 k] w fun e w' => e = .returned (.bool (is31 k)) ∧ w' = w := by
  go_enter Tryd.func43, Tryd.ntmps43
  go_wp2_with fail
  go_ret
  exact ⟨rfl, rfl⟩
theorem suisLabel : SuchF 43 is31 := ⟨Go.Proofs.enters_of Tryd.func43 (by kernel_rfl) rfl, owisLabel_any⟩
end Go.Proofs.YtoejiojkpbibcaaDoor

namespace Go.Proofs.YtoejiojkpbibcaaDoor
open Go.RowKit
set_option maxRecDepth 100000
theorem hasN_of {l : List Nd} {m : Nat} (h : m < l.length) (hr : rightB l = true) : hasN l (m : Int) = true := by unfold hasN; rw [decide_eq_true ⟨by omega, by omega⟩, hr]; rfl
set_option maxHeartbeats 8000000 in
theorem owControl_any (v : Value) (l : List Nd) (id : Int) (w : World) (hv : NodesV w v l) (hz : DocSz l) (hT : OwTabs w) :
    Calls Tryd.prog 17 #[v, .int .i64 id] w fun e w' => e = .returned (.int .i64 (controlP l id)) ∧ Below w.heap.size w w' := by
  have HI := hide (fun W (hb : Below w.heap.size w W) => owIsOf_any v l id _ is31 suisLabel W (hv.below hb) hz (hT.below hb))
  have HRt := hide (fun W (hb : Below w.heap.size w W) => right_any v l W (hv.below hb) hz)
  cases ok : okB l is31 id with
  | false =>
    have E : Hid (controlP l id = -1) := by show _ = _; rw [control_is, isK_not (.inl ok)]; rfl
    rw [ok] at HI
    clear ok
    obtain ⟨p, c, rfl⟩ := nds_formW hv
    have B0 : Hid (Below w.heap.size w w) := Below.refl _ _
    clear hv hz hT HRt
    go_enter Tryd.func17, Tryd.ntmps17
    go_wp2_with fail
    refine (HI.out _ B0.out).mono ?_
    rintro e w1 ⟨rfl, b1⟩
    go_wp2_with fail
    go_ret
    exact ⟨ret_int E.out.symm, chain B0.out b1⟩
  | true =>
    rw [ok] at HI
    cases rb : rightB l with
    | false =>
      have E : Hid (controlP l id = -1) := by show _ = _; rw [control_is, isK_not (.inr rb)]; rfl
      rw [rb] at HRt
      clear ok rb
      obtain ⟨p, c, rfl⟩ := nds_formW hv
      have B0 : Hid (Below w.heap.size w w) := Below.refl _ _
      clear hv hz hT
      go_enter Tryd.func17, Tryd.ntmps17
      go_wp2_with fail
      refine (HI.out _ B0.out).mono ?_
      rintro e w1 ⟨rfl, b1⟩
      go_wp2_with fail
      refine (HRt.out _ (chain B0.out b1)).mono ?_
      rintro e w2 ⟨rfl, b2⟩
      go_wp2_with fail
      go_ret
      exact ⟨ret_int E.out.symm, chain (chain B0.out b1) b2⟩
    | true =>
      rw [rb] at HRt
      have hR := right_is.1 rb
      obtain ⟨m, rfl, hm⟩ := ok_rng ok
      have nz := hz.nds _ (List.getElem_mem hm)
      have hN := hasN_of hm rb
      have iR : inR l (m : Int) := ⟨by omega, by omega⟩
      have eO : ordL l (m : Int) = orderP l (m : Int) := (if_pos hN).trans (order_down hR iR).symm
      have HOr := hide (fun W (hb : Below w.heap.size w W) => order_any v l (m : Int) W (hv.below hb) hz)
      rw [eO] at HOr
      have OL : Hid ((orderP l (m : Int)).length ≤ 17592186044416) := by
        show _ ≤ _
        rw [order_down hR iR]
        have := down_few hR iR
        omega
      have HF := hide (fun vk ks W (hb : Below w.heap.size w W) (hk : IntsV W vk ks) (hl : ks.length ≤ 17592186044416) => owFirstOf_any v vk l ks _ labB suLabels W (hv.below hb) hk hz (hT.below hb) hl)
      have HNm := hide (fun s W (hb : Below w.heap.size w W) => named_any v l s W (hv.below hb) hz)
      have eNm : Hid (∀ s, namedQ l s = namedP l s) := fun s => if_pos rb
      have E : Hid (controlP l (m : Int) = if hasA l[m] oFor = true then firB l labB [namedP l (fndS l[m].attrs oFor)] else firB l labB (orderP l (m : Int))) := by
        show _ = _
        rw [control_is, isK_yes ok rb]
        unfold ctlQ
        rw [Int.toNat_natCast, nd_at hm]; rfl
      obtain ⟨p, c, rfl⟩ := nds_formW hv
      obtain ⟨b, o, va, pk, nk, ck, rfl, N⟩ := node_ofW hv hm
      have HN := hide (fun W (hb : Below w.heap.size w W) => owFind_any l[m] va pk nk ck oFor W (N.at_.below hb) nz.attrs)
      obtain ⟨pa, ca, rfl, hxx⟩ := N.at_
      clear hxx
      have B0 : Hid (Below w.heap.size w w) := Below.refl _ _
      have m0 : (0 : Int) ≤ (m : Int) := by omega
      have m1 : (m : Int) < (l.length : Int) := by omega
      have NN := hide N
      clear hv hz hT ok rb hR hN iR eO nz N
      generalize fndS l[m].attrs oFor = nm at *
      generalize hasA l[m] oFor = ha at *
      rw [show oFor = ⟨#[102, 111, 114]⟩ from rfl] at HN
      generalize controlP l (m : Int) = z at *
      generalize orderP l (m : Int) = ord at *
      cases ha with
      | false =>
        rw [if_neg (by decide)] at E
        go_enter Tryd.func17, Tryd.ntmps17
        go_wp2_with fail
        refine (HI.out _ B0.out).mono ?_
        rintro e w1 ⟨rfl, b1⟩
        go_wp2_with fail
        refine (HRt.out _ (chain B0.out b1)).mono ?_
        rintro e w2 ⟨rfl, b2⟩
        have B2 := hide (chain (chain B0.out b1) b2)
        have c0 := (NN.out.below B2.out).name
        have c1 := (NN.out.below B2.out).text
        have c2 := (NN.out.below B2.out).attrs
        have c3 := (NN.out.below B2.out).parent
        have c4 := (NN.out.below B2.out).kids
        go_wp2_with fail
        refine (HN.out _ B2.out).mono ?_
        rintro e w3 ⟨rfl, b3⟩
        have B3 := hide (chain B2.out b3)
        clear b3 B2 c0 c1 c2 c3 c4
        go_wp2_with fail
        refine (HOr.out _ B3.out).mono ?_
        rintro e w4 ⟨v4, rfl, k4, b4⟩
        have I4 := hide k4.ints
        have B4 := hide (chain B3.out b4)
        obtain ⟨p4, c4, rfl, _⟩ := k4.ints
        clear k4 b4 B3
        go_wp2_with fail
        refine (HF.out _ _ _ B4.out I4.out OL.out).mono ?_
        rintro e w5 ⟨rfl, b5⟩
        go_wp2_with fail
        go_ret
        exact ⟨ret_int E.out.symm, chain B4.out b5⟩
      | true =>
        rw [if_pos rfl] at E
        have HNn := hide (fun W hb => HNm.out nm W hb)
        rw [eNm.out] at HNn
        generalize namedP l nm = zz at *
        go_enter Tryd.func17, Tryd.ntmps17
        go_wp2_with fail
        refine (HI.out _ B0.out).mono ?_
        rintro e w1 ⟨rfl, b1⟩
        go_wp2_with fail
        refine (HRt.out _ (chain B0.out b1)).mono ?_
        rintro e w2 ⟨rfl, b2⟩
        have B2 := hide (chain (chain B0.out b1) b2)
        have c0 := (NN.out.below B2.out).name
        have c1 := (NN.out.below B2.out).text
        have c2 := (NN.out.below B2.out).attrs
        have c3 := (NN.out.below B2.out).parent
        have c4 := (NN.out.below B2.out).kids
        go_wp2_with fail
        refine (HN.out _ B2.out).mono ?_
        rintro e w3 ⟨rfl, b3⟩
        have B3 := hide (chain B2.out b3)
        clear b3 B2 c0 c1 c2 c3 c4
        go_wp2_with fail
        refine (HNn.out _ B3.out).mono ?_
        rintro e w4 ⟨rfl, b4⟩
        have B4 := hide (chain (chain B3.out b4) ((Below.refl _ w4).alloc (Nat.le_refl _) (.cells #[.int .i64 zz] 3)))
        have I4 := hide (ints_oneW w4 zz)
        clear b4 B3
        go_wp2_with fail
        refine (HF.out _ _ _ B4.out I4.out (by simp)).mono ?_
        rintro e w5 ⟨rfl, b5⟩
        go_wp2_with fail
        go_ret
        exact ⟨ret_int E.out.symm, chain B4.out b5⟩
end Go.Proofs.YtoejiojkpbibcaaDoor

namespace Go.Proofs.YtoejiojkpbibcaaDoor
open Go.RowKit
set_option maxRecDepth 100000
set_option maxHeartbeats 8000000 in
theorem refControl_any (v : Value) (l : List Nd) (id : Int) (w : World) (hv : NodesV w v l) (hz : DocSz l) :
    Calls Tryd.prog 18 #[v, .int .i64 id] w fun e w' => e = .returned (.int .i64 (controlP l id)) ∧ Below w.heap.size w w' := by
  have HI := hide (refIs_any v l id 31 w hv hz)
  cases h : isK l id 31 with
  | false =>
    have E : Hid (controlP l id = -1) := by show _ = _; unfold controlP; rw [if_neg (by rw [h]; decide)]
    rw [h] at HI
    obtain ⟨p, c, rfl, _⟩ := hv
    clear h hz
    go_enter Tryd.func18, Tryd.ntmps18
    go_wp2_with fail
    refine HI.out.mono ?_
    rintro e w1 ⟨rfl, b1⟩
    go_wp2_with fail
    go_ret
    exact ⟨ret_int E.out.symm, b1⟩
  | true =>
    have hh : hasN l id = true := by unfold isK at h; rw [Bool.and_eq_true] at h; exact h.1
    obtain ⟨m, hI⟩ := Is.of hh
    obtain ⟨rfl, h0⟩ := (⟨hI.eq, hI.lt⟩ : id = (m : Int) ∧ m < l.length)
    have hR := hide hI.right
    have hlen := hI.right.len.2
    have sz := right_attrsO hI.right h0
    rw [nd_at h0] at sz
    have few := order_few hI.right h0
    have EL : Hid (controlP l (m : Int) = if (findA l[m].attrs ⟨#[102, 111, 114]⟩).isSome = true then saidL l (fndS l[m].attrs ⟨#[102, 111, 114]⟩) else (((orderP l (m : Int)).drop 1).find? (labI l)).getD (-1)) := by
      show _ = _
      unfold controlP hasA
      rw [if_pos h, Int.toNat_natCast, nd_at h0]
      rfl
    have RNG : Hid (∀ x ∈ orderP l (m : Int), 0 ≤ x ∧ x < (l.length : Int)) := fun x hx => by
      have := (order_mem hI.right (by omega) (by omega) x).1 hx
      exact ⟨this.1, this.2.1⟩
    have OL : Hid (1 ≤ (orderP l (m : Int)).length) := by
      have hm : (m : Int) ∈ orderP l (m : Int) := (order_mem hI.right (by omega) (by omega) (m : Int)).2 ⟨by omega, by omega, anc_self hI.right (by omega) (by omega)⟩
      exact List.length_pos_of_mem hm
    rw [h] at HI
    have hv' := hide hv
    have HOr := hide (fun W (hb : Below w.heap.size w W) => refOrder_any v l m W (hv'.out.below hb) hR.out h0)
    have HKd := hide (fun q W (hq : q < l.length) (hb : Below w.heap.size w W) => refKind_any v l q W (hv'.out.below hb) hR.out hq)
    have HLs := hide (fun k W => refIs_4 k W)
    have HB := hide (fun x (hx : x.size ≤ maxLen) W (hb : Below w.heap.size w W) => refByID_any v l x W (hv'.out.below hb) hz hR.out hx)
    obtain ⟨p, c, rfl⟩ : ∃ p c, v = .slice p l.length c := by obtain ⟨p, c, e, _⟩ := hv; exact ⟨p, c, e⟩
    obtain ⟨b, o, rfl, va, vk, N0⟩ := nd_open hv h0
    have HA := hide (fun W (hb : Below w.heap.size w W) => refAttrS_any va l[m].attrs ⟨#[102, 111, 114]⟩ W (N0.at_.below hb) (by omega))
    have N1 := hide N0
    obtain ⟨pa, ka, rfl, _⟩ := N0.at_
    have i0 : (0 : Int) ≤ (m : Int) := by omega
    have i1 : (m : Int) < (l.length : Int) := by omega
    have fz : (fndS l[m].attrs ⟨#[102, 111, 114]⟩).size ≤ maxLen := by
      unfold fndS
      split
      · decide
      · rename_i j e
        obtain ⟨hj, _, _⟩ := List.findIdx?_eq_some_iff_getElem.1 (show l[m].attrs.findIdx? (isN ⟨#[102, 111, 114]⟩) = some j from e)
        rw [show l[m].attrs.getD j at0 = l[m].attrs[j] by simp [List.getD, hj]]
        have := sz.2 _ (List.getElem_mem hj)
        unfold maxLen
        omega
    have HBs := hide (HB.out (fndS l[m].attrs ⟨#[102, 111, 114]⟩) fz)
    have NR : Hid (∀ f : Int, namedP l (fndS l[m].attrs ⟨#[102, 111, 114]⟩) = f → 0 ≤ f → f < (l.length : Int)) := fun f e q => named_in hR.out e q
    have SF : Hid (saidL l (fndS l[m].attrs ⟨#[102, 111, 114]⟩) = if 0 ≤ namedP l (fndS l[m].attrs ⟨#[102, 111, 114]⟩) ∧ labB (kI l (namedP l (fndS l[m].attrs ⟨#[102, 111, 114]⟩))) = true then namedP l (fndS l[m].attrs ⟨#[102, 111, 114]⟩) else -1) := rfl
    have OB : Hid (∀ q : Int, labI l q = labB (kI l q)) := fun _ => rfl
    clear h hh hI hv hz hv' hR HB fz N0 sz
    generalize controlP l (m : Int) = RES at *
    generalize orderP l (m : Int) = ord at *
    generalize labI l = P at *
    generalize saidL l (fndS l[m].attrs ⟨#[102, 111, 114]⟩) = SD at *
    generalize fndS l[m].attrs ⟨#[102, 111, 114]⟩ = fs at *
    generalize (findA l[m].attrs ⟨#[102, 111, 114]⟩).isSome = fb at *
    generalize namedP l fs = nm at *
    cases fb with
    | true =>
      rw [if_pos rfl] at EL
      clear HOr RNG OL
      by_cases n0 : 0 ≤ nm
      · obtain ⟨q, rfl, hq⟩ : ∃ q : Nat, nm = (q : Int) ∧ q < l.length := ⟨nm.toNat, by omega, by have := NR.out nm rfl n0; omega⟩
        have HKq := hide (fun W hb => HKd.out q W hq hb)
        have HLq := hide (fun W => HLs.out (kI l (q : Int)) W)
        cases lb : labB (kI l (q : Int)) with
        | true =>
          have E : Hid (RES = (q : Int)) := by show _ = _; rw [EL.out, SF.out, if_pos ⟨n0, lb⟩]
          rw [lb] at HLq
          clear lb SF
          generalize kI l (q : Int) = kq at *
          go_enter Tryd.func18, Tryd.ntmps18
          go_wp2_with fail
          refine HI.out.mono ?_
          rintro e w1 ⟨rfl, b1⟩
          have B1 := hide b1
          clear b1
          have a2 := cell_below N1.out.attrs B1.out
          go_wp2_with fail
          refine (HA.out _ B1.out).mono ?_
          rintro e u ⟨rfl, hu⟩
          obtain rfl : w1 = u := hu.symm
          go_wp2_with fail
          refine (HBs.out _ B1.out).mono ?_
          rintro e w2 ⟨rfl, b2⟩
          have B2 := hide (chain B1.out b2)
          go_wp2_with fail
          refine (HKq.out _ B2.out).mono ?_
          rintro e w3 ⟨rfl, b3⟩
          have B3 := hide (chain B2.out b3)
          go_wp2_with fail
          refine (HLq.out _).mono ?_
          rintro e u ⟨rfl, hu⟩
          obtain rfl : w3 = u := hu.symm
          go_wp2_with fail
          go_ret
          exact ⟨ret_int E.out.symm, B3.out⟩
        | false =>
          have E : Hid (RES = -1) := by show _ = _; rw [EL.out, SF.out, if_neg (fun t => by rw [lb] at t; cases t.2)]
          rw [lb] at HLq
          clear lb SF
          generalize kI l (q : Int) = kq at *
          go_enter Tryd.func18, Tryd.ntmps18
          go_wp2_with fail
          refine HI.out.mono ?_
          rintro e w1 ⟨rfl, b1⟩
          have B1 := hide b1
          clear b1
          have a2 := cell_below N1.out.attrs B1.out
          go_wp2_with fail
          refine (HA.out _ B1.out).mono ?_
          rintro e u ⟨rfl, hu⟩
          obtain rfl : w1 = u := hu.symm
          go_wp2_with fail
          refine (HBs.out _ B1.out).mono ?_
          rintro e w2 ⟨rfl, b2⟩
          have B2 := hide (chain B1.out b2)
          go_wp2_with fail
          refine (HKq.out _ B2.out).mono ?_
          rintro e w3 ⟨rfl, b3⟩
          have B3 := hide (chain B2.out b3)
          go_wp2_with fail
          refine (HLq.out _).mono ?_
          rintro e u ⟨rfl, hu⟩
          obtain rfl : w3 = u := hu.symm
          go_wp2_with fail
          go_ret
          exact ⟨ret_int E.out.symm, B3.out⟩
      · have E : Hid (RES = -1) := by show _ = _; rw [EL.out, SF.out, if_neg (fun t => n0 t.1)]
        have d0 : decide (0 ≤ nm) = false := decide_eq_false n0
        go_enter Tryd.func18, Tryd.ntmps18
        go_wp2_with fail
        refine HI.out.mono ?_
        rintro e w1 ⟨rfl, b1⟩
        have B1 := hide b1
        clear b1
        have a2 := cell_below N1.out.attrs B1.out
        go_wp2_with fail
        refine (HA.out _ B1.out).mono ?_
        rintro e u ⟨rfl, hu⟩
        obtain rfl : w1 = u := hu.symm
        go_wp2_with fail
        refine (HBs.out _ B1.out).mono ?_
        rintro e w2 ⟨rfl, b2⟩
        have B2 := hide (chain B1.out b2)
        go_wp2_with fail
        go_ret
        exact ⟨ret_int E.out.symm, B2.out⟩
    | false =>
      rw [if_neg (by decide)] at EL
      clear SF NR HBs
      go_enter Tryd.func18, Tryd.ntmps18
      go_wp2_with fail
      refine HI.out.mono ?_
      rintro e w1 ⟨rfl, b1⟩
      have B1 := hide b1
      clear b1
      have a2 := cell_below N1.out.attrs B1.out
      go_wp2_with fail
      refine (HA.out _ B1.out).mono ?_
      rintro e u ⟨rfl, hu⟩
      obtain rfl : w1 = u := hu.symm
      go_wp2_with fail
      refine (HOr.out _ B1.out).mono ?_
      rintro e w2 ⟨av, rfl, ko, b2⟩
      have IV := hide ko.ints
      have B2 := hide (chain B1.out b2)
      obtain ⟨pq, cq, rfl, _⟩ := ko.ints
      clear HOr HI ko b2 B1 a2
      go_wp2_with fail
      go_loopw [9] (fun iv wr => ∃ k : Nat, 1 ≤ k ∧ k ≤ ord.length ∧ iv = .int .i64 k ∧ Hid (RES = ((ord.drop k).find? P).getD (-1)) ∧ Hid (Below w2.heap.size w2 wr)) (fun iv _ => ord.length - (intOf iv).toNat)
      case atStart => exact ⟨1, Nat.le_refl _, OL.out, rfl, EL, Below.refl _ _⟩
      case round =>
        rename World => wr
        obtain ⟨k, hk0, hk, rfl, HE, BW⟩ := hrel
        have BWW := hide (chain B2.out BW.out)
        by_cases g : k < ord.length
        · have k1 : (k : Int) < (ord.length : Int) := by omega
          have k0 : (0 : Int) ≤ (k : Int) := by omega
          obtain ⟨pa', ca', eva, hav⟩ := IV.out.below BW.out
          cases eva
          rcases hav with hav | ⟨b2, o2, rfl, hav⟩
          · rw [hav] at g; simp at g
          have x0 := hav k g
          have rx := RNG.out ord[k] (List.getElem_mem g)
          obtain ⟨q, eq, hq⟩ := nat_of (z := ord[k]) (n := l.length) (by omega) rx.2
          have EQ := hide eq
          have OBq := OB.out (q : Int)
          rw [eq] at x0
          have FN := hide (find_noW (p := P) g)
          have FY := hide (find_yesW (p := P) g)
          have HKq := hide (fun W hb => HKd.out q W hq hb)
          have HLq := hide (fun W => HLs.out (kI l (q : Int)) W)
          rw [eq] at FN FY
          clear hav eq rx HKd HLs RNG OB EL
          cases lb : labB (kI l (q : Int)) with
          | false =>
            rw [lb] at OBq HLq
            have E1 : Hid (RES = ((ord.drop (k + 1)).find? P).getD (-1)) := by show _ = _; rw [HE.out, FN.out OBq]
            clear FN FY OBq lb HE
            generalize kI l (q : Int) = kq at *
            go_wp2_with fail
            refine (HKq.out _ BWW.out).mono ?_
            rintro e w3 ⟨rfl, b3⟩
            have B3 := hide (chain BWW.out b3)
            have BL3 := hide (chain BW.out b3)
            clear b3
            go_wp2_with fail
            refine (HLq.out _).mono ?_
            rintro e u ⟨rfl, hu⟩
            obtain rfl : w3 = u := hu.symm
            go_wp2_with fail
            go_roundw
            case rel => exact ⟨k + 1, by omega, by omega, by go_num, E1, BL3⟩
            case measure => simp [intOf]; omega
          | true =>
            rw [lb] at OBq HLq
            have E1 : Hid (RES = (q : Int)) := by show _ = _; rw [HE.out, FY.out OBq]; rfl
            clear FN FY OBq lb HE
            generalize kI l (q : Int) = kq at *
            go_wp2_with fail
            refine (HKq.out _ BWW.out).mono ?_
            rintro e w3 ⟨rfl, b3⟩
            have B3 := hide (chain BWW.out b3)
            have BL3 := hide (chain BW.out b3)
            clear b3
            go_wp2_with fail
            refine (HLq.out _).mono ?_
            rintro e u ⟨rfl, hu⟩
            obtain rfl : w3 = u := hu.symm
            obtain ⟨pa3, ca3, eva3, hav3⟩ := IV.out.below BL3.out
            cases eva3
            have x3 := (hav3.resolve_left (fun t => by rw [t] at g; simp at g))
            obtain ⟨b3', o3', e3', hav3'⟩ := x3
            cases e3'
            have y0 := hav3' k g
            rw [EQ.out] at y0
            clear hav3 hav3'
            go_wp2_with fail
            go_ret
            exact ⟨ret_int E1.out.symm, B3.out⟩
        · obtain rfl : k = ord.length := by omega
          have E1 : Hid (RES = -1) := by show _ = _; rw [HE.out, List.drop_length]; rfl
          go_wp2_with fail
          go_ret
          exact ⟨ret_int E1.out.symm, BWW.out⟩
end Go.Proofs.YtoejiojkpbibcaaDoor

namespace Go.Proofs.YtoejiojkpbibcaaDoor
open Go.RowKit
set_option maxRecDepth 100000
set_option maxHeartbeats 8000000 in
theorem ownerLabels_walk (v : Value) (l : List Nd) (id : Int) (w : World) (hv : NodesV w v l) (hz : DocSz l) (hT : OwTabs w) :
    Calls Tryd.prog 5 #[v, .int .i64 id] w fun e w' => e = .returned (.bool true) ∧ Below w.heap.size w w' := by
  have HV := hide hv
  have HW := hide (owWakes_any w hT)
  have HC := hide (fun W (hb : Below w.heap.size w W) => refCopied_any v l W (HV.out.below hb) hz)
  have H1 := hide (fun u W (hb : Below w.heap.size w W) (hu : NodesV W u l) => owControl_any u l id W hu hz (hT.below hb))
  have H2 := hide (fun W (hb : Below w.heap.size w W) => refControl_any v l id W (HV.out.below hb) hz)
  generalize controlP l id = R at *
  obtain ⟨p, k, rfl⟩ : ∃ p k, v = .slice p l.length k := by obtain ⟨p, k, e, _⟩ := hv; exact ⟨p, k, e⟩
  clear hv hz hT HV
  go_enter Tryd.func5, Tryd.ntmps5
  go_wp2_with fail
  refine HW.out.mono ?_
  rintro e w1 ⟨rfl, b1⟩
  go_wp2_with fail
  refine (HC.out _ b1).mono ?_
  rintro e w2 ⟨v2, L2, rfl, o2, e2, b2⟩
  have N2 : Hid (NodesV w2 v2 l) := by show NodesV _ _ _; rw [← e2]; exact o2.nodes
  obtain ⟨p2, k2, rfl⟩ : ∃ p k, v2 = .slice p l.length k := by obtain ⟨p, k, e, _⟩ := N2.out; exact ⟨p, k, e⟩
  have B2 := hide (chain b1 b2)
  clear o2 e2 b1 b2
  go_wp2_with fail
  refine (H1.out _ _ B2.out N2.out).mono ?_
  rintro e w3 ⟨rfl, b3⟩
  have B3 := hide (chain B2.out b3)
  go_wp2_with fail
  refine (H2.out _ B3.out).mono ?_
  rintro e w4 ⟨rfl, b4⟩
  go_wp2_with fail
  go_ret
  exact ⟨rfl, chain B3.out b4⟩

end Go.Proofs.YtoejiojkpbibcaaDoor
