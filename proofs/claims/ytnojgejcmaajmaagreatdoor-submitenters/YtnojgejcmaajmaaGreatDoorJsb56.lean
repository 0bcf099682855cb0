/- Ways and questions of kinds, of the program and of the document. The document's kind and Form of layer 16. The document's Elements of layer 16. The document's Default of layer 16. -/
import Derived.Test.YtnojgejcmaajmaaGreatDoorJsb12
import Derived.Test.YtnojgejcmaajmaaGreatDoorJsb13
import Derived.Test.YtnojgejcmaajmaaGreatDoorJsb53
import Derived.Test.YtnojgejcmaajmaaGreatDoorJsb57

namespace Go.Proofs.YtnojgejcmaajmaaGreatDoor
open Go.RowKit
set_option maxRecDepth 100000
set_option maxHeartbeats 4000000 in
set_option maxRecDepth 100000 in
theorem isInput_any (k : Int) (w : World) :
    Calls Tryz.prog 218 #[.int .i64 k] w fun e w' => e = .returned (.bool (btwB k 1 22)) ∧ w' = w := by
  have HB := hide (between_any k 1 22)
  generalize btwB k 1 22 = r at *
  go_enter Tryz.func218, Tryz.ntmps218
  go_wp2_with fail
  refine (HB.out _).mono ?_
  rintro e u ⟨rfl, rfl⟩
  go_wp2_with fail
  go_ret
  exact ⟨rfl, rfl⟩
set_option maxHeartbeats 4000000 in
set_option maxRecDepth 100000 in
theorem isButton_any (k : Int) (w : World) :
    Calls Tryz.prog 219 #[.int .i64 k] w fun e w' => e = .returned (.bool (btwB k 25 27)) ∧ w' = w := by
  have HB := hide (between_any k 25 27)
  generalize btwB k 25 27 = r at *
  go_enter Tryz.func219, Tryz.ntmps219
  go_wp2_with fail
  refine (HB.out _).mono ?_
  rintro e u ⟨rfl, rfl⟩
  go_wp2_with fail
  go_ret
  exact ⟨rfl, rfl⟩
set_option maxHeartbeats 4000000 in
set_option maxRecDepth 100000 in
theorem isWritten_any (k : Int) (w : World) :
    Calls Tryz.prog 170 #[.int .i64 k] w fun e w' => e = .returned (.bool (btwB k 2 13)) ∧ w' = w := by
  have HB := hide (between_any k 2 13)
  generalize btwB k 2 13 = r at *
  go_enter Tryz.func170, Tryz.ntmps170
  go_wp2_with fail
  refine (HB.out _).mono ?_
  rintro e u ⟨rfl, rfl⟩
  go_wp2_with fail
  go_ret
  exact ⟨rfl, rfl⟩
set_option maxHeartbeats 4000000 in
set_option maxRecDepth 100000 in
theorem submits_any (k : Int) (w : World) :
    Calls Tryz.prog 171 #[.int .i64 k] w fun e w' => e = .returned (.bool (subB k)) ∧ w' = w := by
  rcases (show (k ≤ 0) ∨ (1 ≤ k ∧ k ≤ 22) ∨ (k = 23) ∨ (k = 24) ∨ (25 ≤ k ∧ k ≤ 27) ∨ (28 ≤ k) by omega) with q | q | q | q | q | q
  · have H1 := hide (isInput_any k)
    rw [show btwB k 1 22 = false from decide_eq_false (by omega)] at H1
    have e2 : (k == 23) = false := by rw [beq_eq_false_iff_ne]; omega
    have n2 : ¬ k = 23 := by omega
    have e3 : (k == 24) = false := by rw [beq_eq_false_iff_ne]; omega
    have n3 : ¬ k = 24 := by omega
    have H4 := hide (isButton_any k)
    rw [show btwB k 25 27 = false from decide_eq_false (by omega)] at H4
    have E := hide (show subB k = false from decide_eq_false (by omega))
    clear q
    go_enter Tryz.func171, Tryz.ntmps171
    go_wp2_with fail
    refine (H1.out _).mono ?_
    rintro e u ⟨rfl, rfl⟩
    go_wp2_with fail
    refine (H4.out _).mono ?_
    rintro e u ⟨rfl, rfl⟩
    go_wp2_with fail
    go_ret
    exact ⟨ret_bool E.out.symm, rfl⟩
  · have H1 := hide (isInput_any k)
    rw [show btwB k 1 22 = true from decide_eq_true (by omega)] at H1
    have e2 : (k == 23) = false := by rw [beq_eq_false_iff_ne]; omega
    have n2 : ¬ k = 23 := by omega
    have e3 : (k == 24) = false := by rw [beq_eq_false_iff_ne]; omega
    have n3 : ¬ k = 24 := by omega
    have H4 := hide (isButton_any k)
    rw [show btwB k 25 27 = false from decide_eq_false (by omega)] at H4
    have E := hide (show subB k = true from decide_eq_true (by omega))
    clear q
    go_enter Tryz.func171, Tryz.ntmps171
    go_wp2_with fail
    refine (H1.out _).mono ?_
    rintro e u ⟨rfl, rfl⟩
    go_wp2_with fail
    go_ret
    exact ⟨ret_bool E.out.symm, rfl⟩
  · have H1 := hide (isInput_any k)
    rw [show btwB k 1 22 = false from decide_eq_false (by omega)] at H1
    have e2 : (k == 23) = true := by rw [beq_iff_eq]; omega
    have n2 : (k != 23) = false := by unfold bne; rw [e2]; rfl
    have e3 : (k == 24) = false := by rw [beq_eq_false_iff_ne]; omega
    have n3 : ¬ k = 24 := by omega
    have H4 := hide (isButton_any k)
    rw [show btwB k 25 27 = false from decide_eq_false (by omega)] at H4
    have E := hide (show subB k = true from decide_eq_true (by omega))
    clear q
    go_enter Tryz.func171, Tryz.ntmps171
    go_wp2_with fail
    refine (H1.out _).mono ?_
    rintro e u ⟨rfl, rfl⟩
    go_wp2_with fail
    go_ret
    exact ⟨ret_bool E.out.symm, rfl⟩
  · have H1 := hide (isInput_any k)
    rw [show btwB k 1 22 = false from decide_eq_false (by omega)] at H1
    have e2 : (k == 23) = false := by rw [beq_eq_false_iff_ne]; omega
    have n2 : ¬ k = 23 := by omega
    have e3 : (k == 24) = true := by rw [beq_iff_eq]; omega
    have n3 : (k != 24) = false := by unfold bne; rw [e3]; rfl
    have H4 := hide (isButton_any k)
    rw [show btwB k 25 27 = false from decide_eq_false (by omega)] at H4
    have E := hide (show subB k = true from decide_eq_true (by omega))
    clear q
    go_enter Tryz.func171, Tryz.ntmps171
    go_wp2_with fail
    refine (H1.out _).mono ?_
    rintro e u ⟨rfl, rfl⟩
    go_wp2_with fail
    go_ret
    exact ⟨ret_bool E.out.symm, rfl⟩
  · have H1 := hide (isInput_any k)
    rw [show btwB k 1 22 = false from decide_eq_false (by omega)] at H1
    have e2 : (k == 23) = false := by rw [beq_eq_false_iff_ne]; omega
    have n2 : ¬ k = 23 := by omega
    have e3 : (k == 24) = false := by rw [beq_eq_false_iff_ne]; omega
    have n3 : ¬ k = 24 := by omega
    have H4 := hide (isButton_any k)
    rw [show btwB k 25 27 = true from decide_eq_true (by omega)] at H4
    have E := hide (show subB k = true from decide_eq_true (by omega))
    clear q
    go_enter Tryz.func171, Tryz.ntmps171
    go_wp2_with fail
    refine (H1.out _).mono ?_
    rintro e u ⟨rfl, rfl⟩
    go_wp2_with fail
    refine (H4.out _).mono ?_
    rintro e u ⟨rfl, rfl⟩
    go_wp2_with fail
    go_ret
    exact ⟨ret_bool E.out.symm, rfl⟩
  · have H1 := hide (isInput_any k)
    rw [show btwB k 1 22 = false from decide_eq_false (by omega)] at H1
    have e2 : (k == 23) = false := by rw [beq_eq_false_iff_ne]; omega
    have n2 : ¬ k = 23 := by omega
    have e3 : (k == 24) = false := by rw [beq_eq_false_iff_ne]; omega
    have n3 : ¬ k = 24 := by omega
    have H4 := hide (isButton_any k)
    rw [show btwB k 25 27 = false from decide_eq_false (by omega)] at H4
    have E := hide (show subB k = false from decide_eq_false (by omega))
    clear q
    go_enter Tryz.func171, Tryz.ntmps171
    go_wp2_with fail
    refine (H1.out _).mono ?_
    rintro e u ⟨rfl, rfl⟩
    go_wp2_with fail
    refine (H4.out _).mono ?_
    rintro e u ⟨rfl, rfl⟩
    go_wp2_with fail
    go_ret
    exact ⟨ret_bool E.out.symm, rfl⟩
set_option maxHeartbeats 4000000 in
set_option maxRecDepth 100000 in
theorem listed_any (k : Int) (w : World) :
    Calls Tryz.prog 123 #[.int .i64 k] w fun e w' => e = .returned (.bool (listB k)) ∧ w' = w := by
  rcases (show (k ≤ 0) ∨ (1 ≤ k ∧ k ≤ 19) ∨ (k = 20) ∨ (21 ≤ k ∧ k ≤ 27) ∨ (k = 28) ∨ (k = 29) ∨ (30 ≤ k) by omega) with q | q | q | q | q | q | q
  all_goals
    have H1 := hide (submits_any k)
    first | (rw [show subB k = false from decide_eq_false (by omega)] at H1) | (rw [show subB k = true from decide_eq_true (by omega)] at H1)
    first | (have e2 : (k == 20) = false := by rw [beq_eq_false_iff_ne]; omega) | (have e2 : (k == 20) = true := by rw [beq_iff_eq]; omega)
    first | (have n2 : ¬ k = 20 := by omega) | (have n2 : (k != 20) = false := by unfold bne; rw [e2]; rfl)
    first | (have e3 : (k == 28) = false := by rw [beq_eq_false_iff_ne]; omega) | (have e3 : (k == 28) = true := by rw [beq_iff_eq]; omega)
    first | (have n3 : ¬ k = 28 := by omega) | (have n3 : (k != 28) = false := by unfold bne; rw [e3]; rfl)
    first | (have e4 : (k == 29) = false := by rw [beq_eq_false_iff_ne]; omega) | (have e4 : (k == 29) = true := by rw [beq_iff_eq]; omega)
    first | (have n4 : ¬ k = 29 := by omega) | (have n4 : (k != 29) = false := by unfold bne; rw [e4]; rfl)
    first | (have E := hide (show listB k = false from decide_eq_false (by omega))) | (have E := hide (show listB k = true from decide_eq_true (by omega)))
    clear q
    go_enter Tryz.func123, Tryz.ntmps123
    go_wp2_with fail
    refine (H1.out _).mono ?_
    rintro e u ⟨rfl, rfl⟩
    go_wp2_with fail
    go_ret
    exact ⟨ret_bool E.out.symm, rfl⟩
set_option maxHeartbeats 4000000 in
set_option maxRecDepth 100000 in
theorem blocks_any (k : Int) (w : World) :
    Calls Tryz.prog 107 #[.int .i64 k] w fun e w' => e = .returned (.bool (blockB k)) ∧ w' = w := by
  rcases (show (k ≤ 1) ∨ (2 ≤ k ∧ k ≤ 13) ∨ (14 ≤ k) by omega) with q | q | q
  all_goals
    have H1 := hide (isWritten_any k)
    first | (rw [show btwB k 2 13 = false from decide_eq_false (by omega)] at H1) | (rw [show btwB k 2 13 = true from decide_eq_true (by omega)] at H1)
    first | (have E := hide (show blockB k = false from decide_eq_false (by omega))) | (have E := hide (show blockB k = true from decide_eq_true (by omega)))
    go_enter Tryz.func107, Tryz.ntmps107
    go_wp2_with fail
    refine (H1.out _).mono ?_
    rintro e u ⟨rfl, rfl⟩
    go_wp2_with fail
    go_ret
    exact ⟨ret_bool E.out.symm, rfl⟩
end Go.Proofs.YtnojgejcmaajmaaGreatDoor

namespace Go.Proofs.YtnojgejcmaajmaaGreatDoor
open Go.RowKit
set_option maxRecDepth 100000
/-- A node's cells, opened. -/
theorem nd_open {w : World} {p : Option Addr} {c : Nat} {l : List Nd} (hv : NodesV w (.slice p l.length c) l) {m : Nat} (h0 : m < l.length) : ∃ b o, p = some ⟨b, o, none⟩ ∧ ∃ va vk, NodeAt w b (o + m * 5) l[m] va vk := by
  obtain ⟨p', c', e, h⟩ := hv
  cases e
  rcases h with h | ⟨b, o, rfl, h⟩
  · rw [h] at h0; cases h0
  · exact ⟨b, o, rfl, h m h0⟩
set_option maxHeartbeats 8000000 in
theorem refKind_any (v : Value) (l : List Nd) (m : Nat) (w : World) (hv : NodesV w v l) (hR : Right l) (h0 : m < l.length) :
    Calls Tryz.prog 124 #[v, .int .i64 (m : Int)] w fun e w' => e = .returned (.int .i64 (kI l (m : Int))) ∧ Below w.heap.size w w' := by
  have sz := right_attrsO hR h0
  have hlen := hR.len.2
  rw [nd_at h0] at sz
  have E : Hid (kI l (m : Int) = kOf l[m].name (tyOf l[m].attrs)) := by show _ = _; unfold kI kN; rw [Int.toNat_natCast, nd_at h0]
  obtain ⟨p, c, rfl⟩ : ∃ p c, v = .slice p l.length c := by obtain ⟨p, c, e, _⟩ := hv; exact ⟨p, c, e⟩
  obtain ⟨b, o, rfl, va, vk, N0⟩ := nd_open hv h0
  have HO := hide (refOf_any l[m] va vk w N0.at_ (by omega) (fun a q => by have := sz.2 a q; omega))
  have a0 := N0.name
  have a1 := N0.text
  have a2 := N0.attrs
  have a3 := N0.parent
  have a4 := N0.kids
  have i0 : (0 : Int) ≤ (m : Int) := by omega
  have i1 : (m : Int) < (l.length : Int) := by omega
  clear hv hR N0 sz hlen
  generalize kOf l[m].name (tyOf l[m].attrs) = z at *
  generalize kI l (m : Int) = z2 at *
  go_enter Tryz.func124, Tryz.ntmps124
  go_wp2_with fail
  refine HO.out.mono ?_
  rintro e w2 ⟨rfl, b2⟩
  go_wp2_with fail
  go_ret
  exact ⟨ret_int E.out.symm, b2⟩
theorem lit_decW (a : ByteArray) (l : List UInt8) : (a.toList == l) = decide (a = ⟨l.toArray⟩) := by
  rw [Bool.eq_iff_iff, beq_iff_eq, decide_eq_true_eq, ByteArray.toList_eq]
  constructor
  · intro e
    apply ByteArray.ext
    exact Array.ext' e
  · intro e; rw [e]
theorem named_in {l : List Nd} (hR : Right l) {s : ByteArray} {f : Int} (e : namedP l s = f) (h : 0 ≤ f) : f < (l.length : Int) := by
  have h0 : 0 < l.length := by have := hR.len.1; omega
  have r0 : inR l 0 := ⟨by omega, by omega⟩
  unfold namedP at e
  split at e
  · omega
  · cases q : (orderP l 0).find? (hasId l s) with
    | none => rw [q] at e; have e : (-1 : Int) = f := e; omega
    | some x =>
      rw [q] at e
      have e : x = f := e
      have m := List.mem_of_find?_eq_some q
      rw [order_down hR r0] at m
      rw [← e]
      exact (down_range (right_sub hR r0) m).2
set_option maxHeartbeats 8000000 in
theorem refForm_any (v : Value) (l : List Nd) (id : Int) (w : World) (hv : NodesV w v l) (hz : DocSz l) :
    Calls Tryz.prog 64 #[v, .int .i64 id] w fun e w' => e = .returned (.int .i64 (formP l id)) ∧ Below w.heap.size w w' := by
  have HH := hide (refHas_any v l id w hv hz)
  cases h : hasN l id with
  | false =>
    have E : Hid (formP l id = -1) := by show _ = _; unfold formP; rw [h, if_neg (fun q => by cases q.1)]
    rw [h] at HH
    obtain ⟨p, c, rfl, _⟩ := hv
    clear h hz
    go_enter Tryz.func64, Tryz.ntmps64
    go_wp2_with fail
    refine HH.out.mono ?_
    rintro e w1 ⟨rfl, b1⟩
    go_wp2_with fail
    go_ret
    exact ⟨ret_int E.out.symm, b1⟩
  | true =>
    obtain ⟨m, hI⟩ := Is.of h
    obtain ⟨rfl, h0⟩ := (⟨hI.eq, hI.lt⟩ : id = (m : Int) ∧ m < l.length)
    have hR := hI.right
    have sz := right_attrsO hR h0
    rw [nd_at h0] at sz
    have hlen := hR.len.2
    have HK := hide (fun W (hb : Below w.heap.size w W) => refKind_any v l m W (hv.below hb) hR h0)
    have HL := hide (fun W => refIs_1 (kI l (m : Int)) W)
    rw [h] at HH
    cases hb : belongs l (m : Int) with
    | false =>
      have E : Hid (formP l (m : Int) = -1) := by show _ = _; unfold formP; rw [hb, if_neg (fun q => by cases q.2)]
      have lb : listB (kI l (m : Int)) = false := by unfold belongs at hb; rw [Bool.or_eq_false_iff] at hb; exact hb.1
      have k20 : ¬ kI l (m : Int) = 20 := by unfold belongs at hb; rw [Bool.or_eq_false_iff] at hb; exact of_decide_eq_false hb.2
      have b20 : (kI l (m : Int) == 20) = false := beq_eq_false_iff_ne.2 k20
      rw [lb] at HL
      obtain ⟨p, c, rfl, _⟩ := hv
      clear hz hI hR h sz hlen hb lb
      generalize kI l (m : Int) = kq at *
      go_enter Tryz.func64, Tryz.ntmps64
      go_wp2_with fail
      refine HH.out.mono ?_
      rintro e w1 ⟨rfl, b1⟩
      go_wp2_with fail
      refine (HK.out _ b1).mono ?_
      rintro e w2 ⟨rfl, b2⟩
      have B2 := hide (chain b1 b2)
      go_wp2_with fail
      refine (HL.out _).mono ?_
      rintro e u ⟨rfl, hu⟩
      obtain rfl : w2 = u := hu.symm
      go_wp2_with fail
      go_ret
      exact ⟨ret_int E.out.symm, B2.out⟩
    | true =>
      have EF : Hid (formP l (m : Int) = formC l (m : Int)) := by show _ = _; unfold formP; rw [if_pos ⟨h, hb⟩]
      have HT := hide (fun W (hb : Below w.heap.size w W) => refTop_any v l (m : Int) m W (hv.below hb) hI)
      have HU := hide (fun W (hb : Below w.heap.size w W) => refUp_any v l (m : Int) m oForm W (hv.below hb) hI)
      have HB := hide (fun x (hx : x.size ≤ maxLen) W (hb : Below w.heap.size w W) => refByID_any v l x W (hv.below hb) hz hR hx)
      rw [show oForm = ⟨#[102, 111, 114, 109]⟩ from rfl] at HU
      obtain ⟨p, c, rfl⟩ : ∃ p c, v = .slice p l.length c := by obtain ⟨p, c, e, _⟩ := hv; exact ⟨p, c, e⟩
      obtain ⟨b, o, rfl, va, vk, N0⟩ := nd_open hv h0
      have HA := hide (fun W (hb : Below w.heap.size w W) => refAttrS_any va l[m].attrs ⟨#[102, 111, 114, 109]⟩ W (N0.at_.below hb) (by omega))
      have N1 := hide N0
      obtain ⟨pa, ka, rfl, _⟩ := N0.at_
      have i0 : (0 : Int) ≤ (m : Int) := by omega
      have i1 : (m : Int) < (l.length : Int) := by omega
      have fz : (fndS l[m].attrs ⟨#[102, 111, 114, 109]⟩).size ≤ maxLen := by
        unfold fndS
        split
        · decide
        · rename_i j e
          obtain ⟨hj, _, _⟩ := List.findIdx?_eq_some_iff_getElem.1 (show l[m].attrs.findIdx? (isN ⟨#[102, 111, 114, 109]⟩) = some j from e)
          rw [show l[m].attrs.getD j at0 = l[m].attrs[j] by simp [List.getD, hj]]
          have := sz.2 _ (List.getElem_mem hj)
          unfold maxLen
          omega
      have HBs := hide (HB.out (fndS l[m].attrs ⟨#[102, 111, 114, 109]⟩) fz)
      have EC : Hid (formC l (m : Int) = if (findA l[m].attrs ⟨#[102, 111, 114, 109]⟩).isSome = true ∧ topP l (m : Int) = 0 then saidF l (fndS l[m].attrs ⟨#[102, 111, 114, 109]⟩) else upP l (m : Int) ⟨#[102, 111, 114, 109]⟩) := by
        show _ = _
        unfold formC hasA
        rw [Int.toNat_natCast, nd_at h0]
        rfl
      have NR : Hid (∀ f : Int, namedP l (fndS l[m].attrs ⟨#[102, 111, 114, 109]⟩) = f → 0 ≤ f → f < (l.length : Int)) := fun f e q => named_in hR e q
      have HN := hide hv
      have LB : (listB (kI l (m : Int)) = true) ∨ (listB (kI l (m : Int)) = false ∧ kI l (m : Int) = 20) := by
        unfold belongs at hb
        rw [Bool.or_eq_true, decide_eq_true_eq] at hb
        cases q : listB (kI l (m : Int)) with
        | true => exact .inl rfl
        | false =>
          rw [q] at hb
          rcases hb with t | t
          · cases t
          · exact .inr ⟨rfl, t⟩
      have SF : Hid (saidF l (fndS l[m].attrs ⟨#[102, 111, 114, 109]⟩) = if 0 ≤ namedP l (fndS l[m].attrs ⟨#[102, 111, 114, 109]⟩) ∧ nmI l (namedP l (fndS l[m].attrs ⟨#[102, 111, 114, 109]⟩)) = oForm then namedP l (fndS l[m].attrs ⟨#[102, 111, 114, 109]⟩) else -1) := rfl
      clear hz hI hR h sz hlen hb HB fz N0 hv
      generalize formP l (m : Int) = FP at *
      generalize formC l (m : Int) = FC at *
      generalize saidF l (fndS l[m].attrs ⟨#[102, 111, 114, 109]⟩) = SD at *
      generalize fndS l[m].attrs ⟨#[102, 111, 114, 109]⟩ = fs at *
      generalize (findA l[m].attrs ⟨#[102, 111, 114, 109]⟩).isSome = fb at *
      generalize topP l (m : Int) = tp at *
      generalize upP l (m : Int) ⟨#[102, 111, 114, 109]⟩ = up at *
      generalize namedP l fs = nm at *
      rcases LB with lb | ⟨lb, k20⟩
      · rw [lb] at HL
        generalize kI l (m : Int) = kq at *
        cases fb with
        | false =>
          have E : Hid (FP = up) := by show _ = _; rw [EF.out, EC.out, if_neg (fun q => by cases q.1)]
          go_enter Tryz.func64, Tryz.ntmps64
          go_wp2_with fail
          refine HH.out.mono ?_
          rintro e w1 ⟨rfl, b1⟩
          go_wp2_with fail
          refine (HK.out _ b1).mono ?_
          rintro e w2 ⟨rfl, b2⟩
          have B2 := hide (chain b1 b2)
          go_wp2_with fail
          refine (HL.out _).mono ?_
          rintro e u ⟨rfl, hu⟩
          obtain rfl : w2 = u := hu.symm
          have a2 := cell_below N1.out.attrs B2.out
          go_wp2_with fail
          refine (HA.out _ B2.out).mono ?_
          rintro e u ⟨rfl, hu⟩
          obtain rfl : w2 = u := hu.symm
          go_wp2_with fail
          refine (HU.out _ B2.out).mono ?_
          rintro e u ⟨rfl, hu⟩
          obtain rfl : w2 = u := hu.symm
          go_wp2_with fail
          go_ret
          exact ⟨ret_int E.out.symm, B2.out⟩
        | true =>
          by_cases t0 : tp = 0
          · subst t0
            by_cases n0 : 0 ≤ nm
            · obtain ⟨q, rfl, hq⟩ : ∃ q : Nat, nm = (q : Int) ∧ q < l.length := ⟨nm.toNat, by omega, by have := NR.out nm rfl n0; omega⟩
              obtain ⟨b', o', e', va', vk', M0⟩ := nd_open HN.out hq
              cases e'
              have M1 := hide M0
              have q0 : (0 : Int) ≤ (q : Int) := by omega
              have q1 : (q : Int) < (l.length : Int) := by omega
              have en : nmI l (q : Int) = l[q].name := by unfold nmI; rw [Int.toNat_natCast, nd_at hq]
              have q3 : ¬ (q : Int) < 0 := by omega
              clear M0
              by_cases ff : l[q].name = oForm
              · have E : Hid (FP = (q : Int)) := by show _ = _; rw [EF.out, EC.out, if_pos ⟨rfl, rfl⟩, SF.out, if_pos ⟨n0, by rw [en]; exact ff⟩]
                have fd : (l[q].name.toList == [102, 111, 114, 109]) = true := by rw [lit_decW]; exact decide_eq_true ff
                clear ff en
                go_enter Tryz.func64, Tryz.ntmps64
                go_wp2_with fail
                refine HH.out.mono ?_
                rintro e w1 ⟨rfl, b1⟩
                go_wp2_with fail
                refine (HK.out _ b1).mono ?_
                rintro e w2 ⟨rfl, b2⟩
                have B2 := hide (chain b1 b2)
                go_wp2_with fail
                refine (HL.out _).mono ?_
                rintro e u ⟨rfl, hu⟩
                obtain rfl : w2 = u := hu.symm
                have a2 := cell_below N1.out.attrs B2.out
                go_wp2_with fail
                refine (HA.out _ B2.out).mono ?_
                rintro e u ⟨rfl, hu⟩
                obtain rfl : w2 = u := hu.symm
                go_wp2_with fail
                refine (HT.out _ B2.out).mono ?_
                rintro e u ⟨rfl, hu⟩
                obtain rfl : w2 = u := hu.symm
                go_wp2_with fail
                refine (HBs.out _ B2.out).mono ?_
                rintro e w3 ⟨rfl, b3⟩
                have B3 := hide (chain B2.out b3)
                have a5 := cell_below M1.out.name B3.out
                go_wp2_with fail
                go_ret
                exact ⟨ret_int E.out.symm, B3.out⟩
              · have E : Hid (FP = -1) := by show _ = _; rw [EF.out, EC.out, if_pos ⟨rfl, rfl⟩, SF.out, if_neg (fun t => ff (by rw [← en]; exact t.2))]
                have fd : (l[q].name.toList == [102, 111, 114, 109]) = false := by rw [lit_decW]; exact decide_eq_false ff
                clear ff en
                go_enter Tryz.func64, Tryz.ntmps64
                go_wp2_with fail
                refine HH.out.mono ?_
                rintro e w1 ⟨rfl, b1⟩
                go_wp2_with fail
                refine (HK.out _ b1).mono ?_
                rintro e w2 ⟨rfl, b2⟩
                have B2 := hide (chain b1 b2)
                go_wp2_with fail
                refine (HL.out _).mono ?_
                rintro e u ⟨rfl, hu⟩
                obtain rfl : w2 = u := hu.symm
                have a2 := cell_below N1.out.attrs B2.out
                go_wp2_with fail
                refine (HA.out _ B2.out).mono ?_
                rintro e u ⟨rfl, hu⟩
                obtain rfl : w2 = u := hu.symm
                go_wp2_with fail
                refine (HT.out _ B2.out).mono ?_
                rintro e u ⟨rfl, hu⟩
                obtain rfl : w2 = u := hu.symm
                go_wp2_with fail
                refine (HBs.out _ B2.out).mono ?_
                rintro e w3 ⟨rfl, b3⟩
                have B3 := hide (chain B2.out b3)
                have a5 := cell_below M1.out.name B3.out
                go_wp2_with fail
                go_ret
                exact ⟨ret_int E.out.symm, B3.out⟩
            · have E : Hid (FP = -1) := by show _ = _; rw [EF.out, EC.out, if_pos ⟨rfl, rfl⟩, SF.out, if_neg (fun t => n0 t.1)]
              have d0 : decide (0 ≤ nm) = false := decide_eq_false n0
              go_enter Tryz.func64, Tryz.ntmps64
              go_wp2_with fail
              refine HH.out.mono ?_
              rintro e w1 ⟨rfl, b1⟩
              go_wp2_with fail
              refine (HK.out _ b1).mono ?_
              rintro e w2 ⟨rfl, b2⟩
              have B2 := hide (chain b1 b2)
              go_wp2_with fail
              refine (HL.out _).mono ?_
              rintro e u ⟨rfl, hu⟩
              obtain rfl : w2 = u := hu.symm
              have a2 := cell_below N1.out.attrs B2.out
              go_wp2_with fail
              refine (HA.out _ B2.out).mono ?_
              rintro e u ⟨rfl, hu⟩
              obtain rfl : w2 = u := hu.symm
              go_wp2_with fail
              refine (HT.out _ B2.out).mono ?_
              rintro e u ⟨rfl, hu⟩
              obtain rfl : w2 = u := hu.symm
              go_wp2_with fail
              refine (HBs.out _ B2.out).mono ?_
              rintro e w3 ⟨rfl, b3⟩
              have B3 := hide (chain B2.out b3)
              go_wp2_with fail
              go_ret
              exact ⟨ret_int E.out.symm, B3.out⟩
          · have E : Hid (FP = up) := by show _ = _; rw [EF.out, EC.out, if_neg (fun q => t0 q.2)]
            have tb : (tp == 0) = false := beq_eq_false_iff_ne.2 t0
            go_enter Tryz.func64, Tryz.ntmps64
            go_wp2_with fail
            refine HH.out.mono ?_
            rintro e w1 ⟨rfl, b1⟩
            go_wp2_with fail
            refine (HK.out _ b1).mono ?_
            rintro e w2 ⟨rfl, b2⟩
            have B2 := hide (chain b1 b2)
            go_wp2_with fail
            refine (HL.out _).mono ?_
            rintro e u ⟨rfl, hu⟩
            obtain rfl : w2 = u := hu.symm
            have a2 := cell_below N1.out.attrs B2.out
            go_wp2_with fail
            refine (HA.out _ B2.out).mono ?_
            rintro e u ⟨rfl, hu⟩
            obtain rfl : w2 = u := hu.symm
            go_wp2_with fail
            refine (HT.out _ B2.out).mono ?_
            rintro e u ⟨rfl, hu⟩
            obtain rfl : w2 = u := hu.symm
            go_wp2_with fail
            refine (HU.out _ B2.out).mono ?_
            rintro e u ⟨rfl, hu⟩
            obtain rfl : w2 = u := hu.symm
            go_wp2_with fail
            go_ret
            exact ⟨ret_int E.out.symm, B2.out⟩
      · rw [lb] at HL
        rw [k20] at HL HK
        cases fb with
        | false =>
          have E : Hid (FP = up) := by show _ = _; rw [EF.out, EC.out, if_neg (fun q => by cases q.1)]
          go_enter Tryz.func64, Tryz.ntmps64
          go_wp2_with fail
          refine HH.out.mono ?_
          rintro e w1 ⟨rfl, b1⟩
          go_wp2_with fail
          refine (HK.out _ b1).mono ?_
          rintro e w2 ⟨rfl, b2⟩
          have B2 := hide (chain b1 b2)
          go_wp2_with fail
          refine (HL.out _).mono ?_
          rintro e u ⟨rfl, hu⟩
          obtain rfl : w2 = u := hu.symm
          have a2 := cell_below N1.out.attrs B2.out
          go_wp2_with fail
          refine (HA.out _ B2.out).mono ?_
          rintro e u ⟨rfl, hu⟩
          obtain rfl : w2 = u := hu.symm
          go_wp2_with fail
          refine (HU.out _ B2.out).mono ?_
          rintro e u ⟨rfl, hu⟩
          obtain rfl : w2 = u := hu.symm
          go_wp2_with fail
          go_ret
          exact ⟨ret_int E.out.symm, B2.out⟩
        | true =>
          by_cases t0 : tp = 0
          · subst t0
            by_cases n0 : 0 ≤ nm
            · obtain ⟨q, rfl, hq⟩ : ∃ q : Nat, nm = (q : Int) ∧ q < l.length := ⟨nm.toNat, by omega, by have := NR.out nm rfl n0; omega⟩
              obtain ⟨b', o', e', va', vk', M0⟩ := nd_open HN.out hq
              cases e'
              have M1 := hide M0
              have q0 : (0 : Int) ≤ (q : Int) := by omega
              have q1 : (q : Int) < (l.length : Int) := by omega
              have en : nmI l (q : Int) = l[q].name := by unfold nmI; rw [Int.toNat_natCast, nd_at hq]
              have q3 : ¬ (q : Int) < 0 := by omega
              clear M0
              by_cases ff : l[q].name = oForm
              · have E : Hid (FP = (q : Int)) := by show _ = _; rw [EF.out, EC.out, if_pos ⟨rfl, rfl⟩, SF.out, if_pos ⟨n0, by rw [en]; exact ff⟩]
                have fd : (l[q].name.toList == [102, 111, 114, 109]) = true := by rw [lit_decW]; exact decide_eq_true ff
                clear ff en
                go_enter Tryz.func64, Tryz.ntmps64
                go_wp2_with fail
                refine HH.out.mono ?_
                rintro e w1 ⟨rfl, b1⟩
                go_wp2_with fail
                refine (HK.out _ b1).mono ?_
                rintro e w2 ⟨rfl, b2⟩
                have B2 := hide (chain b1 b2)
                go_wp2_with fail
                refine (HL.out _).mono ?_
                rintro e u ⟨rfl, hu⟩
                obtain rfl : w2 = u := hu.symm
                have a2 := cell_below N1.out.attrs B2.out
                go_wp2_with fail
                refine (HA.out _ B2.out).mono ?_
                rintro e u ⟨rfl, hu⟩
                obtain rfl : w2 = u := hu.symm
                go_wp2_with fail
                refine (HT.out _ B2.out).mono ?_
                rintro e u ⟨rfl, hu⟩
                obtain rfl : w2 = u := hu.symm
                go_wp2_with fail
                refine (HBs.out _ B2.out).mono ?_
                rintro e w3 ⟨rfl, b3⟩
                have B3 := hide (chain B2.out b3)
                have a5 := cell_below M1.out.name B3.out
                go_wp2_with fail
                go_ret
                exact ⟨ret_int E.out.symm, B3.out⟩
              · have E : Hid (FP = -1) := by show _ = _; rw [EF.out, EC.out, if_pos ⟨rfl, rfl⟩, SF.out, if_neg (fun t => ff (by rw [← en]; exact t.2))]
                have fd : (l[q].name.toList == [102, 111, 114, 109]) = false := by rw [lit_decW]; exact decide_eq_false ff
                clear ff en
                go_enter Tryz.func64, Tryz.ntmps64
                go_wp2_with fail
                refine HH.out.mono ?_
                rintro e w1 ⟨rfl, b1⟩
                go_wp2_with fail
                refine (HK.out _ b1).mono ?_
                rintro e w2 ⟨rfl, b2⟩
                have B2 := hide (chain b1 b2)
                go_wp2_with fail
                refine (HL.out _).mono ?_
                rintro e u ⟨rfl, hu⟩
                obtain rfl : w2 = u := hu.symm
                have a2 := cell_below N1.out.attrs B2.out
                go_wp2_with fail
                refine (HA.out _ B2.out).mono ?_
                rintro e u ⟨rfl, hu⟩
                obtain rfl : w2 = u := hu.symm
                go_wp2_with fail
                refine (HT.out _ B2.out).mono ?_
                rintro e u ⟨rfl, hu⟩
                obtain rfl : w2 = u := hu.symm
                go_wp2_with fail
                refine (HBs.out _ B2.out).mono ?_
                rintro e w3 ⟨rfl, b3⟩
                have B3 := hide (chain B2.out b3)
                have a5 := cell_below M1.out.name B3.out
                go_wp2_with fail
                go_ret
                exact ⟨ret_int E.out.symm, B3.out⟩
            · have E : Hid (FP = -1) := by show _ = _; rw [EF.out, EC.out, if_pos ⟨rfl, rfl⟩, SF.out, if_neg (fun t => n0 t.1)]
              have d0 : decide (0 ≤ nm) = false := decide_eq_false n0
              go_enter Tryz.func64, Tryz.ntmps64
              go_wp2_with fail
              refine HH.out.mono ?_
              rintro e w1 ⟨rfl, b1⟩
              go_wp2_with fail
              refine (HK.out _ b1).mono ?_
              rintro e w2 ⟨rfl, b2⟩
              have B2 := hide (chain b1 b2)
              go_wp2_with fail
              refine (HL.out _).mono ?_
              rintro e u ⟨rfl, hu⟩
              obtain rfl : w2 = u := hu.symm
              have a2 := cell_below N1.out.attrs B2.out
              go_wp2_with fail
              refine (HA.out _ B2.out).mono ?_
              rintro e u ⟨rfl, hu⟩
              obtain rfl : w2 = u := hu.symm
              go_wp2_with fail
              refine (HT.out _ B2.out).mono ?_
              rintro e u ⟨rfl, hu⟩
              obtain rfl : w2 = u := hu.symm
              go_wp2_with fail
              refine (HBs.out _ B2.out).mono ?_
              rintro e w3 ⟨rfl, b3⟩
              have B3 := hide (chain B2.out b3)
              go_wp2_with fail
              go_ret
              exact ⟨ret_int E.out.symm, B3.out⟩
          · have E : Hid (FP = up) := by show _ = _; rw [EF.out, EC.out, if_neg (fun q => t0 q.2)]
            have tb : (tp == 0) = false := beq_eq_false_iff_ne.2 t0
            go_enter Tryz.func64, Tryz.ntmps64
            go_wp2_with fail
            refine HH.out.mono ?_
            rintro e w1 ⟨rfl, b1⟩
            go_wp2_with fail
            refine (HK.out _ b1).mono ?_
            rintro e w2 ⟨rfl, b2⟩
            have B2 := hide (chain b1 b2)
            go_wp2_with fail
            refine (HL.out _).mono ?_
            rintro e u ⟨rfl, hu⟩
            obtain rfl : w2 = u := hu.symm
            have a2 := cell_below N1.out.attrs B2.out
            go_wp2_with fail
            refine (HA.out _ B2.out).mono ?_
            rintro e u ⟨rfl, hu⟩
            obtain rfl : w2 = u := hu.symm
            go_wp2_with fail
            refine (HT.out _ B2.out).mono ?_
            rintro e u ⟨rfl, hu⟩
            obtain rfl : w2 = u := hu.symm
            go_wp2_with fail
            refine (HU.out _ B2.out).mono ?_
            rintro e u ⟨rfl, hu⟩
            obtain rfl : w2 = u := hu.symm
            go_wp2_with fail
            go_ret
            exact ⟨ret_int E.out.symm, B2.out⟩
end Go.Proofs.YtnojgejcmaajmaaGreatDoor

namespace Go.Proofs.YtnojgejcmaajmaaGreatDoor
open Go.RowKit
set_option maxRecDepth 100000
theorem anc_rng {l : List Nd} (h : Right l) : ∀ (d : Nat) {k x : Int}, k < l.length → hgt l k ≤ d → x ∈ anc l k → 0 ≤ x ∧ x < (l.length : Int)
  | 0, k, x, hk, hd, hm => by
    by_cases e : k < 0
    · rw [anc_neg e] at hm; cases hm
    · have := hgt_up (h.ende hk) e; omega
  | d + 1, k, x, hk, hd, hm => by
    by_cases e : k < 0
    · rw [anc_neg e] at hm; cases hm
    · rw [anc_up (h.ende hk) e] at hm
      rcases List.mem_cons.1 hm with q | q
      · rw [q]; omega
      · have h1 := hgt_up (h.ende hk) e
        exact anc_rng h d (h.up e hk).2 (by omega) q
theorem top_in {l : List Nd} (h : Right l) {m : Nat} (hm : m < l.length) : ∃ t : Nat, topP l (m : Int) = (t : Int) ∧ t < l.length := by
  have r : 0 ≤ topP l (m : Int) ∧ topP l (m : Int) < (l.length : Int) := by
    unfold topP
    cases e : anc l (m : Int) with
    | nil => exact ⟨by show (0 : Int) ≤ (m : Int); omega, by show (m : Int) < _; omega⟩
    | cons a L =>
      have mem : (a :: L).getLastD (m : Int) ∈ anc l (m : Int) := by
        rw [e, List.getLastD_eq_getLast?, List.getLast?_eq_some_getLast (by simp), Option.getD_some]
        exact List.getLast_mem _
      exact anc_rng h _ (by omega) (Nat.le_refl _) mem
  exact ⟨(topP l (m : Int)).toNat, by omega, by omega⟩
set_option maxHeartbeats 8000000 in
theorem refElements_any (v : Value) (l : List Nd) (id : Int) (w : World) (hv : NodesV w v l) (hz : DocSz l) :
    Calls Tryz.prog 69 #[v, .int .i64 id] w fun e w' => ∃ v', e = .returned v' ∧ KidsO w.heap.size w' v' (elementsP l id) ∧ Below w.heap.size w w' := by
  have HI := hide (refIs_any v l id 30 w hv hz)
  cases h : isK l id 30 with
  | false =>
    have E : Hid (elementsP l id = []) := by show _ = _; unfold elementsP; rw [if_neg (by rw [h]; decide)]
    rw [h] at HI
    obtain ⟨p, c, rfl, _⟩ := hv
    clear h hz
    go_enter Tryz.func69, Tryz.ntmps69
    go_wp2_with fail
    refine HI.out.mono ?_
    rintro e w1 ⟨rfl, b1⟩
    go_wp2_with fail
    go_ret
    exact ⟨_, rfl, by rw [E.out]; exact World.ownsRow_nil _ _ _ _, b1⟩
  | true =>
    have hh : hasN l id = true := by unfold isK at h; rw [Bool.and_eq_true] at h; exact h.1
    obtain ⟨m, hI⟩ := Is.of hh
    obtain ⟨rfl, h0⟩ := (⟨hI.eq, hI.lt⟩ : id = (m : Int) ∧ m < l.length)
    have hR := hide hI.right
    have hlen := hI.right.len.2
    obtain ⟨t, et, ht⟩ := top_in hI.right h0
    have EL : Hid (elementsP l (m : Int) = (orderP l (t : Int)).filter (elB l (m : Int))) := by show _ = _; unfold elementsP; rw [if_pos h, et]
    have few := order_few hI.right ht
    have RNG : Hid (∀ x ∈ orderP l (t : Int), 0 ≤ x ∧ x < (l.length : Int)) := fun x hx => by
      have := (order_mem hI.right (by omega) (by omega) x).1 hx
      exact ⟨this.1, this.2.1⟩
    rw [h] at HI
    have hv' := hide hv
    have HTp := hide (fun W (hb : Below w.heap.size w W) => refTop_any v l (m : Int) m W (hv'.out.below hb) hI)
    rw [et] at HTp
    have HOr := hide (fun W (hb : Below w.heap.size w W) => refOrder_any v l t W (hv'.out.below hb) hR.out ht)
    have HKd := hide (fun q W (hq : q < l.length) (hb : Below w.heap.size w W) => refKind_any v l q W (hv'.out.below hb) hR.out hq)
    have HFm := hide (fun (q : Int) W (hb : Below w.heap.size w W) => refForm_any v l q W (hv'.out.below hb) hz)
    have HLs := hide (fun k W => refIs_1 k W)
    have OB : Hid (∀ q : Int, elB l (m : Int) q = (listB (kI l q) && decide (formP l q = (m : Int)))) := fun _ => rfl
    obtain ⟨p, c, rfl⟩ : ∃ p c, v = .slice p l.length c := by obtain ⟨p, c, e, _⟩ := hv; exact ⟨p, c, e⟩
    obtain ⟨iI, hI0, hI1, hI2, hI3⟩ := info_parts infoI
    clear h hh hI hv hz hv' hR et
    generalize orderP l (t : Int) = ord at *
    generalize elB l (m : Int) = P at *
    go_enter Tryz.func69, Tryz.ntmps69
    go_wp2_with fail
    refine HI.out.mono ?_
    rintro e w1 ⟨rfl, b1⟩
    go_wp2_with fail
    refine (HTp.out _ b1).mono ?_
    rintro e u ⟨rfl, hu⟩
    obtain rfl : w1 = u := hu.symm
    go_wp2_with fail
    refine (HOr.out _ b1).mono ?_
    rintro e w2 ⟨av, rfl, ko, b2⟩
    have IV := hide ko.ints
    have B2 := hide (chain b1 b2)
    obtain ⟨pa, ca, rfl, _⟩ := ko.ints
    clear HOr HI ko b1 b2 HTp
    go_wp2_with fail
    go_loopw [5, 7] (fun ov iv wr => ∃ (k : Nat) (q : Option Addr) (cp : Nat), k ≤ ord.length ∧ iv = .int .i64 k ∧ ov = .slice q ((ord.take k).filter P).length cp ∧ Hid (KidsO w2.heap.size wr (.slice q ((ord.take k).filter P).length cp) ((ord.take k).filter P)) ∧ Hid (Below w2.heap.size w2 wr)) (fun _ iv _ => ord.length - (intOf iv).toNat)
    case atStart => exact ⟨0, none, 0, Nat.zero_le _, rfl, rfl, World.ownsRow_nil _ _ _ _, Below.refl _ _⟩
    case round =>
      rename World => wr
      obtain ⟨k, px, cx, hk, rfl, rfl, KX, BW⟩ := hrel
      have BWW := hide (chain B2.out BW.out)
      by_cases g : k < ord.length
      · have k1 : (k : Int) < (ord.length : Int) := by omega
        have k0 : (0 : Int) ≤ (k : Int) := by omega
        obtain ⟨pa', ca', eva, hav⟩ := IV.out.below BW.out
        cases eva
        rcases hav with hav | ⟨b2, o2, rfl, hav⟩
        · rw [hav] at g; simp at g
        have x0 := hav k g
        have rx := RNG.out ord[k] (List.getElem_mem g)
        obtain ⟨q, eq, hq⟩ := nat_of (z := ord[k]) (n := l.length) (by omega) rx.2
        have EQ := hide eq
        have OBq := OB.out (q : Int)
        rw [eq] at x0
        have FN := hide (filt_no (p := P) g)
        have FY := hide (filt_yes (p := P) g)
        have fl : ((ord.take k).filter P).length ≤ 400 := by have := List.length_filter_le P (ord.take k); rw [List.length_take] at this; omega
        have HKq := hide (fun W hb => HKd.out q W hq hb)
        have HFq := hide (fun W hb => HFm.out (q : Int) W hb)
        have HLq := hide (fun W => HLs.out (kI l (q : Int)) W)
        rw [eq] at FN FY
        clear hav eq rx HKd HFm HLs RNG OB EL
        cases lb : listB (kI l (q : Int)) with
        | false =>
          rw [lb, Bool.false_and] at OBq
          rw [lb] at HLq
          have E1 := hide (FN.out OBq)
          clear FN FY OBq lb
          generalize kI l (q : Int) = kq at *
          go_wp2_with fail
          refine (HKq.out _ BWW.out).mono ?_
          rintro e w3 ⟨rfl, b3⟩
          have B3 := hide (chain BWW.out b3)
          have BL3 := hide (chain BW.out b3)
          have KX3 := hide (owns_kept KX.out (Chg.of_below b3) (fun _ _ q => by cases q))
          clear b3
          go_wp2_with fail
          refine (HLq.out _).mono ?_
          rintro e u ⟨rfl, hu⟩
          obtain rfl : w3 = u := hu.symm
          go_wp2_with fail
          go_roundw
          case rel => exact ⟨k + 1, px, cx, by omega, by go_num, by rw [E1.out], by show KidsO _ _ _ _; rw [E1.out]; exact KX3.out, BL3⟩
          case measure => simp [intOf]; omega
        | true =>
          rw [lb, Bool.true_and] at OBq
          rw [lb] at HLq
          by_cases g2 : formP l (q : Int) = (m : Int)
          · rw [decide_eq_true g2] at OBq
            have E1 := hide (FY.out OBq)
            have d2 : (formP l (q : Int) == (m : Int)) = true := beq_iff_eq.2 g2
            clear FN FY OBq lb g2
            generalize kI l (q : Int) = kq at *
            generalize formP l (q : Int) = fq at *
            generalize (ord.take k).filter P = xs at *
            replace E1 : Hid ((ord.take (k + 1)).filter P = xs ++ [(q : Int)]) := E1
            go_wp2_with fail
            refine (HKq.out _ BWW.out).mono ?_
            rintro e w3 ⟨rfl, b3⟩
            have B3 := hide (chain BWW.out b3)
            have BL3 := hide (chain BW.out b3)
            have KX3 := hide (owns_kept KX.out (Chg.of_below b3) (fun _ _ q => by cases q))
            clear b3
            go_wp2_with fail
            refine (HLq.out _).mono ?_
            rintro e u ⟨rfl, hu⟩
            obtain rfl : w3 = u := hu.symm
            obtain ⟨pa3, ca3, eva3, hav3⟩ := IV.out.below BL3.out
            cases eva3
            have x3 := (hav3.resolve_left (fun t => by rw [t] at g; simp at g))
            obtain ⟨b3', o3', e3', hav3'⟩ := x3
            cases e3'
            have y0 := hav3' k g
            rw [EQ.out] at y0
            clear hav3 hav3'
            go_wp2_with fail
            refine (HFq.out _ B3.out).mono ?_
            rintro e w4 ⟨rfl, b4⟩
            have BL4 := hide (chain BL3.out b4)
            have KX4 := hide (owns_kept KX3.out (Chg.of_below b4) (fun _ _ q => by cases q))
            obtain ⟨pa4, ca4, eva4, hav4⟩ := IV.out.below BL4.out
            cases eva4
            have x4 := (hav4.resolve_left (fun t => by rw [t] at g; simp at g))
            obtain ⟨b4', o4', e4', hav4'⟩ := x4
            cases e4'
            have y4 := hav4' k g
            rw [EQ.out] at y4
            clear hav4 hav4'
            have Bw : w2.heap.size ≤ w4.heap.size := BL4.out.size
            have OW := hide (World.ownsRow.alloc KX4.out (.cells #[.int .i64 (q : Int)] 3))
            have RW := hide ((NB.new w4 [.int .i64 (q : Int)] 3).raw 1 1 rfl 1)
            have hBa : Hid (w2.heap.size ≤ (w4.alloc (.cells #[.int .i64 (q : Int)] 3)).heap.size) := by show _ ≤ _; simp; omega
            go_wp2_with (at_builtin; refine wpList_append_raw rfl _ _ _ rfl w2.heap.size 3 iI _ 1 8 Tryz.underlying55 hI0 hI1 hI2 hI3 rfl (by omega) _ xs.length (cellsI xs) rfl OW.out _ 1 _ rfl RW.out (by simp [Value.oneCell']) (by unfold maxLen; omega) (by omega) hBa.out ?_; intro q1 c1 w5 own1 gr1 at1)
            have B5 : Hid (Below w2.heap.size w2 w5) := BL4.out.trans (((Chg.alloc w4 _).nil.trans (Chg.of_grown gr1)).below Bw (fun k hk => (OW.out.lt k (opt_mem.1 hk)).1))
            have KX1 : Hid (KidsO w2.heap.size w5 (.slice q1 (xs.length + 1) c1) (xs ++ [(q : Int)])) := by
              show w5.ownsRow _ _ 1 _ (xs ++ [(q : Int)]).length (cellsI (xs ++ [(q : Int)]))
              rw [List.length_append, cellsI_app]
              exact own1
            clear own1 gr1 at1 OW RW hBa
            go_roundw
            case rel => exact ⟨k + 1, q1, c1, by omega, by go_num, by rw [E1.out, List.length_append]; rfl, by show KidsO _ _ _ _; rw [E1.out, List.length_append]; exact KX1.out, B5⟩
            case measure => simp [intOf]; omega
          · rw [decide_eq_false g2] at OBq
            have E1 := hide (FN.out OBq)
            have d2 : (formP l (q : Int) == (m : Int)) = false := beq_eq_false_iff_ne.2 g2
            clear FN FY OBq lb g2
            generalize kI l (q : Int) = kq at *
            generalize formP l (q : Int) = fq at *
            go_wp2_with fail
            refine (HKq.out _ BWW.out).mono ?_
            rintro e w3 ⟨rfl, b3⟩
            have B3 := hide (chain BWW.out b3)
            have BL3 := hide (chain BW.out b3)
            have KX3 := hide (owns_kept KX.out (Chg.of_below b3) (fun _ _ q => by cases q))
            clear b3
            go_wp2_with fail
            refine (HLq.out _).mono ?_
            rintro e u ⟨rfl, hu⟩
            obtain rfl : w3 = u := hu.symm
            obtain ⟨pa3, ca3, eva3, hav3⟩ := IV.out.below BL3.out
            cases eva3
            have x3 := (hav3.resolve_left (fun t => by rw [t] at g; simp at g))
            obtain ⟨b3', o3', e3', hav3'⟩ := x3
            cases e3'
            have y0 := hav3' k g
            rw [EQ.out] at y0
            clear hav3 hav3'
            go_wp2_with fail
            refine (HFq.out _ B3.out).mono ?_
            rintro e w4 ⟨rfl, b4⟩
            have BL4 := hide (chain BL3.out b4)
            have KX4 := hide (owns_kept KX3.out (Chg.of_below b4) (fun _ _ q => by cases q))
            go_wp2_with fail
            go_roundw
            case rel => exact ⟨k + 1, px, cx, by omega, by go_num, by rw [E1.out], by show KidsO _ _ _ _; rw [E1.out]; exact KX4.out, BL4⟩
            case measure => simp [intOf]; omega
      · obtain rfl : k = ord.length := by omega
        rw [List.take_length] at KX
        have KX2 : Hid (KidsO w.heap.size wr (.slice px (ord.filter P).length cx) (ord.filter P)) := owns_mono KX.out (by have := B2.out.size; omega)
        rw [List.take_length]
        go_wp2_with fail
        go_ret
        exact ⟨_, rfl, by rw [EL.out]; exact KX2.out, BWW.out⟩
end Go.Proofs.YtnojgejcmaajmaaGreatDoor

namespace Go.Proofs.YtnojgejcmaajmaaGreatDoor
open Go.RowKit
set_option maxRecDepth 100000
theorem find_noW {p : Int → Bool} {xs : List Int} {k : Nat} (h : k < xs.length) (hp : p xs[k] = false) : (xs.drop k).find? p = (xs.drop (k + 1)).find? p := by
  rw [List.drop_eq_getElem_cons h, List.find?_cons_of_neg (by rw [hp]; decide)]
theorem find_yesW {p : Int → Bool} {xs : List Int} {k : Nat} (h : k < xs.length) (hp : p xs[k] = true) : (xs.drop k).find? p = some xs[k] := by
  rw [List.drop_eq_getElem_cons h, List.find?_cons_of_pos hp]
set_option maxHeartbeats 8000000 in
theorem refDefault_any (v : Value) (l : List Nd) (id : Int) (w : World) (hv : NodesV w v l) (hz : DocSz l) :
    Calls Tryz.prog 68 #[v, .int .i64 id] w fun e w' => e = .returned (.int .i64 (defaultP l id)) ∧ Below w.heap.size w w' := by
  have HI := hide (refIs_any v l id 30 w hv hz)
  cases h : isK l id 30 with
  | false =>
    have E : Hid (defaultP l id = -1) := by show _ = _; unfold defaultP; rw [if_neg (by rw [h]; decide)]
    rw [h] at HI
    obtain ⟨p, c, rfl, _⟩ := hv
    clear h hz
    go_enter Tryz.func68, Tryz.ntmps68
    go_wp2_with fail
    refine HI.out.mono ?_
    rintro e w1 ⟨rfl, b1⟩
    go_wp2_with fail
    go_ret
    exact ⟨ret_int E.out.symm, b1⟩
  | true =>
    have hh : hasN l id = true := by unfold isK at h; rw [Bool.and_eq_true] at h; exact h.1
    obtain ⟨m, hI⟩ := Is.of hh
    obtain ⟨rfl, h0⟩ := (⟨hI.eq, hI.lt⟩ : id = (m : Int) ∧ m < l.length)
    have hR := hide hI.right
    have hlen := hI.right.len.2
    obtain ⟨t, et, ht⟩ := top_in hI.right h0
    have EL : Hid (defaultP l (m : Int) = ((orderP l (t : Int)).find? (fireF l (m : Int))).getD (-1)) := by show _ = _; unfold defaultP; rw [if_pos h, et]
    have few := order_few hI.right ht
    have RNG : Hid (∀ x ∈ orderP l (t : Int), 0 ≤ x ∧ x < (l.length : Int)) := fun x hx => by
      have := (order_mem hI.right (by omega) (by omega) x).1 hx
      exact ⟨this.1, this.2.1⟩
    rw [h] at HI
    have hv' := hide hv
    have HTp := hide (fun W (hb : Below w.heap.size w W) => refTop_any v l (m : Int) m W (hv'.out.below hb) hI)
    rw [et] at HTp
    have HOr := hide (fun W (hb : Below w.heap.size w W) => refOrder_any v l t W (hv'.out.below hb) hR.out ht)
    have HKd := hide (fun q W (hq : q < l.length) (hb : Below w.heap.size w W) => refKind_any v l q W (hv'.out.below hb) hR.out hq)
    have HFm := hide (fun (q : Int) W (hb : Below w.heap.size w W) => refForm_any v l q W (hv'.out.below hb) hz)
    have HLs := hide (fun k W => refIs_5 k W)
    have OB : Hid (∀ q : Int, fireF l (m : Int) q = (fireB (kI l q) && decide (formP l q = (m : Int)))) := fun _ => rfl
    obtain ⟨p, c, rfl⟩ : ∃ p c, v = .slice p l.length c := by obtain ⟨p, c, e, _⟩ := hv; exact ⟨p, c, e⟩
    clear h hh hI hv hz hv' hR et
    generalize defaultP l (m : Int) = RES at *
    generalize orderP l (t : Int) = ord at *
    generalize fireF l (m : Int) = P at *
    go_enter Tryz.func68, Tryz.ntmps68
    go_wp2_with fail
    refine HI.out.mono ?_
    rintro e w1 ⟨rfl, b1⟩
    go_wp2_with fail
    refine (HTp.out _ b1).mono ?_
    rintro e u ⟨rfl, hu⟩
    obtain rfl : w1 = u := hu.symm
    go_wp2_with fail
    refine (HOr.out _ b1).mono ?_
    rintro e w2 ⟨av, rfl, ko, b2⟩
    have IV := hide ko.ints
    have B2 := hide (chain b1 b2)
    obtain ⟨pa, ca, rfl, _⟩ := ko.ints
    clear HOr HI ko b1 b2 HTp
    go_wp2_with fail
    go_loopw [6] (fun iv wr => ∃ k : Nat, k ≤ ord.length ∧ iv = .int .i64 k ∧ Hid (RES = ((ord.drop k).find? P).getD (-1)) ∧ Hid (Below w2.heap.size w2 wr)) (fun iv _ => ord.length - (intOf iv).toNat)
    case atStart => exact ⟨0, Nat.zero_le _, rfl, by show _ = _; rw [List.drop_zero]; exact EL.out, Below.refl _ _⟩
    case round =>
      rename World => wr
      obtain ⟨k, hk, rfl, HE, BW⟩ := hrel
      have BWW := hide (chain B2.out BW.out)
      by_cases g : k < ord.length
      · have k1 : (k : Int) < (ord.length : Int) := by omega
        have k0 : (0 : Int) ≤ (k : Int) := by omega
        obtain ⟨pa', ca', eva, hav⟩ := IV.out.below BW.out
        cases eva
        rcases hav with hav | ⟨b2, o2, rfl, hav⟩
        · rw [hav] at g; simp at g
        have x0 := hav k g
        have rx := RNG.out ord[k] (List.getElem_mem g)
        obtain ⟨q, eq, hq⟩ := nat_of (z := ord[k]) (n := l.length) (by omega) rx.2
        have EQ := hide eq
        have OBq := OB.out (q : Int)
        rw [eq] at x0
        have FN := hide (find_noW (p := P) g)
        have FY := hide (find_yesW (p := P) g)
        have HKq := hide (fun W hb => HKd.out q W hq hb)
        have HFq := hide (fun W hb => HFm.out (q : Int) W hb)
        have HLq := hide (fun W => HLs.out (kI l (q : Int)) W)
        rw [eq] at FN FY
        clear hav eq rx HKd HFm HLs RNG OB EL
        cases lb : fireB (kI l (q : Int)) with
        | false =>
          rw [lb, Bool.false_and] at OBq
          rw [lb] at HLq
          have E1 : Hid (RES = ((ord.drop (k + 1)).find? P).getD (-1)) := by show _ = _; rw [HE.out, FN.out OBq]
          clear FN FY OBq lb HE
          generalize kI l (q : Int) = kq at *
          go_wp2_with fail
          refine (HKq.out _ BWW.out).mono ?_
          rintro e w3 ⟨rfl, b3⟩
          have B3 := hide (chain BWW.out b3)
          have BL3 := hide (chain BW.out b3)
          clear b3
          go_wp2_with fail
          refine (HLq.out _).mono ?_
          rintro e u ⟨rfl, hu⟩
          obtain rfl : w3 = u := hu.symm
          go_wp2_with fail
          go_roundw
          case rel => exact ⟨k + 1, by omega, by go_num, E1, BL3⟩
          case measure => simp [intOf]; omega
        | true =>
          rw [lb, Bool.true_and] at OBq
          rw [lb] at HLq
          by_cases g2 : formP l (q : Int) = (m : Int)
          · rw [decide_eq_true g2] at OBq
            have E1 : Hid (RES = (q : Int)) := by show _ = _; rw [HE.out, FY.out OBq]; rfl
            have d2 : (formP l (q : Int) == (m : Int)) = true := beq_iff_eq.2 g2
            clear FN FY OBq lb g2 HE
            generalize kI l (q : Int) = kq at *
            generalize formP l (q : Int) = fq at *
            go_wp2_with fail
            refine (HKq.out _ BWW.out).mono ?_
            rintro e w3 ⟨rfl, b3⟩
            have B3 := hide (chain BWW.out b3)
            have BL3 := hide (chain BW.out b3)
            clear b3
            go_wp2_with fail
            refine (HLq.out _).mono ?_
            rintro e u ⟨rfl, hu⟩
            obtain rfl : w3 = u := hu.symm
            obtain ⟨pa3, ca3, eva3, hav3⟩ := IV.out.below BL3.out
            cases eva3
            have x3 := (hav3.resolve_left (fun t => by rw [t] at g; simp at g))
            obtain ⟨b3', o3', e3', hav3'⟩ := x3
            cases e3'
            have y0 := hav3' k g
            rw [EQ.out] at y0
            clear hav3 hav3'
            go_wp2_with fail
            refine (HFq.out _ B3.out).mono ?_
            rintro e w4 ⟨rfl, b4⟩
            have BL4 := hide (chain BL3.out b4)
            have B4 := hide (chain B3.out b4)
            obtain ⟨pa4, ca4, eva4, hav4⟩ := IV.out.below BL4.out
            cases eva4
            have x4 := (hav4.resolve_left (fun t => by rw [t] at g; simp at g))
            obtain ⟨b4', o4', e4', hav4'⟩ := x4
            cases e4'
            have y4 := hav4' k g
            rw [EQ.out] at y4
            clear hav4 hav4'
            go_wp2_with fail
            go_ret
            exact ⟨ret_int E1.out.symm, B4.out⟩
          · rw [decide_eq_false g2] at OBq
            have E1 : Hid (RES = ((ord.drop (k + 1)).find? P).getD (-1)) := by show _ = _; rw [HE.out, FN.out OBq]
            have d2 : (formP l (q : Int) == (m : Int)) = false := beq_eq_false_iff_ne.2 g2
            clear FN FY OBq lb g2 HE
            generalize kI l (q : Int) = kq at *
            generalize formP l (q : Int) = fq at *
            go_wp2_with fail
            refine (HKq.out _ BWW.out).mono ?_
            rintro e w3 ⟨rfl, b3⟩
            have B3 := hide (chain BWW.out b3)
            have BL3 := hide (chain BW.out b3)
            clear b3
            go_wp2_with fail
            refine (HLq.out _).mono ?_
            rintro e u ⟨rfl, hu⟩
            obtain rfl : w3 = u := hu.symm
            obtain ⟨pa3, ca3, eva3, hav3⟩ := IV.out.below BL3.out
            cases eva3
            have x3 := (hav3.resolve_left (fun t => by rw [t] at g; simp at g))
            obtain ⟨b3', o3', e3', hav3'⟩ := x3
            cases e3'
            have y0 := hav3' k g
            rw [EQ.out] at y0
            clear hav3 hav3'
            go_wp2_with fail
            refine (HFq.out _ B3.out).mono ?_
            rintro e w4 ⟨rfl, b4⟩
            have BL4 := hide (chain BL3.out b4)
            have B4 := hide (chain B3.out b4)
            go_wp2_with fail
            go_roundw
            case rel => exact ⟨k + 1, by omega, by go_num, E1, BL4⟩
            case measure => simp [intOf]; omega
      · obtain rfl : k = ord.length := by omega
        have E1 : Hid (RES = -1) := by show _ = _; rw [HE.out, List.drop_length]; rfl
        go_wp2_with fail
        go_ret
        exact ⟨ret_int E1.out.symm, BWW.out⟩

end Go.Proofs.YtnojgejcmaajmaaGreatDoor
