/- Ways and questions of kinds, of the program and of the document. The document's Of of layer 11. The program's byType and Of of layer 11. -/
import Derived.Test.YtldbaoolddlacaaDoorJgd20

namespace Go.Proofs.YtldbaoolddlacaaDoor
open Go.RowKit
set_option maxRecDepth 100000
set_option maxHeartbeats 4000000 in
set_option maxRecDepth 100000 in
theorem between_any (k a b : Int) (w : World) :
    Calls Tryd.prog 67 #[.int .i64 k, .int .i64 a, .int .i64 b] w fun e w' => e = .returned (.bool (btwB k a b)) ∧ w' = w := by
  by_cases h1 : a ≤ k
  · by_cases h2 : k ≤ b
    · have E := hide (show btwB k a b = true from decide_eq_true ⟨h1, h2⟩)
      go_enter Tryd.func67, Tryd.ntmps67
      go_wp2_with fail
      go_ret
      exact ⟨ret_bool E.out.symm, rfl⟩
    · have E := hide (show btwB k a b = false from decide_eq_false (fun q => h2 q.2))
      have d2 : decide (k ≤ b) = false := decide_eq_false h2
      go_enter Tryd.func67, Tryd.ntmps67
      go_wp2_with fail
      go_ret
      exact ⟨ret_bool E.out.symm, rfl⟩
  · have E := hide (show btwB k a b = false from decide_eq_false (fun q => h1 q.1))
    have d1 : decide (a ≤ k) = false := decide_eq_false h1
    go_enter Tryd.func67, Tryd.ntmps67
    go_wp2_with fail
    go_ret
    exact ⟨ret_bool E.out.symm, rfl⟩
set_option maxHeartbeats 4000000 in
set_option maxRecDepth 100000 in
theorem isInput_any (k : Int) (w : World) :
    Calls Tryd.prog 98 #[.int .i64 k] w fun e w' => e = .returned (.bool (btwB k 1 22)) ∧ w' = w := by
  have HB := hide (between_any k 1 22)
  generalize btwB k 1 22 = r at *
  go_enter Tryd.func98, Tryd.ntmps98
  go_wp2_with fail
  refine (HB.out _).mono ?_
  rintro e u ⟨rfl, rfl⟩
  go_wp2_with fail
  go_ret
  exact ⟨rfl, rfl⟩
set_option maxHeartbeats 4000000 in
set_option maxRecDepth 100000 in
theorem isButton_any (k : Int) (w : World) :
    Calls Tryd.prog 99 #[.int .i64 k] w fun e w' => e = .returned (.bool (btwB k 25 27)) ∧ w' = w := by
  have HB := hide (between_any k 25 27)
  generalize btwB k 25 27 = r at *
  go_enter Tryd.func99, Tryd.ntmps99
  go_wp2_with fail
  refine (HB.out _).mono ?_
  rintro e u ⟨rfl, rfl⟩
  go_wp2_with fail
  go_ret
  exact ⟨rfl, rfl⟩
set_option maxHeartbeats 4000000 in
set_option maxRecDepth 100000 in
theorem submits_any (k : Int) (w : World) :
    Calls Tryd.prog 91 #[.int .i64 k] w fun e w' => e = .returned (.bool (subB k)) ∧ w' = w := by
  rcases (show (k ≤ 0) ∨ (1 ≤ k ∧ k ≤ 22) ∨ (k = 23) ∨ (k = 24) ∨ (25 ≤ k ∧ k ≤ 27) ∨ (28 ≤ k) by omega) with q | q | q | q | q | q
  · have H1 := hide (isInput_any k)
    rw [show btwB k 1 22 = false from decide_eq_false (by omega)] at H1
    have e2 : (k == 23) = false := by rw [beq_eq_false_iff_ne]; omega
    have n2 : ¬ k = 23 := by omega
    have e3 : (k == 24) = false := by rw [beq_eq_false_iff_ne]; omega
    have n3 : ¬ k = 24 := by omega
    have H4 := hide (isButton_any k)
    rw [show btwB k 25 27 = false from decide_eq_false (by omega)] at H4
    have E := hide (show subB k = false from decide_eq_false (by omega))
    clear q
    go_enter Tryd.func91, Tryd.ntmps91
    go_wp2_with fail
    refine (H1.out _).mono ?_
    rintro e u ⟨rfl, rfl⟩
    go_wp2_with fail
    refine (H4.out _).mono ?_
    rintro e u ⟨rfl, rfl⟩
    go_wp2_with fail
    go_ret
    exact ⟨ret_bool E.out.symm, rfl⟩
  · have H1 := hide (isInput_any k)
    rw [show btwB k 1 22 = true from decide_eq_true (by omega)] at H1
    have e2 : (k == 23) = false := by rw [beq_eq_false_iff_ne]; omega
    have n2 : ¬ k = 23 := by omega
    have e3 : (k == 24) = false := by rw [beq_eq_false_iff_ne]; omega
    have n3 : ¬ k = 24 := by omega
    have H4 := hide (isButton_any k)
    rw [show btwB k 25 27 = false from decide_eq_false (by omega)] at H4
    have E := hide (show subB k = true from decide_eq_true (by omega))
    clear q
    go_enter Tryd.func91, Tryd.ntmps91
    go_wp2_with fail
    refine (H1.out _).mono ?_
    rintro e u ⟨rfl, rfl⟩
    go_wp2_with fail
    go_ret
    exact ⟨ret_bool E.out.symm, rfl⟩
  · have H1 := hide (isInput_any k)
    rw [show btwB k 1 22 = false from decide_eq_false (by omega)] at H1
    have e2 : (k == 23) = true := by rw [beq_iff_eq]; omega
    have n2 : (k != 23) = false := by unfold bne; rw [e2]; rfl
    have e3 : (k == 24) = false := by rw [beq_eq_false_iff_ne]; omega
    have n3 : ¬ k = 24 := by omega
    have H4 := hide (isButton_any k)
    rw [show btwB k 25 27 = false from decide_eq_false (by omega)] at H4
    have E := hide (show subB k = true from decide_eq_true (by omega))
    clear q
    go_enter Tryd.func91, Tryd.ntmps91
    go_wp2_with fail
    refine (H1.out _).mono ?_
    rintro e u ⟨rfl, rfl⟩
    go_wp2_with fail
    go_ret
    exact ⟨ret_bool E.out.symm, rfl⟩
  · have H1 := hide (isInput_any k)
    rw [show btwB k 1 22 = false from decide_eq_false (by omega)] at H1
    have e2 : (k == 23) = false := by rw [beq_eq_false_iff_ne]; omega
    have n2 : ¬ k = 23 := by omega
    have e3 : (k == 24) = true := by rw [beq_iff_eq]; omega
    have n3 : (k != 24) = false := by unfold bne; rw [e3]; rfl
    have H4 := hide (isButton_any k)
    rw [show btwB k 25 27 = false from decide_eq_false (by omega)] at H4
    have E := hide (show subB k = true from decide_eq_true (by omega))
    clear q
    go_enter Tryd.func91, Tryd.ntmps91
    go_wp2_with fail
    refine (H1.out _).mono ?_
    rintro e u ⟨rfl, rfl⟩
    go_wp2_with fail
    go_ret
    exact ⟨ret_bool E.out.symm, rfl⟩
  · have H1 := hide (isInput_any k)
    rw [show btwB k 1 22 = false from decide_eq_false (by omega)] at H1
    have e2 : (k == 23) = false := by rw [beq_eq_false_iff_ne]; omega
    have n2 : ¬ k = 23 := by omega
    have e3 : (k == 24) = false := by rw [beq_eq_false_iff_ne]; omega
    have n3 : ¬ k = 24 := by omega
    have H4 := hide (isButton_any k)
    rw [show btwB k 25 27 = true from decide_eq_true (by omega)] at H4
    have E := hide (show subB k = true from decide_eq_true (by omega))
    clear q
    go_enter Tryd.func91, Tryd.ntmps91
    go_wp2_with fail
    refine (H1.out _).mono ?_
    rintro e u ⟨rfl, rfl⟩
    go_wp2_with fail
    refine (H4.out _).mono ?_
    rintro e u ⟨rfl, rfl⟩
    go_wp2_with fail
    go_ret
    exact ⟨ret_bool E.out.symm, rfl⟩
  · have H1 := hide (isInput_any k)
    rw [show btwB k 1 22 = false from decide_eq_false (by omega)] at H1
    have e2 : (k == 23) = false := by rw [beq_eq_false_iff_ne]; omega
    have n2 : ¬ k = 23 := by omega
    have e3 : (k == 24) = false := by rw [beq_eq_false_iff_ne]; omega
    have n3 : ¬ k = 24 := by omega
    have H4 := hide (isButton_any k)
    rw [show btwB k 25 27 = false from decide_eq_false (by omega)] at H4
    have E := hide (show subB k = false from decide_eq_false (by omega))
    clear q
    go_enter Tryd.func91, Tryd.ntmps91
    go_wp2_with fail
    refine (H1.out _).mono ?_
    rintro e u ⟨rfl, rfl⟩
    go_wp2_with fail
    refine (H4.out _).mono ?_
    rintro e u ⟨rfl, rfl⟩
    go_wp2_with fail
    go_ret
    exact ⟨ret_bool E.out.symm, rfl⟩
set_option maxHeartbeats 4000000 in
set_option maxRecDepth 100000 in
theorem listed_any (k : Int) (w : World) :
    Calls Tryd.prog 75 #[.int .i64 k] w fun e w' => e = .returned (.bool (listB k)) ∧ w' = w := by
  rcases (show (k ≤ 0) ∨ (1 ≤ k ∧ k ≤ 19) ∨ (k = 20) ∨ (21 ≤ k ∧ k ≤ 27) ∨ (k = 28) ∨ (k = 29) ∨ (30 ≤ k) by omega) with q | q | q | q | q | q | q
  all_goals
    have H1 := hide (submits_any k)
    first | (rw [show subB k = false from decide_eq_false (by omega)] at H1) | (rw [show subB k = true from decide_eq_true (by omega)] at H1)
    first | (have e2 : (k == 20) = false := by rw [beq_eq_false_iff_ne]; omega) | (have e2 : (k == 20) = true := by rw [beq_iff_eq]; omega)
    first | (have n2 : ¬ k = 20 := by omega) | (have n2 : (k != 20) = false := by unfold bne; rw [e2]; rfl)
    first | (have e3 : (k == 28) = false := by rw [beq_eq_false_iff_ne]; omega) | (have e3 : (k == 28) = true := by rw [beq_iff_eq]; omega)
    first | (have n3 : ¬ k = 28 := by omega) | (have n3 : (k != 28) = false := by unfold bne; rw [e3]; rfl)
    first | (have e4 : (k == 29) = false := by rw [beq_eq_false_iff_ne]; omega) | (have e4 : (k == 29) = true := by rw [beq_iff_eq]; omega)
    first | (have n4 : ¬ k = 29 := by omega) | (have n4 : (k != 29) = false := by unfold bne; rw [e4]; rfl)
    first | (have E := hide (show listB k = false from decide_eq_false (by omega))) | (have E := hide (show listB k = true from decide_eq_true (by omega)))
    clear q
    go_enter Tryd.func75, Tryd.ntmps75
    go_wp2_with fail
    refine (H1.out _).mono ?_
    rintro e u ⟨rfl, rfl⟩
    go_wp2_with fail
    go_ret
    exact ⟨ret_bool E.out.symm, rfl⟩
end Go.Proofs.YtldbaoolddlacaaDoor

namespace Go.Proofs.YtldbaoolddlacaaDoor
open Go.RowKit
set_option maxRecDepth 100000
set_option maxHeartbeats 4000000 in
set_option maxRecDepth 100000 in
theorem refOf_option (n : Nd) (va vk : Value) (w : World) (ha : AttrsV w va n.attrs) (hl : n.attrs.length ≤ 4398046511104) (hs : ∀ a ∈ n.attrs, a.2.size ≤ 140737488351232) (h : n.name = ⟨#[111, 112, 116, 105, 111, 110]⟩) :
    Calls Tryd.prog 21 #[.agg #[.string n.name, .string n.text, va, .int .i64 n.parent, vk]] w fun e w' => e = .returned (.int .i64 (32)) ∧ Below w.heap.size w w' := by
  have t0 : (n.name.toList == [105, 110, 112, 117, 116]) = false := by rw [h, ByteArray.toList_eq]; rfl
  have t1 : (n.name.toList == [98, 117, 116, 116, 111, 110]) = false := by rw [h, ByteArray.toList_eq]; rfl
  have t2 : (n.name.toList == [115, 101, 108, 101, 99, 116]) = false := by rw [h, ByteArray.toList_eq]; rfl
  have t3 : (n.name.toList == [116, 101, 120, 116, 97, 114, 101, 97]) = false := by rw [h, ByteArray.toList_eq]; rfl
  have t4 : (n.name.toList == [111, 117, 116, 112, 117, 116]) = false := by rw [h, ByteArray.toList_eq]; rfl
  have t5 : (n.name.toList == [102, 105, 101, 108, 100, 115, 101, 116]) = false := by rw [h, ByteArray.toList_eq]; rfl
  have t6 : (n.name.toList == [102, 111, 114, 109]) = false := by rw [h, ByteArray.toList_eq]; rfl
  have t7 : (n.name.toList == [108, 97, 98, 101, 108]) = false := by rw [h, ByteArray.toList_eq]; rfl
  have t8 : (n.name.toList == [111, 112, 116, 105, 111, 110]) = true := lit_yes h
  have t9 : (n.name.toList == [111, 112, 116, 103, 114, 111, 117, 112]) = false := by rw [h, ByteArray.toList_eq]; rfl
  have t10 : (n.name.toList == [108, 101, 103, 101, 110, 100]) = false := by rw [h, ByteArray.toList_eq]; rfl
  have t11 : (n.name.toList == [100, 97, 116, 97, 108, 105, 115, 116]) = false := by rw [h, ByteArray.toList_eq]; rfl
  clear h
  have B0 : Hid (Below w.heap.size w (w.alloc (.cells #[.string n.name, .string n.text, va, .int .i64 n.parent, vk] 44))) := (Below.refl _ w).alloc (Nat.le_refl _) _
  have HF := hide (refFind_any va n.attrs tyS (w.alloc (.cells #[.string n.name, .string n.text, va, .int .i64 n.parent, vk] 44)) (ha.below B0.out) hl)
  have ef : tyS = ⟨#[116, 121, 112, 101]⟩ := rfl
  rw [ef] at HF
  obtain ⟨p, c, rfl, hv⟩ := ha
  obtain ⟨s, hS⟩ : ∃ s, Hid (tyT (tyOf n.attrs) = s) := ⟨_, show _ = _ from rfl⟩
  cases hf : findA n.attrs tyS with
  | none =>
    have hE : s = ⟨#[]⟩ := by rw [← hS.out]; unfold tyOf; rw [hf]; rfl
    rw [show findA n.attrs ⟨#[116, 121, 112, 101]⟩ = none from hf, show findV none = -1 from rfl] at HF
    have es : s = ⟨#[]⟩ := hE
    have k0 : (w.alloc (.cells #[.string n.name, .string n.text, .slice p n.attrs.length c, .int .i64 n.parent, vk] 44)).cell? ⟨w.heap.size, 0, none⟩ = some (.string n.name) := by simp
    have k2 : (w.alloc (.cells #[.string n.name, .string n.text, .slice p n.attrs.length c, .int .i64 n.parent, vk] 44)).cell? ⟨w.heap.size, 2, none⟩ = some (.slice p n.attrs.length c) := by simp
    clear hv hs hf ef
    go_enter Tryd.func21, Tryd.ntmps21
    generalize n.name = nm at *
    go_wp2_with fail
    generalize w.alloc (.cells #[.string nm, .string n.text, .slice p n.attrs.length c, .int .i64 n.parent, vk] 44) = w0 at *
    refine HF.out.mono ?_
    rintro e u ⟨rfl, hu⟩
    obtain rfl : w0 = u := hu.symm
    go_upto_region 5 with fail
    rw [← es]
    clear es hE
    go_wp2_with fail
    go_ret
    exact ⟨rfl, B0.out⟩
  | some i =>
    obtain ⟨hi, _, _⟩ := List.findIdx?_eq_some_iff_getElem.1 (show n.attrs.findIdx? (isN tyS) = some i from hf)
    obtain ⟨t, ht⟩ : ∃ t, Hid (n.attrs[i].2 = t) := ⟨_, show _ = _ from rfl⟩
    have hE : Hid (lowS t = s) := by
      show _ = _
      rw [← hS.out]
      unfold tyOf
      rw [hf, ← ht.out]
      show lowS n.attrs[i].2 = lowS (n.attrs.getD i at0).2
      rw [show n.attrs.getD i at0 = n.attrs[i] by simp [List.getD, hi]]
    rw [show findA n.attrs ⟨#[116, 121, 112, 101]⟩ = some i from hf, show findV (some i) = (i : Int) from rfl] at HF
    have i0 : (0 : Int) ≤ (i : Int) := by omega
    have i1 : (i : Int) < (n.attrs.length : Int) := by omega
    have ts := hs _ (List.getElem_mem hi)
    rw [ht.out] at ts
    have HL := hide (fun W => refLower_reach t W ts)
    rw [hE.out] at HL
    obtain ⟨b, o, rfl, hv2⟩ : ∃ b o, p = some ⟨b, o, none⟩ ∧ ∀ i (h : i < n.attrs.length), w.cell? ⟨b, o + i * 2, none⟩ = some (.string n.attrs[i].1) ∧ w.cell? ⟨b, o + i * 2 + 1, none⟩ = some (.string n.attrs[i].2) := by
      rcases hv with t | t
      · rw [t] at hi; simp at hi
      · exact t
    have c1 := cell_below (hv2 i hi).2 B0.out
    rw [ht.out] at c1
    have k0 : (w.alloc (.cells #[.string n.name, .string n.text, .slice (some ⟨b, o, none⟩) n.attrs.length c, .int .i64 n.parent, vk] 44)).cell? ⟨w.heap.size, 0, none⟩ = some (.string n.name) := by simp
    have k2 : (w.alloc (.cells #[.string n.name, .string n.text, .slice (some ⟨b, o, none⟩) n.attrs.length c, .int .i64 n.parent, vk] 44)).cell? ⟨w.heap.size, 2, none⟩ = some (.slice (some ⟨b, o, none⟩) n.attrs.length c) := by simp
    clear hf hv hv2 hs ef
    go_enter Tryd.func21, Tryd.ntmps21
    generalize n.name = nm at *
    go_wp2_with fail
    generalize w.alloc (.cells #[.string nm, .string n.text, .slice (some ⟨b, o, none⟩) n.attrs.length c, .int .i64 n.parent, vk] 44) = w0 at *
    refine HF.out.mono ?_
    rintro e u ⟨rfl, hu⟩
    obtain rfl : w0 = u := hu.symm
    go_wp2_with fail
    refine (HL.out _).mono ?_
    rintro e w2 ⟨rfl, b2⟩
    have B2 := hide (chain B0.out b2)
    have m0 := cell_below k0 b2
    clear k0 k2 c1 b2
    go_wp2_with fail
    go_ret
    exact ⟨rfl, B2.out⟩
set_option maxHeartbeats 4000000 in
set_option maxRecDepth 100000 in
theorem refOf_optgroup (n : Nd) (va vk : Value) (w : World) (ha : AttrsV w va n.attrs) (hl : n.attrs.length ≤ 4398046511104) (hs : ∀ a ∈ n.attrs, a.2.size ≤ 140737488351232) (h : n.name = ⟨#[111, 112, 116, 103, 114, 111, 117, 112]⟩) :
    Calls Tryd.prog 21 #[.agg #[.string n.name, .string n.text, va, .int .i64 n.parent, vk]] w fun e w' => e = .returned (.int .i64 (33)) ∧ Below w.heap.size w w' := by
  have t0 : (n.name.toList == [105, 110, 112, 117, 116]) = false := by rw [h, ByteArray.toList_eq]; rfl
  have t1 : (n.name.toList == [98, 117, 116, 116, 111, 110]) = false := by rw [h, ByteArray.toList_eq]; rfl
  have t2 : (n.name.toList == [115, 101, 108, 101, 99, 116]) = false := by rw [h, ByteArray.toList_eq]; rfl
  have t3 : (n.name.toList == [116, 101, 120, 116, 97, 114, 101, 97]) = false := by rw [h, ByteArray.toList_eq]; rfl
  have t4 : (n.name.toList == [111, 117, 116, 112, 117, 116]) = false := by rw [h, ByteArray.toList_eq]; rfl
  have t5 : (n.name.toList == [102, 105, 101, 108, 100, 115, 101, 116]) = false := by rw [h, ByteArray.toList_eq]; rfl
  have t6 : (n.name.toList == [102, 111, 114, 109]) = false := by rw [h, ByteArray.toList_eq]; rfl
  have t7 : (n.name.toList == [108, 97, 98, 101, 108]) = false := by rw [h, ByteArray.toList_eq]; rfl
  have t8 : (n.name.toList == [111, 112, 116, 105, 111, 110]) = false := by rw [h, ByteArray.toList_eq]; rfl
  have t9 : (n.name.toList == [111, 112, 116, 103, 114, 111, 117, 112]) = true := lit_yes h
  have t10 : (n.name.toList == [108, 101, 103, 101, 110, 100]) = false := by rw [h, ByteArray.toList_eq]; rfl
  have t11 : (n.name.toList == [100, 97, 116, 97, 108, 105, 115, 116]) = false := by rw [h, ByteArray.toList_eq]; rfl
  clear h
  have B0 : Hid (Below w.heap.size w (w.alloc (.cells #[.string n.name, .string n.text, va, .int .i64 n.parent, vk] 44))) := (Below.refl _ w).alloc (Nat.le_refl _) _
  have HF := hide (refFind_any va n.attrs tyS (w.alloc (.cells #[.string n.name, .string n.text, va, .int .i64 n.parent, vk] 44)) (ha.below B0.out) hl)
  have ef : tyS = ⟨#[116, 121, 112, 101]⟩ := rfl
  rw [ef] at HF
  obtain ⟨p, c, rfl, hv⟩ := ha
  obtain ⟨s, hS⟩ : ∃ s, Hid (tyT (tyOf n.attrs) = s) := ⟨_, show _ = _ from rfl⟩
  cases hf : findA n.attrs tyS with
  | none =>
    have hE : s = ⟨#[]⟩ := by rw [← hS.out]; unfold tyOf; rw [hf]; rfl
    rw [show findA n.attrs ⟨#[116, 121, 112, 101]⟩ = none from hf, show findV none = -1 from rfl] at HF
    have es : s = ⟨#[]⟩ := hE
    have k0 : (w.alloc (.cells #[.string n.name, .string n.text, .slice p n.attrs.length c, .int .i64 n.parent, vk] 44)).cell? ⟨w.heap.size, 0, none⟩ = some (.string n.name) := by simp
    have k2 : (w.alloc (.cells #[.string n.name, .string n.text, .slice p n.attrs.length c, .int .i64 n.parent, vk] 44)).cell? ⟨w.heap.size, 2, none⟩ = some (.slice p n.attrs.length c) := by simp
    clear hv hs hf ef
    go_enter Tryd.func21, Tryd.ntmps21
    generalize n.name = nm at *
    go_wp2_with fail
    generalize w.alloc (.cells #[.string nm, .string n.text, .slice p n.attrs.length c, .int .i64 n.parent, vk] 44) = w0 at *
    refine HF.out.mono ?_
    rintro e u ⟨rfl, hu⟩
    obtain rfl : w0 = u := hu.symm
    go_upto_region 5 with fail
    rw [← es]
    clear es hE
    go_wp2_with fail
    go_ret
    exact ⟨rfl, B0.out⟩
  | some i =>
    obtain ⟨hi, _, _⟩ := List.findIdx?_eq_some_iff_getElem.1 (show n.attrs.findIdx? (isN tyS) = some i from hf)
    obtain ⟨t, ht⟩ : ∃ t, Hid (n.attrs[i].2 = t) := ⟨_, show _ = _ from rfl⟩
    have hE : Hid (lowS t = s) := by
      show _ = _
      rw [← hS.out]
      unfold tyOf
      rw [hf, ← ht.out]
      show lowS n.attrs[i].2 = lowS (n.attrs.getD i at0).2
      rw [show n.attrs.getD i at0 = n.attrs[i] by simp [List.getD, hi]]
    rw [show findA n.attrs ⟨#[116, 121, 112, 101]⟩ = some i from hf, show findV (some i) = (i : Int) from rfl] at HF
    have i0 : (0 : Int) ≤ (i : Int) := by omega
    have i1 : (i : Int) < (n.attrs.length : Int) := by omega
    have ts := hs _ (List.getElem_mem hi)
    rw [ht.out] at ts
    have HL := hide (fun W => refLower_reach t W ts)
    rw [hE.out] at HL
    obtain ⟨b, o, rfl, hv2⟩ : ∃ b o, p = some ⟨b, o, none⟩ ∧ ∀ i (h : i < n.attrs.length), w.cell? ⟨b, o + i * 2, none⟩ = some (.string n.attrs[i].1) ∧ w.cell? ⟨b, o + i * 2 + 1, none⟩ = some (.string n.attrs[i].2) := by
      rcases hv with t | t
      · rw [t] at hi; simp at hi
      · exact t
    have c1 := cell_below (hv2 i hi).2 B0.out
    rw [ht.out] at c1
    have k0 : (w.alloc (.cells #[.string n.name, .string n.text, .slice (some ⟨b, o, none⟩) n.attrs.length c, .int .i64 n.parent, vk] 44)).cell? ⟨w.heap.size, 0, none⟩ = some (.string n.name) := by simp
    have k2 : (w.alloc (.cells #[.string n.name, .string n.text, .slice (some ⟨b, o, none⟩) n.attrs.length c, .int .i64 n.parent, vk] 44)).cell? ⟨w.heap.size, 2, none⟩ = some (.slice (some ⟨b, o, none⟩) n.attrs.length c) := by simp
    clear hf hv hv2 hs ef
    go_enter Tryd.func21, Tryd.ntmps21
    generalize n.name = nm at *
    go_wp2_with fail
    generalize w.alloc (.cells #[.string nm, .string n.text, .slice (some ⟨b, o, none⟩) n.attrs.length c, .int .i64 n.parent, vk] 44) = w0 at *
    refine HF.out.mono ?_
    rintro e u ⟨rfl, hu⟩
    obtain rfl : w0 = u := hu.symm
    go_wp2_with fail
    refine (HL.out _).mono ?_
    rintro e w2 ⟨rfl, b2⟩
    have B2 := hide (chain B0.out b2)
    have m0 := cell_below k0 b2
    clear k0 k2 c1 b2
    go_wp2_with fail
    go_ret
    exact ⟨rfl, B2.out⟩
set_option maxHeartbeats 4000000 in
set_option maxRecDepth 100000 in
theorem refOf_legend (n : Nd) (va vk : Value) (w : World) (ha : AttrsV w va n.attrs) (hl : n.attrs.length ≤ 4398046511104) (hs : ∀ a ∈ n.attrs, a.2.size ≤ 140737488351232) (h : n.name = ⟨#[108, 101, 103, 101, 110, 100]⟩) :
    Calls Tryd.prog 21 #[.agg #[.string n.name, .string n.text, va, .int .i64 n.parent, vk]] w fun e w' => e = .returned (.int .i64 (34)) ∧ Below w.heap.size w w' := by
  have t0 : (n.name.toList == [105, 110, 112, 117, 116]) = false := by rw [h, ByteArray.toList_eq]; rfl
  have t1 : (n.name.toList == [98, 117, 116, 116, 111, 110]) = false := by rw [h, ByteArray.toList_eq]; rfl
  have t2 : (n.name.toList == [115, 101, 108, 101, 99, 116]) = false := by rw [h, ByteArray.toList_eq]; rfl
  have t3 : (n.name.toList == [116, 101, 120, 116, 97, 114, 101, 97]) = false := by rw [h, ByteArray.toList_eq]; rfl
  have t4 : (n.name.toList == [111, 117, 116, 112, 117, 116]) = false := by rw [h, ByteArray.toList_eq]; rfl
  have t5 : (n.name.toList == [102, 105, 101, 108, 100, 115, 101, 116]) = false := by rw [h, ByteArray.toList_eq]; rfl
  have t6 : (n.name.toList == [102, 111, 114, 109]) = false := by rw [h, ByteArray.toList_eq]; rfl
  have t7 : (n.name.toList == [108, 97, 98, 101, 108]) = false := by rw [h, ByteArray.toList_eq]; rfl
  have t8 : (n.name.toList == [111, 112, 116, 105, 111, 110]) = false := by rw [h, ByteArray.toList_eq]; rfl
  have t9 : (n.name.toList == [111, 112, 116, 103, 114, 111, 117, 112]) = false := by rw [h, ByteArray.toList_eq]; rfl
  have t10 : (n.name.toList == [108, 101, 103, 101, 110, 100]) = true := lit_yes h
  have t11 : (n.name.toList == [100, 97, 116, 97, 108, 105, 115, 116]) = false := by rw [h, ByteArray.toList_eq]; rfl
  clear h
  have B0 : Hid (Below w.heap.size w (w.alloc (.cells #[.string n.name, .string n.text, va, .int .i64 n.parent, vk] 44))) := (Below.refl _ w).alloc (Nat.le_refl _) _
  have HF := hide (refFind_any va n.attrs tyS (w.alloc (.cells #[.string n.name, .string n.text, va, .int .i64 n.parent, vk] 44)) (ha.below B0.out) hl)
  have ef : tyS = ⟨#[116, 121, 112, 101]⟩ := rfl
  rw [ef] at HF
  obtain ⟨p, c, rfl, hv⟩ := ha
  obtain ⟨s, hS⟩ : ∃ s, Hid (tyT (tyOf n.attrs) = s) := ⟨_, show _ = _ from rfl⟩
  cases hf : findA n.attrs tyS with
  | none =>
    have hE : s = ⟨#[]⟩ := by rw [← hS.out]; unfold tyOf; rw [hf]; rfl
    rw [show findA n.attrs ⟨#[116, 121, 112, 101]⟩ = none from hf, show findV none = -1 from rfl] at HF
    have es : s = ⟨#[]⟩ := hE
    have k0 : (w.alloc (.cells #[.string n.name, .string n.text, .slice p n.attrs.length c, .int .i64 n.parent, vk] 44)).cell? ⟨w.heap.size, 0, none⟩ = some (.string n.name) := by simp
    have k2 : (w.alloc (.cells #[.string n.name, .string n.text, .slice p n.attrs.length c, .int .i64 n.parent, vk] 44)).cell? ⟨w.heap.size, 2, none⟩ = some (.slice p n.attrs.length c) := by simp
    clear hv hs hf ef
    go_enter Tryd.func21, Tryd.ntmps21
    generalize n.name = nm at *
    go_wp2_with fail
    generalize w.alloc (.cells #[.string nm, .string n.text, .slice p n.attrs.length c, .int .i64 n.parent, vk] 44) = w0 at *
    refine HF.out.mono ?_
    rintro e u ⟨rfl, hu⟩
    obtain rfl : w0 = u := hu.symm
    go_upto_region 5 with fail
    rw [← es]
    clear es hE
    go_wp2_with fail
    go_ret
    exact ⟨rfl, B0.out⟩
  | some i =>
    obtain ⟨hi, _, _⟩ := List.findIdx?_eq_some_iff_getElem.1 (show n.attrs.findIdx? (isN tyS) = some i from hf)
    obtain ⟨t, ht⟩ : ∃ t, Hid (n.attrs[i].2 = t) := ⟨_, show _ = _ from rfl⟩
    have hE : Hid (lowS t = s) := by
      show _ = _
      rw [← hS.out]
      unfold tyOf
      rw [hf, ← ht.out]
      show lowS n.attrs[i].2 = lowS (n.attrs.getD i at0).2
      rw [show n.attrs.getD i at0 = n.attrs[i] by simp [List.getD, hi]]
    rw [show findA n.attrs ⟨#[116, 121, 112, 101]⟩ = some i from hf, show findV (some i) = (i : Int) from rfl] at HF
    have i0 : (0 : Int) ≤ (i : Int) := by omega
    have i1 : (i : Int) < (n.attrs.length : Int) := by omega
    have ts := hs _ (List.getElem_mem hi)
    rw [ht.out] at ts
    have HL := hide (fun W => refLower_reach t W ts)
    rw [hE.out] at HL
    obtain ⟨b, o, rfl, hv2⟩ : ∃ b o, p = some ⟨b, o, none⟩ ∧ ∀ i (h : i < n.attrs.length), w.cell? ⟨b, o + i * 2, none⟩ = some (.string n.attrs[i].1) ∧ w.cell? ⟨b, o + i * 2 + 1, none⟩ = some (.string n.attrs[i].2) := by
      rcases hv with t | t
      · rw [t] at hi; simp at hi
      · exact t
    have c1 := cell_below (hv2 i hi).2 B0.out
    rw [ht.out] at c1
    have k0 : (w.alloc (.cells #[.string n.name, .string n.text, .slice (some ⟨b, o, none⟩) n.attrs.length c, .int .i64 n.parent, vk] 44)).cell? ⟨w.heap.size, 0, none⟩ = some (.string n.name) := by simp
    have k2 : (w.alloc (.cells #[.string n.name, .string n.text, .slice (some ⟨b, o, none⟩) n.attrs.length c, .int .i64 n.parent, vk] 44)).cell? ⟨w.heap.size, 2, none⟩ = some (.slice (some ⟨b, o, none⟩) n.attrs.length c) := by simp
    clear hf hv hv2 hs ef
    go_enter Tryd.func21, Tryd.ntmps21
    generalize n.name = nm at *
    go_wp2_with fail
    generalize w.alloc (.cells #[.string nm, .string n.text, .slice (some ⟨b, o, none⟩) n.attrs.length c, .int .i64 n.parent, vk] 44) = w0 at *
    refine HF.out.mono ?_
    rintro e u ⟨rfl, hu⟩
    obtain rfl : w0 = u := hu.symm
    go_wp2_with fail
    refine (HL.out _).mono ?_
    rintro e w2 ⟨rfl, b2⟩
    have B2 := hide (chain B0.out b2)
    have m0 := cell_below k0 b2
    clear k0 k2 c1 b2
    go_wp2_with fail
    go_ret
    exact ⟨rfl, B2.out⟩
set_option maxHeartbeats 4000000 in
set_option maxRecDepth 100000 in
theorem refOf_datalist (n : Nd) (va vk : Value) (w : World) (ha : AttrsV w va n.attrs) (hl : n.attrs.length ≤ 4398046511104) (hs : ∀ a ∈ n.attrs, a.2.size ≤ 140737488351232) (h : n.name = ⟨#[100, 97, 116, 97, 108, 105, 115, 116]⟩) :
    Calls Tryd.prog 21 #[.agg #[.string n.name, .string n.text, va, .int .i64 n.parent, vk]] w fun e w' => e = .returned (.int .i64 (35)) ∧ Below w.heap.size w w' := by
  have t0 : (n.name.toList == [105, 110, 112, 117, 116]) = false := by rw [h, ByteArray.toList_eq]; rfl
  have t1 : (n.name.toList == [98, 117, 116, 116, 111, 110]) = false := by rw [h, ByteArray.toList_eq]; rfl
  have t2 : (n.name.toList == [115, 101, 108, 101, 99, 116]) = false := by rw [h, ByteArray.toList_eq]; rfl
  have t3 : (n.name.toList == [116, 101, 120, 116, 97, 114, 101, 97]) = false := by rw [h, ByteArray.toList_eq]; rfl
  have t4 : (n.name.toList == [111, 117, 116, 112, 117, 116]) = false := by rw [h, ByteArray.toList_eq]; rfl
  have t5 : (n.name.toList == [102, 105, 101, 108, 100, 115, 101, 116]) = false := by rw [h, ByteArray.toList_eq]; rfl
  have t6 : (n.name.toList == [102, 111, 114, 109]) = false := by rw [h, ByteArray.toList_eq]; rfl
  have t7 : (n.name.toList == [108, 97, 98, 101, 108]) = false := by rw [h, ByteArray.toList_eq]; rfl
  have t8 : (n.name.toList == [111, 112, 116, 105, 111, 110]) = false := by rw [h, ByteArray.toList_eq]; rfl
  have t9 : (n.name.toList == [111, 112, 116, 103, 114, 111, 117, 112]) = false := by rw [h, ByteArray.toList_eq]; rfl
  have t10 : (n.name.toList == [108, 101, 103, 101, 110, 100]) = false := by rw [h, ByteArray.toList_eq]; rfl
  have t11 : (n.name.toList == [100, 97, 116, 97, 108, 105, 115, 116]) = true := lit_yes h
  clear h
  have B0 : Hid (Below w.heap.size w (w.alloc (.cells #[.string n.name, .string n.text, va, .int .i64 n.parent, vk] 44))) := (Below.refl _ w).alloc (Nat.le_refl _) _
  have HF := hide (refFind_any va n.attrs tyS (w.alloc (.cells #[.string n.name, .string n.text, va, .int .i64 n.parent, vk] 44)) (ha.below B0.out) hl)
  have ef : tyS = ⟨#[116, 121, 112, 101]⟩ := rfl
  rw [ef] at HF
  obtain ⟨p, c, rfl, hv⟩ := ha
  obtain ⟨s, hS⟩ : ∃ s, Hid (tyT (tyOf n.attrs) = s) := ⟨_, show _ = _ from rfl⟩
  cases hf : findA n.attrs tyS with
  | none =>
    have hE : s = ⟨#[]⟩ := by rw [← hS.out]; unfold tyOf; rw [hf]; rfl
    rw [show findA n.attrs ⟨#[116, 121, 112, 101]⟩ = none from hf, show findV none = -1 from rfl] at HF
    have es : s = ⟨#[]⟩ := hE
    have k0 : (w.alloc (.cells #[.string n.name, .string n.text, .slice p n.attrs.length c, .int .i64 n.parent, vk] 44)).cell? ⟨w.heap.size, 0, none⟩ = some (.string n.name) := by simp
    have k2 : (w.alloc (.cells #[.string n.name, .string n.text, .slice p n.attrs.length c, .int .i64 n.parent, vk] 44)).cell? ⟨w.heap.size, 2, none⟩ = some (.slice p n.attrs.length c) := by simp
    clear hv hs hf ef
    go_enter Tryd.func21, Tryd.ntmps21
    generalize n.name = nm at *
    go_wp2_with fail
    generalize w.alloc (.cells #[.string nm, .string n.text, .slice p n.attrs.length c, .int .i64 n.parent, vk] 44) = w0 at *
    refine HF.out.mono ?_
    rintro e u ⟨rfl, hu⟩
    obtain rfl : w0 = u := hu.symm
    go_upto_region 5 with fail
    rw [← es]
    clear es hE
    go_wp2_with fail
    go_ret
    exact ⟨rfl, B0.out⟩
  | some i =>
    obtain ⟨hi, _, _⟩ := List.findIdx?_eq_some_iff_getElem.1 (show n.attrs.findIdx? (isN tyS) = some i from hf)
    obtain ⟨t, ht⟩ : ∃ t, Hid (n.attrs[i].2 = t) := ⟨_, show _ = _ from rfl⟩
    have hE : Hid (lowS t = s) := by
      show _ = _
      rw [← hS.out]
      unfold tyOf
      rw [hf, ← ht.out]
      show lowS n.attrs[i].2 = lowS (n.attrs.getD i at0).2
      rw [show n.attrs.getD i at0 = n.attrs[i] by simp [List.getD, hi]]
    rw [show findA n.attrs ⟨#[116, 121, 112, 101]⟩ = some i from hf, show findV (some i) = (i : Int) from rfl] at HF
    have i0 : (0 : Int) ≤ (i : Int) := by omega
    have i1 : (i : Int) < (n.attrs.length : Int) := by omega
    have ts := hs _ (List.getElem_mem hi)
    rw [ht.out] at ts
    have HL := hide (fun W => refLower_reach t W ts)
    rw [hE.out] at HL
    obtain ⟨b, o, rfl, hv2⟩ : ∃ b o, p = some ⟨b, o, none⟩ ∧ ∀ i (h : i < n.attrs.length), w.cell? ⟨b, o + i * 2, none⟩ = some (.string n.attrs[i].1) ∧ w.cell? ⟨b, o + i * 2 + 1, none⟩ = some (.string n.attrs[i].2) := by
      rcases hv with t | t
      · rw [t] at hi; simp at hi
      · exact t
    have c1 := cell_below (hv2 i hi).2 B0.out
    rw [ht.out] at c1
    have k0 : (w.alloc (.cells #[.string n.name, .string n.text, .slice (some ⟨b, o, none⟩) n.attrs.length c, .int .i64 n.parent, vk] 44)).cell? ⟨w.heap.size, 0, none⟩ = some (.string n.name) := by simp
    have k2 : (w.alloc (.cells #[.string n.name, .string n.text, .slice (some ⟨b, o, none⟩) n.attrs.length c, .int .i64 n.parent, vk] 44)).cell? ⟨w.heap.size, 2, none⟩ = some (.slice (some ⟨b, o, none⟩) n.attrs.length c) := by simp
    clear hf hv hv2 hs ef
    go_enter Tryd.func21, Tryd.ntmps21
    generalize n.name = nm at *
    go_wp2_with fail
    generalize w.alloc (.cells #[.string nm, .string n.text, .slice (some ⟨b, o, none⟩) n.attrs.length c, .int .i64 n.parent, vk] 44) = w0 at *
    refine HF.out.mono ?_
    rintro e u ⟨rfl, hu⟩
    obtain rfl : w0 = u := hu.symm
    go_wp2_with fail
    refine (HL.out _).mono ?_
    rintro e w2 ⟨rfl, b2⟩
    have B2 := hide (chain B0.out b2)
    have m0 := cell_below k0 b2
    clear k0 k2 c1 b2
    go_wp2_with fail
    go_ret
    exact ⟨rfl, B2.out⟩
set_option maxHeartbeats 4000000 in
set_option maxRecDepth 100000 in
theorem refOf_none (n : Nd) (va vk : Value) (w : World) (ha : AttrsV w va n.attrs) (hl : n.attrs.length ≤ 4398046511104) (hs : ∀ a ∈ n.attrs, a.2.size ≤ 140737488351232) (h0 : ¬ n.name = ⟨#[105, 110, 112, 117, 116]⟩) (h1 : ¬ n.name = ⟨#[98, 117, 116, 116, 111, 110]⟩) (h2 : ¬ n.name = ⟨#[115, 101, 108, 101, 99, 116]⟩) (h3 : ¬ n.name = ⟨#[116, 101, 120, 116, 97, 114, 101, 97]⟩) (h4 : ¬ n.name = ⟨#[111, 117, 116, 112, 117, 116]⟩) (h5 : ¬ n.name = ⟨#[102, 105, 101, 108, 100, 115, 101, 116]⟩) (h6 : ¬ n.name = ⟨#[102, 111, 114, 109]⟩) (h7 : ¬ n.name = ⟨#[108, 97, 98, 101, 108]⟩) (h8 : ¬ n.name = ⟨#[111, 112, 116, 105, 111, 110]⟩) (h9 : ¬ n.name = ⟨#[111, 112, 116, 103, 114, 111, 117, 112]⟩) (h10 : ¬ n.name = ⟨#[108, 101, 103, 101, 110, 100]⟩) (h11 : ¬ n.name = ⟨#[100, 97, 116, 97, 108, 105, 115, 116]⟩) :
    Calls Tryd.prog 21 #[.agg #[.string n.name, .string n.text, va, .int .i64 n.parent, vk]] w fun e w' => e = .returned (.int .i64 (0)) ∧ Below w.heap.size w w' := by
  have t0 := lit_no (l := [105, 110, 112, 117, 116]) h0
  have t1 := lit_no (l := [98, 117, 116, 116, 111, 110]) h1
  have t2 := lit_no (l := [115, 101, 108, 101, 99, 116]) h2
  have t3 := lit_no (l := [116, 101, 120, 116, 97, 114, 101, 97]) h3
  have t4 := lit_no (l := [111, 117, 116, 112, 117, 116]) h4
  have t5 := lit_no (l := [102, 105, 101, 108, 100, 115, 101, 116]) h5
  have t6 := lit_no (l := [102, 111, 114, 109]) h6
  have t7 := lit_no (l := [108, 97, 98, 101, 108]) h7
  have t8 := lit_no (l := [111, 112, 116, 105, 111, 110]) h8
  have t9 := lit_no (l := [111, 112, 116, 103, 114, 111, 117, 112]) h9
  have t10 := lit_no (l := [108, 101, 103, 101, 110, 100]) h10
  have t11 := lit_no (l := [100, 97, 116, 97, 108, 105, 115, 116]) h11
  clear h0 h1 h2 h3 h4 h5 h6 h7 h8 h9 h10 h11
  have B0 : Hid (Below w.heap.size w (w.alloc (.cells #[.string n.name, .string n.text, va, .int .i64 n.parent, vk] 44))) := (Below.refl _ w).alloc (Nat.le_refl _) _
  have HF := hide (refFind_any va n.attrs tyS (w.alloc (.cells #[.string n.name, .string n.text, va, .int .i64 n.parent, vk] 44)) (ha.below B0.out) hl)
  have ef : tyS = ⟨#[116, 121, 112, 101]⟩ := rfl
  rw [ef] at HF
  obtain ⟨p, c, rfl, hv⟩ := ha
  obtain ⟨s, hS⟩ : ∃ s, Hid (tyT (tyOf n.attrs) = s) := ⟨_, show _ = _ from rfl⟩
  cases hf : findA n.attrs tyS with
  | none =>
    have hE : s = ⟨#[]⟩ := by rw [← hS.out]; unfold tyOf; rw [hf]; rfl
    rw [show findA n.attrs ⟨#[116, 121, 112, 101]⟩ = none from hf, show findV none = -1 from rfl] at HF
    have es : s = ⟨#[]⟩ := hE
    have k0 : (w.alloc (.cells #[.string n.name, .string n.text, .slice p n.attrs.length c, .int .i64 n.parent, vk] 44)).cell? ⟨w.heap.size, 0, none⟩ = some (.string n.name) := by simp
    have k2 : (w.alloc (.cells #[.string n.name, .string n.text, .slice p n.attrs.length c, .int .i64 n.parent, vk] 44)).cell? ⟨w.heap.size, 2, none⟩ = some (.slice p n.attrs.length c) := by simp
    clear hv hs hf ef
    go_enter Tryd.func21, Tryd.ntmps21
    generalize n.name = nm at *
    go_wp2_with fail
    generalize w.alloc (.cells #[.string nm, .string n.text, .slice p n.attrs.length c, .int .i64 n.parent, vk] 44) = w0 at *
    refine HF.out.mono ?_
    rintro e u ⟨rfl, hu⟩
    obtain rfl : w0 = u := hu.symm
    go_upto_region 5 with fail
    rw [← es]
    clear es hE
    go_wp2_with fail
    go_ret
    exact ⟨rfl, B0.out⟩
  | some i =>
    obtain ⟨hi, _, _⟩ := List.findIdx?_eq_some_iff_getElem.1 (show n.attrs.findIdx? (isN tyS) = some i from hf)
    obtain ⟨t, ht⟩ : ∃ t, Hid (n.attrs[i].2 = t) := ⟨_, show _ = _ from rfl⟩
    have hE : Hid (lowS t = s) := by
      show _ = _
      rw [← hS.out]
      unfold tyOf
      rw [hf, ← ht.out]
      show lowS n.attrs[i].2 = lowS (n.attrs.getD i at0).2
      rw [show n.attrs.getD i at0 = n.attrs[i] by simp [List.getD, hi]]
    rw [show findA n.attrs ⟨#[116, 121, 112, 101]⟩ = some i from hf, show findV (some i) = (i : Int) from rfl] at HF
    have i0 : (0 : Int) ≤ (i : Int) := by omega
    have i1 : (i : Int) < (n.attrs.length : Int) := by omega
    have ts := hs _ (List.getElem_mem hi)
    rw [ht.out] at ts
    have HL := hide (fun W => refLower_reach t W ts)
    rw [hE.out] at HL
    obtain ⟨b, o, rfl, hv2⟩ : ∃ b o, p = some ⟨b, o, none⟩ ∧ ∀ i (h : i < n.attrs.length), w.cell? ⟨b, o + i * 2, none⟩ = some (.string n.attrs[i].1) ∧ w.cell? ⟨b, o + i * 2 + 1, none⟩ = some (.string n.attrs[i].2) := by
      rcases hv with t | t
      · rw [t] at hi; simp at hi
      · exact t
    have c1 := cell_below (hv2 i hi).2 B0.out
    rw [ht.out] at c1
    have k0 : (w.alloc (.cells #[.string n.name, .string n.text, .slice (some ⟨b, o, none⟩) n.attrs.length c, .int .i64 n.parent, vk] 44)).cell? ⟨w.heap.size, 0, none⟩ = some (.string n.name) := by simp
    have k2 : (w.alloc (.cells #[.string n.name, .string n.text, .slice (some ⟨b, o, none⟩) n.attrs.length c, .int .i64 n.parent, vk] 44)).cell? ⟨w.heap.size, 2, none⟩ = some (.slice (some ⟨b, o, none⟩) n.attrs.length c) := by simp
    clear hf hv hv2 hs ef
    go_enter Tryd.func21, Tryd.ntmps21
    generalize n.name = nm at *
    go_wp2_with fail
    generalize w.alloc (.cells #[.string nm, .string n.text, .slice (some ⟨b, o, none⟩) n.attrs.length c, .int .i64 n.parent, vk] 44) = w0 at *
    refine HF.out.mono ?_
    rintro e u ⟨rfl, hu⟩
    obtain rfl : w0 = u := hu.symm
    go_wp2_with fail
    refine (HL.out _).mono ?_
    rintro e w2 ⟨rfl, b2⟩
    have B2 := hide (chain B0.out b2)
    have m0 := cell_below k0 b2
    clear k0 k2 c1 b2
    go_wp2_with fail
    go_ret
    exact ⟨rfl, B2.out⟩
theorem refOf_any (n : Nd) (va vk : Value) (w : World) (ha : AttrsV w va n.attrs) (hl : n.attrs.length ≤ 4398046511104) (hs : ∀ a ∈ n.attrs, a.2.size ≤ 140737488351232) :
    Calls Tryd.prog 21 #[.agg #[.string n.name, .string n.text, va, .int .i64 n.parent, vk]] w fun e w' => e = .returned (.int .i64 (kOf n.name (tyOf n.attrs))) ∧ Below w.heap.size w w' := by
  by_cases h0 : n.name = ⟨#[105, 110, 112, 117, 116]⟩
  · rw [show kOf n.name (tyOf n.attrs) = byT (tyOf n.attrs) 1 22 2 from by rw [h0]; rfl]
    exact refOf_input n va vk w ha hl hs h0
  by_cases h1 : n.name = ⟨#[98, 117, 116, 116, 111, 110]⟩
  · rw [show kOf n.name (tyOf n.attrs) = byT (tyOf n.attrs) 25 27 25 from by rw [h1]; rfl]
    exact refOf_button n va vk w ha hl hs h1
  by_cases h2 : n.name = ⟨#[115, 101, 108, 101, 99, 116]⟩
  · rw [show kOf n.name (tyOf n.attrs) = 23 from by rw [h2]; rfl]
    exact refOf_select n va vk w ha hl hs h2
  by_cases h3 : n.name = ⟨#[116, 101, 120, 116, 97, 114, 101, 97]⟩
  · rw [show kOf n.name (tyOf n.attrs) = 24 from by rw [h3]; rfl]
    exact refOf_textarea n va vk w ha hl hs h3
  by_cases h4 : n.name = ⟨#[111, 117, 116, 112, 117, 116]⟩
  · rw [show kOf n.name (tyOf n.attrs) = 28 from by rw [h4]; rfl]
    exact refOf_output n va vk w ha hl hs h4
  by_cases h5 : n.name = ⟨#[102, 105, 101, 108, 100, 115, 101, 116]⟩
  · rw [show kOf n.name (tyOf n.attrs) = 29 from by rw [h5]; rfl]
    exact refOf_fieldset n va vk w ha hl hs h5
  by_cases h6 : n.name = ⟨#[102, 111, 114, 109]⟩
  · rw [show kOf n.name (tyOf n.attrs) = 30 from by rw [h6]; rfl]
    exact refOf_form n va vk w ha hl hs h6
  by_cases h7 : n.name = ⟨#[108, 97, 98, 101, 108]⟩
  · rw [show kOf n.name (tyOf n.attrs) = 31 from by rw [h7]; rfl]
    exact refOf_label n va vk w ha hl hs h7
  by_cases h8 : n.name = ⟨#[111, 112, 116, 105, 111, 110]⟩
  · rw [show kOf n.name (tyOf n.attrs) = 32 from by rw [h8]; rfl]
    exact refOf_option n va vk w ha hl hs h8
  by_cases h9 : n.name = ⟨#[111, 112, 116, 103, 114, 111, 117, 112]⟩
  · rw [show kOf n.name (tyOf n.attrs) = 33 from by rw [h9]; rfl]
    exact refOf_optgroup n va vk w ha hl hs h9
  by_cases h10 : n.name = ⟨#[108, 101, 103, 101, 110, 100]⟩
  · rw [show kOf n.name (tyOf n.attrs) = 34 from by rw [h10]; rfl]
    exact refOf_legend n va vk w ha hl hs h10
  by_cases h11 : n.name = ⟨#[100, 97, 116, 97, 108, 105, 115, 116]⟩
  · rw [show kOf n.name (tyOf n.attrs) = 35 from by rw [h11]; rfl]
    exact refOf_datalist n va vk w ha hl hs h11
  have hn : seekL n.name 8 0 = none := by
    show (if lastN 0 = n.name then some 0 else if lastN 1 = n.name then some 1 else if lastN 2 = n.name then some 2 else if lastN 3 = n.name then some 3 else if lastN 4 = n.name then some 4 else if lastN 5 = n.name then some 5 else if lastN 6 = n.name then some 6 else if lastN 7 = n.name then some 7 else none) = none
    rw [if_neg (fun q => h4 q.symm), if_neg (fun q => h5 q.symm), if_neg (fun q => h6 q.symm), if_neg (fun q => h7 q.symm), if_neg (fun q => h8 q.symm), if_neg (fun q => h9 q.symm), if_neg (fun q => h10 q.symm), if_neg (fun q => h11 q.symm)]
  rw [show kOf n.name (tyOf n.attrs) = 0 from by unfold kOf; rw [if_neg h0, if_neg h2, if_neg h3, if_neg h1, hn]]
  exact refOf_none n va vk w ha hl hs h0 h1 h2 h3 h4 h5 h6 h7 h8 h9 h10 h11
end Go.Proofs.YtldbaoolddlacaaDoor

namespace Go.Proofs.YtldbaoolddlacaaDoor
open Go.RowKit
set_option maxHeartbeats 4000000 in
set_option maxRecDepth 100000 in
theorem byType1_any (x : ByteArray × ByteArray) (W : World) :
    Calls Tryd.prog 65 #[.agg #[.string x.1, .string x.2]] W fun e w' => e = .returned (.bool (isN tyS x)) ∧ Below W.heap.size W w' := by
  have E : Hid ((x.1.toList == [116, 121, 112, 101]) = isN tyS x) := lit_dec x.1 [116, 121, 112, 101]
  generalize isN tyS x = r at *
  generalize x.1 = a at *
  generalize x.2 = b at *
  go_enter Tryd.func65, Tryd.ntmps65
  go_wp2_with fail
  go_ret
  exact ⟨ret_bool E.out, (Below.refl _ W).alloc (Nat.le_refl _) _⟩
theorem entersBy : ∀ args w, (callFunc 65 args).run Tryd.prog w = .ok (.enter 65 args) w := Go.Proofs.enters_of Tryd.func65 (by kernel_rfl) rfl
theorem by_pred (w : World) : PredA 65 #[] (isN tyS) w := fun W x _ => byType1_any x W
set_option maxHeartbeats 4000000 in
set_option maxRecDepth 100000 in
theorem byType_any (n : Nd) (va vk : Value) (f l : Nat) (z : Int) (w : World) (hT : KTabs w) (ha : AttrsV w va n.attrs) (hl : n.attrs.length ≤ 4398046511104) (hs : ∀ a ∈ n.attrs, a.2.size ≤ 140737488351232) :
    Calls Tryd.prog 47 #[.agg #[.string n.name, .string n.text, va, .int .i64 n.parent, vk], .int .i64 (f : Int), .int .i64 (l : Int), .int .i64 z] w fun e w' => e = .returned (.int .i64 (byT (tyOf n.attrs) f l z)) ∧ Below w.heap.size w w' := by
  have B0 : Hid (Below w.heap.size w (w.alloc (.cells #[.string n.name, .string n.text, va, .int .i64 n.parent, vk] 44))) := (Below.refl _ w).alloc (Nat.le_refl _) _
  have k0 : (w.alloc (.cells #[.string n.name, .string n.text, va, .int .i64 n.parent, vk] 44)).cell? ⟨w.heap.size, 0, none⟩ = some (.string n.name) := by simp
  have k1 : (w.alloc (.cells #[.string n.name, .string n.text, va, .int .i64 n.parent, vk] 44)).cell? ⟨w.heap.size, 1, none⟩ = some (.string n.text) := by simp
  have k2 : (w.alloc (.cells #[.string n.name, .string n.text, va, .int .i64 n.parent, vk] 44)).cell? ⟨w.heap.size, 2, none⟩ = some (va) := by simp
  have k3 : (w.alloc (.cells #[.string n.name, .string n.text, va, .int .i64 n.parent, vk] 44)).cell? ⟨w.heap.size, 3, none⟩ = some (.int .i64 n.parent) := by simp
  have k4 : (w.alloc (.cells #[.string n.name, .string n.text, va, .int .i64 n.parent, vk] 44)).cell? ⟨w.heap.size, 4, none⟩ = some (vk) := by simp
  have HI := hide (indexFuncA_any va n.attrs (isN tyS) 65 #[] entersBy (w.alloc (.cells #[.string n.name, .string n.text, va, .int .i64 n.parent, vk] 44)) (ha.below B0.out) (by_pred _) hl)
  have HTW := hide hT
  have AV := hide (ha.below B0.out)
  have FE : Hid (n.attrs.findIdx? (isN tyS) = findA n.attrs tyS) := rfl
  rw [FE.out] at HI
  obtain ⟨p, c, rfl, hv⟩ := ha
  cases hf : findA n.attrs tyS with
  | none =>
    have E : Hid (byT (tyOf n.attrs) f l z = z) := by show _ = _; unfold tyOf; rw [hf]; rfl
    rw [hf] at HI
    have ev : findV none = -1 := rfl
    rw [ev] at HI
    clear hf hv hs hl hT FE ev
    go_enter Tryd.func47, Tryd.ntmps47
    go_wp2_with fail
    generalize w.alloc (.cells #[.string n.name, .string n.text, .slice p n.attrs.length c, .int .i64 n.parent, vk] 44) = w0 at *
    obtain ⟨nb, hnb⟩ : ∃ nb, Hid (w.heap.size = nb) := ⟨_, show _ = _ from rfl⟩
    refine HI.out.mono ?_
    rintro e w1 ⟨rfl, b1⟩
    go_wp2_with fail
    go_ret
    exact ⟨ret_int E.out.symm, chain B0.out b1⟩
  | some i =>
    obtain ⟨hi, _, _⟩ := List.findIdx?_eq_some_iff_getElem.1 (show n.attrs.findIdx? (isN tyS) = some i from hf)
    obtain ⟨t, ht⟩ : ∃ t, Hid (n.attrs[i].2 = t) := ⟨_, show _ = _ from rfl⟩
    have E : Hid (byT (tyOf n.attrs) f l z = kInt (seekR (lowS t) f l 30 0) z) := by
      show _ = _
      unfold tyOf
      rw [hf, ← ht.out]
      show kInt (seekR (lowS (n.attrs.getD i at0).2) f l 30 0) z = _
      rw [show n.attrs.getD i at0 = n.attrs[i] by simp [List.getD, hi]]
    rw [hf] at HI
    have ev : findV (some i) = (i : Int) := rfl
    rw [ev] at HI
    have i0 : (0 : Int) ≤ (i : Int) := by omega
    have i1 : (i : Int) < (n.attrs.length : Int) := by omega
    have i2 : ¬ (i : Int) < 0 := by omega
    have ts := hs _ (List.getElem_mem hi)
    rw [ht.out] at ts
    have HL := hide (fun W => lower_any t W (by unfold maxLen; omega))
    obtain ⟨b, o, rfl, hv2⟩ : ∃ b o, p = some ⟨b, o, none⟩ ∧ ∀ i (h : i < n.attrs.length), w.cell? ⟨b, o + i * 2, none⟩ = some (.string n.attrs[i].1) ∧ w.cell? ⟨b, o + i * 2 + 1, none⟩ = some (.string n.attrs[i].2) := by
      rcases hv with t | t
      · rw [t] at hi; simp at hi
      · exact t
    have c1 := cell_below (hv2 i hi).2 B0.out
    rw [ht.out] at c1
    obtain ⟨A, hA⟩ : ∃ A, Hid (seekR (lowS t) f l 30 0 = A) := ⟨_, show _ = _ from rfl⟩
    rw [hA.out] at E
    clear hf hv hv2 hs hT FE ev
    go_enter Tryd.func47, Tryd.ntmps47
    go_wp2_with fail
    generalize w.alloc (.cells #[.string n.name, .string n.text, .slice (some ⟨b, o, none⟩) n.attrs.length c, .int .i64 n.parent, vk] 44) = w0 at *
    obtain ⟨nb, hnb⟩ : ∃ nb, Hid (w.heap.size = nb) := ⟨_, show _ = _ from rfl⟩
    refine HI.out.mono ?_
    rintro e w1 ⟨rfl, b1⟩
    have B1 := hide (chain B0.out b1)
    have m2 := cell_below k2 b1
    have c1' := cell_below c1 b1
    clear b1 k0 k1 k2 k3 k4 c1
    go_wp2_with fail
    refine (HL.out _).mono ?_
    rintro e w2 ⟨rfl, b2⟩
    have B2 := hide (chain B1.out b2)
    have T2 := HTW.out.below B2.out
    obtain ⟨CS, hld, hin, hix⟩ := load_types w2 T2
    have HIX := hide hix
    have HLD := hide hld
    have HIN := hide hin
    clear hix hld hin
    clear T2 m2 c1' b2
    generalize lowS t = s at *
    go_upto_region 5 with fail
    refine wp_region_lit ?_
    refine wpList_load_mid rfl 94 _ rfl 1 0 rfl CS _ HLD.out Tryd.underlying94 rfl HIN.out ?_
    generalize CS.toArray = CA at *
    go_wp2_with fail
    go_loop [27] (fun iv => ∃ k : Nat, k ≤ 30 ∧ iv = .int .i64 k ∧ Hid (seekR s f l (30 - k) k = A)) (fun iv => 30 - (intOf iv).toNat)
    case atStart => exact ⟨0, Nat.zero_le _, rfl, hA⟩
    case round =>
      obtain ⟨k, hk, rfl, hn⟩ := hrel
      clear hA
      by_cases hlt : k < 30
      · have hix := HIX.out k hlt w2
        have HB := hide (between_any (k : Int) (f : Int) (l : Int))
        have HIT := hide (fun q1 q2 => seek_hit hlt hn.out q1 q2)
        have MISS := hide (fun q => seek_miss hlt hn.out q)
        have kk : (k : Int) < 30 := by omega
        have TB := hide (txt_beq (typeN k) s)
        cases hb : btwB (k : Int) (f : Int) (l : Int) with
        | false =>
          rw [hb] at HB
          have N := hide (MISS.out (.inl hb))
          clear hb HIT MISS hn
          generalize typeN k = x at *
          go_wp2_with fail
          refine (HB.out _).mono ?_
          rintro e u ⟨rfl, hu⟩
          obtain rfl : w2 = u := hu.symm
          go_wp2_with fail
          go_round
          case rel => exact ⟨k + 1, by omega, by go_num, N⟩
          case measure => simp [intOf]; omega
        | true =>
          rw [hb] at HB
          by_cases he : typeN k = s
          · have q : ((typeN k).toList == s.toList) = true := by rw [TB.out]; exact decide_eq_true he
            have N := hide (HIT.out hb he)
            clear hb HIT MISS hn he
            generalize typeN k = x at *
            go_wp2_with fail
            refine (HB.out _).mono ?_
            rintro e u ⟨rfl, hu⟩
            obtain rfl : w2 = u := hu.symm
            go_wp2_with fail
            go_ret
            exact ⟨by rw [E.out, N.out]; rfl, B2.out⟩
          · have q : ((typeN k).toList == s.toList) = false := by rw [TB.out]; exact decide_eq_false he
            have N := hide (MISS.out (.inr he))
            clear hb HIT MISS hn he
            generalize typeN k = x at *
            go_wp2_with fail
            refine (HB.out _).mono ?_
            rintro e u ⟨rfl, hu⟩
            obtain rfl : w2 = u := hu.symm
            go_wp2_with fail
            go_round
            case rel => exact ⟨k + 1, by omega, by go_num, N⟩
            case measure => simp [intOf]; omega
      · obtain rfl : k = 30 := by omega
        have N : Hid (A = none) := hn.out.symm
        clear hn hlt
        go_wp2_with fail
        go_ret
        exact ⟨by rw [E.out, N.out]; rfl, B2.out⟩

end Go.Proofs.YtldbaoolddlacaaDoor
