/- The document's Show of moments: weeks; and all kinds. Condition: numbers of 64 bits. -/
import Derived.Test.YtekcbkicfoaheaaGreatDoorMomSh2
namespace Go.Proofs.YtekcbkicfoaheaaGreatDoor
open Go.RowKit Go.Sort

/-- Whatever the document's Week answers. -/
theorem week_gen (k : Int) : ∃ a b c e : Int, ∀ w, Calls Tryz.prog 29 #[.int .i64 k] w fun x w' => x = .returned (.tuple #[.agg #[.int .i64 a, .int .i64 b, .int .i64 c], .int .i64 e]) ∧ Below w.heap.size w w' := by
  by_cases g : firstV 1 ≤ k ∧ k < firstV 275761
  · obtain ⟨y, y1, y2, hy⟩ := inWeeks_some g.1 g.2
    exact ⟨y, _, 0, 0, fun w => refWeek_in k y w y1 y2 hy⟩
  · exact ⟨0, 0, 0, 2, fun w => refWeek_out k w (by omega)⟩

set_option maxHeartbeats 4000000 in
theorem refShow3_yes (n : Int) (k : Int) (y v : Nat) (hN : k = n / 86400000) (h0 : n % 86400000 = 0) (hy : InWeeks k y) (y1 : 1 ≤ y) (y2 : y ≤ 275760) (hv : (v : Int) = weekV k y) (hw : wdayV k = 1) (w : World) (n1 : -9223372036854775808 ≤ n) (n2 : n ≤ 9223372036854775807) :
    Calls Tryz.prog 12 #[.int .i64 3, .int .i64 n] w fun e w' => e = .returned (.tuple #[.string (txt (weekL y v)), .int .i64 0]) ∧ Below w.heap.size w w' := by
  have hL := fun w => refLeft_any n 86400000 w n1 n2 (by decide) (by decide)
  have HL := hide hL
  clear hL
  have rb := left_less (n := n) (s := 86400000) (by decide)
  have kb : -1000000000000 ≤ k ∧ k ≤ 1000000000000 := by omega
  obtain ⟨a, b, c, e, hD⟩ := date_gen k
  have HD := hide hD
  clear hD
  have hW := fun w => refWeekday_any k w (by omega) (by omega)
  rw [hw] at hW
  have hmix : Tryz.prog.follows .mixedOrders = true := by kernel_rfl
  have hX := fun w => refWeek_in k y w (by omega) (by omega) hy
  unfold dayR at hX
  rw [← hv] at hX
  have ⟨v1, v2, _, _⟩ := week_is hy
  have v3 := (weeks_is y).2
  have hv2 : v < 100 := by omega
  have hP : ∀ w, Calls Tryz.prog 28 #[.int .i64 y, .int .i64 4] w fun e w' => e = .returned (.string (txt (padL y 4))) ∧ ∃ q os, w' = grow (w.drewN q) os := fun w => pad_any y 4 w (by omega) (by decide)
  have hQ : ∀ w, Calls Tryz.prog 28 #[.int .i64 v, .int .i64 2] w fun e w' => e = .returned (.string (txt (padL v 2))) ∧ ∃ q os, w' = grow (w.drewN q) os := fun w => pad_any v 2 w (by omega) (by decide)
  have q1 : (txt (padL y 4)).size ≤ 9 := by rw [txt_size]; exact pad_most (k := 9) (by omega) (by decide) (by decide)
  have q2 : (txt (padL v 2)).size ≤ 2 := by rw [txt_size]; exact pad_most (k := 2) (by omega) (by decide) (by decide)
  have q3 : (⟨#[45, 87]⟩ : ByteArray).size = 2 := rfl
  have E : Hid (txt (weekL y v) = txt (padL y 4) ++ ⟨#[45, 87]⟩ ++ txt (padL v 2)) := by
    show _ = _
    unfold weekL
    rw [show (⟨#[45, 87]⟩ : ByteArray) = txt [45, 87] from rfl, txt_app, txt_app]; simp
  generalize txt (padL y 4) = A at *
  generalize txt (padL v 2) = B at *
  have p1 := fun w => run_string_add_sum (P := Tryz.prog) w A ⟨#[45, 87]⟩ (by omega)
  have p2 := fun w => run_string_add_sum (P := Tryz.prog) w (A ++ ⟨#[45, 87]⟩) B (by rw [ByteArray.size_append]; omega)
  generalize A ++ ⟨#[45, 87]⟩ ++ B = s2 at *
  generalize A ++ ⟨#[45, 87]⟩ = s1 at *
  have hc0 := fun (u : World) => cell3 u (.int .i64 (y : Int)) (.int .i64 (v : Int)) (.int .i64 0) 47 0 _ rfl
  have hc1 := fun (u : World) => cell3 u (.int .i64 (y : Int)) (.int .i64 (v : Int)) (.int .i64 0) 47 1 _ rfl
  have HX := hide hX
  have HP := hide hP
  have HQ := hide hQ
  have HW := hide hW
  have P1 := hide p1
  have P2 := hide p2
  have C0 := hide hc0
  have C1 := hide hc1
  clear hX hP hQ hW p1 p2 hc0 hc1 q1 q2 q3 hv hv2 v1 v2 v3 hw hy y1 y2
  generalize (y : Int) = Y at *
  generalize (v : Int) = V at *
  rcases quo_cases n (s := 86400000) (by decide) with z | ⟨z, z0, zq⟩ | ⟨z, z0, zq⟩
  · obtain rfl : k = n / 86400000 := hN
    generalize n % 86400000 = r at *
    have r0 : (r == 0) = true := beq_yes (by omega)
    go_enter Tryz.func12, Tryz.ntmps12
    go_wp2_with fail
    refine (HL.out _).mono ?_
    rintro e u1 ⟨rfl, rfl⟩
    go_wp2_with fail
    refine (HD.out _).mono ?_
    rintro e v1 ⟨rfl, b1⟩
    go_wp2_with fail
    refine (HX.out _).mono ?_
    rintro e v2 ⟨rfl, b2⟩
    go_wp2_with fail
    refine (HW.out _).mono ?_
    rintro e u1 ⟨rfl, rfl⟩
    go_wp2_with fail
    have p1 := P1.out
    have p2 := P2.out
    have g0 := fun n os => cell_grown (by show v2.heap.size < _; simp) (C0.out v2) n os
    have g1 := fun n os => cell_grown (by show v2.heap.size < _; simp) (C1.out v2) n os
    clear P1 P2 C0 C1
    go_quiet_grown (first | with_reducible exact Calls.grown_of (HP.out _) | with_reducible exact Calls.grown_of (HQ.out _))
    go_wp2
    go_ret2
    exact ⟨ret_show E.out.symm, chain (chain_alloc (chain (chain_alloc b1 _) b2) _) (Grew.below ⟨nq, osq, rfl⟩)⟩
  · obtain rfl : k = n.tdiv 86400000 := hN.trans zq
    clear hN zq
    generalize n % 86400000 = r at *
    have z1 : r ≤ 0 := by omega
    have z2 : 0 ≤ r := by omega
    clear z0
    have r0 : (r == 0) = true := beq_yes (by omega)
    go_enter Tryz.func12, Tryz.ntmps12
    go_wp2_with fail
    refine (HL.out _).mono ?_
    rintro e u1 ⟨rfl, rfl⟩
    go_wp2_with fail
    refine (HD.out _).mono ?_
    rintro e v1 ⟨rfl, b1⟩
    go_wp2_with fail
    refine (HX.out _).mono ?_
    rintro e v2 ⟨rfl, b2⟩
    go_wp2_with fail
    refine (HW.out _).mono ?_
    rintro e u1 ⟨rfl, rfl⟩
    go_wp2_with fail
    have p1 := P1.out
    have p2 := P2.out
    have g0 := fun n os => cell_grown (by show v2.heap.size < _; simp) (C0.out v2) n os
    have g1 := fun n os => cell_grown (by show v2.heap.size < _; simp) (C1.out v2) n os
    clear P1 P2 C0 C1
    go_quiet_grown (first | with_reducible exact Calls.grown_of (HP.out _) | with_reducible exact Calls.grown_of (HQ.out _))
    go_wp2
    go_ret2
    exact ⟨ret_show E.out.symm, chain (chain_alloc (chain (chain_alloc b1 _) b2) _) (Grew.below ⟨nq, osq, rfl⟩)⟩
  · exfalso; omega

set_option maxHeartbeats 4000000 in
theorem refShow3_rest (n : Int) (k : Int) (hN : k = n / 86400000) (h0 : ¬ n % 86400000 = 0) (w : World) (n1 : -9223372036854775808 ≤ n) (n2 : n ≤ 9223372036854775807) :
    Calls Tryz.prog 12 #[.int .i64 3, .int .i64 n] w fun e w' => e = .returned (.tuple #[.string ⟨#[]⟩, .int .i64 2]) ∧ Below w.heap.size w w' := by
  have hL := fun w => refLeft_any n 86400000 w n1 n2 (by decide) (by decide)
  have HL := hide hL
  clear hL
  have rb := left_less (n := n) (s := 86400000) (by decide)
  have kb : -1000000000000 ≤ k ∧ k ≤ 1000000000000 := by omega
  obtain ⟨a, b, c, e, hD⟩ := date_gen k
  have HD := hide hD
  clear hD
  obtain ⟨a', b', c', e', hX⟩ := week_gen k
  have HX := hide hX
  clear hX
  by_cases e0 : (e' == 0) = true
  · rcases quo_cases n (s := 86400000) (by decide) with z | ⟨z, z0, zq⟩ | ⟨z, z0, zq⟩
    · obtain rfl : k = n / 86400000 := hN
      generalize n % 86400000 = r at *
      have r0 : (r == 0) = false := beq_no (by omega)
      go_enter Tryz.func12, Tryz.ntmps12
      go_wp2_with fail
      refine (HL.out _).mono ?_
      rintro e u1 ⟨rfl, rfl⟩
      go_wp2_with fail
      refine (HD.out _).mono ?_
      rintro e v1 ⟨rfl, b1⟩
      go_wp2_with fail
      refine (HX.out _).mono ?_
      rintro e v2 ⟨rfl, b2⟩
      go_wp2_with fail
      go_ret2
      exact ⟨rfl, chain_alloc (chain (chain_alloc b1 _) b2) _⟩
    · exact absurd z0 h0
    · obtain rfl : k = n.tdiv 86400000 - 1 := hN.trans zq
      clear hN zq
      generalize n % 86400000 = r at *
      have r0 : (r == 0) = false := beq_no (by omega)
      go_enter Tryz.func12, Tryz.ntmps12
      go_wp2_with fail
      refine (HL.out _).mono ?_
      rintro e u1 ⟨rfl, rfl⟩
      go_wp2_with fail
      refine (HD.out _).mono ?_
      rintro e v1 ⟨rfl, b1⟩
      go_wp2_with fail
      refine (HX.out _).mono ?_
      rintro e v2 ⟨rfl, b2⟩
      go_wp2_with fail
      go_ret2
      exact ⟨rfl, chain_alloc (chain (chain_alloc b1 _) b2) _⟩
  · have e0 : (e' == 0) = false := by simpa using e0
    rcases quo_cases n (s := 86400000) (by decide) with z | ⟨z, z0, zq⟩ | ⟨z, z0, zq⟩
    · obtain rfl : k = n / 86400000 := hN
      generalize n % 86400000 = r at *
      have r0 : (r == 0) = false := beq_no (by omega)
      go_enter Tryz.func12, Tryz.ntmps12
      go_wp2_with fail
      refine (HL.out _).mono ?_
      rintro e u1 ⟨rfl, rfl⟩
      go_wp2_with fail
      refine (HD.out _).mono ?_
      rintro e v1 ⟨rfl, b1⟩
      go_wp2_with fail
      refine (HX.out _).mono ?_
      rintro e v2 ⟨rfl, b2⟩
      go_wp2_with fail
      go_ret2
      exact ⟨rfl, chain_alloc (chain (chain_alloc b1 _) b2) _⟩
    · exact absurd z0 h0
    · obtain rfl : k = n.tdiv 86400000 - 1 := hN.trans zq
      clear hN zq
      generalize n % 86400000 = r at *
      have r0 : (r == 0) = false := beq_no (by omega)
      go_enter Tryz.func12, Tryz.ntmps12
      go_wp2_with fail
      refine (HL.out _).mono ?_
      rintro e u1 ⟨rfl, rfl⟩
      go_wp2_with fail
      refine (HD.out _).mono ?_
      rintro e v1 ⟨rfl, b1⟩
      go_wp2_with fail
      refine (HX.out _).mono ?_
      rintro e v2 ⟨rfl, b2⟩
      go_wp2_with fail
      go_ret2
      exact ⟨rfl, chain_alloc (chain (chain_alloc b1 _) b2) _⟩

set_option maxHeartbeats 4000000 in
theorem refShow3_out (n : Int) (k : Int) (hN : k = n / 86400000) (h0 : k < firstV 1 ∨ firstV 275761 ≤ k) (w : World) (n1 : -9223372036854775808 ≤ n) (n2 : n ≤ 9223372036854775807) :
    Calls Tryz.prog 12 #[.int .i64 3, .int .i64 n] w fun e w' => e = .returned (.tuple #[.string ⟨#[]⟩, .int .i64 2]) ∧ Below w.heap.size w w' := by
  have hL := fun w => refLeft_any n 86400000 w n1 n2 (by decide) (by decide)
  have HL := hide hL
  clear hL
  have rb := left_less (n := n) (s := 86400000) (by decide)
  have kb : -1000000000000 ≤ k ∧ k ≤ 1000000000000 := by omega
  obtain ⟨a, b, c, e, hD⟩ := date_gen k
  have HD := hide hD
  clear hD
  have hX := fun w => refWeek_out k w h0
  unfold dayR at hX
  have HX := hide hX
  clear hX h0
  rcases quo_cases n (s := 86400000) (by decide) with z | ⟨z, z0, zq⟩ | ⟨z, z0, zq⟩
  · obtain rfl : k = n / 86400000 := hN
    generalize n % 86400000 = r at *
    go_enter Tryz.func12, Tryz.ntmps12
    go_wp2_with fail
    refine (HL.out _).mono ?_
    rintro e u1 ⟨rfl, rfl⟩
    go_wp2_with fail
    refine (HD.out _).mono ?_
    rintro e v1 ⟨rfl, b1⟩
    go_wp2_with fail
    refine (HX.out _).mono ?_
    rintro e v2 ⟨rfl, b2⟩
    go_wp2_with fail
    go_ret2
    exact ⟨rfl, chain_alloc (chain (chain_alloc b1 _) b2) _⟩
  · obtain rfl : k = n.tdiv 86400000 := hN.trans zq
    clear hN zq
    generalize n % 86400000 = r at *
    have z1 : r ≤ 0 := by omega
    have z2 : 0 ≤ r := by omega
    clear z0
    go_enter Tryz.func12, Tryz.ntmps12
    go_wp2_with fail
    refine (HL.out _).mono ?_
    rintro e u1 ⟨rfl, rfl⟩
    go_wp2_with fail
    refine (HD.out _).mono ?_
    rintro e v1 ⟨rfl, b1⟩
    go_wp2_with fail
    refine (HX.out _).mono ?_
    rintro e v2 ⟨rfl, b2⟩
    go_wp2_with fail
    go_ret2
    exact ⟨rfl, chain_alloc (chain (chain_alloc b1 _) b2) _⟩
  · obtain rfl : k = n.tdiv 86400000 - 1 := hN.trans zq
    clear hN zq
    generalize n % 86400000 = r at *
    go_enter Tryz.func12, Tryz.ntmps12
    go_wp2_with fail
    refine (HL.out _).mono ?_
    rintro e u1 ⟨rfl, rfl⟩
    go_wp2_with fail
    refine (HD.out _).mono ?_
    rintro e v1 ⟨rfl, b1⟩
    go_wp2_with fail
    refine (HX.out _).mono ?_
    rintro e v2 ⟨rfl, b2⟩
    go_wp2_with fail
    go_ret2
    exact ⟨rfl, chain_alloc (chain (chain_alloc b1 _) b2) _⟩

set_option maxHeartbeats 4000000 in
theorem refShow3_wday (n : Int) (k : Int) (hN : k = n / 86400000) (h0 : n % 86400000 = 0) (hw : ¬ wdayV k = 1) (w : World) (n1 : -9223372036854775808 ≤ n) (n2 : n ≤ 9223372036854775807) :
    Calls Tryz.prog 12 #[.int .i64 3, .int .i64 n] w fun e w' => e = .returned (.tuple #[.string ⟨#[]⟩, .int .i64 2]) ∧ Below w.heap.size w w' := by
  have hL := fun w => refLeft_any n 86400000 w n1 n2 (by decide) (by decide)
  have HL := hide hL
  clear hL
  have rb := left_less (n := n) (s := 86400000) (by decide)
  have kb : -1000000000000 ≤ k ∧ k ≤ 1000000000000 := by omega
  obtain ⟨a, b, c, e, hD⟩ := date_gen k
  have HD := hide hD
  clear hD
  have hW := fun w => refWeekday_any k w (by omega) (by omega)
  obtain ⟨a', b', c', e', hX⟩ := week_gen k
  have HX := hide hX
  clear hX
  have d0 := beq_no hw
  generalize wdayV k = d at *
  have HW := hide hW
  clear hW hw
  by_cases e0 : (e' == 0) = true
  · rcases quo_cases n (s := 86400000) (by decide) with z | ⟨z, z0, zq⟩ | ⟨z, z0, zq⟩
    · obtain rfl : k = n / 86400000 := hN
      generalize n % 86400000 = r at *
      have r0 : (r == 0) = true := beq_yes (by omega)
      go_enter Tryz.func12, Tryz.ntmps12
      go_wp2_with fail
      refine (HL.out _).mono ?_
      rintro e u1 ⟨rfl, rfl⟩
      go_wp2_with fail
      refine (HD.out _).mono ?_
      rintro e v1 ⟨rfl, b1⟩
      go_wp2_with fail
      refine (HX.out _).mono ?_
      rintro e v2 ⟨rfl, b2⟩
      go_wp2_with fail
      refine (HW.out _).mono ?_
      rintro e u1 ⟨rfl, rfl⟩
      go_wp2_with fail
      go_ret2
      exact ⟨rfl, chain_alloc (chain (chain_alloc b1 _) b2) _⟩
    · obtain rfl : k = n.tdiv 86400000 := hN.trans zq
      clear hN zq
      generalize n % 86400000 = r at *
      have z1 : r ≤ 0 := by omega
      have z2 : 0 ≤ r := by omega
      clear z0
      have r0 : (r == 0) = true := beq_yes (by omega)
      go_enter Tryz.func12, Tryz.ntmps12
      go_wp2_with fail
      refine (HL.out _).mono ?_
      rintro e u1 ⟨rfl, rfl⟩
      go_wp2_with fail
      refine (HD.out _).mono ?_
      rintro e v1 ⟨rfl, b1⟩
      go_wp2_with fail
      refine (HX.out _).mono ?_
      rintro e v2 ⟨rfl, b2⟩
      go_wp2_with fail
      refine (HW.out _).mono ?_
      rintro e u1 ⟨rfl, rfl⟩
      go_wp2_with fail
      go_ret2
      exact ⟨rfl, chain_alloc (chain (chain_alloc b1 _) b2) _⟩
    · exfalso; omega
  · have e0 : (e' == 0) = false := by simpa using e0
    rcases quo_cases n (s := 86400000) (by decide) with z | ⟨z, z0, zq⟩ | ⟨z, z0, zq⟩
    · obtain rfl : k = n / 86400000 := hN
      generalize n % 86400000 = r at *
      have r0 : (r == 0) = true := beq_yes (by omega)
      go_enter Tryz.func12, Tryz.ntmps12
      go_wp2_with fail
      refine (HL.out _).mono ?_
      rintro e u1 ⟨rfl, rfl⟩
      go_wp2_with fail
      refine (HD.out _).mono ?_
      rintro e v1 ⟨rfl, b1⟩
      go_wp2_with fail
      refine (HX.out _).mono ?_
      rintro e v2 ⟨rfl, b2⟩
      go_wp2_with fail
      go_ret2
      exact ⟨rfl, chain_alloc (chain (chain_alloc b1 _) b2) _⟩
    · obtain rfl : k = n.tdiv 86400000 := hN.trans zq
      clear hN zq
      generalize n % 86400000 = r at *
      have z1 : r ≤ 0 := by omega
      have z2 : 0 ≤ r := by omega
      clear z0
      have r0 : (r == 0) = true := beq_yes (by omega)
      go_enter Tryz.func12, Tryz.ntmps12
      go_wp2_with fail
      refine (HL.out _).mono ?_
      rintro e u1 ⟨rfl, rfl⟩
      go_wp2_with fail
      refine (HD.out _).mono ?_
      rintro e v1 ⟨rfl, b1⟩
      go_wp2_with fail
      refine (HX.out _).mono ?_
      rintro e v2 ⟨rfl, b2⟩
      go_wp2_with fail
      go_ret2
      exact ⟨rfl, chain_alloc (chain (chain_alloc b1 _) b2) _⟩
    · exfalso; omega

set_option maxHeartbeats 4000000 in
theorem refShow_kind (kind n : Int) (w : World) (h : kind < 1 ∨ 5 < kind) :
    Calls Tryz.prog 12 #[.int .i64 kind, .int .i64 n] w fun e w' => e = .returned (.tuple #[.string ⟨#[]⟩, .int .i64 3]) ∧ Below w.heap.size w w' := by
  rcases h with h | h
  · go_enter Tryz.func12, Tryz.ntmps12
    go_wp2_with fail
    go_ret2
    exact ⟨rfl, Below.refl _ _⟩
  · go_enter Tryz.func12, Tryz.ntmps12
    go_wp2_with fail
    go_ret2
    exact ⟨rfl, Below.refl _ _⟩
/-- A number that has a text. -/
theorem refShow_yes {kind n : Int} {t : List UInt8} (h : ShowIs kind n t) (w : World) (n1 : -9223372036854775808 ≤ n) (n2 : n ≤ 9223372036854775807) :
    Calls Tryz.prog 12 #[.int .i64 kind, .int .i64 n] w fun e w' => e = .returned (.tuple #[.string (txt t), .int .i64 0]) ∧ Below w.heap.size w w' := by
  rcases h with ⟨rfl, k, y, m, d, hd, e, rfl⟩ | ⟨rfl, y, m, y1, y2, m1, m2, e, rfl⟩ | ⟨rfl, y, k, y1, y2, k1, k2, e, rfl⟩ | ⟨rfl, k, hk, e, rfl⟩ | ⟨rfl, k, y, m, d, r, hd, hr, e, rfl⟩
  · exact refShow1_yes n k y m d hd (by omega) (by omega) w n1 n2
  · exact refShow2_yes n _ _ y m rfl rfl (by omega) (by omega) y1 y2 w n1 n2
  · have hy : InWeeks (firstV y + 7 * ((k : Int) - 1)) y := by
      have := (weeks_is y).1
      exact ⟨by omega, by omega⟩
    have f := first_monday y
    exact refShow3_yes n _ y k (by omega) (by omega) hy y1 y2 (by unfold weekV; omega) (by unfold wdayV at *; omega) w n1 n2
  · exact refShow4_yes n _ k rfl e hk w n1 n2
  · exact refShow5_yes n k y m d r hd (by omega) (by omega) hr w n1 n2
/-- A number that has none. -/
theorem refShow_no {kind n : Int} (h : ShowNo kind n) (w : World) (n1 : -9223372036854775808 ≤ n) (n2 : n ≤ 9223372036854775807) :
    Calls Tryz.prog 12 #[.int .i64 kind, .int .i64 n] w fun e w' => e = .returned (.tuple #[.string ⟨#[]⟩, .int .i64 2]) ∧ Below w.heap.size w w' := by
  rcases h with ⟨rfl, h | h⟩ | ⟨rfl, h | h⟩ | ⟨rfl, h | h⟩ | ⟨rfl, h | h⟩ | ⟨rfl, h⟩
  · exact refShow1_rest n _ rfl h w n1 n2
  · exact refShow1_out n _ rfl h w n1 n2
  · exact refShow2_low n _ _ rfl rfl h w n1 n2
  · exact refShow2_high n _ _ rfl rfl h w n1 n2
  · exact refShow3_rest n _ rfl h w n1 n2
  · by_cases r : n % 86400000 = 0
    · rcases h with h | h | h
      · exact refShow3_out n _ rfl (.inl h) w n1 n2
      · exact refShow3_out n _ rfl (.inr h) w n1 n2
      · exact refShow3_wday n _ rfl r h w n1 n2
    · exact refShow3_rest n _ rfl r w n1 n2
  · exact refShow4_low n _ rfl h w n1 n2
  · exact refShow4_high n _ rfl h w n1 n2
  · exact refShow5_out n _ rfl h w n1 n2

end Go.Proofs.YtekcbkicfoaheaaGreatDoor
