/- The document's Show of moments: days, and days with times. Condition: numbers of 64 bits. -/
import Derived.Test.YtekcbkicfoaheaaGreatDoorDayRef3
import Derived.Test.YtekcbkicfoaheaaGreatDoorRefLeft
import Derived.Test.YtekcbkicfoaheaaGreatDoorMomClock
namespace Go.Proofs.YtekcbkicfoaheaaGreatDoor
open Go.RowKit Go.Sort

theorem quo_neg {n s : Int} (h : n < 0) (hs : 1 ≤ s) : (n % s = 0 → n / s = n.tdiv s) ∧ (0 < n % s → n / s = n.tdiv s - 1) := by
  have e := Int.emod_add_mul_ediv n s
  have f := Int.tmod_add_mul_tdiv n s
  have ⟨a1, a2⟩ := left_at (n := n) hs
  have b := left_less (n := n) hs
  have g := (show s * (n / s - n.tdiv s) = n.tmod s - n % s by rw [Int.mul_sub]; omega)
  constructor
  · intro h0
    rcases Int.lt_or_le (n.tmod s) 0 with x | x
    · have := a2 x; omega
    · have := a1 x
      have z : s * (n / s - n.tdiv s) = 0 := by omega
      rcases Int.mul_eq_zero.1 z with y | y
      · omega
      · omega
  · intro h0
    rcases Int.lt_or_le (n.tmod s) 0 with x | x
    · have := a2 x
      have z : s * (n / s - n.tdiv s + 1) = 0 := by rw [Int.mul_add, g]; omega
      rcases Int.mul_eq_zero.1 z with y | y
      · omega
      · omega
    · have y := a1 x
      have := left_bounds (n := n) (s := s) (by omega) h
      omega
/-- How a number of a day is told: a sign, and what is left. -/
theorem quo_cases (n : Int) {s : Int} (hs : 1 ≤ s) : (0 ≤ n) ∨ (n < 0 ∧ n % s = 0 ∧ n / s = n.tdiv s) ∨ (n < 0 ∧ 0 < n % s ∧ n / s = n.tdiv s - 1) := by
  by_cases h : 0 ≤ n
  · exact .inl h
  · have ⟨a, b⟩ := quo_neg (n := n) (s := s) (by omega) hs
    have c := left_less (n := n) hs
    by_cases z : n % s = 0
    · exact .inr (.inl ⟨by omega, z, a z⟩)
    · exact .inr (.inr ⟨by omega, by omega, b (by omega)⟩)
theorem chain_alloc {w v : World} (h : Below w.heap.size w v) (o : Obj) : Below w.heap.size w (v.alloc o) := h.alloc h.size o
theorem ret_show {a b : ByteArray} {e : Int} (h : a = b) : Ending.returned (.tuple #[.string a, .int .i64 e]) = .returned (.tuple #[.string b, .int .i64 e]) := by rw [h]
theorem dateL_size {k : Int} {y m d : Nat} (h : IsDay k y m d) : (txt (dateL y m d)).size ≤ 20 := by
  have := h.y2; have := h.m2; have := h.d2; have := len_bounds y m
  have a := pad_most (n := y) (w := 4) (k := 9) (by omega) (by decide) (by decide)
  have b := pad_most (n := m) (w := 2) (k := 2) (by omega) (by decide) (by decide)
  have c := pad_most (n := d) (w := 2) (k := 2) (by omega) (by decide) (by decide)
  rw [txt_size]; unfold dateL
  simp only [List.length_append, List.length_cons]; omega
theorem clockL_size {n : Nat} (h : n < 86400000) : (txt (clockL n)).size ≤ 20 := by
  have a := pad_most (n := n / 3600000) (w := 2) (k := 2) (by omega) (by decide) (by decide)
  have b := pad_most (n := n / 60000 % 60) (w := 2) (k := 2) (by omega) (by decide) (by decide)
  have c := pad_most (n := n / 1000 % 60) (w := 2) (k := 2) (by omega) (by decide) (by decide)
  have d := fracD_len 3 (n % 1000)
  rw [txt_size]; unfold clockL
  by_cases h1 : n % 60000 = 0
  · rw [if_pos h1]; simp only [List.length_append, List.length_cons, List.length_nil]; omega
  · rw [if_neg h1]
    by_cases h2 : n % 1000 = 0
    · rw [if_pos h2]; simp only [List.length_append, List.length_cons, List.length_nil]; omega
    · rw [if_neg h2]; simp only [List.length_append, List.length_cons]; omega

set_option maxHeartbeats 4000000 in
theorem refShow1_yes (n : Int) (k : Int) (y m d : Nat) (h : IsDay k y m d) (hN : k = n / 86400000) (h0 : n % 86400000 = 0) (w : World) (n1 : -9223372036854775808 ≤ n) (n2 : n ≤ 9223372036854775807) :
    Calls Tryz.prog 12 #[.int .i64 1, .int .i64 n] w fun e w' => e = .returned (.tuple #[.string (txt (dateL y m d)), .int .i64 0]) ∧ Below w.heap.size w w' := by
  have hL := fun w => refLeft_any n 86400000 w n1 n2 (by decide) (by decide)
  have HL := hide hL
  clear hL
  have hD := fun w => refDate_in k y m d w h
  unfold dayR at hD
  have hT := fun w => dayTxt_any y m d w (by have := h.y2; omega) (by have := h.m2; omega) (by have := h.d2; have := len_bounds y m; omega)
  have kb := h.bounds
  have HD := hide hD
  have HT := hide hT
  clear hD hT h
  rcases quo_cases n (s := 86400000) (by decide) with z | ⟨z, z0, zq⟩ | ⟨z, z0, zq⟩
  · obtain rfl : k = n / 86400000 := hN
    generalize n % 86400000 = r at *
    generalize (y : Int) = Y at *
    generalize (m : Int) = M at *
    generalize (d : Int) = D at *
    have r0 : (r == 0) = true := beq_yes (by omega)
    go_enter Tryz.func12, Tryz.ntmps12
    go_wp2_with fail
    refine (HL.out _).mono ?_
    rintro e u1 ⟨rfl, rfl⟩
    go_wp2_with fail
    refine (HD.out _).mono ?_
    rintro e v1 ⟨rfl, b1⟩
    go_wp2_with fail
    refine (HT.out _).mono ?_
    rintro e v2 ⟨rfl, g2⟩
    go_wp2_with fail
    go_ret2
    exact ⟨rfl, chain (chain_alloc b1 _) g2.below⟩
  · obtain rfl : k = n.tdiv 86400000 := hN.trans zq
    clear hN zq
    generalize n % 86400000 = r at *
    have z1 : r ≤ 0 := by omega
    have z2 : 0 ≤ r := by omega
    clear z0
    generalize (y : Int) = Y at *
    generalize (m : Int) = M at *
    generalize (d : Int) = D at *
    have r0 : (r == 0) = true := beq_yes (by omega)
    go_enter Tryz.func12, Tryz.ntmps12
    go_wp2_with fail
    refine (HL.out _).mono ?_
    rintro e u1 ⟨rfl, rfl⟩
    go_wp2_with fail
    refine (HD.out _).mono ?_
    rintro e v1 ⟨rfl, b1⟩
    go_wp2_with fail
    refine (HT.out _).mono ?_
    rintro e v2 ⟨rfl, g2⟩
    go_wp2_with fail
    go_ret2
    exact ⟨rfl, chain (chain_alloc b1 _) g2.below⟩
  · exfalso; omega

set_option maxHeartbeats 4000000 in
theorem refShow1_rest (n : Int) (k : Int) (hN : k = n / 86400000) (h0 : ¬ n % 86400000 = 0) (w : World) (n1 : -9223372036854775808 ≤ n) (n2 : n ≤ 9223372036854775807) :
    Calls Tryz.prog 12 #[.int .i64 1, .int .i64 n] w fun e w' => e = .returned (.tuple #[.string ⟨#[]⟩, .int .i64 2]) ∧ Below w.heap.size w w' := by
  have hL := fun w => refLeft_any n 86400000 w n1 n2 (by decide) (by decide)
  have HL := hide hL
  clear hL
  have rb := left_less (n := n) (s := 86400000) (by decide)
  have kb : -1000000000000 ≤ k ∧ k ≤ 1000000000000 := by omega
  have hD : ∃ a b c e : Int, ∀ w, Calls Tryz.prog 26 #[.int .i64 k] w fun x w' => x = .returned (.tuple #[.agg #[.int .i64 a, .int .i64 b, .int .i64 c], .int .i64 e]) ∧ Below w.heap.size w w' := by
    by_cases g : newV 1 ≤ k ∧ k < newV 275761
    · obtain ⟨y, m, d, hd⟩ := day_some g.1 g.2
      exact ⟨y, m, d, 0, fun w => refDate_in k y m d w hd⟩
    · exact ⟨0, 0, 0, 2, fun w => refDate_out k w (by omega)⟩
  obtain ⟨a, b, c, e, hD⟩ := hD
  have HD := hide hD
  clear hD
  by_cases e0 : (e == 0) = true
  · rcases quo_cases n (s := 86400000) (by decide) with z | ⟨z, z0, zq⟩ | ⟨z, z0, zq⟩
    · obtain rfl : k = n / 86400000 := hN
      generalize n % 86400000 = r at *
      have r0 : (r == 0) = false := beq_no (by omega)
      go_enter Tryz.func12, Tryz.ntmps12
      go_wp2_with fail
      refine (HL.out _).mono ?_
      rintro e u1 ⟨rfl, rfl⟩
      go_wp2_with fail
      refine (HD.out _).mono ?_
      rintro e v1 ⟨rfl, b1⟩
      go_wp2_with fail
      go_ret2
      exact ⟨rfl, chain_alloc b1 _⟩
    · exact absurd z0 h0
    · obtain rfl : k = n.tdiv 86400000 - 1 := hN.trans zq
      clear hN zq
      generalize n % 86400000 = r at *
      have r0 : (r == 0) = false := beq_no (by omega)
      go_enter Tryz.func12, Tryz.ntmps12
      go_wp2_with fail
      refine (HL.out _).mono ?_
      rintro e u1 ⟨rfl, rfl⟩
      go_wp2_with fail
      refine (HD.out _).mono ?_
      rintro e v1 ⟨rfl, b1⟩
      go_wp2_with fail
      go_ret2
      exact ⟨rfl, chain_alloc b1 _⟩
  · have e0 : (e == 0) = false := by simpa using e0
    rcases quo_cases n (s := 86400000) (by decide) with z | ⟨z, z0, zq⟩ | ⟨z, z0, zq⟩
    · obtain rfl : k = n / 86400000 := hN
      generalize n % 86400000 = r at *
      have r0 : (r == 0) = false := beq_no (by omega)
      go_enter Tryz.func12, Tryz.ntmps12
      go_wp2_with fail
      refine (HL.out _).mono ?_
      rintro e u1 ⟨rfl, rfl⟩
      go_wp2_with fail
      refine (HD.out _).mono ?_
      rintro e v1 ⟨rfl, b1⟩
      go_wp2_with fail
      go_ret2
      exact ⟨rfl, chain_alloc b1 _⟩
    · exact absurd z0 h0
    · obtain rfl : k = n.tdiv 86400000 - 1 := hN.trans zq
      clear hN zq
      generalize n % 86400000 = r at *
      have r0 : (r == 0) = false := beq_no (by omega)
      go_enter Tryz.func12, Tryz.ntmps12
      go_wp2_with fail
      refine (HL.out _).mono ?_
      rintro e u1 ⟨rfl, rfl⟩
      go_wp2_with fail
      refine (HD.out _).mono ?_
      rintro e v1 ⟨rfl, b1⟩
      go_wp2_with fail
      go_ret2
      exact ⟨rfl, chain_alloc b1 _⟩

set_option maxHeartbeats 4000000 in
theorem refShow1_out (n : Int) (k : Int) (hN : k = n / 86400000) (h0 : k < newV 1 ∨ newV 275761 ≤ k) (w : World) (n1 : -9223372036854775808 ≤ n) (n2 : n ≤ 9223372036854775807) :
    Calls Tryz.prog 12 #[.int .i64 1, .int .i64 n] w fun e w' => e = .returned (.tuple #[.string ⟨#[]⟩, .int .i64 2]) ∧ Below w.heap.size w w' := by
  have hL := fun w => refLeft_any n 86400000 w n1 n2 (by decide) (by decide)
  have HL := hide hL
  clear hL
  have rb := left_less (n := n) (s := 86400000) (by decide)
  have kb : -1000000000000 ≤ k ∧ k ≤ 1000000000000 := by omega
  have hD := fun w => refDate_out k w h0
  unfold dayR at hD
  have HD := hide hD
  clear hD h0
  rcases quo_cases n (s := 86400000) (by decide) with z | ⟨z, z0, zq⟩ | ⟨z, z0, zq⟩
  · obtain rfl : k = n / 86400000 := hN
    generalize n % 86400000 = r at *
    go_enter Tryz.func12, Tryz.ntmps12
    go_wp2_with fail
    refine (HL.out _).mono ?_
    rintro e u1 ⟨rfl, rfl⟩
    go_wp2_with fail
    refine (HD.out _).mono ?_
    rintro e v1 ⟨rfl, b1⟩
    go_wp2_with fail
    go_ret2
    exact ⟨rfl, chain_alloc b1 _⟩
  · obtain rfl : k = n.tdiv 86400000 := hN.trans zq
    clear hN zq
    generalize n % 86400000 = r at *
    have z1 : r ≤ 0 := by omega
    have z2 : 0 ≤ r := by omega
    clear z0
    go_enter Tryz.func12, Tryz.ntmps12
    go_wp2_with fail
    refine (HL.out _).mono ?_
    rintro e u1 ⟨rfl, rfl⟩
    go_wp2_with fail
    refine (HD.out _).mono ?_
    rintro e v1 ⟨rfl, b1⟩
    go_wp2_with fail
    go_ret2
    exact ⟨rfl, chain_alloc b1 _⟩
  · obtain rfl : k = n.tdiv 86400000 - 1 := hN.trans zq
    clear hN zq
    generalize n % 86400000 = r at *
    go_enter Tryz.func12, Tryz.ntmps12
    go_wp2_with fail
    refine (HL.out _).mono ?_
    rintro e u1 ⟨rfl, rfl⟩
    go_wp2_with fail
    refine (HD.out _).mono ?_
    rintro e v1 ⟨rfl, b1⟩
    go_wp2_with fail
    go_ret2
    exact ⟨rfl, chain_alloc b1 _⟩

set_option maxHeartbeats 4000000 in
theorem refShow5_yes (n : Int) (k : Int) (y m d r0 : Nat) (h : IsDay k y m d) (hN : k = n / 86400000) (h0 : n % 86400000 = r0) (hr0 : r0 < 86400000) (w : World) (n1 : -9223372036854775808 ≤ n) (n2 : n ≤ 9223372036854775807) :
    Calls Tryz.prog 12 #[.int .i64 5, .int .i64 n] w fun e w' => e = .returned (.tuple #[.string (txt (dateL y m d ++ 84 :: clockL r0)), .int .i64 0]) ∧ Below w.heap.size w w' := by
  have hL := fun w => refLeft_any n 86400000 w n1 n2 (by decide) (by decide)
  have HL := hide hL
  clear hL
  have hD := fun w => refDate_in k y m d w h
  unfold dayR at hD
  have hT := fun w => dayTxt_any y m d w (by have := h.y2; omega) (by have := h.m2; omega) (by have := h.d2; have := len_bounds y m; omega)
  have hC := fun w => clockTxt_any r0 w hr0
  rw [← h0] at hC
  have kb := h.bounds
  have z1 := dateL_size h
  have z2 := clockL_size hr0
  have z3 : (⟨#[84]⟩ : ByteArray).size = 1 := rfl
  have E : Hid (txt (dateL y m d ++ 84 :: clockL r0) = txt (dateL y m d) ++ ⟨#[84]⟩ ++ txt (clockL r0)) := by
    show _ = _
    rw [show (⟨#[84]⟩ : ByteArray) = txt [84] from rfl, txt_app, txt_app]; simp
  have rb := left_less (n := n) (s := 86400000) (by decide)
  generalize txt (dateL y m d) = A at *
  generalize txt (clockL r0) = B at *
  have HD := hide hD
  have HT := hide hT
  have HC := hide hC
  clear hD hT hC h h0 hr0
  rcases quo_cases n (s := 86400000) (by decide) with z | ⟨z, z0, zq⟩ | ⟨z, z0, zq⟩
  · obtain rfl : k = n / 86400000 := hN
    generalize n % 86400000 = r at *
    generalize (y : Int) = Y at *
    generalize (m : Int) = M at *
    generalize (d : Int) = D at *
    go_enter Tryz.func12, Tryz.ntmps12
    go_wp2_with fail
    refine (HL.out _).mono ?_
    rintro e u1 ⟨rfl, rfl⟩
    go_wp2_with fail
    refine (HD.out _).mono ?_
    rintro e v1 ⟨rfl, b1⟩
    go_wp2_with fail
    refine (HT.out _).mono ?_
    rintro e v2 ⟨rfl, g2⟩
    go_wp2_with fail
    refine (HC.out _).mono ?_
    rintro e v3 ⟨rfl, g3⟩
    go_wp2_with fail
    go_ret2
    exact ⟨ret_show E.out.symm, chain (chain (chain_alloc b1 _) g2.below) g3.below⟩
  · obtain rfl : k = n.tdiv 86400000 := hN.trans zq
    clear hN zq
    generalize n % 86400000 = r at *
    have z1 : r ≤ 0 := by omega
    have z2 : 0 ≤ r := by omega
    clear z0
    generalize (y : Int) = Y at *
    generalize (m : Int) = M at *
    generalize (d : Int) = D at *
    go_enter Tryz.func12, Tryz.ntmps12
    go_wp2_with fail
    refine (HL.out _).mono ?_
    rintro e u1 ⟨rfl, rfl⟩
    go_wp2_with fail
    refine (HD.out _).mono ?_
    rintro e v1 ⟨rfl, b1⟩
    go_wp2_with fail
    refine (HT.out _).mono ?_
    rintro e v2 ⟨rfl, g2⟩
    go_wp2_with fail
    refine (HC.out _).mono ?_
    rintro e v3 ⟨rfl, g3⟩
    go_wp2_with fail
    go_ret2
    exact ⟨ret_show E.out.symm, chain (chain (chain_alloc b1 _) g2.below) g3.below⟩
  · obtain rfl : k = n.tdiv 86400000 - 1 := hN.trans zq
    clear hN zq
    generalize n % 86400000 = r at *
    generalize (y : Int) = Y at *
    generalize (m : Int) = M at *
    generalize (d : Int) = D at *
    go_enter Tryz.func12, Tryz.ntmps12
    go_wp2_with fail
    refine (HL.out _).mono ?_
    rintro e u1 ⟨rfl, rfl⟩
    go_wp2_with fail
    refine (HD.out _).mono ?_
    rintro e v1 ⟨rfl, b1⟩
    go_wp2_with fail
    refine (HT.out _).mono ?_
    rintro e v2 ⟨rfl, g2⟩
    go_wp2_with fail
    refine (HC.out _).mono ?_
    rintro e v3 ⟨rfl, g3⟩
    go_wp2_with fail
    go_ret2
    exact ⟨ret_show E.out.symm, chain (chain (chain_alloc b1 _) g2.below) g3.below⟩

set_option maxHeartbeats 4000000 in
theorem refShow5_out (n : Int) (k : Int) (hN : k = n / 86400000) (h0 : k < newV 1 ∨ newV 275761 ≤ k) (w : World) (n1 : -9223372036854775808 ≤ n) (n2 : n ≤ 9223372036854775807) :
    Calls Tryz.prog 12 #[.int .i64 5, .int .i64 n] w fun e w' => e = .returned (.tuple #[.string ⟨#[]⟩, .int .i64 2]) ∧ Below w.heap.size w w' := by
  have hL := fun w => refLeft_any n 86400000 w n1 n2 (by decide) (by decide)
  have HL := hide hL
  clear hL
  have rb := left_less (n := n) (s := 86400000) (by decide)
  have kb : -1000000000000 ≤ k ∧ k ≤ 1000000000000 := by omega
  have hD := fun w => refDate_out k w h0
  unfold dayR at hD
  have HD := hide hD
  clear hD h0
  rcases quo_cases n (s := 86400000) (by decide) with z | ⟨z, z0, zq⟩ | ⟨z, z0, zq⟩
  · obtain rfl : k = n / 86400000 := hN
    generalize n % 86400000 = r at *
    go_enter Tryz.func12, Tryz.ntmps12
    go_wp2_with fail
    refine (HL.out _).mono ?_
    rintro e u1 ⟨rfl, rfl⟩
    go_wp2_with fail
    refine (HD.out _).mono ?_
    rintro e v1 ⟨rfl, b1⟩
    go_wp2_with fail
    go_ret2
    exact ⟨rfl, chain_alloc b1 _⟩
  · obtain rfl : k = n.tdiv 86400000 := hN.trans zq
    clear hN zq
    generalize n % 86400000 = r at *
    have z1 : r ≤ 0 := by omega
    have z2 : 0 ≤ r := by omega
    clear z0
    go_enter Tryz.func12, Tryz.ntmps12
    go_wp2_with fail
    refine (HL.out _).mono ?_
    rintro e u1 ⟨rfl, rfl⟩
    go_wp2_with fail
    refine (HD.out _).mono ?_
    rintro e v1 ⟨rfl, b1⟩
    go_wp2_with fail
    go_ret2
    exact ⟨rfl, chain_alloc b1 _⟩
  · obtain rfl : k = n.tdiv 86400000 - 1 := hN.trans zq
    clear hN zq
    generalize n % 86400000 = r at *
    go_enter Tryz.func12, Tryz.ntmps12
    go_wp2_with fail
    refine (HL.out _).mono ?_
    rintro e u1 ⟨rfl, rfl⟩
    go_wp2_with fail
    refine (HD.out _).mono ?_
    rintro e v1 ⟨rfl, b1⟩
    go_wp2_with fail
    go_ret2
    exact ⟨rfl, chain_alloc b1 _⟩

end Go.Proofs.YtekcbkicfoaheaaGreatDoor
