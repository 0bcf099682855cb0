/- The document's Show of moments. The document's Show of moments. The document's Show of moments. -/
import Derived.Test.YtfjfkkbgkjmghaaGreatDoorJct3

namespace Go.Proofs.YtfjfkkbgkjmghaaGreatDoor
open Go.RowKit Go.Sort
set_option maxRecDepth 100000
theorem quo_neg {n s : Int} (h : n < 0) (hs : 1 ≤ s) : (n % s = 0 → n / s = n.tdiv s) ∧ (0 < n % s → n / s = n.tdiv s - 1) := by
  have e := Int.emod_add_mul_ediv n s
  have f := Int.tmod_add_mul_tdiv n s
  have ⟨a1, a2⟩ := left_at (n := n) hs
  have b := left_less (n := n) hs
  have g := (show s * (n / s - n.tdiv s) = n.tmod s - n % s by rw [Int.mul_sub]; omega)
  constructor
  · intro h0
    rcases Int.lt_or_le (n.tmod s) 0 with x | x
    · have := a2 x; omega
    · have := a1 x
      have z : s * (n / s - n.tdiv s) = 0 := by omega
      rcases Int.mul_eq_zero.1 z with y | y
      · omega
      · omega
  · intro h0
    rcases Int.lt_or_le (n.tmod s) 0 with x | x
    · have := a2 x
      have z : s * (n / s - n.tdiv s + 1) = 0 := by rw [Int.mul_add, g]; omega
      rcases Int.mul_eq_zero.1 z with y | y
      · omega
      · omega
    · have y := a1 x
      have := left_bounds (n := n) (s := s) (by omega) h
      omega
/-- How a number of a day is told: a sign, and what is left. -/
theorem quo_cases (n : Int) {s : Int} (hs : 1 ≤ s) : (0 ≤ n) ∨ (n < 0 ∧ n % s = 0 ∧ n / s = n.tdiv s) ∨ (n < 0 ∧ 0 < n % s ∧ n / s = n.tdiv s - 1) := by
  by_cases h : 0 ≤ n
  · exact .inl h
  · have ⟨a, b⟩ := quo_neg (n := n) (s := s) (by omega) hs
    have c := left_less (n := n) hs
    by_cases z : n % s = 0
    · exact .inr (.inl ⟨by omega, z, a z⟩)
    · exact .inr (.inr ⟨by omega, by omega, b (by omega)⟩)
theorem chain_alloc {w v : World} (h : Below w.heap.size w v) (o : Obj) : Below w.heap.size w (v.alloc o) := h.alloc h.size o
theorem ret_show {a b : ByteArray} {e : Int} (h : a = b) : Ending.returned (.tuple #[.string a, .int .i64 e]) = .returned (.tuple #[.string b, .int .i64 e]) := by rw [h]
theorem dateL_size {k : Int} {y m d : Nat} (h : IsDay k y m d) : (txt (dateL y m d)).size ≤ 20 := by
  have := h.y2; have := h.m2; have := h.d2; have := len_bounds y m
  have a := pad_most (n := y) (w := 4) (k := 9) (by omega) (by decide) (by decide)
  have b := pad_most (n := m) (w := 2) (k := 2) (by omega) (by decide) (by decide)
  have c := pad_most (n := d) (w := 2) (k := 2) (by omega) (by decide) (by decide)
  rw [txt_size]; unfold dateL
  simp only [List.length_append, List.length_cons]; omega
theorem clockL_size {n : Nat} (h : n < 86400000) : (txt (clockL n)).size ≤ 20 := by
  have a := pad_most (n := n / 3600000) (w := 2) (k := 2) (by omega) (by decide) (by decide)
  have b := pad_most (n := n / 60000 % 60) (w := 2) (k := 2) (by omega) (by decide) (by decide)
  have c := pad_most (n := n / 1000 % 60) (w := 2) (k := 2) (by omega) (by decide) (by decide)
  have d := fracD_len 3 (n % 1000)
  rw [txt_size]; unfold clockL
  by_cases h1 : n % 60000 = 0
  · rw [if_pos h1]; simp only [List.length_append, List.length_cons, List.length_nil]; omega
  · rw [if_neg h1]
    by_cases h2 : n % 1000 = 0
    · rw [if_pos h2]; simp only [List.length_append, List.length_cons, List.length_nil]; omega
    · rw [if_neg h2]; simp only [List.length_append, List.length_cons]; omega
set_option maxHeartbeats 4000000 in
theorem refShow1_yes (n : Int) (k : Int) (y m d : Nat) (h : IsDay k y m d) (hN : k = n / 86400000) (h0 : n % 86400000 = 0) (w : World) (n1 : -9223372036854775808 ≤ n) (n2 : n ≤ 9223372036854775807) :
    Calls Tryz.prog 71 #[.int .i64 1, .int .i64 n] w fun e w' => e = .returned (.tuple #[.string (txt (dateL y m d)), .int .i64 0]) ∧ Below w.heap.size w w' := by
  have hL := fun w => refLeft_any n 86400000 w n1 n2 (by decide) (by decide)
  have HL := hide hL
  clear hL
  have hD := fun w => refDate_in k y m d w h
  unfold dayR at hD
  have hT := fun w => dayTxt_any y m d w (by have := h.y2; omega) (by have := h.m2; omega) (by have := h.d2; have := len_bounds y m; omega)
  have kb := h.bounds
  have HD := hide hD
  have HT := hide hT
  clear hD hT h
  rcases quo_cases n (s := 86400000) (by decide) with z | ⟨z, z0, zq⟩ | ⟨z, z0, zq⟩
  · obtain rfl : k = n / 86400000 := hN
    generalize n % 86400000 = r at *
    generalize (y : Int) = Y at *
    generalize (m : Int) = M at *
    generalize (d : Int) = D at *
    have r0 : (r == 0) = true := beq_yes (by omega)
    go_enter Tryz.func71, Tryz.ntmps71
    go_wp2_with fail
    refine (HL.out _).mono ?_
    rintro e u1 ⟨rfl, rfl⟩
    go_wp2_with fail
    refine (HD.out _).mono ?_
    rintro e v1 ⟨rfl, b1⟩
    go_wp2_with fail
    refine (HT.out _).mono ?_
    rintro e v2 ⟨rfl, g2⟩
    go_wp2_with fail
    go_ret2
    exact ⟨rfl, chain (chain_alloc b1 _) g2.below⟩
  · obtain rfl : k = n.tdiv 86400000 := hN.trans zq
    clear hN zq
    generalize n % 86400000 = r at *
    have z1 : r ≤ 0 := by omega
    have z2 : 0 ≤ r := by omega
    clear z0
    generalize (y : Int) = Y at *
    generalize (m : Int) = M at *
    generalize (d : Int) = D at *
    have r0 : (r == 0) = true := beq_yes (by omega)
    go_enter Tryz.func71, Tryz.ntmps71
    go_wp2_with fail
    refine (HL.out _).mono ?_
    rintro e u1 ⟨rfl, rfl⟩
    go_wp2_with fail
    refine (HD.out _).mono ?_
    rintro e v1 ⟨rfl, b1⟩
    go_wp2_with fail
    refine (HT.out _).mono ?_
    rintro e v2 ⟨rfl, g2⟩
    go_wp2_with fail
    go_ret2
    exact ⟨rfl, chain (chain_alloc b1 _) g2.below⟩
  · exfalso; omega
set_option maxHeartbeats 4000000 in
theorem refShow1_rest (n : Int) (k : Int) (hN : k = n / 86400000) (h0 : ¬ n % 86400000 = 0) (w : World) (n1 : -9223372036854775808 ≤ n) (n2 : n ≤ 9223372036854775807) :
    Calls Tryz.prog 71 #[.int .i64 1, .int .i64 n] w fun e w' => e = .returned (.tuple #[.string ⟨#[]⟩, .int .i64 2]) ∧ Below w.heap.size w w' := by
  have hL := fun w => refLeft_any n 86400000 w n1 n2 (by decide) (by decide)
  have HL := hide hL
  clear hL
  have rb := left_less (n := n) (s := 86400000) (by decide)
  have kb : -1000000000000 ≤ k ∧ k ≤ 1000000000000 := by omega
  have hD : ∃ a b c e : Int, ∀ w, Calls Tryz.prog 97 #[.int .i64 k] w fun x w' => x = .returned (.tuple #[.agg #[.int .i64 a, .int .i64 b, .int .i64 c], .int .i64 e]) ∧ Below w.heap.size w w' := by
    by_cases g : newV 1 ≤ k ∧ k < newV 275761
    · obtain ⟨y, m, d, hd⟩ := day_some g.1 g.2
      exact ⟨y, m, d, 0, fun w => refDate_in k y m d w hd⟩
    · exact ⟨0, 0, 0, 2, fun w => refDate_out k w (by omega)⟩
  obtain ⟨a, b, c, e, hD⟩ := hD
  have HD := hide hD
  clear hD
  by_cases e0 : (e == 0) = true
  · rcases quo_cases n (s := 86400000) (by decide) with z | ⟨z, z0, zq⟩ | ⟨z, z0, zq⟩
    · obtain rfl : k = n / 86400000 := hN
      generalize n % 86400000 = r at *
      have r0 : (r == 0) = false := beq_no (by omega)
      go_enter Tryz.func71, Tryz.ntmps71
      go_wp2_with fail
      refine (HL.out _).mono ?_
      rintro e u1 ⟨rfl, rfl⟩
      go_wp2_with fail
      refine (HD.out _).mono ?_
      rintro e v1 ⟨rfl, b1⟩
      go_wp2_with fail
      go_ret2
      exact ⟨rfl, chain_alloc b1 _⟩
    · exact absurd z0 h0
    · obtain rfl : k = n.tdiv 86400000 - 1 := hN.trans zq
      clear hN zq
      generalize n % 86400000 = r at *
      have r0 : (r == 0) = false := beq_no (by omega)
      go_enter Tryz.func71, Tryz.ntmps71
      go_wp2_with fail
      refine (HL.out _).mono ?_
      rintro e u1 ⟨rfl, rfl⟩
      go_wp2_with fail
      refine (HD.out _).mono ?_
      rintro e v1 ⟨rfl, b1⟩
      go_wp2_with fail
      go_ret2
      exact ⟨rfl, chain_alloc b1 _⟩
  · have e0 : (e == 0) = false := by simpa using e0
    rcases quo_cases n (s := 86400000) (by decide) with z | ⟨z, z0, zq⟩ | ⟨z, z0, zq⟩
    · obtain rfl : k = n / 86400000 := hN
      generalize n % 86400000 = r at *
      have r0 : (r == 0) = false := beq_no (by omega)
      go_enter Tryz.func71, Tryz.ntmps71
      go_wp2_with fail
      refine (HL.out _).mono ?_
      rintro e u1 ⟨rfl, rfl⟩
      go_wp2_with fail
      refine (HD.out _).mono ?_
      rintro e v1 ⟨rfl, b1⟩
      go_wp2_with fail
      go_ret2
      exact ⟨rfl, chain_alloc b1 _⟩
    · exact absurd z0 h0
    · obtain rfl : k = n.tdiv 86400000 - 1 := hN.trans zq
      clear hN zq
      generalize n % 86400000 = r at *
      have r0 : (r == 0) = false := beq_no (by omega)
      go_enter Tryz.func71, Tryz.ntmps71
      go_wp2_with fail
      refine (HL.out _).mono ?_
      rintro e u1 ⟨rfl, rfl⟩
      go_wp2_with fail
      refine (HD.out _).mono ?_
      rintro e v1 ⟨rfl, b1⟩
      go_wp2_with fail
      go_ret2
      exact ⟨rfl, chain_alloc b1 _⟩
set_option maxHeartbeats 4000000 in
theorem refShow1_out (n : Int) (k : Int) (hN : k = n / 86400000) (h0 : k < newV 1 ∨ newV 275761 ≤ k) (w : World) (n1 : -9223372036854775808 ≤ n) (n2 : n ≤ 9223372036854775807) :
    Calls Tryz.prog 71 #[.int .i64 1, .int .i64 n] w fun e w' => e = .returned (.tuple #[.string ⟨#[]⟩, .int .i64 2]) ∧ Below w.heap.size w w' := by
  have hL := fun w => refLeft_any n 86400000 w n1 n2 (by decide) (by decide)
  have HL := hide hL
  clear hL
  have rb := left_less (n := n) (s := 86400000) (by decide)
  have kb : -1000000000000 ≤ k ∧ k ≤ 1000000000000 := by omega
  have hD := fun w => refDate_out k w h0
  unfold dayR at hD
  have HD := hide hD
  clear hD h0
  rcases quo_cases n (s := 86400000) (by decide) with z | ⟨z, z0, zq⟩ | ⟨z, z0, zq⟩
  · obtain rfl : k = n / 86400000 := hN
    generalize n % 86400000 = r at *
    go_enter Tryz.func71, Tryz.ntmps71
    go_wp2_with fail
    refine (HL.out _).mono ?_
    rintro e u1 ⟨rfl, rfl⟩
    go_wp2_with fail
    refine (HD.out _).mono ?_
    rintro e v1 ⟨rfl, b1⟩
    go_wp2_with fail
    go_ret2
    exact ⟨rfl, chain_alloc b1 _⟩
  · obtain rfl : k = n.tdiv 86400000 := hN.trans zq
    clear hN zq
    generalize n % 86400000 = r at *
    have z1 : r ≤ 0 := by omega
    have z2 : 0 ≤ r := by omega
    clear z0
    go_enter Tryz.func71, Tryz.ntmps71
    go_wp2_with fail
    refine (HL.out _).mono ?_
    rintro e u1 ⟨rfl, rfl⟩
    go_wp2_with fail
    refine (HD.out _).mono ?_
    rintro e v1 ⟨rfl, b1⟩
    go_wp2_with fail
    go_ret2
    exact ⟨rfl, chain_alloc b1 _⟩
  · obtain rfl : k = n.tdiv 86400000 - 1 := hN.trans zq
    clear hN zq
    generalize n % 86400000 = r at *
    go_enter Tryz.func71, Tryz.ntmps71
    go_wp2_with fail
    refine (HL.out _).mono ?_
    rintro e u1 ⟨rfl, rfl⟩
    go_wp2_with fail
    refine (HD.out _).mono ?_
    rintro e v1 ⟨rfl, b1⟩
    go_wp2_with fail
    go_ret2
    exact ⟨rfl, chain_alloc b1 _⟩
set_option maxHeartbeats 4000000 in
theorem refShow5_yes (n : Int) (k : Int) (y m d r0 : Nat) (h : IsDay k y m d) (hN : k = n / 86400000) (h0 : n % 86400000 = r0) (hr0 : r0 < 86400000) (w : World) (n1 : -9223372036854775808 ≤ n) (n2 : n ≤ 9223372036854775807) :
    Calls Tryz.prog 71 #[.int .i64 5, .int .i64 n] w fun e w' => e = .returned (.tuple #[.string (txt (dateL y m d ++ 84 :: clockL r0)), .int .i64 0]) ∧ Below w.heap.size w w' := by
  have hL := fun w => refLeft_any n 86400000 w n1 n2 (by decide) (by decide)
  have HL := hide hL
  clear hL
  have hD := fun w => refDate_in k y m d w h
  unfold dayR at hD
  have hT := fun w => dayTxt_any y m d w (by have := h.y2; omega) (by have := h.m2; omega) (by have := h.d2; have := len_bounds y m; omega)
  have hC := fun w => clockTxt_any r0 w hr0
  rw [← h0] at hC
  have kb := h.bounds
  have z1 := dateL_size h
  have z2 := clockL_size hr0
  have z3 : (⟨#[84]⟩ : ByteArray).size = 1 := rfl
  have E : Hid (txt (dateL y m d ++ 84 :: clockL r0) = txt (dateL y m d) ++ ⟨#[84]⟩ ++ txt (clockL r0)) := by
    show _ = _
    rw [show (⟨#[84]⟩ : ByteArray) = txt [84] from rfl, txt_app, txt_app]; simp
  have rb := left_less (n := n) (s := 86400000) (by decide)
  generalize txt (dateL y m d) = A at *
  generalize txt (clockL r0) = B at *
  have HD := hide hD
  have HT := hide hT
  have HC := hide hC
  clear hD hT hC h h0 hr0
  rcases quo_cases n (s := 86400000) (by decide) with z | ⟨z, z0, zq⟩ | ⟨z, z0, zq⟩
  · obtain rfl : k = n / 86400000 := hN
    generalize n % 86400000 = r at *
    generalize (y : Int) = Y at *
    generalize (m : Int) = M at *
    generalize (d : Int) = D at *
    go_enter Tryz.func71, Tryz.ntmps71
    go_wp2_with fail
    refine (HL.out _).mono ?_
    rintro e u1 ⟨rfl, rfl⟩
    go_wp2_with fail
    refine (HD.out _).mono ?_
    rintro e v1 ⟨rfl, b1⟩
    go_wp2_with fail
    refine (HT.out _).mono ?_
    rintro e v2 ⟨rfl, g2⟩
    go_wp2_with fail
    refine (HC.out _).mono ?_
    rintro e v3 ⟨rfl, g3⟩
    go_wp2_with fail
    go_ret2
    exact ⟨ret_show E.out.symm, chain (chain (chain_alloc b1 _) g2.below) g3.below⟩
  · obtain rfl : k = n.tdiv 86400000 := hN.trans zq
    clear hN zq
    generalize n % 86400000 = r at *
    have z1 : r ≤ 0 := by omega
    have z2 : 0 ≤ r := by omega
    clear z0
    generalize (y : Int) = Y at *
    generalize (m : Int) = M at *
    generalize (d : Int) = D at *
    go_enter Tryz.func71, Tryz.ntmps71
    go_wp2_with fail
    refine (HL.out _).mono ?_
    rintro e u1 ⟨rfl, rfl⟩
    go_wp2_with fail
    refine (HD.out _).mono ?_
    rintro e v1 ⟨rfl, b1⟩
    go_wp2_with fail
    refine (HT.out _).mono ?_
    rintro e v2 ⟨rfl, g2⟩
    go_wp2_with fail
    refine (HC.out _).mono ?_
    rintro e v3 ⟨rfl, g3⟩
    go_wp2_with fail
    go_ret2
    exact ⟨ret_show E.out.symm, chain (chain (chain_alloc b1 _) g2.below) g3.below⟩
  · obtain rfl : k = n.tdiv 86400000 - 1 := hN.trans zq
    clear hN zq
    generalize n % 86400000 = r at *
    generalize (y : Int) = Y at *
    generalize (m : Int) = M at *
    generalize (d : Int) = D at *
    go_enter Tryz.func71, Tryz.ntmps71
    go_wp2_with fail
    refine (HL.out _).mono ?_
    rintro e u1 ⟨rfl, rfl⟩
    go_wp2_with fail
    refine (HD.out _).mono ?_
    rintro e v1 ⟨rfl, b1⟩
    go_wp2_with fail
    refine (HT.out _).mono ?_
    rintro e v2 ⟨rfl, g2⟩
    go_wp2_with fail
    refine (HC.out _).mono ?_
    rintro e v3 ⟨rfl, g3⟩
    go_wp2_with fail
    go_ret2
    exact ⟨ret_show E.out.symm, chain (chain (chain_alloc b1 _) g2.below) g3.below⟩
set_option maxHeartbeats 4000000 in
theorem refShow5_out (n : Int) (k : Int) (hN : k = n / 86400000) (h0 : k < newV 1 ∨ newV 275761 ≤ k) (w : World) (n1 : -9223372036854775808 ≤ n) (n2 : n ≤ 9223372036854775807) :
    Calls Tryz.prog 71 #[.int .i64 5, .int .i64 n] w fun e w' => e = .returned (.tuple #[.string ⟨#[]⟩, .int .i64 2]) ∧ Below w.heap.size w w' := by
  have hL := fun w => refLeft_any n 86400000 w n1 n2 (by decide) (by decide)
  have HL := hide hL
  clear hL
  have rb := left_less (n := n) (s := 86400000) (by decide)
  have kb : -1000000000000 ≤ k ∧ k ≤ 1000000000000 := by omega
  have hD := fun w => refDate_out k w h0
  unfold dayR at hD
  have HD := hide hD
  clear hD h0
  rcases quo_cases n (s := 86400000) (by decide) with z | ⟨z, z0, zq⟩ | ⟨z, z0, zq⟩
  · obtain rfl : k = n / 86400000 := hN
    generalize n % 86400000 = r at *
    go_enter Tryz.func71, Tryz.ntmps71
    go_wp2_with fail
    refine (HL.out _).mono ?_
    rintro e u1 ⟨rfl, rfl⟩
    go_wp2_with fail
    refine (HD.out _).mono ?_
    rintro e v1 ⟨rfl, b1⟩
    go_wp2_with fail
    go_ret2
    exact ⟨rfl, chain_alloc b1 _⟩
  · obtain rfl : k = n.tdiv 86400000 := hN.trans zq
    clear hN zq
    generalize n % 86400000 = r at *
    have z1 : r ≤ 0 := by omega
    have z2 : 0 ≤ r := by omega
    clear z0
    go_enter Tryz.func71, Tryz.ntmps71
    go_wp2_with fail
    refine (HL.out _).mono ?_
    rintro e u1 ⟨rfl, rfl⟩
    go_wp2_with fail
    refine (HD.out _).mono ?_
    rintro e v1 ⟨rfl, b1⟩
    go_wp2_with fail
    go_ret2
    exact ⟨rfl, chain_alloc b1 _⟩
  · obtain rfl : k = n.tdiv 86400000 - 1 := hN.trans zq
    clear hN zq
    generalize n % 86400000 = r at *
    go_enter Tryz.func71, Tryz.ntmps71
    go_wp2_with fail
    refine (HL.out _).mono ?_
    rintro e u1 ⟨rfl, rfl⟩
    go_wp2_with fail
    refine (HD.out _).mono ?_
    rintro e v1 ⟨rfl, b1⟩
    go_wp2_with fail
    go_ret2
    exact ⟨rfl, chain_alloc b1 _⟩
end Go.Proofs.YtfjfkkbgkjmghaaGreatDoor

namespace Go.Proofs.YtfjfkkbgkjmghaaGreatDoor
open Go.RowKit Go.Sort
set_option maxRecDepth 100000
/-- Whatever the document's Date answers. -/
theorem date_gen (k : Int) : ∃ a b c e : Int, ∀ w, Calls Tryz.prog 97 #[.int .i64 k] w fun x w' => x = .returned (.tuple #[.agg #[.int .i64 a, .int .i64 b, .int .i64 c], .int .i64 e]) ∧ Below w.heap.size w w' := by
  by_cases g : newV 1 ≤ k ∧ k < newV 275761
  · obtain ⟨y, m, d, hd⟩ := day_some g.1 g.2
    exact ⟨y, m, d, 0, fun w => refDate_in k y m d w hd⟩
  · exact ⟨0, 0, 0, 2, fun w => refDate_out k w (by omega)⟩
set_option maxHeartbeats 4000000 in
theorem refShow4_yes (n : Int) (k : Int) (r0 : Nat) (hN : k = n / 86400000) (h0 : n = r0) (hr0 : r0 < 86400000) (w : World) (n1 : -9223372036854775808 ≤ n) (n2 : n ≤ 9223372036854775807) :
    Calls Tryz.prog 71 #[.int .i64 4, .int .i64 n] w fun e w' => e = .returned (.tuple #[.string (txt (clockL r0)), .int .i64 0]) ∧ Below w.heap.size w w' := by
  have hL := fun w => refLeft_any n 86400000 w n1 n2 (by decide) (by decide)
  have HL := hide hL
  clear hL
  have rb := left_less (n := n) (s := 86400000) (by decide)
  have kb : -1000000000000 ≤ k ∧ k ≤ 1000000000000 := by omega
  obtain ⟨a, b, c, e, hD⟩ := date_gen k
  have HD := hide hD
  clear hD
  have hC := fun w => clockTxt_any r0 w hr0
  rw [← h0] at hC
  have z : 0 ≤ n := by omega
  have z9 : n < 86400000 := by omega
  have HC := hide hC
  clear hC h0
  obtain rfl : k = n / 86400000 := hN
  generalize n % 86400000 = r at *
  go_enter Tryz.func71, Tryz.ntmps71
  go_wp2_with fail
  refine (HL.out _).mono ?_
  rintro e u1 ⟨rfl, rfl⟩
  go_wp2_with fail
  refine (HD.out _).mono ?_
  rintro e v1 ⟨rfl, b1⟩
  go_wp2_with fail
  refine (HC.out _).mono ?_
  rintro e v2 ⟨rfl, g2⟩
  go_wp2_with fail
  go_ret2
  exact ⟨rfl, chain (chain_alloc b1 _) g2.below⟩
set_option maxHeartbeats 4000000 in
theorem refShow4_high (n : Int) (k : Int) (hN : k = n / 86400000) (h0 : 86400000 ≤ n) (w : World) (n1 : -9223372036854775808 ≤ n) (n2 : n ≤ 9223372036854775807) :
    Calls Tryz.prog 71 #[.int .i64 4, .int .i64 n] w fun e w' => e = .returned (.tuple #[.string ⟨#[]⟩, .int .i64 2]) ∧ Below w.heap.size w w' := by
  have hL := fun w => refLeft_any n 86400000 w n1 n2 (by decide) (by decide)
  have HL := hide hL
  clear hL
  have rb := left_less (n := n) (s := 86400000) (by decide)
  have kb : -1000000000000 ≤ k ∧ k ≤ 1000000000000 := by omega
  obtain ⟨a, b, c, e, hD⟩ := date_gen k
  have HD := hide hD
  clear hD
  have z : 0 ≤ n := by omega
  obtain rfl : k = n / 86400000 := hN
  generalize n % 86400000 = r at *
  go_enter Tryz.func71, Tryz.ntmps71
  go_wp2_with fail
  refine (HL.out _).mono ?_
  rintro e u1 ⟨rfl, rfl⟩
  go_wp2_with fail
  refine (HD.out _).mono ?_
  rintro e v1 ⟨rfl, b1⟩
  go_wp2_with fail
  go_ret2
  exact ⟨rfl, chain_alloc b1 _⟩
set_option maxHeartbeats 4000000 in
theorem refShow4_low (n : Int) (k : Int) (hN : k = n / 86400000) (h0 : n < 0) (w : World) (n1 : -9223372036854775808 ≤ n) (n2 : n ≤ 9223372036854775807) :
    Calls Tryz.prog 71 #[.int .i64 4, .int .i64 n] w fun e w' => e = .returned (.tuple #[.string ⟨#[]⟩, .int .i64 2]) ∧ Below w.heap.size w w' := by
  have hL := fun w => refLeft_any n 86400000 w n1 n2 (by decide) (by decide)
  have HL := hide hL
  clear hL
  have rb := left_less (n := n) (s := 86400000) (by decide)
  have kb : -1000000000000 ≤ k ∧ k ≤ 1000000000000 := by omega
  obtain ⟨a, b, c, e, hD⟩ := date_gen k
  have HD := hide hD
  clear hD
  rcases quo_cases n (s := 86400000) (by decide) with z | ⟨z, z0, zq⟩ | ⟨z, z0, zq⟩
  · exfalso; omega
  · obtain rfl : k = n.tdiv 86400000 := hN.trans zq
    clear hN zq
    generalize n % 86400000 = r at *
    have z1 : r ≤ 0 := by omega
    have z2 : 0 ≤ r := by omega
    clear z0
    go_enter Tryz.func71, Tryz.ntmps71
    go_wp2_with fail
    refine (HL.out _).mono ?_
    rintro e u1 ⟨rfl, rfl⟩
    go_wp2_with fail
    refine (HD.out _).mono ?_
    rintro e v1 ⟨rfl, b1⟩
    go_wp2_with fail
    go_ret2
    exact ⟨rfl, chain_alloc b1 _⟩
  · obtain rfl : k = n.tdiv 86400000 - 1 := hN.trans zq
    clear hN zq
    generalize n % 86400000 = r at *
    go_enter Tryz.func71, Tryz.ntmps71
    go_wp2_with fail
    refine (HL.out _).mono ?_
    rintro e u1 ⟨rfl, rfl⟩
    go_wp2_with fail
    refine (HD.out _).mono ?_
    rintro e v1 ⟨rfl, b1⟩
    go_wp2_with fail
    go_ret2
    exact ⟨rfl, chain_alloc b1 _⟩
set_option maxHeartbeats 4000000 in
theorem refShow2_yes (n : Int) (k j : Int) (y m : Nat) (hN : k = n / 86400000) (hJ : j = n / 12) (hy : j + 1970 = y) (hm : n % 12 + 1 = m) (y1 : 1 ≤ y) (y2 : y ≤ 275760) (w : World) (n1 : -9223372036854775808 ≤ n) (n2 : n ≤ 9223372036854775807) :
    Calls Tryz.prog 71 #[.int .i64 2, .int .i64 n] w fun e w' => e = .returned (.tuple #[.string (txt (monthL y m)), .int .i64 0]) ∧ Below w.heap.size w w' := by
  have hL := fun w => refLeft_any n 86400000 w n1 n2 (by decide) (by decide)
  have HL := hide hL
  clear hL
  have rb := left_less (n := n) (s := 86400000) (by decide)
  have kb : -1000000000000 ≤ k ∧ k ≤ 1000000000000 := by omega
  obtain ⟨a, b, c, e, hD⟩ := date_gen k
  have HD := hide hD
  clear hD
  have hM := fun w => refLeft_any n 12 w n1 n2 (by decide) (by decide)
  have HM := hide hM
  clear hM
  have mb := left_less (n := n) (s := 12) (by decide)
  have jb : -1000000000000000000 ≤ j ∧ j ≤ 1000000000000000000 := by omega
  have jc : -1969 ≤ j ∧ j ≤ 273790 := by omega
  have hP := fun w => pad_any y 4 w (by omega) (by decide)
  have hQ := fun w => pad_any m 2 w (by omega) (by decide)
  rw [← hy] at hP
  rw [← hm] at hQ
  have q1 : (txt (padL y 4)).size ≤ 9 := by rw [txt_size]; exact pad_most (k := 9) (by omega) (by decide) (by decide)
  have q2 : (txt (padL m 2)).size ≤ 2 := by rw [txt_size]; exact pad_most (k := 2) (by omega) (by decide) (by decide)
  have q3 : (⟨#[45]⟩ : ByteArray).size = 1 := rfl
  have E : Hid (txt (monthL y m) = txt (padL y 4) ++ ⟨#[45]⟩ ++ txt (padL m 2)) := by
    show _ = _
    unfold monthL
    rw [show (⟨#[45]⟩ : ByteArray) = txt [45] from rfl, txt_app, txt_app]; simp
  generalize txt (padL y 4) = A at *
  generalize txt (padL m 2) = B at *
  have HP := hide hP
  have HQ := hide hQ
  clear hP hQ hy hm
  rcases quo_cases n (s := 86400000) (by decide) with z | ⟨z, z0, zq⟩ | ⟨z, z0, zq⟩
  · obtain rfl : k = n / 86400000 := hN
    obtain rfl : j = n / 12 := hJ
    generalize n % 86400000 = r at *
    generalize n % 12 = M at *
    go_enter Tryz.func71, Tryz.ntmps71
    go_wp2_with fail
    refine (HL.out _).mono ?_
    rintro e u1 ⟨rfl, rfl⟩
    go_wp2_with fail
    refine (HD.out _).mono ?_
    rintro e v1 ⟨rfl, b1⟩
    go_wp2_with fail
    refine (HM.out _).mono ?_
    rintro e u1 ⟨rfl, rfl⟩
    go_wp2_with fail
    refine (HP.out _).mono ?_
    rintro e v2 ⟨rfl, g2⟩
    go_wp2_with fail
    refine (HQ.out _).mono ?_
    rintro e v3 ⟨rfl, g3⟩
    go_wp2_with fail
    go_ret2
    exact ⟨ret_show E.out.symm, chain (chain (chain_alloc b1 _) g2.below) g3.below⟩
  · obtain rfl : k = n.tdiv 86400000 := hN.trans zq
    clear hN zq
    generalize n % 86400000 = r at *
    have z1 : r ≤ 0 := by omega
    have z2 : 0 ≤ r := by omega
    clear z0
    rcases quo_cases n (s := 12) (by decide) with y | ⟨y, y0, yq⟩ | ⟨y, y0, yq⟩
    · exfalso; omega
    · obtain rfl : j = n.tdiv 12 := hJ.trans yq
      clear hJ yq
      generalize n % 12 = M at *
      have y1 : M ≤ 0 := by omega
      have y2 : 0 ≤ M := by omega
      clear y0
      go_enter Tryz.func71, Tryz.ntmps71
      go_wp2_with fail
      refine (HL.out _).mono ?_
      rintro e u1 ⟨rfl, rfl⟩
      go_wp2_with fail
      refine (HD.out _).mono ?_
      rintro e v1 ⟨rfl, b1⟩
      go_wp2_with fail
      refine (HM.out _).mono ?_
      rintro e u1 ⟨rfl, rfl⟩
      go_wp2_with fail
      refine (HP.out _).mono ?_
      rintro e v2 ⟨rfl, g2⟩
      go_wp2_with fail
      refine (HQ.out _).mono ?_
      rintro e v3 ⟨rfl, g3⟩
      go_wp2_with fail
      go_ret2
      exact ⟨ret_show E.out.symm, chain (chain (chain_alloc b1 _) g2.below) g3.below⟩
    · obtain rfl : j = n.tdiv 12 - 1 := hJ.trans yq
      clear hJ yq
      generalize n % 12 = M at *
      go_enter Tryz.func71, Tryz.ntmps71
      go_wp2_with fail
      refine (HL.out _).mono ?_
      rintro e u1 ⟨rfl, rfl⟩
      go_wp2_with fail
      refine (HD.out _).mono ?_
      rintro e v1 ⟨rfl, b1⟩
      go_wp2_with fail
      refine (HM.out _).mono ?_
      rintro e u1 ⟨rfl, rfl⟩
      go_wp2_with fail
      refine (HP.out _).mono ?_
      rintro e v2 ⟨rfl, g2⟩
      go_wp2_with fail
      refine (HQ.out _).mono ?_
      rintro e v3 ⟨rfl, g3⟩
      go_wp2_with fail
      go_ret2
      exact ⟨ret_show E.out.symm, chain (chain (chain_alloc b1 _) g2.below) g3.below⟩
  · obtain rfl : k = n.tdiv 86400000 - 1 := hN.trans zq
    clear hN zq
    generalize n % 86400000 = r at *
    rcases quo_cases n (s := 12) (by decide) with y | ⟨y, y0, yq⟩ | ⟨y, y0, yq⟩
    · exfalso; omega
    · obtain rfl : j = n.tdiv 12 := hJ.trans yq
      clear hJ yq
      generalize n % 12 = M at *
      have y1 : M ≤ 0 := by omega
      have y2 : 0 ≤ M := by omega
      clear y0
      go_enter Tryz.func71, Tryz.ntmps71
      go_wp2_with fail
      refine (HL.out _).mono ?_
      rintro e u1 ⟨rfl, rfl⟩
      go_wp2_with fail
      refine (HD.out _).mono ?_
      rintro e v1 ⟨rfl, b1⟩
      go_wp2_with fail
      refine (HM.out _).mono ?_
      rintro e u1 ⟨rfl, rfl⟩
      go_wp2_with fail
      refine (HP.out _).mono ?_
      rintro e v2 ⟨rfl, g2⟩
      go_wp2_with fail
      refine (HQ.out _).mono ?_
      rintro e v3 ⟨rfl, g3⟩
      go_wp2_with fail
      go_ret2
      exact ⟨ret_show E.out.symm, chain (chain (chain_alloc b1 _) g2.below) g3.below⟩
    · obtain rfl : j = n.tdiv 12 - 1 := hJ.trans yq
      clear hJ yq
      generalize n % 12 = M at *
      go_enter Tryz.func71, Tryz.ntmps71
      go_wp2_with fail
      refine (HL.out _).mono ?_
      rintro e u1 ⟨rfl, rfl⟩
      go_wp2_with fail
      refine (HD.out _).mono ?_
      rintro e v1 ⟨rfl, b1⟩
      go_wp2_with fail
      refine (HM.out _).mono ?_
      rintro e u1 ⟨rfl, rfl⟩
      go_wp2_with fail
      refine (HP.out _).mono ?_
      rintro e v2 ⟨rfl, g2⟩
      go_wp2_with fail
      refine (HQ.out _).mono ?_
      rintro e v3 ⟨rfl, g3⟩
      go_wp2_with fail
      go_ret2
      exact ⟨ret_show E.out.symm, chain (chain (chain_alloc b1 _) g2.below) g3.below⟩
set_option maxHeartbeats 4000000 in
theorem refShow2_low (n : Int) (k j : Int) (hN : k = n / 86400000) (hJ : j = n / 12) (h0 : j < -1969) (w : World) (n1 : -9223372036854775808 ≤ n) (n2 : n ≤ 9223372036854775807) :
    Calls Tryz.prog 71 #[.int .i64 2, .int .i64 n] w fun e w' => e = .returned (.tuple #[.string ⟨#[]⟩, .int .i64 2]) ∧ Below w.heap.size w w' := by
  have hL := fun w => refLeft_any n 86400000 w n1 n2 (by decide) (by decide)
  have HL := hide hL
  clear hL
  have rb := left_less (n := n) (s := 86400000) (by decide)
  have kb : -1000000000000 ≤ k ∧ k ≤ 1000000000000 := by omega
  obtain ⟨a, b, c, e, hD⟩ := date_gen k
  have HD := hide hD
  clear hD
  have hM := fun w => refLeft_any n 12 w n1 n2 (by decide) (by decide)
  have HM := hide hM
  clear hM
  have mb := left_less (n := n) (s := 12) (by decide)
  have jb : -1000000000000000000 ≤ j ∧ j ≤ 1000000000000000000 := by omega
  rcases quo_cases n (s := 86400000) (by decide) with z | ⟨z, z0, zq⟩ | ⟨z, z0, zq⟩
  · exfalso; omega
  · obtain rfl : k = n.tdiv 86400000 := hN.trans zq
    clear hN zq
    generalize n % 86400000 = r at *
    have z1 : r ≤ 0 := by omega
    have z2 : 0 ≤ r := by omega
    clear z0
    rcases quo_cases n (s := 12) (by decide) with y | ⟨y, y0, yq⟩ | ⟨y, y0, yq⟩
    · exfalso; omega
    · obtain rfl : j = n.tdiv 12 := hJ.trans yq
      clear hJ yq
      generalize n % 12 = M at *
      have y1 : M ≤ 0 := by omega
      have y2 : 0 ≤ M := by omega
      clear y0
      go_enter Tryz.func71, Tryz.ntmps71
      go_wp2_with fail
      refine (HL.out _).mono ?_
      rintro e u1 ⟨rfl, rfl⟩
      go_wp2_with fail
      refine (HD.out _).mono ?_
      rintro e v1 ⟨rfl, b1⟩
      go_wp2_with fail
      refine (HM.out _).mono ?_
      rintro e u1 ⟨rfl, rfl⟩
      go_wp2_with fail
      go_ret2
      exact ⟨rfl, chain_alloc b1 _⟩
    · obtain rfl : j = n.tdiv 12 - 1 := hJ.trans yq
      clear hJ yq
      generalize n % 12 = M at *
      go_enter Tryz.func71, Tryz.ntmps71
      go_wp2_with fail
      refine (HL.out _).mono ?_
      rintro e u1 ⟨rfl, rfl⟩
      go_wp2_with fail
      refine (HD.out _).mono ?_
      rintro e v1 ⟨rfl, b1⟩
      go_wp2_with fail
      refine (HM.out _).mono ?_
      rintro e u1 ⟨rfl, rfl⟩
      go_wp2_with fail
      go_ret2
      exact ⟨rfl, chain_alloc b1 _⟩
  · obtain rfl : k = n.tdiv 86400000 - 1 := hN.trans zq
    clear hN zq
    generalize n % 86400000 = r at *
    rcases quo_cases n (s := 12) (by decide) with y | ⟨y, y0, yq⟩ | ⟨y, y0, yq⟩
    · exfalso; omega
    · obtain rfl : j = n.tdiv 12 := hJ.trans yq
      clear hJ yq
      generalize n % 12 = M at *
      have y1 : M ≤ 0 := by omega
      have y2 : 0 ≤ M := by omega
      clear y0
      go_enter Tryz.func71, Tryz.ntmps71
      go_wp2_with fail
      refine (HL.out _).mono ?_
      rintro e u1 ⟨rfl, rfl⟩
      go_wp2_with fail
      refine (HD.out _).mono ?_
      rintro e v1 ⟨rfl, b1⟩
      go_wp2_with fail
      refine (HM.out _).mono ?_
      rintro e u1 ⟨rfl, rfl⟩
      go_wp2_with fail
      go_ret2
      exact ⟨rfl, chain_alloc b1 _⟩
    · obtain rfl : j = n.tdiv 12 - 1 := hJ.trans yq
      clear hJ yq
      generalize n % 12 = M at *
      go_enter Tryz.func71, Tryz.ntmps71
      go_wp2_with fail
      refine (HL.out _).mono ?_
      rintro e u1 ⟨rfl, rfl⟩
      go_wp2_with fail
      refine (HD.out _).mono ?_
      rintro e v1 ⟨rfl, b1⟩
      go_wp2_with fail
      refine (HM.out _).mono ?_
      rintro e u1 ⟨rfl, rfl⟩
      go_wp2_with fail
      go_ret2
      exact ⟨rfl, chain_alloc b1 _⟩
set_option maxHeartbeats 4000000 in
theorem refShow2_high (n : Int) (k j : Int) (hN : k = n / 86400000) (hJ : j = n / 12) (h0 : 273790 < j) (w : World) (n1 : -9223372036854775808 ≤ n) (n2 : n ≤ 9223372036854775807) :
    Calls Tryz.prog 71 #[.int .i64 2, .int .i64 n] w fun e w' => e = .returned (.tuple #[.string ⟨#[]⟩, .int .i64 2]) ∧ Below w.heap.size w w' := by
  have hL := fun w => refLeft_any n 86400000 w n1 n2 (by decide) (by decide)
  have HL := hide hL
  clear hL
  have rb := left_less (n := n) (s := 86400000) (by decide)
  have kb : -1000000000000 ≤ k ∧ k ≤ 1000000000000 := by omega
  obtain ⟨a, b, c, e, hD⟩ := date_gen k
  have HD := hide hD
  clear hD
  have hM := fun w => refLeft_any n 12 w n1 n2 (by decide) (by decide)
  have HM := hide hM
  clear hM
  have mb := left_less (n := n) (s := 12) (by decide)
  have jb : -1000000000000000000 ≤ j ∧ j ≤ 1000000000000000000 := by omega
  rcases quo_cases n (s := 86400000) (by decide) with z | ⟨z, z0, zq⟩ | ⟨z, z0, zq⟩
  · obtain rfl : k = n / 86400000 := hN
    obtain rfl : j = n / 12 := hJ
    generalize n % 86400000 = r at *
    generalize n % 12 = M at *
    go_enter Tryz.func71, Tryz.ntmps71
    go_wp2_with fail
    refine (HL.out _).mono ?_
    rintro e u1 ⟨rfl, rfl⟩
    go_wp2_with fail
    refine (HD.out _).mono ?_
    rintro e v1 ⟨rfl, b1⟩
    go_wp2_with fail
    refine (HM.out _).mono ?_
    rintro e u1 ⟨rfl, rfl⟩
    go_wp2_with fail
    go_ret2
    exact ⟨rfl, chain_alloc b1 _⟩
  · obtain rfl : k = n.tdiv 86400000 := hN.trans zq
    clear hN zq
    generalize n % 86400000 = r at *
    have z1 : r ≤ 0 := by omega
    have z2 : 0 ≤ r := by omega
    clear z0
    rcases quo_cases n (s := 12) (by decide) with y | ⟨y, y0, yq⟩ | ⟨y, y0, yq⟩
    · exfalso; omega
    · obtain rfl : j = n.tdiv 12 := hJ.trans yq
      clear hJ yq
      generalize n % 12 = M at *
      have y1 : M ≤ 0 := by omega
      have y2 : 0 ≤ M := by omega
      clear y0
      go_enter Tryz.func71, Tryz.ntmps71
      go_wp2_with fail
      refine (HL.out _).mono ?_
      rintro e u1 ⟨rfl, rfl⟩
      go_wp2_with fail
      refine (HD.out _).mono ?_
      rintro e v1 ⟨rfl, b1⟩
      go_wp2_with fail
      refine (HM.out _).mono ?_
      rintro e u1 ⟨rfl, rfl⟩
      go_wp2_with fail
      go_ret2
      exact ⟨rfl, chain_alloc b1 _⟩
    · obtain rfl : j = n.tdiv 12 - 1 := hJ.trans yq
      clear hJ yq
      generalize n % 12 = M at *
      go_enter Tryz.func71, Tryz.ntmps71
      go_wp2_with fail
      refine (HL.out _).mono ?_
      rintro e u1 ⟨rfl, rfl⟩
      go_wp2_with fail
      refine (HD.out _).mono ?_
      rintro e v1 ⟨rfl, b1⟩
      go_wp2_with fail
      refine (HM.out _).mono ?_
      rintro e u1 ⟨rfl, rfl⟩
      go_wp2_with fail
      go_ret2
      exact ⟨rfl, chain_alloc b1 _⟩
  · obtain rfl : k = n.tdiv 86400000 - 1 := hN.trans zq
    clear hN zq
    generalize n % 86400000 = r at *
    rcases quo_cases n (s := 12) (by decide) with y | ⟨y, y0, yq⟩ | ⟨y, y0, yq⟩
    · exfalso; omega
    · obtain rfl : j = n.tdiv 12 := hJ.trans yq
      clear hJ yq
      generalize n % 12 = M at *
      have y1 : M ≤ 0 := by omega
      have y2 : 0 ≤ M := by omega
      clear y0
      go_enter Tryz.func71, Tryz.ntmps71
      go_wp2_with fail
      refine (HL.out _).mono ?_
      rintro e u1 ⟨rfl, rfl⟩
      go_wp2_with fail
      refine (HD.out _).mono ?_
      rintro e v1 ⟨rfl, b1⟩
      go_wp2_with fail
      refine (HM.out _).mono ?_
      rintro e u1 ⟨rfl, rfl⟩
      go_wp2_with fail
      go_ret2
      exact ⟨rfl, chain_alloc b1 _⟩
    · obtain rfl : j = n.tdiv 12 - 1 := hJ.trans yq
      clear hJ yq
      generalize n % 12 = M at *
      go_enter Tryz.func71, Tryz.ntmps71
      go_wp2_with fail
      refine (HL.out _).mono ?_
      rintro e u1 ⟨rfl, rfl⟩
      go_wp2_with fail
      refine (HD.out _).mono ?_
      rintro e v1 ⟨rfl, b1⟩
      go_wp2_with fail
      refine (HM.out _).mono ?_
      rintro e u1 ⟨rfl, rfl⟩
      go_wp2_with fail
      go_ret2
      exact ⟨rfl, chain_alloc b1 _⟩
end Go.Proofs.YtfjfkkbgkjmghaaGreatDoor

namespace Go.Proofs.YtfjfkkbgkjmghaaGreatDoor
open Go.RowKit Go.Sort
set_option maxRecDepth 100000
/-- Whatever the document's Week answers. -/
theorem week_gen (k : Int) : ∃ a b c e : Int, ∀ w, Calls Tryz.prog 100 #[.int .i64 k] w fun x w' => x = .returned (.tuple #[.agg #[.int .i64 a, .int .i64 b, .int .i64 c], .int .i64 e]) ∧ Below w.heap.size w w' := by
  by_cases g : firstV 1 ≤ k ∧ k < firstV 275761
  · obtain ⟨y, y1, y2, hy⟩ := inWeeks_some g.1 g.2
    exact ⟨y, _, 0, 0, fun w => refWeek_in k y w y1 y2 hy⟩
  · exact ⟨0, 0, 0, 2, fun w => refWeek_out k w (by omega)⟩
set_option maxHeartbeats 4000000 in
theorem refShow3_yes (n : Int) (k : Int) (y v : Nat) (hN : k = n / 86400000) (h0 : n % 86400000 = 0) (hy : InWeeks k y) (y1 : 1 ≤ y) (y2 : y ≤ 275760) (hv : (v : Int) = weekV k y) (hw : wdayV k = 1) (w : World) (n1 : -9223372036854775808 ≤ n) (n2 : n ≤ 9223372036854775807) :
    Calls Tryz.prog 71 #[.int .i64 3, .int .i64 n] w fun e w' => e = .returned (.tuple #[.string (txt (weekL y v)), .int .i64 0]) ∧ Below w.heap.size w w' := by
  have hL := fun w => refLeft_any n 86400000 w n1 n2 (by decide) (by decide)
  have HL := hide hL
  clear hL
  have rb := left_less (n := n) (s := 86400000) (by decide)
  have kb : -1000000000000 ≤ k ∧ k ≤ 1000000000000 := by omega
  obtain ⟨a, b, c, e, hD⟩ := date_gen k
  have HD := hide hD
  clear hD
  have hW := fun w => refWeekday_any k w (by omega) (by omega)
  rw [hw] at hW
  have hmix : Tryz.prog.follows .mixedOrders = true := by kernel_rfl
  have hX := fun w => refWeek_in k y w (by omega) (by omega) hy
  unfold dayR at hX
  rw [← hv] at hX
  have ⟨v1, v2, _, _⟩ := week_is hy
  have v3 := (weeks_is y).2
  have hv2 : v < 100 := by omega
  have hP : ∀ w, Calls Tryz.prog 99 #[.int .i64 y, .int .i64 4] w fun e w' => e = .returned (.string (txt (padL y 4))) ∧ ∃ q os, w' = grow (w.drewN q) os := fun w => pad_any y 4 w (by omega) (by decide)
  have hQ : ∀ w, Calls Tryz.prog 99 #[.int .i64 v, .int .i64 2] w fun e w' => e = .returned (.string (txt (padL v 2))) ∧ ∃ q os, w' = grow (w.drewN q) os := fun w => pad_any v 2 w (by omega) (by decide)
  have q1 : (txt (padL y 4)).size ≤ 9 := by rw [txt_size]; exact pad_most (k := 9) (by omega) (by decide) (by decide)
  have q2 : (txt (padL v 2)).size ≤ 2 := by rw [txt_size]; exact pad_most (k := 2) (by omega) (by decide) (by decide)
  have q3 : (⟨#[45, 87]⟩ : ByteArray).size = 2 := rfl
  have E : Hid (txt (weekL y v) = txt (padL y 4) ++ ⟨#[45, 87]⟩ ++ txt (padL v 2)) := by
    show _ = _
    unfold weekL
    rw [show (⟨#[45, 87]⟩ : ByteArray) = txt [45, 87] from rfl, txt_app, txt_app]; simp
  generalize txt (padL y 4) = A at *
  generalize txt (padL v 2) = B at *
  have p1 := fun w => run_string_add_sum (P := Tryz.prog) w A ⟨#[45, 87]⟩ (by omega)
  have p2 := fun w => run_string_add_sum (P := Tryz.prog) w (A ++ ⟨#[45, 87]⟩) B (by rw [ByteArray.size_append]; omega)
  generalize A ++ ⟨#[45, 87]⟩ ++ B = s2 at *
  generalize A ++ ⟨#[45, 87]⟩ = s1 at *
  have hc0 := fun (u : World) => cell3 u (.int .i64 (y : Int)) (.int .i64 (v : Int)) (.int .i64 0) 96 0 _ rfl
  have hc1 := fun (u : World) => cell3 u (.int .i64 (y : Int)) (.int .i64 (v : Int)) (.int .i64 0) 96 1 _ rfl
  have HX := hide hX
  have HP := hide hP
  have HQ := hide hQ
  have HW := hide hW
  have P1 := hide p1
  have P2 := hide p2
  have C0 := hide hc0
  have C1 := hide hc1
  clear hX hP hQ hW p1 p2 hc0 hc1 q1 q2 q3 hv hv2 v1 v2 v3 hw hy y1 y2
  generalize (y : Int) = Y at *
  generalize (v : Int) = V at *
  rcases quo_cases n (s := 86400000) (by decide) with z | ⟨z, z0, zq⟩ | ⟨z, z0, zq⟩
  · obtain rfl : k = n / 86400000 := hN
    generalize n % 86400000 = r at *
    have r0 : (r == 0) = true := beq_yes (by omega)
    go_enter Tryz.func71, Tryz.ntmps71
    go_wp2_with fail
    refine (HL.out _).mono ?_
    rintro e u1 ⟨rfl, rfl⟩
    go_wp2_with fail
    refine (HD.out _).mono ?_
    rintro e v1 ⟨rfl, b1⟩
    go_wp2_with fail
    refine (HX.out _).mono ?_
    rintro e v2 ⟨rfl, b2⟩
    go_wp2_with fail
    refine (HW.out _).mono ?_
    rintro e u1 ⟨rfl, rfl⟩
    go_wp2_with fail
    have p1 := P1.out
    have p2 := P2.out
    have g0 := fun n os => cell_grown (by show v2.heap.size < _; simp) (C0.out v2) n os
    have g1 := fun n os => cell_grown (by show v2.heap.size < _; simp) (C1.out v2) n os
    clear P1 P2 C0 C1
    go_quiet_grown (first | with_reducible exact Calls.grown_of (HP.out _) | with_reducible exact Calls.grown_of (HQ.out _))
    go_wp2
    go_ret2
    exact ⟨ret_show E.out.symm, chain (chain_alloc (chain (chain_alloc b1 _) b2) _) (Grew.below ⟨nq, osq, rfl⟩)⟩
  · obtain rfl : k = n.tdiv 86400000 := hN.trans zq
    clear hN zq
    generalize n % 86400000 = r at *
    have z1 : r ≤ 0 := by omega
    have z2 : 0 ≤ r := by omega
    clear z0
    have r0 : (r == 0) = true := beq_yes (by omega)
    go_enter Tryz.func71, Tryz.ntmps71
    go_wp2_with fail
    refine (HL.out _).mono ?_
    rintro e u1 ⟨rfl, rfl⟩
    go_wp2_with fail
    refine (HD.out _).mono ?_
    rintro e v1 ⟨rfl, b1⟩
    go_wp2_with fail
    refine (HX.out _).mono ?_
    rintro e v2 ⟨rfl, b2⟩
    go_wp2_with fail
    refine (HW.out _).mono ?_
    rintro e u1 ⟨rfl, rfl⟩
    go_wp2_with fail
    have p1 := P1.out
    have p2 := P2.out
    have g0 := fun n os => cell_grown (by show v2.heap.size < _; simp) (C0.out v2) n os
    have g1 := fun n os => cell_grown (by show v2.heap.size < _; simp) (C1.out v2) n os
    clear P1 P2 C0 C1
    go_quiet_grown (first | with_reducible exact Calls.grown_of (HP.out _) | with_reducible exact Calls.grown_of (HQ.out _))
    go_wp2
    go_ret2
    exact ⟨ret_show E.out.symm, chain (chain_alloc (chain (chain_alloc b1 _) b2) _) (Grew.below ⟨nq, osq, rfl⟩)⟩
  · exfalso; omega
set_option maxHeartbeats 4000000 in
theorem refShow3_rest (n : Int) (k : Int) (hN : k = n / 86400000) (h0 : ¬ n % 86400000 = 0) (w : World) (n1 : -9223372036854775808 ≤ n) (n2 : n ≤ 9223372036854775807) :
    Calls Tryz.prog 71 #[.int .i64 3, .int .i64 n] w fun e w' => e = .returned (.tuple #[.string ⟨#[]⟩, .int .i64 2]) ∧ Below w.heap.size w w' := by
  have hL := fun w => refLeft_any n 86400000 w n1 n2 (by decide) (by decide)
  have HL := hide hL
  clear hL
  have rb := left_less (n := n) (s := 86400000) (by decide)
  have kb : -1000000000000 ≤ k ∧ k ≤ 1000000000000 := by omega
  obtain ⟨a, b, c, e, hD⟩ := date_gen k
  have HD := hide hD
  clear hD
  obtain ⟨a', b', c', e', hX⟩ := week_gen k
  have HX := hide hX
  clear hX
  by_cases e0 : (e' == 0) = true
  · rcases quo_cases n (s := 86400000) (by decide) with z | ⟨z, z0, zq⟩ | ⟨z, z0, zq⟩
    · obtain rfl : k = n / 86400000 := hN
      generalize n % 86400000 = r at *
      have r0 : (r == 0) = false := beq_no (by omega)
      go_enter Tryz.func71, Tryz.ntmps71
      go_wp2_with fail
      refine (HL.out _).mono ?_
      rintro e u1 ⟨rfl, rfl⟩
      go_wp2_with fail
      refine (HD.out _).mono ?_
      rintro e v1 ⟨rfl, b1⟩
      go_wp2_with fail
      refine (HX.out _).mono ?_
      rintro e v2 ⟨rfl, b2⟩
      go_wp2_with fail
      go_ret2
      exact ⟨rfl, chain_alloc (chain (chain_alloc b1 _) b2) _⟩
    · exact absurd z0 h0
    · obtain rfl : k = n.tdiv 86400000 - 1 := hN.trans zq
      clear hN zq
      generalize n % 86400000 = r at *
      have r0 : (r == 0) = false := beq_no (by omega)
      go_enter Tryz.func71, Tryz.ntmps71
      go_wp2_with fail
      refine (HL.out _).mono ?_
      rintro e u1 ⟨rfl, rfl⟩
      go_wp2_with fail
      refine (HD.out _).mono ?_
      rintro e v1 ⟨rfl, b1⟩
      go_wp2_with fail
      refine (HX.out _).mono ?_
      rintro e v2 ⟨rfl, b2⟩
      go_wp2_with fail
      go_ret2
      exact ⟨rfl, chain_alloc (chain (chain_alloc b1 _) b2) _⟩
  · have e0 : (e' == 0) = false := by simpa using e0
    rcases quo_cases n (s := 86400000) (by decide) with z | ⟨z, z0, zq⟩ | ⟨z, z0, zq⟩
    · obtain rfl : k = n / 86400000 := hN
      generalize n % 86400000 = r at *
      have r0 : (r == 0) = false := beq_no (by omega)
      go_enter Tryz.func71, Tryz.ntmps71
      go_wp2_with fail
      refine (HL.out _).mono ?_
      rintro e u1 ⟨rfl, rfl⟩
      go_wp2_with fail
      refine (HD.out _).mono ?_
      rintro e v1 ⟨rfl, b1⟩
      go_wp2_with fail
      refine (HX.out _).mono ?_
      rintro e v2 ⟨rfl, b2⟩
      go_wp2_with fail
      go_ret2
      exact ⟨rfl, chain_alloc (chain (chain_alloc b1 _) b2) _⟩
    · exact absurd z0 h0
    · obtain rfl : k = n.tdiv 86400000 - 1 := hN.trans zq
      clear hN zq
      generalize n % 86400000 = r at *
      have r0 : (r == 0) = false := beq_no (by omega)
      go_enter Tryz.func71, Tryz.ntmps71
      go_wp2_with fail
      refine (HL.out _).mono ?_
      rintro e u1 ⟨rfl, rfl⟩
      go_wp2_with fail
      refine (HD.out _).mono ?_
      rintro e v1 ⟨rfl, b1⟩
      go_wp2_with fail
      refine (HX.out _).mono ?_
      rintro e v2 ⟨rfl, b2⟩
      go_wp2_with fail
      go_ret2
      exact ⟨rfl, chain_alloc (chain (chain_alloc b1 _) b2) _⟩
set_option maxHeartbeats 4000000 in
theorem refShow3_out (n : Int) (k : Int) (hN : k = n / 86400000) (h0 : k < firstV 1 ∨ firstV 275761 ≤ k) (w : World) (n1 : -9223372036854775808 ≤ n) (n2 : n ≤ 9223372036854775807) :
    Calls Tryz.prog 71 #[.int .i64 3, .int .i64 n] w fun e w' => e = .returned (.tuple #[.string ⟨#[]⟩, .int .i64 2]) ∧ Below w.heap.size w w' := by
  have hL := fun w => refLeft_any n 86400000 w n1 n2 (by decide) (by decide)
  have HL := hide hL
  clear hL
  have rb := left_less (n := n) (s := 86400000) (by decide)
  have kb : -1000000000000 ≤ k ∧ k ≤ 1000000000000 := by omega
  obtain ⟨a, b, c, e, hD⟩ := date_gen k
  have HD := hide hD
  clear hD
  have hX := fun w => refWeek_out k w h0
  unfold dayR at hX
  have HX := hide hX
  clear hX h0
  rcases quo_cases n (s := 86400000) (by decide) with z | ⟨z, z0, zq⟩ | ⟨z, z0, zq⟩
  · obtain rfl : k = n / 86400000 := hN
    generalize n % 86400000 = r at *
    go_enter Tryz.func71, Tryz.ntmps71
    go_wp2_with fail
    refine (HL.out _).mono ?_
    rintro e u1 ⟨rfl, rfl⟩
    go_wp2_with fail
    refine (HD.out _).mono ?_
    rintro e v1 ⟨rfl, b1⟩
    go_wp2_with fail
    refine (HX.out _).mono ?_
    rintro e v2 ⟨rfl, b2⟩
    go_wp2_with fail
    go_ret2
    exact ⟨rfl, chain_alloc (chain (chain_alloc b1 _) b2) _⟩
  · obtain rfl : k = n.tdiv 86400000 := hN.trans zq
    clear hN zq
    generalize n % 86400000 = r at *
    have z1 : r ≤ 0 := by omega
    have z2 : 0 ≤ r := by omega
    clear z0
    go_enter Tryz.func71, Tryz.ntmps71
    go_wp2_with fail
    refine (HL.out _).mono ?_
    rintro e u1 ⟨rfl, rfl⟩
    go_wp2_with fail
    refine (HD.out _).mono ?_
    rintro e v1 ⟨rfl, b1⟩
    go_wp2_with fail
    refine (HX.out _).mono ?_
    rintro e v2 ⟨rfl, b2⟩
    go_wp2_with fail
    go_ret2
    exact ⟨rfl, chain_alloc (chain (chain_alloc b1 _) b2) _⟩
  · obtain rfl : k = n.tdiv 86400000 - 1 := hN.trans zq
    clear hN zq
    generalize n % 86400000 = r at *
    go_enter Tryz.func71, Tryz.ntmps71
    go_wp2_with fail
    refine (HL.out _).mono ?_
    rintro e u1 ⟨rfl, rfl⟩
    go_wp2_with fail
    refine (HD.out _).mono ?_
    rintro e v1 ⟨rfl, b1⟩
    go_wp2_with fail
    refine (HX.out _).mono ?_
    rintro e v2 ⟨rfl, b2⟩
    go_wp2_with fail
    go_ret2
    exact ⟨rfl, chain_alloc (chain (chain_alloc b1 _) b2) _⟩
set_option maxHeartbeats 4000000 in
theorem refShow3_wday (n : Int) (k : Int) (hN : k = n / 86400000) (h0 : n % 86400000 = 0) (hw : ¬ wdayV k = 1) (w : World) (n1 : -9223372036854775808 ≤ n) (n2 : n ≤ 9223372036854775807) :
    Calls Tryz.prog 71 #[.int .i64 3, .int .i64 n] w fun e w' => e = .returned (.tuple #[.string ⟨#[]⟩, .int .i64 2]) ∧ Below w.heap.size w w' := by
  have hL := fun w => refLeft_any n 86400000 w n1 n2 (by decide) (by decide)
  have HL := hide hL
  clear hL
  have rb := left_less (n := n) (s := 86400000) (by decide)
  have kb : -1000000000000 ≤ k ∧ k ≤ 1000000000000 := by omega
  obtain ⟨a, b, c, e, hD⟩ := date_gen k
  have HD := hide hD
  clear hD
  have hW := fun w => refWeekday_any k w (by omega) (by omega)
  obtain ⟨a', b', c', e', hX⟩ := week_gen k
  have HX := hide hX
  clear hX
  have d0 := beq_no hw
  generalize wdayV k = d at *
  have HW := hide hW
  clear hW hw
  by_cases e0 : (e' == 0) = true
  · rcases quo_cases n (s := 86400000) (by decide) with z | ⟨z, z0, zq⟩ | ⟨z, z0, zq⟩
    · obtain rfl : k = n / 86400000 := hN
      generalize n % 86400000 = r at *
      have r0 : (r == 0) = true := beq_yes (by omega)
      go_enter Tryz.func71, Tryz.ntmps71
      go_wp2_with fail
      refine (HL.out _).mono ?_
      rintro e u1 ⟨rfl, rfl⟩
      go_wp2_with fail
      refine (HD.out _).mono ?_
      rintro e v1 ⟨rfl, b1⟩
      go_wp2_with fail
      refine (HX.out _).mono ?_
      rintro e v2 ⟨rfl, b2⟩
      go_wp2_with fail
      refine (HW.out _).mono ?_
      rintro e u1 ⟨rfl, rfl⟩
      go_wp2_with fail
      go_ret2
      exact ⟨rfl, chain_alloc (chain (chain_alloc b1 _) b2) _⟩
    · obtain rfl : k = n.tdiv 86400000 := hN.trans zq
      clear hN zq
      generalize n % 86400000 = r at *
      have z1 : r ≤ 0 := by omega
      have z2 : 0 ≤ r := by omega
      clear z0
      have r0 : (r == 0) = true := beq_yes (by omega)
      go_enter Tryz.func71, Tryz.ntmps71
      go_wp2_with fail
      refine (HL.out _).mono ?_
      rintro e u1 ⟨rfl, rfl⟩
      go_wp2_with fail
      refine (HD.out _).mono ?_
      rintro e v1 ⟨rfl, b1⟩
      go_wp2_with fail
      refine (HX.out _).mono ?_
      rintro e v2 ⟨rfl, b2⟩
      go_wp2_with fail
      refine (HW.out _).mono ?_
      rintro e u1 ⟨rfl, rfl⟩
      go_wp2_with fail
      go_ret2
      exact ⟨rfl, chain_alloc (chain (chain_alloc b1 _) b2) _⟩
    · exfalso; omega
  · have e0 : (e' == 0) = false := by simpa using e0
    rcases quo_cases n (s := 86400000) (by decide) with z | ⟨z, z0, zq⟩ | ⟨z, z0, zq⟩
    · obtain rfl : k = n / 86400000 := hN
      generalize n % 86400000 = r at *
      have r0 : (r == 0) = true := beq_yes (by omega)
      go_enter Tryz.func71, Tryz.ntmps71
      go_wp2_with fail
      refine (HL.out _).mono ?_
      rintro e u1 ⟨rfl, rfl⟩
      go_wp2_with fail
      refine (HD.out _).mono ?_
      rintro e v1 ⟨rfl, b1⟩
      go_wp2_with fail
      refine (HX.out _).mono ?_
      rintro e v2 ⟨rfl, b2⟩
      go_wp2_with fail
      go_ret2
      exact ⟨rfl, chain_alloc (chain (chain_alloc b1 _) b2) _⟩
    · obtain rfl : k = n.tdiv 86400000 := hN.trans zq
      clear hN zq
      generalize n % 86400000 = r at *
      have z1 : r ≤ 0 := by omega
      have z2 : 0 ≤ r := by omega
      clear z0
      have r0 : (r == 0) = true := beq_yes (by omega)
      go_enter Tryz.func71, Tryz.ntmps71
      go_wp2_with fail
      refine (HL.out _).mono ?_
      rintro e u1 ⟨rfl, rfl⟩
      go_wp2_with fail
      refine (HD.out _).mono ?_
      rintro e v1 ⟨rfl, b1⟩
      go_wp2_with fail
      refine (HX.out _).mono ?_
      rintro e v2 ⟨rfl, b2⟩
      go_wp2_with fail
      go_ret2
      exact ⟨rfl, chain_alloc (chain (chain_alloc b1 _) b2) _⟩
    · exfalso; omega
/-- A number that has a text. -/
theorem refShow_yes {kind n : Int} {t : List UInt8} (h : ShowIs kind n t) (w : World) (n1 : -9223372036854775808 ≤ n) (n2 : n ≤ 9223372036854775807) :
    Calls Tryz.prog 71 #[.int .i64 kind, .int .i64 n] w fun e w' => e = .returned (.tuple #[.string (txt t), .int .i64 0]) ∧ Below w.heap.size w w' := by
  rcases h with ⟨rfl, k, y, m, d, hd, e, rfl⟩ | ⟨rfl, y, m, y1, y2, m1, m2, e, rfl⟩ | ⟨rfl, y, k, y1, y2, k1, k2, e, rfl⟩ | ⟨rfl, k, hk, e, rfl⟩ | ⟨rfl, k, y, m, d, r, hd, hr, e, rfl⟩
  · exact refShow1_yes n k y m d hd (by omega) (by omega) w n1 n2
  · exact refShow2_yes n _ _ y m rfl rfl (by omega) (by omega) y1 y2 w n1 n2
  · have hy : InWeeks (firstV y + 7 * ((k : Int) - 1)) y := by
      have := (weeks_is y).1
      exact ⟨by omega, by omega⟩
    have f := first_monday y
    exact refShow3_yes n _ y k (by omega) (by omega) hy y1 y2 (by unfold weekV; omega) (by unfold wdayV at *; omega) w n1 n2
  · exact refShow4_yes n _ k rfl e hk w n1 n2
  · exact refShow5_yes n k y m d r hd (by omega) (by omega) hr w n1 n2
/-- A number that has none. -/
theorem refShow_no {kind n : Int} (h : ShowNo kind n) (w : World) (n1 : -9223372036854775808 ≤ n) (n2 : n ≤ 9223372036854775807) :
    Calls Tryz.prog 71 #[.int .i64 kind, .int .i64 n] w fun e w' => e = .returned (.tuple #[.string ⟨#[]⟩, .int .i64 2]) ∧ Below w.heap.size w w' := by
  rcases h with ⟨rfl, h | h⟩ | ⟨rfl, h | h⟩ | ⟨rfl, h | h⟩ | ⟨rfl, h | h⟩ | ⟨rfl, h⟩
  · exact refShow1_rest n _ rfl h w n1 n2
  · exact refShow1_out n _ rfl h w n1 n2
  · exact refShow2_low n _ _ rfl rfl h w n1 n2
  · exact refShow2_high n _ _ rfl rfl h w n1 n2
  · exact refShow3_rest n _ rfl h w n1 n2
  · by_cases r : n % 86400000 = 0
    · rcases h with h | h | h
      · exact refShow3_out n _ rfl (.inl h) w n1 n2
      · exact refShow3_out n _ rfl (.inr h) w n1 n2
      · exact refShow3_wday n _ rfl r h w n1 n2
    · exact refShow3_rest n _ rfl r w n1 n2
  · exact refShow4_low n _ rfl h w n1 n2
  · exact refShow4_high n _ rfl h w n1 n2
  · exact refShow5_out n _ rfl h w n1 n2

end Go.Proofs.YtfjfkkbgkjmghaaGreatDoor
