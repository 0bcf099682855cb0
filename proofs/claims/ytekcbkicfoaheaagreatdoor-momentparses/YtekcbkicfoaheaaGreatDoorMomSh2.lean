/- The document's Show of moments: months and times. Condition: numbers of 64 bits. -/
import Derived.Test.YtekcbkicfoaheaaGreatDoorMomSh1
namespace Go.Proofs.YtekcbkicfoaheaaGreatDoor
open Go.RowKit Go.Sort

/-- Whatever the document's Date answers. -/
theorem date_gen (k : Int) : ∃ a b c e : Int, ∀ w, Calls Tryz.prog 26 #[.int .i64 k] w fun x w' => x = .returned (.tuple #[.agg #[.int .i64 a, .int .i64 b, .int .i64 c], .int .i64 e]) ∧ Below w.heap.size w w' := by
  by_cases g : newV 1 ≤ k ∧ k < newV 275761
  · obtain ⟨y, m, d, hd⟩ := day_some g.1 g.2
    exact ⟨y, m, d, 0, fun w => refDate_in k y m d w hd⟩
  · exact ⟨0, 0, 0, 2, fun w => refDate_out k w (by omega)⟩

set_option maxHeartbeats 4000000 in
theorem refShow4_yes (n : Int) (k : Int) (r0 : Nat) (hN : k = n / 86400000) (h0 : n = r0) (hr0 : r0 < 86400000) (w : World) (n1 : -9223372036854775808 ≤ n) (n2 : n ≤ 9223372036854775807) :
    Calls Tryz.prog 12 #[.int .i64 4, .int .i64 n] w fun e w' => e = .returned (.tuple #[.string (txt (clockL r0)), .int .i64 0]) ∧ Below w.heap.size w w' := by
  have hL := fun w => refLeft_any n 86400000 w n1 n2 (by decide) (by decide)
  have HL := hide hL
  clear hL
  have rb := left_less (n := n) (s := 86400000) (by decide)
  have kb : -1000000000000 ≤ k ∧ k ≤ 1000000000000 := by omega
  obtain ⟨a, b, c, e, hD⟩ := date_gen k
  have HD := hide hD
  clear hD
  have hC := fun w => clockTxt_any r0 w hr0
  rw [← h0] at hC
  have z : 0 ≤ n := by omega
  have z9 : n < 86400000 := by omega
  have HC := hide hC
  clear hC h0
  obtain rfl : k = n / 86400000 := hN
  generalize n % 86400000 = r at *
  go_enter Tryz.func12, Tryz.ntmps12
  go_wp2_with fail
  refine (HL.out _).mono ?_
  rintro e u1 ⟨rfl, rfl⟩
  go_wp2_with fail
  refine (HD.out _).mono ?_
  rintro e v1 ⟨rfl, b1⟩
  go_wp2_with fail
  refine (HC.out _).mono ?_
  rintro e v2 ⟨rfl, g2⟩
  go_wp2_with fail
  go_ret2
  exact ⟨rfl, chain (chain_alloc b1 _) g2.below⟩

set_option maxHeartbeats 4000000 in
theorem refShow4_high (n : Int) (k : Int) (hN : k = n / 86400000) (h0 : 86400000 ≤ n) (w : World) (n1 : -9223372036854775808 ≤ n) (n2 : n ≤ 9223372036854775807) :
    Calls Tryz.prog 12 #[.int .i64 4, .int .i64 n] w fun e w' => e = .returned (.tuple #[.string ⟨#[]⟩, .int .i64 2]) ∧ Below w.heap.size w w' := by
  have hL := fun w => refLeft_any n 86400000 w n1 n2 (by decide) (by decide)
  have HL := hide hL
  clear hL
  have rb := left_less (n := n) (s := 86400000) (by decide)
  have kb : -1000000000000 ≤ k ∧ k ≤ 1000000000000 := by omega
  obtain ⟨a, b, c, e, hD⟩ := date_gen k
  have HD := hide hD
  clear hD
  have z : 0 ≤ n := by omega
  obtain rfl : k = n / 86400000 := hN
  generalize n % 86400000 = r at *
  go_enter Tryz.func12, Tryz.ntmps12
  go_wp2_with fail
  refine (HL.out _).mono ?_
  rintro e u1 ⟨rfl, rfl⟩
  go_wp2_with fail
  refine (HD.out _).mono ?_
  rintro e v1 ⟨rfl, b1⟩
  go_wp2_with fail
  go_ret2
  exact ⟨rfl, chain_alloc b1 _⟩

set_option maxHeartbeats 4000000 in
theorem refShow4_low (n : Int) (k : Int) (hN : k = n / 86400000) (h0 : n < 0) (w : World) (n1 : -9223372036854775808 ≤ n) (n2 : n ≤ 9223372036854775807) :
    Calls Tryz.prog 12 #[.int .i64 4, .int .i64 n] w fun e w' => e = .returned (.tuple #[.string ⟨#[]⟩, .int .i64 2]) ∧ Below w.heap.size w w' := by
  have hL := fun w => refLeft_any n 86400000 w n1 n2 (by decide) (by decide)
  have HL := hide hL
  clear hL
  have rb := left_less (n := n) (s := 86400000) (by decide)
  have kb : -1000000000000 ≤ k ∧ k ≤ 1000000000000 := by omega
  obtain ⟨a, b, c, e, hD⟩ := date_gen k
  have HD := hide hD
  clear hD
  rcases quo_cases n (s := 86400000) (by decide) with z | ⟨z, z0, zq⟩ | ⟨z, z0, zq⟩
  · exfalso; omega
  · obtain rfl : k = n.tdiv 86400000 := hN.trans zq
    clear hN zq
    generalize n % 86400000 = r at *
    have z1 : r ≤ 0 := by omega
    have z2 : 0 ≤ r := by omega
    clear z0
    go_enter Tryz.func12, Tryz.ntmps12
    go_wp2_with fail
    refine (HL.out _).mono ?_
    rintro e u1 ⟨rfl, rfl⟩
    go_wp2_with fail
    refine (HD.out _).mono ?_
    rintro e v1 ⟨rfl, b1⟩
    go_wp2_with fail
    go_ret2
    exact ⟨rfl, chain_alloc b1 _⟩
  · obtain rfl : k = n.tdiv 86400000 - 1 := hN.trans zq
    clear hN zq
    generalize n % 86400000 = r at *
    go_enter Tryz.func12, Tryz.ntmps12
    go_wp2_with fail
    refine (HL.out _).mono ?_
    rintro e u1 ⟨rfl, rfl⟩
    go_wp2_with fail
    refine (HD.out _).mono ?_
    rintro e v1 ⟨rfl, b1⟩
    go_wp2_with fail
    go_ret2
    exact ⟨rfl, chain_alloc b1 _⟩

set_option maxHeartbeats 4000000 in
theorem refShow2_yes (n : Int) (k j : Int) (y m : Nat) (hN : k = n / 86400000) (hJ : j = n / 12) (hy : j + 1970 = y) (hm : n % 12 + 1 = m) (y1 : 1 ≤ y) (y2 : y ≤ 275760) (w : World) (n1 : -9223372036854775808 ≤ n) (n2 : n ≤ 9223372036854775807) :
    Calls Tryz.prog 12 #[.int .i64 2, .int .i64 n] w fun e w' => e = .returned (.tuple #[.string (txt (monthL y m)), .int .i64 0]) ∧ Below w.heap.size w w' := by
  have hL := fun w => refLeft_any n 86400000 w n1 n2 (by decide) (by decide)
  have HL := hide hL
  clear hL
  have rb := left_less (n := n) (s := 86400000) (by decide)
  have kb : -1000000000000 ≤ k ∧ k ≤ 1000000000000 := by omega
  obtain ⟨a, b, c, e, hD⟩ := date_gen k
  have HD := hide hD
  clear hD
  have hM := fun w => refLeft_any n 12 w n1 n2 (by decide) (by decide)
  have HM := hide hM
  clear hM
  have mb := left_less (n := n) (s := 12) (by decide)
  have jb : -1000000000000000000 ≤ j ∧ j ≤ 1000000000000000000 := by omega
  have jc : -1969 ≤ j ∧ j ≤ 273790 := by omega
  have hP := fun w => pad_any y 4 w (by omega) (by decide)
  have hQ := fun w => pad_any m 2 w (by omega) (by decide)
  rw [← hy] at hP
  rw [← hm] at hQ
  have q1 : (txt (padL y 4)).size ≤ 9 := by rw [txt_size]; exact pad_most (k := 9) (by omega) (by decide) (by decide)
  have q2 : (txt (padL m 2)).size ≤ 2 := by rw [txt_size]; exact pad_most (k := 2) (by omega) (by decide) (by decide)
  have q3 : (⟨#[45]⟩ : ByteArray).size = 1 := rfl
  have E : Hid (txt (monthL y m) = txt (padL y 4) ++ ⟨#[45]⟩ ++ txt (padL m 2)) := by
    show _ = _
    unfold monthL
    rw [show (⟨#[45]⟩ : ByteArray) = txt [45] from rfl, txt_app, txt_app]; simp
  generalize txt (padL y 4) = A at *
  generalize txt (padL m 2) = B at *
  have HP := hide hP
  have HQ := hide hQ
  clear hP hQ hy hm
  rcases quo_cases n (s := 86400000) (by decide) with z | ⟨z, z0, zq⟩ | ⟨z, z0, zq⟩
  · obtain rfl : k = n / 86400000 := hN
    obtain rfl : j = n / 12 := hJ
    generalize n % 86400000 = r at *
    generalize n % 12 = M at *
    go_enter Tryz.func12, Tryz.ntmps12
    go_wp2_with fail
    refine (HL.out _).mono ?_
    rintro e u1 ⟨rfl, rfl⟩
    go_wp2_with fail
    refine (HD.out _).mono ?_
    rintro e v1 ⟨rfl, b1⟩
    go_wp2_with fail
    refine (HM.out _).mono ?_
    rintro e u1 ⟨rfl, rfl⟩
    go_wp2_with fail
    refine (HP.out _).mono ?_
    rintro e v2 ⟨rfl, g2⟩
    go_wp2_with fail
    refine (HQ.out _).mono ?_
    rintro e v3 ⟨rfl, g3⟩
    go_wp2_with fail
    go_ret2
    exact ⟨ret_show E.out.symm, chain (chain (chain_alloc b1 _) g2.below) g3.below⟩
  · obtain rfl : k = n.tdiv 86400000 := hN.trans zq
    clear hN zq
    generalize n % 86400000 = r at *
    have z1 : r ≤ 0 := by omega
    have z2 : 0 ≤ r := by omega
    clear z0
    rcases quo_cases n (s := 12) (by decide) with y | ⟨y, y0, yq⟩ | ⟨y, y0, yq⟩
    · exfalso; omega
    · obtain rfl : j = n.tdiv 12 := hJ.trans yq
      clear hJ yq
      generalize n % 12 = M at *
      have y1 : M ≤ 0 := by omega
      have y2 : 0 ≤ M := by omega
      clear y0
      go_enter Tryz.func12, Tryz.ntmps12
      go_wp2_with fail
      refine (HL.out _).mono ?_
      rintro e u1 ⟨rfl, rfl⟩
      go_wp2_with fail
      refine (HD.out _).mono ?_
      rintro e v1 ⟨rfl, b1⟩
      go_wp2_with fail
      refine (HM.out _).mono ?_
      rintro e u1 ⟨rfl, rfl⟩
      go_wp2_with fail
      refine (HP.out _).mono ?_
      rintro e v2 ⟨rfl, g2⟩
      go_wp2_with fail
      refine (HQ.out _).mono ?_
      rintro e v3 ⟨rfl, g3⟩
      go_wp2_with fail
      go_ret2
      exact ⟨ret_show E.out.symm, chain (chain (chain_alloc b1 _) g2.below) g3.below⟩
    · obtain rfl : j = n.tdiv 12 - 1 := hJ.trans yq
      clear hJ yq
      generalize n % 12 = M at *
      go_enter Tryz.func12, Tryz.ntmps12
      go_wp2_with fail
      refine (HL.out _).mono ?_
      rintro e u1 ⟨rfl, rfl⟩
      go_wp2_with fail
      refine (HD.out _).mono ?_
      rintro e v1 ⟨rfl, b1⟩
      go_wp2_with fail
      refine (HM.out _).mono ?_
      rintro e u1 ⟨rfl, rfl⟩
      go_wp2_with fail
      refine (HP.out _).mono ?_
      rintro e v2 ⟨rfl, g2⟩
      go_wp2_with fail
      refine (HQ.out _).mono ?_
      rintro e v3 ⟨rfl, g3⟩
      go_wp2_with fail
      go_ret2
      exact ⟨ret_show E.out.symm, chain (chain (chain_alloc b1 _) g2.below) g3.below⟩
  · obtain rfl : k = n.tdiv 86400000 - 1 := hN.trans zq
    clear hN zq
    generalize n % 86400000 = r at *
    rcases quo_cases n (s := 12) (by decide) with y | ⟨y, y0, yq⟩ | ⟨y, y0, yq⟩
    · exfalso; omega
    · obtain rfl : j = n.tdiv 12 := hJ.trans yq
      clear hJ yq
      generalize n % 12 = M at *
      have y1 : M ≤ 0 := by omega
      have y2 : 0 ≤ M := by omega
      clear y0
      go_enter Tryz.func12, Tryz.ntmps12
      go_wp2_with fail
      refine (HL.out _).mono ?_
      rintro e u1 ⟨rfl, rfl⟩
      go_wp2_with fail
      refine (HD.out _).mono ?_
      rintro e v1 ⟨rfl, b1⟩
      go_wp2_with fail
      refine (HM.out _).mono ?_
      rintro e u1 ⟨rfl, rfl⟩
      go_wp2_with fail
      refine (HP.out _).mono ?_
      rintro e v2 ⟨rfl, g2⟩
      go_wp2_with fail
      refine (HQ.out _).mono ?_
      rintro e v3 ⟨rfl, g3⟩
      go_wp2_with fail
      go_ret2
      exact ⟨ret_show E.out.symm, chain (chain (chain_alloc b1 _) g2.below) g3.below⟩
    · obtain rfl : j = n.tdiv 12 - 1 := hJ.trans yq
      clear hJ yq
      generalize n % 12 = M at *
      go_enter Tryz.func12, Tryz.ntmps12
      go_wp2_with fail
      refine (HL.out _).mono ?_
      rintro e u1 ⟨rfl, rfl⟩
      go_wp2_with fail
      refine (HD.out _).mono ?_
      rintro e v1 ⟨rfl, b1⟩
      go_wp2_with fail
      refine (HM.out _).mono ?_
      rintro e u1 ⟨rfl, rfl⟩
      go_wp2_with fail
      refine (HP.out _).mono ?_
      rintro e v2 ⟨rfl, g2⟩
      go_wp2_with fail
      refine (HQ.out _).mono ?_
      rintro e v3 ⟨rfl, g3⟩
      go_wp2_with fail
      go_ret2
      exact ⟨ret_show E.out.symm, chain (chain (chain_alloc b1 _) g2.below) g3.below⟩

set_option maxHeartbeats 4000000 in
theorem refShow2_low (n : Int) (k j : Int) (hN : k = n / 86400000) (hJ : j = n / 12) (h0 : j < -1969) (w : World) (n1 : -9223372036854775808 ≤ n) (n2 : n ≤ 9223372036854775807) :
    Calls Tryz.prog 12 #[.int .i64 2, .int .i64 n] w fun e w' => e = .returned (.tuple #[.string ⟨#[]⟩, .int .i64 2]) ∧ Below w.heap.size w w' := by
  have hL := fun w => refLeft_any n 86400000 w n1 n2 (by decide) (by decide)
  have HL := hide hL
  clear hL
  have rb := left_less (n := n) (s := 86400000) (by decide)
  have kb : -1000000000000 ≤ k ∧ k ≤ 1000000000000 := by omega
  obtain ⟨a, b, c, e, hD⟩ := date_gen k
  have HD := hide hD
  clear hD
  have hM := fun w => refLeft_any n 12 w n1 n2 (by decide) (by decide)
  have HM := hide hM
  clear hM
  have mb := left_less (n := n) (s := 12) (by decide)
  have jb : -1000000000000000000 ≤ j ∧ j ≤ 1000000000000000000 := by omega
  rcases quo_cases n (s := 86400000) (by decide) with z | ⟨z, z0, zq⟩ | ⟨z, z0, zq⟩
  · exfalso; omega
  · obtain rfl : k = n.tdiv 86400000 := hN.trans zq
    clear hN zq
    generalize n % 86400000 = r at *
    have z1 : r ≤ 0 := by omega
    have z2 : 0 ≤ r := by omega
    clear z0
    rcases quo_cases n (s := 12) (by decide) with y | ⟨y, y0, yq⟩ | ⟨y, y0, yq⟩
    · exfalso; omega
    · obtain rfl : j = n.tdiv 12 := hJ.trans yq
      clear hJ yq
      generalize n % 12 = M at *
      have y1 : M ≤ 0 := by omega
      have y2 : 0 ≤ M := by omega
      clear y0
      go_enter Tryz.func12, Tryz.ntmps12
      go_wp2_with fail
      refine (HL.out _).mono ?_
      rintro e u1 ⟨rfl, rfl⟩
      go_wp2_with fail
      refine (HD.out _).mono ?_
      rintro e v1 ⟨rfl, b1⟩
      go_wp2_with fail
      refine (HM.out _).mono ?_
      rintro e u1 ⟨rfl, rfl⟩
      go_wp2_with fail
      go_ret2
      exact ⟨rfl, chain_alloc b1 _⟩
    · obtain rfl : j = n.tdiv 12 - 1 := hJ.trans yq
      clear hJ yq
      generalize n % 12 = M at *
      go_enter Tryz.func12, Tryz.ntmps12
      go_wp2_with fail
      refine (HL.out _).mono ?_
      rintro e u1 ⟨rfl, rfl⟩
      go_wp2_with fail
      refine (HD.out _).mono ?_
      rintro e v1 ⟨rfl, b1⟩
      go_wp2_with fail
      refine (HM.out _).mono ?_
      rintro e u1 ⟨rfl, rfl⟩
      go_wp2_with fail
      go_ret2
      exact ⟨rfl, chain_alloc b1 _⟩
  · obtain rfl : k = n.tdiv 86400000 - 1 := hN.trans zq
    clear hN zq
    generalize n % 86400000 = r at *
    rcases quo_cases n (s := 12) (by decide) with y | ⟨y, y0, yq⟩ | ⟨y, y0, yq⟩
    · exfalso; omega
    · obtain rfl : j = n.tdiv 12 := hJ.trans yq
      clear hJ yq
      generalize n % 12 = M at *
      have y1 : M ≤ 0 := by omega
      have y2 : 0 ≤ M := by omega
      clear y0
      go_enter Tryz.func12, Tryz.ntmps12
      go_wp2_with fail
      refine (HL.out _).mono ?_
      rintro e u1 ⟨rfl, rfl⟩
      go_wp2_with fail
      refine (HD.out _).mono ?_
      rintro e v1 ⟨rfl, b1⟩
      go_wp2_with fail
      refine (HM.out _).mono ?_
      rintro e u1 ⟨rfl, rfl⟩
      go_wp2_with fail
      go_ret2
      exact ⟨rfl, chain_alloc b1 _⟩
    · obtain rfl : j = n.tdiv 12 - 1 := hJ.trans yq
      clear hJ yq
      generalize n % 12 = M at *
      go_enter Tryz.func12, Tryz.ntmps12
      go_wp2_with fail
      refine (HL.out _).mono ?_
      rintro e u1 ⟨rfl, rfl⟩
      go_wp2_with fail
      refine (HD.out _).mono ?_
      rintro e v1 ⟨rfl, b1⟩
      go_wp2_with fail
      refine (HM.out _).mono ?_
      rintro e u1 ⟨rfl, rfl⟩
      go_wp2_with fail
      go_ret2
      exact ⟨rfl, chain_alloc b1 _⟩

set_option maxHeartbeats 4000000 in
theorem refShow2_high (n : Int) (k j : Int) (hN : k = n / 86400000) (hJ : j = n / 12) (h0 : 273790 < j) (w : World) (n1 : -9223372036854775808 ≤ n) (n2 : n ≤ 9223372036854775807) :
    Calls Tryz.prog 12 #[.int .i64 2, .int .i64 n] w fun e w' => e = .returned (.tuple #[.string ⟨#[]⟩, .int .i64 2]) ∧ Below w.heap.size w w' := by
  have hL := fun w => refLeft_any n 86400000 w n1 n2 (by decide) (by decide)
  have HL := hide hL
  clear hL
  have rb := left_less (n := n) (s := 86400000) (by decide)
  have kb : -1000000000000 ≤ k ∧ k ≤ 1000000000000 := by omega
  obtain ⟨a, b, c, e, hD⟩ := date_gen k
  have HD := hide hD
  clear hD
  have hM := fun w => refLeft_any n 12 w n1 n2 (by decide) (by decide)
  have HM := hide hM
  clear hM
  have mb := left_less (n := n) (s := 12) (by decide)
  have jb : -1000000000000000000 ≤ j ∧ j ≤ 1000000000000000000 := by omega
  rcases quo_cases n (s := 86400000) (by decide) with z | ⟨z, z0, zq⟩ | ⟨z, z0, zq⟩
  · obtain rfl : k = n / 86400000 := hN
    obtain rfl : j = n / 12 := hJ
    generalize n % 86400000 = r at *
    generalize n % 12 = M at *
    go_enter Tryz.func12, Tryz.ntmps12
    go_wp2_with fail
    refine (HL.out _).mono ?_
    rintro e u1 ⟨rfl, rfl⟩
    go_wp2_with fail
    refine (HD.out _).mono ?_
    rintro e v1 ⟨rfl, b1⟩
    go_wp2_with fail
    refine (HM.out _).mono ?_
    rintro e u1 ⟨rfl, rfl⟩
    go_wp2_with fail
    go_ret2
    exact ⟨rfl, chain_alloc b1 _⟩
  · obtain rfl : k = n.tdiv 86400000 := hN.trans zq
    clear hN zq
    generalize n % 86400000 = r at *
    have z1 : r ≤ 0 := by omega
    have z2 : 0 ≤ r := by omega
    clear z0
    rcases quo_cases n (s := 12) (by decide) with y | ⟨y, y0, yq⟩ | ⟨y, y0, yq⟩
    · exfalso; omega
    · obtain rfl : j = n.tdiv 12 := hJ.trans yq
      clear hJ yq
      generalize n % 12 = M at *
      have y1 : M ≤ 0 := by omega
      have y2 : 0 ≤ M := by omega
      clear y0
      go_enter Tryz.func12, Tryz.ntmps12
      go_wp2_with fail
      refine (HL.out _).mono ?_
      rintro e u1 ⟨rfl, rfl⟩
      go_wp2_with fail
      refine (HD.out _).mono ?_
      rintro e v1 ⟨rfl, b1⟩
      go_wp2_with fail
      refine (HM.out _).mono ?_
      rintro e u1 ⟨rfl, rfl⟩
      go_wp2_with fail
      go_ret2
      exact ⟨rfl, chain_alloc b1 _⟩
    · obtain rfl : j = n.tdiv 12 - 1 := hJ.trans yq
      clear hJ yq
      generalize n % 12 = M at *
      go_enter Tryz.func12, Tryz.ntmps12
      go_wp2_with fail
      refine (HL.out _).mono ?_
      rintro e u1 ⟨rfl, rfl⟩
      go_wp2_with fail
      refine (HD.out _).mono ?_
      rintro e v1 ⟨rfl, b1⟩
      go_wp2_with fail
      refine (HM.out _).mono ?_
      rintro e u1 ⟨rfl, rfl⟩
      go_wp2_with fail
      go_ret2
      exact ⟨rfl, chain_alloc b1 _⟩
  · obtain rfl : k = n.tdiv 86400000 - 1 := hN.trans zq
    clear hN zq
    generalize n % 86400000 = r at *
    rcases quo_cases n (s := 12) (by decide) with y | ⟨y, y0, yq⟩ | ⟨y, y0, yq⟩
    · exfalso; omega
    · obtain rfl : j = n.tdiv 12 := hJ.trans yq
      clear hJ yq
      generalize n % 12 = M at *
      have y1 : M ≤ 0 := by omega
      have y2 : 0 ≤ M := by omega
      clear y0
      go_enter Tryz.func12, Tryz.ntmps12
      go_wp2_with fail
      refine (HL.out _).mono ?_
      rintro e u1 ⟨rfl, rfl⟩
      go_wp2_with fail
      refine (HD.out _).mono ?_
      rintro e v1 ⟨rfl, b1⟩
      go_wp2_with fail
      refine (HM.out _).mono ?_
      rintro e u1 ⟨rfl, rfl⟩
      go_wp2_with fail
      go_ret2
      exact ⟨rfl, chain_alloc b1 _⟩
    · obtain rfl : j = n.tdiv 12 - 1 := hJ.trans yq
      clear hJ yq
      generalize n % 12 = M at *
      go_enter Tryz.func12, Tryz.ntmps12
      go_wp2_with fail
      refine (HL.out _).mono ?_
      rintro e u1 ⟨rfl, rfl⟩
      go_wp2_with fail
      refine (HD.out _).mono ?_
      rintro e v1 ⟨rfl, b1⟩
      go_wp2_with fail
      refine (HM.out _).mono ?_
      rintro e u1 ⟨rfl, rfl⟩
      go_wp2_with fail
      go_ret2
      exact ⟨rfl, chain_alloc b1 _⟩

end Go.Proofs.YtekcbkicfoaheaaGreatDoor
