/- The document's Date and Week: the day and the week of a number, as a record, or the error where there is none; what lay in the world lies there still. Condition: numbers of 64 bits. -/
import Derived.Test.YtekcbkicfoaheaaGreatDoorDayNumR
namespace Go.Proofs.YtekcbkicfoaheaaGreatDoor
open Go.RowKit

/-- A record of three numbers. -/
def dayR (y m d : Int) : Value := .agg #[.int .i64 y, .int .i64 m, .int .i64 d]
theorem rec_below (w : World) (o : Obj) : Below w.heap.size w (w.alloc o) := (Below.refl _ w).alloc (Nat.le_refl _) o

set_option maxHeartbeats 1000000 in
theorem refDate_no (n y : Int) (w : World) (hY : ∀ w, Calls Tryz.prog 54 #[.int .i64 n] w fun e w' => e = .returned (.int .i64 y) ∧ w' = w) (h : y = 0 ∨ 275760 < y) :
    Calls Tryz.prog 26 #[.int .i64 n] w fun e w' => e = .returned (.tuple #[dayR 0 0 0, .int .i64 2]) ∧ Below w.heap.size w w' := by
  have HY := hide hY
  clear hY
  unfold dayR
  rcases h with h | h
  · subst h
    go_enter Tryz.func26, Tryz.ntmps26
    go_wp2_with fail
    refine (HY.out _).mono ?_
    rintro e u1 ⟨rfl, rfl⟩
    go_wp2_with fail
    (try simp only [Exit.inBlock, Exit.then])
    refine bodyPost_ret (v := .tuple #[.agg #[.int .i64 0, .int .i64 0, .int .i64 0], .int .i64 2]) (by simp [results, go_sem]) rfl ?_
    exact ⟨rfl, rec_below _ _⟩
  · have h0 : (y == 0) = false := beq_no (by omega)
    go_enter Tryz.func26, Tryz.ntmps26
    go_wp2_with fail
    refine (HY.out _).mono ?_
    rintro e u1 ⟨rfl, rfl⟩
    go_wp2_with fail
    (try simp only [Exit.inBlock, Exit.then])
    refine bodyPost_ret (v := .tuple #[.agg #[.int .i64 0, .int .i64 0, .int .i64 0], .int .i64 2]) (by simp [results, go_sem]) rfl ?_
    exact ⟨rfl, rec_below _ _⟩
theorem refDate_out (n : Int) (w : World) (h : n < newV 1 ∨ newV 275761 ≤ n) :
    Calls Tryz.prog 26 #[.int .i64 n] w fun e w' => e = .returned (.tuple #[dayR 0 0 0, .int .i64 2]) ∧ Below w.heap.size w w' := by
  rcases h with h | h
  · exact refDate_no n 0 w (fun w => refYear_low n w h) (.inl rfl)
  · rcases Int.lt_or_le n (newV 275762) with g | g
    · exact refDate_no n 275761 w (fun w => refYear_in n 275761 w ⟨h, g⟩ (by decide) (by decide)) (.inr (by decide))
    · exact refDate_no n 0 w (fun w => refYear_high n w g) (.inl rfl)
theorem dayR_eq {y m d c : Int} (h : c = d) : Ending.returned (.tuple #[.agg #[.int .i64 y, .int .i64 m, .int .i64 c], .int .i64 0]) = .returned (.tuple #[dayR y m d, .int .i64 0]) := by rw [h]; rfl

set_option maxHeartbeats 1000000 in
theorem refDate_in (n y m d : Int) (w : World) (h : IsDay n y m d) :
    Calls Tryz.prog 26 #[.int .i64 n] w fun e w' => e = .returned (.tuple #[dayR y m d, .int .i64 0]) ∧ Below w.heap.size w w' := by
  have HY := hide (fun w => refYear_in n y w h.year h.y1 (by have := h.y2; omega))
  have hN := fun (k : Int) (h1 : 1 ≤ k) (h2 : k < m) => month_next h h1 h2
  have hH := month_here h
  obtain ⟨c1, c2⟩ := h.bounds
  have hM := fun (k : Int) (g : k ≤ m) => aheadI_mono (y := y) g
  have e := h.is
  obtain ⟨y1, y2, m1, m2, d1, d2, -⟩ := h
  have hB := fun (k : Int) (h : k ≤ 13) => aheadI_bounds (y := y) h
  have hX := fun (k : Int) (h : 1 ≤ k) => aheadI_next (y := y) h
  have hK := len_bounds y
  have hm := hK m
  have hF := fun w => refNew_any y w y1 (by omega)
  have hS := fun (k : Int) w => reflen_any y k w (by omega) (by omega)
  obtain ⟨n1, n2⟩ := new_range y1 (by omega)
  generalize newV y = N at *
  have r1 : 0 ≤ n - N ∧ n - N ≤ 400 := by have := hB m (by omega); omega
  have y0 : (y == 0) = false := beq_no (by omega)
  have HN := hide hN
  have HH := hide hH
  have HM := hide hM
  have HB := hide hB
  have HX := hide hX
  have HK := hide hK
  have HF := hide hF
  have HS := hide hS
  have E := hide e
  clear hN hH hM hB hX hK hm hF hS e d2
  go_enter Tryz.func26, Tryz.ntmps26
  go_wp2_with fail
  refine (HY.out _).mono ?_
  rintro e u1 ⟨rfl, rfl⟩
  go_wp2_with fail
  refine (HF.out _).mono ?_
  rintro e u1 ⟨rfl, rfl⟩
  go_wp2_with fail
  go_loop [5, 6] (fun t s => ∃ k r : Int, s = .int .i64 k ∧ t = .int .i64 r ∧ 1 ≤ k ∧ k ≤ m ∧ Hid (r = n - N - aheadI y k)) (fun _ s => (m - intOf s).toNat)
  case atStart => exact ⟨1, n - N, rfl, rfl, by omega, by omega, hide (by rw [aheadI_1]; omega)⟩
  case round =>
    obtain ⟨k, r, rfl, rfl, k1, k2, eR⟩ := hrel
    have hb := HB.out k (by omega)
    have hm := HM.out k k2
    have r1 : 0 ≤ r := by have := eR.out; have := E.out; omega
    have r2 : r ≤ 400 := by have := eR.out; omega
    have hs := HS.out k
    have hc := HK.out k
    clear hb hm
    by_cases hk : k < m
    · have hn : lenV y k ≤ r := by rw [eR.out]; exact HN.out k k1 hk
      have hx := hide (HX.out k k1)
      generalize lenV y k = l at *
      have Hs := hide hs
      clear hs
      go_wp2_with fail
      refine (Hs.out _).mono ?_
      rintro e u1 ⟨rfl, rfl⟩
      go_wp2_with fail
      refine (Hs.out _).mono ?_
      rintro e u1 ⟨rfl, rfl⟩
      go_wp2_with fail
      go_round
      case rel => exact ⟨k + 1, r - l, rfl, rfl, by omega, by omega, hide (by rw [hx.out, eR.out]; omega)⟩
      case measure => simp [intOf]; omega
    · obtain rfl : k = m := by omega
      have hn : r < lenV y k := by rw [eR.out]; exact HH.out.1
      have hd := hide (HH.out.2)
      generalize lenV y k = l at *
      have Hs := hide hs
      clear hs hk
      go_wp2_with fail
      refine (Hs.out _).mono ?_
      rintro e u1 ⟨rfl, rfl⟩
      go_wp2_with fail
      (try simp only [Exit.inBlock, Exit.then])
      refine bodyPost_ret (v := .tuple #[.agg #[.int .i64 y, .int .i64 k, .int .i64 (r + 1)], .int .i64 0]) (by simp [results, go_sem]) rfl ?_
      exact ⟨dayR_eq (by rw [eR.out]; exact hd.out), rec_below _ _⟩

theorem dayR_wk {y m d : Int} (h : m = d) : Ending.returned (.tuple #[.agg #[.int .i64 y, .int .i64 m, .int .i64 0], .int .i64 0]) = .returned (.tuple #[dayR y d 0, .int .i64 0]) := by rw [h]; rfl

set_option maxHeartbeats 1000000 in
theorem refWeek_out (n : Int) (w : World) (h : n < firstV 1 ∨ firstV 275761 ≤ n) :
    Calls Tryz.prog 29 #[.int .i64 n] w fun e w' => e = .returned (.tuple #[dayR 0 0 0, .int .i64 2]) ∧ Below w.heap.size w w' := by
  have hN := fun w => reffirst_any 1 w (by decide) (by decide)
  have hM := fun w => reffirst_any 275761 w (by decide) (by decide)
  have h0 := first_mono (show (1 : Int) ≤ 275761 by decide)
  generalize firstV 1 = N at *
  generalize firstV 275761 = M at *
  have HN := hide hN
  have HM := hide hM
  clear hN hM
  unfold dayR
  rcases h with h | h
  · go_enter Tryz.func29, Tryz.ntmps29
    go_wp2_with fail
    refine (HN.out _).mono ?_
    rintro e u1 ⟨rfl, rfl⟩
    go_wp2_with fail
    (try simp only [Exit.inBlock, Exit.then])
    refine bodyPost_ret (v := .tuple #[.agg #[.int .i64 0, .int .i64 0, .int .i64 0], .int .i64 2]) (by simp [results, go_sem]) rfl ?_
    exact ⟨rfl, rec_below _ _⟩
  · have g : N ≤ n := by omega
    go_enter Tryz.func29, Tryz.ntmps29
    go_wp2_with fail
    refine (HN.out _).mono ?_
    rintro e u1 ⟨rfl, rfl⟩
    go_wp2_with fail
    refine (HM.out _).mono ?_
    rintro e u1 ⟨rfl, rfl⟩
    go_wp2_with fail
    (try simp only [Exit.inBlock, Exit.then])
    refine bodyPost_ret (v := .tuple #[.agg #[.int .i64 0, .int .i64 0, .int .i64 0], .int .i64 2]) (by simp [results, go_sem]) rfl ?_
    exact ⟨rfl, rec_below _ _⟩

theorem week_year {n y : Int} (h : InWeeks n y) (y1 : 1 ≤ y) (y2 : y ≤ 275760) : ∃ x, IsYear n x ∧ 1 ≤ x ∧ x ≤ 275761 ∧ x - 1 ≤ y ∧ y ≤ x + 1 := by
  have ⟨a, b⟩ := inWeeks_in h y1 y2
  have c := first_bounds 275761
  have d := (new_step 275761).1
  rw [first_1] at a
  obtain ⟨x, x1, x2, hx⟩ := year_some 275761 (n := n) (a := 1) (by rw [new_1]; exact a) (by show n < newV (275761 + 1); omega)
  refine ⟨x, hx, x1, by omega, ?_⟩
  rcases inWeeks_near hx with g | g | g
  · have := inWeeks_one h g; omega
  · have := inWeeks_one h g; omega
  · have := inWeeks_one h g; omega

set_option maxHeartbeats 1000000 in
theorem refWeek_in (n y : Int) (w : World) (y1 : 1 ≤ y) (y2 : y ≤ 275760) (h : InWeeks n y) :
    Calls Tryz.prog 29 #[.int .i64 n] w fun e w' => e = .returned (.tuple #[dayR y (weekV n y) 0, .int .i64 0]) ∧ Below w.heap.size w w' := by
  obtain ⟨x, hx, x1, x2, x3, x4⟩ := week_year h y1 y2
  have ⟨a, b⟩ := inWeeks_in h y1 y2
  have hN := fun w => reffirst_any 1 w (by decide) (by decide)
  have hM := fun w => reffirst_any 275761 w (by decide) (by decide)
  have hO := fun w => refNew_any 1 w (by decide) (by decide)
  have c : newV 1 ≤ n := by rw [new_1]; rw [first_1] at a; exact a
  have hF := fun (k : Int) w (k1 : 1 ≤ k) (k2 : k ≤ 275763) => reffirst_any k w k1 k2
  have HY := hide (fun w => refYear_in n x w hx x1 x2)
  have hmo := fun (k : Int) (h : k ≤ y) => first_mono h
  have h1 := h.1
  have h2 := h.2
  have h3 := first_step y
  obtain ⟨n1, n2⟩ := first_range y1 (by omega)
  have h4 : n - firstV y ≤ 371 := by omega
  have h5 : n ≤ 300000000 := by omega
  have E := hide (show weekV n y = (n - firstV y) / 7 + 1 from rfl)
  generalize weekV n y = v at *
  generalize firstV 1 = N at *
  generalize firstV 275761 = M at *
  generalize newV 1 = O at *
  have HN := hide hN
  have HM := hide hM
  have HO := hide hO
  have HF := hide hF
  have HX := hide hmo
  have H1 := hide h1
  have H2 := hide h2
  have H4 := hide h4
  have HR := hide (fun k => first_range (y := k))
  clear hN hM hO hF hmo h h3 h4 h1 h2 hx n1 n2
  go_enter Tryz.func29, Tryz.ntmps29
  go_wp2_with fail
  refine (HN.out _).mono ?_
  rintro e u1 ⟨rfl, rfl⟩
  go_wp2_with fail
  refine (HM.out _).mono ?_
  rintro e u1 ⟨rfl, rfl⟩
  go_wp2_with fail
  refine (HO.out _).mono ?_
  rintro e u1 ⟨rfl, rfl⟩
  go_wp2_with fail
  refine (HY.out _).mono ?_
  rintro e u1 ⟨rfl, rfl⟩
  go_wp2_with fail
  go_loop [5] (fun s => ∃ k : Int, s = .int .i64 k ∧ x - 1 ≤ k ∧ k ≤ y) (fun s => (y - intOf s).toNat)
  case atStart => exact ⟨x - 1, rfl, by omega, by omega⟩
  case round =>
    obtain ⟨k, rfl, k1, k2⟩ := hrel
    rcases (show k ≤ 0 ∨ (1 ≤ k ∧ k < y) ∨ k = y by omega) with h | ⟨h, h'⟩ | h
    · go_wp2_with fail
      go_round
      case rel => exact ⟨k + 1, rfl, by omega, by omega⟩
      case measure => simp [intOf]; omega
    · have hA := fun w => HF.out k w (by omega) (by omega)
      have hB := fun w => HF.out (k + 1) w (by omega) (by omega)
      have g1 : firstV k ≤ n := by have := HX.out k (by omega); have := H1.out; omega
      have g2 : firstV (k + 1) ≤ n := by have := HX.out (k + 1) (by omega); have := H1.out; omega
      generalize firstV k = A at *
      generalize firstV (k + 1) = B at *
      have HA := hide hA
      have HB := hide hB
      clear hA hB
      go_wp2_with fail
      refine (HA.out _).mono ?_
      rintro e u1 ⟨rfl, rfl⟩
      go_wp2_with fail
      refine (HB.out _).mono ?_
      rintro e u1 ⟨rfl, rfl⟩
      go_wp2_with fail
      go_round
      case rel => exact ⟨k + 1, rfl, by omega, by omega⟩
      case measure => simp [intOf]; omega
    · subst h
      have hA := fun w => HF.out k w (by omega) (by omega)
      have hB := fun w => HF.out (k + 1) w (by omega) (by omega)
      have g1 := H1.out
      have g2 := H2.out
      have g3 := H4.out
      have g4 := HR.out k y1 (by omega)
      generalize firstV k = A at *
      generalize firstV (k + 1) = B at *
      have g5 : 0 ≤ n - A := by omega
      have HA := hide hA
      have HB := hide hB
      clear hA hB
      go_wp2_with fail
      refine (HA.out _).mono ?_
      rintro e u1 ⟨rfl, rfl⟩
      go_wp2_with fail
      refine (HB.out _).mono ?_
      rintro e u1 ⟨rfl, rfl⟩
      go_wp2_with fail
      refine (HA.out _).mono ?_
      rintro e u1 ⟨rfl, rfl⟩
      go_wp2_with fail
      (try simp only [Exit.inBlock, Exit.then])
      refine bodyPost_ret (v := .tuple #[.agg #[.int .i64 k, .int .i64 ((n - A) / 7 + 1), .int .i64 0], .int .i64 0]) (by simp [results, go_sem]) rfl ?_
      exact ⟨dayR_wk E.out.symm, rec_below _ _⟩

end Go.Proofs.YtekcbkicfoaheaaGreatDoor
