/- The program's Date and Week: the day and the week of a number, or the error where there is none; what lay in the world lies there still. Condition: numbers of 64 bits; Date: the table of lengths reads as the program's text lays it. -/
import Derived.Test.YtekcbkicfoaheaaGreatDoorDayYear
import Derived.Test.YtekcbkicfoaheaaGreatDoorDayNum
namespace Go.Proofs.YtekcbkicfoaheaaGreatDoor
open Go.RowKit

theorem results_tmp4 {fn : Func} {t u v x : Tmp} (h : fn.results = #[.tmp t, .tmp u, .tmp v, .tmp x]) (tmps : Array Value) (P : Program) (w : World) :
    (results fn tmps).run P w = .ok (.tuple #[tmps.getD t undef, tmps.getD u undef, tmps.getD v undef, tmps.getD x undef]) w := by
  simp [results, h]
theorem ret_date {y m d c : Int} (h : c = d) : Ending.returned (.tuple #[.int .i64 y, .int .i64 m, .int .i64 c, .int .i64 0]) = .returned (.tuple #[.int .i64 y, .int .i64 m, .int .i64 d, .int .i64 0]) := by rw [h]
theorem yearOf_day (n y : Int) (w : World) (y1 : 1 ≤ y) (y2 : y ≤ 275760) (h : IsYear n y) :
    Calls Tryz.prog 73 #[.int .i64 n, .func (.func 61) #[] #[]] w fun e w' => e = .returned (.tuple #[.int .i64 y, .bool true]) ∧ Below w.heap.size w w' := by
  have := yearOf_at _ eg_day newV begins_day (fun _ _ => new_mono) n y y1 (by omega) h.1 (fun _ => h.2) w
  rw [yearOk_in y1 y2] at this; exact this
theorem yearOf_week (n y : Int) (w : World) (y1 : 1 ≤ y) (y2 : y ≤ 275760) (h : InWeeks n y) :
    Calls Tryz.prog 73 #[.int .i64 n, .func (.func 65) #[] #[]] w fun e w' => e = .returned (.tuple #[.int .i64 y, .bool true]) ∧ Below w.heap.size w w' := by
  have := yearOf_at _ eg_monday firstV begins_monday (fun _ _ => first_mono) n y y1 (by omega) h.1 (fun _ => h.2) w
  rw [yearOk_in y1 y2] at this; exact this
theorem yearOf_dayhigh (n : Int) (w : World) (h : newV 275761 ≤ n) :
    Calls Tryz.prog 73 #[.int .i64 n, .func (.func 61) #[] #[]] w fun e w' => e = .returned (.tuple #[.int .i64 275761, .bool false]) ∧ Below w.heap.size w w' := by
  have := yearOf_at _ eg_day newV begins_day (fun _ _ => new_mono) n 275761 (by decide) (by decide) h (fun h => absurd h (by decide)) w
  rw [yearOk_high (by decide)] at this; exact this
theorem yearOf_weekhigh (n : Int) (w : World) (h : firstV 275761 ≤ n) :
    Calls Tryz.prog 73 #[.int .i64 n, .func (.func 65) #[] #[]] w fun e w' => e = .returned (.tuple #[.int .i64 275761, .bool false]) ∧ Below w.heap.size w w' := by
  have := yearOf_at _ eg_monday firstV begins_monday (fun _ _ => first_mono) n 275761 (by decide) (by decide) h (fun h => absurd h (by decide)) w
  rw [yearOk_high (by decide)] at this; exact this
theorem yearOf_dayno (n : Int) (w : World) (h : n < newV 1 ∨ newV 275761 ≤ n) :
    ∃ y, Calls Tryz.prog 73 #[.int .i64 n, .func (.func 61) #[] #[]] w fun e w' => e = .returned (.tuple #[.int .i64 y, .bool false]) ∧ Below w.heap.size w w' :=
  h.elim (fun h => ⟨_, yearOf_low _ eg_day newV begins_day n h w⟩) (fun h => ⟨_, yearOf_dayhigh n w h⟩)
theorem yearOf_weekno (n : Int) (w : World) (h : n < firstV 1 ∨ firstV 275761 ≤ n) :
    ∃ y, Calls Tryz.prog 73 #[.int .i64 n, .func (.func 65) #[] #[]] w fun e w' => e = .returned (.tuple #[.int .i64 y, .bool false]) ∧ Below w.heap.size w w' :=
  h.elim (fun h => ⟨_, yearOf_low _ eg_monday firstV begins_monday n h w⟩) (fun h => ⟨_, yearOf_weekhigh n w h⟩)

set_option maxHeartbeats 1000000 in
theorem dateCall_out (n : Int) (w : World) (h : n < newV 1 ∨ newV 275761 ≤ n) :
    Calls Tryz.prog 71 #[.int .i64 n] w fun e w' => e = .returned (.tuple #[.int .i64 0, .int .i64 0, .int .i64 0, .int .i64 2]) ∧ Below w.heap.size w w' := by
  obtain ⟨y, hY⟩ := yearOf_dayno n w h
  have HY := hide hY
  clear hY h
  go_enter Tryz.func71, Tryz.ntmps71
  go_wp2_with fail
  refine (HY.out).mono ?_
  rintro e v1 ⟨rfl, b1⟩
  go_wp2_with fail
  (try simp only [Exit.inBlock, Exit.then]); refine bodyPost_ret (results_tmp4 rfl _ _ _) rfl ?_
  exact ⟨rfl, b1⟩

set_option maxHeartbeats 1000000 in
theorem dateCall_in (n y m d : Int) (w : World) (h : IsDay n y m d) (hT : Lens w) :
    Calls Tryz.prog 71 #[.int .i64 n] w fun e w' => e = .returned (.tuple #[.int .i64 y, .int .i64 m, .int .i64 d, .int .i64 0]) ∧ Below w.heap.size w w' := by
  have HY := hide (yearOf_day n y w h.y1 h.y2 h.year)
  have hN := fun (k : Int) (h1 : 1 ≤ k) (h2 : k < m) => month_next h h1 h2
  have hH := month_here h
  obtain ⟨c1, c2⟩ := h.bounds
  have hM := fun (k : Int) (g : k ≤ m) => aheadI_mono (y := y) g
  have e := h.is
  obtain ⟨y1, y2, m1, m2, d1, d2, -⟩ := h
  have hB := fun (k : Int) (h : k ≤ 13) => aheadI_bounds (y := y) h
  have hX := fun (k : Int) (h : 1 ≤ k) => aheadI_next (y := y) h
  have hK := len_bounds y
  have hm := hK m
  have hF := fun w => firstDay_any y w y1 (by omega)
  have hS := fun (k : Int) (h1 : 1 ≤ k) (h2 : k ≤ 12) w hT => by
    have := length_any y k w (by omega) (by omega) (by omega) (by omega) hT
    rw [len_in (by omega)] at this; exact this
  obtain ⟨n1, n2⟩ := new_range y1 (by omega)
  generalize newV y = N at *
  have r1 : 0 ≤ n - N ∧ n - N ≤ 400 := by have := hB m (by omega); omega
  have HN := hide hN
  have HH := hide hH
  have HM := hide hM
  have HB := hide hB
  have HX := hide hX
  have HK := hide hK
  have HF := hide hF
  have HS := hide hS
  have HT := hide hT
  have E := hide e
  clear hN hH hM hB hX hK hm hF hS hT e d2
  go_enter Tryz.func71, Tryz.ntmps71
  go_wp2_with fail
  refine (HY.out).mono ?_
  rintro e v1 ⟨rfl, b1⟩
  have T1 := hide (HT.out.below b1)
  go_wp2_with fail
  refine (HF.out _).mono ?_
  rintro e u1 ⟨rfl, rfl⟩
  go_wp2_with fail
  go_loop [3, 7] (fun s t => ∃ k r : Int, s = .int .i64 k ∧ t = .int .i64 r ∧ 1 ≤ k ∧ k ≤ m ∧ Hid (r = n - N - aheadI y k)) (fun s _ => (m - intOf s).toNat)
  case atStart => exact ⟨1, n - N, rfl, rfl, by omega, by omega, hide (by rw [aheadI_1]; omega)⟩
  case round =>
    obtain ⟨k, r, rfl, rfl, k1, k2, eR⟩ := hrel
    have hb := HB.out k (by omega)
    have hm := HM.out k k2
    have r1 : 0 ≤ r := by have := eR.out; have := E.out; omega
    have r2 : r ≤ 400 := by have := eR.out; omega
    have hs := HS.out k (by omega) (by omega)
    have hc := HK.out k
    clear hb hm
    by_cases hk : k < m
    · have hn : lenV y k ≤ r := by rw [eR.out]; exact HN.out k k1 hk
      have hx := hide (HX.out k k1)
      generalize lenV y k = l at *
      have Hs := hide hs
      clear hs
      go_wp2_with fail
      refine (Hs.out _ T1.out).mono ?_
      rintro e u1 ⟨rfl, rfl⟩
      go_wp2_with fail
      refine (Hs.out _ T1.out).mono ?_
      rintro e u1 ⟨rfl, rfl⟩
      go_wp2_with fail
      go_round
      case rel => exact ⟨k + 1, r - l, rfl, rfl, by omega, by omega, hide (by rw [hx.out, eR.out]; omega)⟩
      case measure => simp [intOf]; omega
    · obtain rfl : k = m := by omega
      have hn : r < lenV y k := by rw [eR.out]; exact HH.out.1
      have hd := hide (HH.out.2)
      generalize lenV y k = l at *
      have Hs := hide hs
      clear hs hk
      go_wp2_with fail
      refine (Hs.out _ T1.out).mono ?_
      rintro e u1 ⟨rfl, rfl⟩
      go_wp2_with fail
      (try simp only [Exit.inBlock, Exit.then]); refine bodyPost_ret (results_tmp4 rfl _ _ _) rfl ?_
      exact ⟨ret_date (by rw [eR.out]; exact hd.out), b1⟩

set_option maxHeartbeats 1000000 in
theorem weekCall_out (n : Int) (w : World) (h : n < firstV 1 ∨ firstV 275761 ≤ n) :
    Calls Tryz.prog 51 #[.int .i64 n] w fun e w' => e = .returned (.tuple #[.int .i64 0, .int .i64 0, .int .i64 2]) ∧ Below w.heap.size w w' := by
  obtain ⟨y, hY⟩ := yearOf_weekno n w h
  have HY := hide hY
  clear hY h
  go_enter Tryz.func51, Tryz.ntmps51
  go_wp2_with fail
  refine (HY.out).mono ?_
  rintro e v1 ⟨rfl, b1⟩
  go_wp2_with fail
  go_ret3
  exact ⟨rfl, b1⟩

theorem ret_week {y m d : Int} (h : m = d) : Ending.returned (.tuple #[.int .i64 y, .int .i64 m, .int .i64 0]) = .returned (.tuple #[.int .i64 y, .int .i64 d, .int .i64 0]) := by rw [h]

set_option maxHeartbeats 1000000 in
theorem weekCall_in (n y : Int) (w : World) (y1 : 1 ≤ y) (y2 : y ≤ 275760) (h : InWeeks n y) :
    Calls Tryz.prog 51 #[.int .i64 n] w fun e w' => e = .returned (.tuple #[.int .i64 y, .int .i64 (weekV n y), .int .i64 0]) ∧ Below w.heap.size w w' := by
  have HY := hide (yearOf_week n y w y1 y2 h)
  have hF := fun w => firstMonday_any y w y1 (by omega)
  obtain ⟨n1, n2⟩ := first_range y1 (by omega)
  have h1 := h.1
  have h2 := h.2
  have h3 := first_step y
  have E := hide (show weekV n y = (n - firstV y) / 7 + 1 from rfl)
  generalize weekV n y = v at *
  generalize firstV y = F at *
  have h4 : n - F ≤ 371 := by omega
  have h5 : 0 ≤ n - F := by omega
  have h6 : n ≤ 300000000 := by omega
  have HF := hide hF
  clear hF h3 h h2
  go_enter Tryz.func51, Tryz.ntmps51
  go_wp2_with fail
  refine (HY.out).mono ?_
  rintro e v1 ⟨rfl, b1⟩
  go_wp2_with fail
  refine (HF.out _).mono ?_
  rintro e u1 ⟨rfl, rfl⟩
  go_wp2_with fail
  go_ret3
  exact ⟨ret_week E.out.symm, b1⟩

end Go.Proofs.YtekcbkicfoaheaaGreatDoor
