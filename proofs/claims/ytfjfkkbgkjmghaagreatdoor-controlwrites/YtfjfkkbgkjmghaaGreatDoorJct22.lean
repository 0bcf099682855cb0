/- What the program's table of lengths holds, cell by cell, where it reads as its text lays it. The program's isYear, Leap, Length, firstDay, firstMonday, Weeks, Monday. The number of a day, by the program. The program's reader. The program's reader. The program's Parse. -/
import Derived.Test.YtfjfkkbgkjmghaaGreatDoorJct21
import Derived.Lib.LaidU8
import Derived.Laws.EntriesVeiled

namespace Go.Proofs.YtfjfkkbgkjmghaaGreatDoor
open Go.RowKit
theorem tab_int {P : Program} {w : World} {name : String} {g : Nat} {t e : TypeId} {n : Nat} {zs : List Int} {kd : IntKind} (hg : P.globalNamed name = some g) (hty : (P.globals[g]?).map (·.type) = some t)
    (ht : P.underlying t = some (.array n e)) (he : P.underlying e = some (.int kd)) (hce : P.cellsOf e = 1) (h : Lib.VarReads P w name (.agg (zs.map fun z => .lit (.int kd z)))) (k : Nat) (hk : k < n) :
    w.cell? ⟨g, k, none⟩ = some (.int kd (zs.getD k 0)) := by
  obtain ⟨g', t', cs, fuel, p, hg', hty', hvar, hd⟩ := h
  obtain rfl := Option.some.inj (hg.symm.trans hg')
  obtain rfl := Option.some.inj (hty.symm.trans hty')
  obtain ⟨fuel', d, q, hdi, hx⟩ := Lib.array_elem ht hd k hk
  rw [hce] at hx
  obtain ⟨z, hcs, hd', _⟩ := DataW.trod_int he hx
  have e1 : cs[k]? = some (.int kd z) := by
    have := congrArg (·[0]?) hcs
    simpa [List.getElem?_take, List.getElem?_drop] using this
  have e2 : zs[k]? = some z := by
    have e3 : d = .lit (.int kd z) := congrArg Prod.fst hd'
    rw [e3] at hdi
    simp only [List.getElem?_map, Option.map_eq_some_iff, DataW.lit.injEq, Lit.int.injEq, true_and] at hdi
    obtain ⟨l, h1, rfl⟩ := hdi
    exact h1
  rw [World.var?_cell hg hvar k, e1, List.getD, e2]
  rfl
/-- The program's table of lengths: of a year that is no leap year. -/
def Lens (w : World) : Prop := ∀ k : Nat, k < 12 → w.cell? ⟨2, k, none⟩ = some (.int .i64 (lenV 1 (k + 1)))
theorem Lens.below {w w' : World} (h : Lens w) (hb : Below w.heap.size w w') : Lens w' := by
  intro k hk
  have := h k hk
  exact (hb.cell (World.block_lt_of_cell? _ _ this)).trans this
theorem lens_eq : (Rows.laid_counterfoil_days_lengths : DataW Unit) = .agg (((List.range 12).map fun k : Nat => lenV 1 ((k : Int) + 1)).map fun z => .lit (.int .i64 z)) := by kernel_rfl
theorem lens_of {w : World} (h : Lib.VarReads Tryz.prog w "counterfoil/days.lengths" Rows.laid_counterfoil_days_lengths) : Lens w := by
  intro k hk
  rw [lens_eq] at h
  have := tab_int (P := Tryz.prog) (g := 2) (by kernel_rfl) (by kernel_rfl) Tryz.underlying187 Tryz.underlying3 (by kernel_rfl) h k hk
  rw [this]
  simp [List.getD, hk]
end Go.Proofs.YtfjfkkbgkjmghaaGreatDoor

namespace Go.Proofs.YtfjfkkbgkjmghaaGreatDoor
open Go.RowKit
set_option maxRecDepth 100000
set_option maxHeartbeats 1000000 in
theorem isYear_any (y : Int) (w : World) :
    Calls Tryz.prog 217 #[.int .i64 y] w fun e w' => e = .returned (.bool (yearOk y)) ∧ w' = w := by
  rcases (show y < 1 ∨ 275760 < y ∨ (1 ≤ y ∧ y ≤ 275760) by omega) with h | h | ⟨h, h'⟩
  · have E := hide (yearOk_low h)
    go_enter Tryz.func217, Tryz.ntmps217
    go_wp2_with fail
    go_ret
    exact ⟨ret_bool E.out.symm, rfl⟩
  · have E := hide (yearOk_high h)
    go_enter Tryz.func217, Tryz.ntmps217
    go_wp2_with fail
    go_ret
    exact ⟨ret_bool (by rw [E.out]; exact decide_eq_false (by omega)), rfl⟩
  · have E := hide (yearOk_in h h')
    go_enter Tryz.func217, Tryz.ntmps217
    go_wp2_with fail
    go_ret
    exact ⟨ret_bool E.out.symm, rfl⟩
theorem isYear_yes (y : Int) (w : World) (h : 1 ≤ y) (h' : y ≤ 275760) :
    Calls Tryz.prog 217 #[.int .i64 y] w fun e w' => e = .returned (.bool true) ∧ w' = w := by
  have := isYear_any y w
  rw [yearOk_in h h'] at this; exact this
theorem isYear_no (y : Int) (w : World) (h : y < 1 ∨ 275760 < y) :
    Calls Tryz.prog 217 #[.int .i64 y] w fun e w' => e = .returned (.bool false) ∧ w' = w := by
  have := isYear_any y w
  rcases h with h | h
  · rw [yearOk_low h] at this; exact this
  · rw [yearOk_high h] at this; exact this
set_option maxHeartbeats 1000000 in
theorem leap_any (y : Int) (w : World) (h1 : -9223372036854775808 ≤ y) (h2 : y ≤ 9223372036854775807) :
    Calls Tryz.prog 218 #[.int .i64 y] w fun e w' => e = .returned (.bool (LeapV y)) ∧ w' = w := by
  by_cases h : y < 1 ∨ 275760 < y
  · have E := hide (show LeapV y = false from h.elim leap_low leap_high)
    have HY := hide (fun w => isYear_no y w h)
    clear h
    go_enter Tryz.func218, Tryz.ntmps218
    go_wp2_with fail
    refine (HY.out _).mono ?_
    rintro e u1 ⟨rfl, rfl⟩
    go_wp2_with fail
    go_ret
    exact ⟨ret_bool E.out.symm, rfl⟩
  · have HY := hide (fun w => isYear_yes y w (by omega) (by omega))
    rw [leap_year (by omega) (by omega)]
    rcases leap_split y with ⟨e, c, f⟩ | ⟨e, c, f⟩ | ⟨e, c, d, f⟩ | ⟨e, c, d, f⟩ | ⟨e, c, d⟩
    · have E := hide e
      clear e h
      go_enter Tryz.func218, Tryz.ntmps218
      go_wp2_with fail
      refine (HY.out _).mono ?_
      rintro e u1 ⟨rfl, rfl⟩
      go_wp2_with fail
      go_ret
      exact ⟨ret_bool (by first | exact E.out.symm | (rw [E.out]; assumption)), rfl⟩
    · have E := hide e
      clear e h
      go_enter Tryz.func218, Tryz.ntmps218
      go_wp2_with fail
      refine (HY.out _).mono ?_
      rintro e u1 ⟨rfl, rfl⟩
      go_wp2_with fail
      go_ret
      exact ⟨ret_bool (by first | exact E.out.symm | (rw [E.out]; assumption)), rfl⟩
    · have E := hide e
      clear e h
      go_enter Tryz.func218, Tryz.ntmps218
      go_wp2_with fail
      refine (HY.out _).mono ?_
      rintro e u1 ⟨rfl, rfl⟩
      go_wp2_with fail
      go_ret
      exact ⟨ret_bool (by first | exact E.out.symm | (rw [E.out]; assumption)), rfl⟩
    · have E := hide e
      clear e h
      go_enter Tryz.func218, Tryz.ntmps218
      go_wp2_with fail
      refine (HY.out _).mono ?_
      rintro e u1 ⟨rfl, rfl⟩
      go_wp2_with fail
      go_ret
      exact ⟨ret_bool (by first | exact E.out.symm | (rw [E.out]; assumption)), rfl⟩
    · have E := hide e
      clear e h
      go_enter Tryz.func218, Tryz.ntmps218
      go_wp2_with fail
      refine (HY.out _).mono ?_
      rintro e u1 ⟨rfl, rfl⟩
      go_wp2_with fail
      go_ret
      exact ⟨ret_bool (by first | exact E.out.symm | (rw [E.out]; assumption)), rfl⟩
set_option maxHeartbeats 1000000 in
theorem length_any (y m : Int) (w : World) (h1 : -9223372036854775808 ≤ y) (h2 : y ≤ 9223372036854775807) (_g1 : -9223372036854775808 ≤ m) (_g2 : m ≤ 9223372036854775807) (hT : Lens w) :
    Calls Tryz.prog 191 #[.int .i64 y, .int .i64 m] w fun e w' => e = .returned (.int .i64 (LenV y m)) ∧ w' = w := by
  by_cases h : y < 1 ∨ 275760 < y
  · have E := hide (len_out (y := y) (m := m) (by omega))
    have HY := hide (fun w => isYear_no y w h)
    clear h hT
    go_enter Tryz.func191, Tryz.ntmps191
    go_wp2_with fail
    refine (HY.out _).mono ?_
    rintro e u1 ⟨rfl, rfl⟩
    go_wp2_with fail
    go_ret
    exact ⟨ret_int E.out.symm, rfl⟩
  · have HY := hide (fun w => isYear_yes y w (by omega) (by omega))
    rcases (show m < 1 ∨ 12 < m ∨ (1 ≤ m ∧ m ≤ 12) by omega) with g | g | ⟨g, g'⟩
    · have E := hide (len_out (y := y) (m := m) (by omega))
      clear h hT
      go_enter Tryz.func191, Tryz.ntmps191
      go_wp2_with fail
      refine (HY.out _).mono ?_
      rintro e u1 ⟨rfl, rfl⟩
      go_wp2_with fail
      go_ret
      exact ⟨ret_int E.out.symm, rfl⟩
    · have E := hide (len_out (y := y) (m := m) (by omega))
      clear h hT
      go_enter Tryz.func191, Tryz.ntmps191
      go_wp2_with fail
      refine (HY.out _).mono ?_
      rintro e u1 ⟨rfl, rfl⟩
      go_wp2_with fail
      go_ret
      exact ⟨ret_int E.out.symm, rfl⟩
    · have e := len_in (y := y) (m := m) (by omega)
      have hL := fun w => leap_any y w h1 h2
      rw [leap_year (by omega) (by omega)] at hL
      obtain ⟨k, rfl⟩ : ∃ k : Nat, m = (k : Int) + 1 := ⟨(m - 1).toNat, by omega⟩
      have t := hT k (by omega)
      have hk : k < 12 := by omega
      by_cases k1 : k = 1
      · subst k1
        rw [show lenV 1 ((1 : Nat) + 1 : Int) = 28 by decide] at t
        cases hl : leapV y with
        | true =>
          have E := hide (e.trans (len_feb hl))
          rw [hl] at hL
          have HL := hide hL
          clear h hT hL hl e g g'
          go_enter Tryz.func191, Tryz.ntmps191
          go_wp2_with fail
          refine (HY.out _).mono ?_
          rintro e u1 ⟨rfl, rfl⟩
          go_wp2_with fail
          refine (HL.out _).mono ?_
          rintro e u1 ⟨rfl, rfl⟩
          go_wp2_with fail
          go_ret
          exact ⟨ret_int E.out.symm, rfl⟩
        | false =>
          have E := hide (e.trans (len_feb' hl))
          rw [hl] at hL
          have HL := hide hL
          clear h hT hL hl e g g'
          go_enter Tryz.func191, Tryz.ntmps191
          go_wp2_with fail
          refine (HY.out _).mono ?_
          rintro e u1 ⟨rfl, rfl⟩
          go_wp2_with fail
          refine (HL.out _).mono ?_
          rintro e u1 ⟨rfl, rfl⟩
          go_wp2_with fail
          go_ret
          exact ⟨ret_int E.out.symm, rfl⟩
      · rcases (show k = 0 ∨ k = 2 ∨ k = 3 ∨ k = 4 ∨ k = 5 ∨ k = 6 ∨ k = 7 ∨ k = 8 ∨ k = 9 ∨ k = 10 ∨ k = 11 by omega) with rfl | rfl | rfl | rfl | rfl | rfl | rfl | rfl | rfl | rfl | rfl
        · have E := hide (e.trans (len_any (y := y) (x := 1) (m := ((0 : Nat) : Int) + 1) (by decide)))
          rw [show lenV 1 (((0 : Nat) : Int) + 1) = 31 by decide] at E t
          clear h hT hL e k1 g g' hk _g1 _g2
          go_enter Tryz.func191, Tryz.ntmps191
          go_wp2_with fail
          refine (HY.out _).mono ?_
          rintro e u1 ⟨rfl, rfl⟩
          go_wp2_with fail
          go_ret
          exact ⟨ret_int E.out.symm, rfl⟩
        · have E := hide (e.trans (len_any (y := y) (x := 1) (m := ((2 : Nat) : Int) + 1) (by decide)))
          rw [show lenV 1 (((2 : Nat) : Int) + 1) = 31 by decide] at E t
          clear h hT hL e k1 g g' hk _g1 _g2
          go_enter Tryz.func191, Tryz.ntmps191
          go_wp2_with fail
          refine (HY.out _).mono ?_
          rintro e u1 ⟨rfl, rfl⟩
          go_wp2_with fail
          go_ret
          exact ⟨ret_int E.out.symm, rfl⟩
        · have E := hide (e.trans (len_any (y := y) (x := 1) (m := ((3 : Nat) : Int) + 1) (by decide)))
          rw [show lenV 1 (((3 : Nat) : Int) + 1) = 30 by decide] at E t
          clear h hT hL e k1 g g' hk _g1 _g2
          go_enter Tryz.func191, Tryz.ntmps191
          go_wp2_with fail
          refine (HY.out _).mono ?_
          rintro e u1 ⟨rfl, rfl⟩
          go_wp2_with fail
          go_ret
          exact ⟨ret_int E.out.symm, rfl⟩
        · have E := hide (e.trans (len_any (y := y) (x := 1) (m := ((4 : Nat) : Int) + 1) (by decide)))
          rw [show lenV 1 (((4 : Nat) : Int) + 1) = 31 by decide] at E t
          clear h hT hL e k1 g g' hk _g1 _g2
          go_enter Tryz.func191, Tryz.ntmps191
          go_wp2_with fail
          refine (HY.out _).mono ?_
          rintro e u1 ⟨rfl, rfl⟩
          go_wp2_with fail
          go_ret
          exact ⟨ret_int E.out.symm, rfl⟩
        · have E := hide (e.trans (len_any (y := y) (x := 1) (m := ((5 : Nat) : Int) + 1) (by decide)))
          rw [show lenV 1 (((5 : Nat) : Int) + 1) = 30 by decide] at E t
          clear h hT hL e k1 g g' hk _g1 _g2
          go_enter Tryz.func191, Tryz.ntmps191
          go_wp2_with fail
          refine (HY.out _).mono ?_
          rintro e u1 ⟨rfl, rfl⟩
          go_wp2_with fail
          go_ret
          exact ⟨ret_int E.out.symm, rfl⟩
        · have E := hide (e.trans (len_any (y := y) (x := 1) (m := ((6 : Nat) : Int) + 1) (by decide)))
          rw [show lenV 1 (((6 : Nat) : Int) + 1) = 31 by decide] at E t
          clear h hT hL e k1 g g' hk _g1 _g2
          go_enter Tryz.func191, Tryz.ntmps191
          go_wp2_with fail
          refine (HY.out _).mono ?_
          rintro e u1 ⟨rfl, rfl⟩
          go_wp2_with fail
          go_ret
          exact ⟨ret_int E.out.symm, rfl⟩
        · have E := hide (e.trans (len_any (y := y) (x := 1) (m := ((7 : Nat) : Int) + 1) (by decide)))
          rw [show lenV 1 (((7 : Nat) : Int) + 1) = 31 by decide] at E t
          clear h hT hL e k1 g g' hk _g1 _g2
          go_enter Tryz.func191, Tryz.ntmps191
          go_wp2_with fail
          refine (HY.out _).mono ?_
          rintro e u1 ⟨rfl, rfl⟩
          go_wp2_with fail
          go_ret
          exact ⟨ret_int E.out.symm, rfl⟩
        · have E := hide (e.trans (len_any (y := y) (x := 1) (m := ((8 : Nat) : Int) + 1) (by decide)))
          rw [show lenV 1 (((8 : Nat) : Int) + 1) = 30 by decide] at E t
          clear h hT hL e k1 g g' hk _g1 _g2
          go_enter Tryz.func191, Tryz.ntmps191
          go_wp2_with fail
          refine (HY.out _).mono ?_
          rintro e u1 ⟨rfl, rfl⟩
          go_wp2_with fail
          go_ret
          exact ⟨ret_int E.out.symm, rfl⟩
        · have E := hide (e.trans (len_any (y := y) (x := 1) (m := ((9 : Nat) : Int) + 1) (by decide)))
          rw [show lenV 1 (((9 : Nat) : Int) + 1) = 31 by decide] at E t
          clear h hT hL e k1 g g' hk _g1 _g2
          go_enter Tryz.func191, Tryz.ntmps191
          go_wp2_with fail
          refine (HY.out _).mono ?_
          rintro e u1 ⟨rfl, rfl⟩
          go_wp2_with fail
          go_ret
          exact ⟨ret_int E.out.symm, rfl⟩
        · have E := hide (e.trans (len_any (y := y) (x := 1) (m := ((10 : Nat) : Int) + 1) (by decide)))
          rw [show lenV 1 (((10 : Nat) : Int) + 1) = 30 by decide] at E t
          clear h hT hL e k1 g g' hk _g1 _g2
          go_enter Tryz.func191, Tryz.ntmps191
          go_wp2_with fail
          refine (HY.out _).mono ?_
          rintro e u1 ⟨rfl, rfl⟩
          go_wp2_with fail
          go_ret
          exact ⟨ret_int E.out.symm, rfl⟩
        · have E := hide (e.trans (len_any (y := y) (x := 1) (m := ((11 : Nat) : Int) + 1) (by decide)))
          rw [show lenV 1 (((11 : Nat) : Int) + 1) = 31 by decide] at E t
          clear h hT hL e k1 g g' hk _g1 _g2
          go_enter Tryz.func191, Tryz.ntmps191
          go_wp2_with fail
          refine (HY.out _).mono ?_
          rintro e u1 ⟨rfl, rfl⟩
          go_wp2_with fail
          go_ret
          exact ⟨ret_int E.out.symm, rfl⟩
set_option maxHeartbeats 1000000 in
theorem firstDay_any (y : Int) (w : World) (h1 : 1 ≤ y) (h2 : y ≤ 275763) :
    Calls Tryz.prog 216 #[.int .i64 y] w fun e w' => e = .returned (.int .i64 (newV y)) ∧ w' = w := by
  have E := hide (new_sum y)
  go_enter Tryz.func216, Tryz.ntmps216
  go_wp2_with fail
  go_ret
  exact ⟨ret_int E.out.symm, rfl⟩
set_option maxHeartbeats 1000000 in
theorem firstMonday_any (y : Int) (w : World) (h1 : 1 ≤ y) (h2 : y ≤ 275763) :
    Calls Tryz.prog 220 #[.int .i64 y] w fun e w' => e = .returned (.int .i64 (firstV y)) ∧ w' = w := by
  have E := hide (first_back y)
  obtain ⟨n1, n2⟩ := new_range h1 h2
  have hN := fun w => firstDay_any y w h1 h2
  generalize newV y = N at *
  have hW := fun w => weekday_any (N + 3) w (by omega) (by omega)
  obtain ⟨d1, d2⟩ := wday_bounds (N + 3)
  generalize wdayV (N + 3) = d at *
  have HN := hide hN
  have HW := hide hW
  clear hN hW
  go_enter Tryz.func220, Tryz.ntmps220
  go_wp2_with fail
  refine (HN.out _).mono ?_
  rintro e u1 ⟨rfl, rfl⟩
  go_wp2_with fail
  refine (HW.out _).mono ?_
  rintro e u1 ⟨rfl, rfl⟩
  go_wp2_with fail
  go_ret
  exact ⟨ret_int E.out.symm, rfl⟩
set_option maxHeartbeats 1000000 in
theorem weeks_any (y : Int) (w : World) :
    Calls Tryz.prog 219 #[.int .i64 y] w fun e w' => e = .returned (.int .i64 (WeeksV y)) ∧ w' = w := by
  by_cases h : y < 1 ∨ 275760 < y
  · have E := hide (weeks_out (y := y) (by omega))
    have HY := hide (fun w => isYear_no y w h)
    clear h
    go_enter Tryz.func219, Tryz.ntmps219
    go_wp2_with fail
    refine (HY.out _).mono ?_
    rintro e u1 ⟨rfl, rfl⟩
    go_wp2_with fail
    go_ret
    exact ⟨ret_int E.out.symm, rfl⟩
  · have HY := hide (fun w => isYear_yes y w (by omega) (by omega))
    have y1 : 1 ≤ y := by omega
    have y2 : y ≤ 275760 := by omega
    have E := hide (weeks_in (y := y) ⟨y1, y2⟩)
    have hF := fun w => firstMonday_any y w y1 (by omega)
    have hG := fun w => firstMonday_any (y + 1) w (by omega) (by omega)
    obtain ⟨n1, n2⟩ := first_range y1 (by omega)
    obtain ⟨e1, e2⟩ := weeks_is y
    rw [e1] at hG
    generalize firstV y = F at *
    generalize weeksV y = k at *
    have e3 : 0 ≤ k ∧ k ≤ 53 := by omega
    have HF := hide hF
    have HG := hide hG
    clear hF hG e1 e2 h
    go_enter Tryz.func219, Tryz.ntmps219
    go_wp2_with fail
    refine (HY.out _).mono ?_
    rintro e u1 ⟨rfl, rfl⟩
    go_wp2_with fail
    refine (HG.out _).mono ?_
    rintro e u1 ⟨rfl, rfl⟩
    go_wp2_with fail
    refine (HF.out _).mono ?_
    rintro e u1 ⟨rfl, rfl⟩
    go_wp2_with fail
    go_ret
    exact ⟨ret_int (by rw [E.out]; omega), rfl⟩
set_option maxHeartbeats 1000000 in
theorem monday_any (y k : Int) (w : World) (_g1 : -9223372036854775808 ≤ k) (_g2 : k ≤ 9223372036854775807) :
    Calls Tryz.prog 192 #[.int .i64 y, .int .i64 k] w fun e w' => e = .returned (.tuple #[.int .i64 (monV y k).1, .int .i64 (monV y k).2]) ∧ w' = w := by
  have hW := fun w => weeks_any y w
  rcases (show k < 1 ∨ (1 ≤ k ∧ WeeksV y < k) ∨ (1 ≤ k ∧ k ≤ WeeksV y) by omega) with h | ⟨h, h'⟩ | ⟨h, h'⟩
  · have E := hide (mon_out (y := y) (k := k) (by omega))
    clear hW
    go_enter Tryz.func192, Tryz.ntmps192
    go_wp2_with fail
    go_ret2
    exact ⟨ret_two E.out, rfl⟩
  · have E := hide (mon_out (y := y) (k := k) (by omega))
    generalize WeeksV y = W at *
    have HW := hide hW
    clear hW
    go_enter Tryz.func192, Tryz.ntmps192
    go_wp2_with fail
    refine (HW.out _).mono ?_
    rintro e u1 ⟨rfl, rfl⟩
    go_wp2_with fail
    go_ret2
    exact ⟨ret_two E.out, rfl⟩
  · have E := hide (mon_in (y := y) (k := k) ⟨h, h'⟩)
    obtain ⟨y1, y2, k2⟩ := weeks_some ⟨h, h'⟩
    have hF := fun w => firstMonday_any y w y1 (by omega)
    obtain ⟨n1, n2⟩ := first_range y1 (by omega)
    generalize firstV y = F at *
    generalize WeeksV y = W at *
    have HW := hide hW
    have HF := hide hF
    clear hW hF
    go_enter Tryz.func192, Tryz.ntmps192
    go_wp2_with fail
    refine (HW.out _).mono ?_
    rintro e u1 ⟨rfl, rfl⟩
    go_wp2_with fail
    refine (HF.out _).mono ?_
    rintro e u1 ⟨rfl, rfl⟩
    go_wp2_with fail
    go_ret2
    exact ⟨ret_two (by rw [E.out, Int.mul_comm 7]), rfl⟩
end Go.Proofs.YtfjfkkbgkjmghaaGreatDoor

namespace Go.Proofs.YtfjfkkbgkjmghaaGreatDoor
open Go.RowKit
set_option maxRecDepth 100000
set_option maxHeartbeats 1000000 in
theorem number_in (n y m d : Int) (w : World) (h : IsDay n y m d) (hT : Lens w) :
    Calls Tryz.prog 189 #[.int .i64 y, .int .i64 m, .int .i64 d] w fun e w' => e = .returned (.tuple #[.int .i64 n, .int .i64 0]) ∧ w' = w := by
  obtain ⟨y1, y2, m1, m2, d1, d2, e⟩ := h
  have hL := fun w => length_any y m w (by omega) (by omega) (by omega) (by omega)
  rw [len_in (by omega)] at hL
  have hF := fun w => firstDay_any y w y1 (by omega)
  have hS := fun (k : Int) (h1 : 1 ≤ k) (h2 : k ≤ 12) w => length_any y k w (by omega) (by omega) (by omega) (by omega)
  have hS := fun (k : Int) (h1 : 1 ≤ k) (h2 : k ≤ 12) w hT => by
    have := hS k h1 h2 w hT
    rw [len_in (by omega)] at this; exact this
  have hX := fun (k : Int) (h : 1 ≤ k) => aheadI_next (y := y) h
  have hB := fun (k : Int) (h : k ≤ 13) => aheadI_bounds (y := y) h
  have hM := len_bounds y m
  have hK := len_bounds y
  obtain ⟨n1, n2⟩ := new_range y1 (by omega)
  generalize newV y = N at *
  generalize lenV y m = L at *
  have E := hide e
  have HL := hide hL
  have HF := hide hF
  have HS := hide hS
  have HX := hide hX
  have HB := hide hB
  have HK := hide hK
  clear e hL hF hS hX hB hK
  have HT := hide hT
  clear hT
  go_enter Tryz.func189, Tryz.ntmps189
  go_wp2_with fail
  refine (HL.out _ HT.out).mono ?_
  rintro e u1 ⟨rfl, rfl⟩
  go_wp2_with fail
  refine (HF.out _).mono ?_
  rintro e u1 ⟨rfl, rfl⟩
  go_wp2_with fail
  go_loop [8, 9] (fun s t => ∃ k A : Int, t = .int .i64 k ∧ s = .int .i64 A ∧ 1 ≤ k ∧ k ≤ m ∧ Hid (A = N + aheadI y k)) (fun _ t => (m - intOf t).toNat)
  case atStart => exact ⟨1, N, rfl, rfl, by omega, by omega, hide (by rw [aheadI_1]; omega)⟩
  case round =>
    obtain ⟨k, A, rfl, rfl, k1, k2, eA⟩ := hrel
    have hb := HB.out k (by omega)
    have a1 : -719162 ≤ A := by have := eA.out; omega
    have a2 : A ≤ 200000366 := by have := eA.out; omega
    clear hb
    by_cases hk : k < m
    · have hs := HS.out k (by omega) (by omega)
      have hc := HK.out k
      have hx := hide (HX.out k k1)
      generalize lenV y k = l at *
      have Hs := hide hs
      clear hs
      go_wp2_with fail
      refine (Hs.out _ HT.out).mono ?_
      rintro e u1 ⟨rfl, rfl⟩
      go_wp2_with fail
      go_round
      case rel => exact ⟨k + 1, A + l, rfl, rfl, by omega, by omega, hide (by rw [hx.out, eA.out]; omega)⟩
      case measure => simp [intOf]; omega
    · obtain rfl : k = m := by omega
      go_wp2_with fail
      go_ret2
      exact ⟨ret_num (by rw [E.out, eA.out]), rfl⟩
set_option maxHeartbeats 1000000 in
theorem number_out (y m d : Int) (w : World) (h1 : -9223372036854775808 ≤ y) (h2 : y ≤ 9223372036854775807) (g1 : -9223372036854775808 ≤ m) (g2 : m ≤ 9223372036854775807) (h : ¬ (1 ≤ d ∧ d ≤ LenV y m)) (hT : Lens w) :
    Calls Tryz.prog 189 #[.int .i64 y, .int .i64 m, .int .i64 d] w fun e w' => e = .returned (.tuple #[.int .i64 0, .int .i64 2]) ∧ w' = w := by
  by_cases hd : d < 1
  · clear h
    go_enter Tryz.func189, Tryz.ntmps189
    go_wp2_with fail
    go_ret2
    exact ⟨rfl, rfl⟩
  · have hd' : LenV y m < d := by omega
    have hd2 : 1 ≤ d := by omega
    have hL := fun w => length_any y m w h1 h2 g1 g2
    generalize LenV y m = L at *
    have HL := hide hL
    clear hL h hd
    have HT := hide hT
    clear hT
    go_enter Tryz.func189, Tryz.ntmps189
    go_wp2_with fail
    refine (HL.out _ HT.out).mono ?_
    rintro e u1 ⟨rfl, rfl⟩
    go_wp2_with fail
    go_ret2
    exact ⟨rfl, rfl⟩
end Go.Proofs.YtfjfkkbgkjmghaaGreatDoor

namespace Go.Proofs.YtfjfkkbgkjmghaaGreatDoor
open Go.RowKit
set_option maxRecDepth 100000
theorem date_tell {l k1 k2 k3 k4 k5 : List UInt8} {b b1 b2 b3 b4 b5 b6 : Bool} {y m d v : Int} (T1 : Tell b (yrP l) y k1 b1) (S1 : Tell b1 (signP isHy k1) 0 k2 b2) (T2 : Tell b2 (twoP k2) m k3 b3) (S2 : Tell b3 (signP isHy k3) 0 k4 b4) (T3 : Tell b4 (twoP k4) d k5 b5)
    (h : Tell b5 ((numD y m d).bind fun n => some (n * 86400000, k5)) v k5 b6) : Tell b (dateP l) v k5 b6 := by
  unfold dateP
  refine Tell.bind (f := fun y l1 => (signP isHy l1).bind fun s => (twoP s.2).bind fun m => (signP isHy m.2).bind fun t => (twoP t.2).bind fun d => (numD y m.1 d.1).bind fun n => some (n * 86400000, d.2)) T1 ?_
  refine Tell.bind (f := fun _ l1 => (twoP l1).bind fun m => (signP isHy m.2).bind fun t => (twoP t.2).bind fun d => (numD y m.1 d.1).bind fun n => some (n * 86400000, d.2)) S1 ?_
  refine Tell.bind (f := fun m l1 => (signP isHy l1).bind fun t => (twoP t.2).bind fun d => (numD y m d.1).bind fun n => some (n * 86400000, d.2)) T2 ?_
  refine Tell.bind (f := fun _ l1 => (twoP l1).bind fun d => (numD y m d.1).bind fun n => some (n * 86400000, d.2)) S2 ?_
  exact Tell.bind (f := fun d l1 => (numD y m d).bind fun n => some (n * 86400000, l1)) T3 h
theorem month_tell {l k1 k2 k3 : List UInt8} {b b1 b2 b3 : Bool} {y m v : Int} {c : Bool} (T1 : Tell b (yrP l) y k1 b1) (S1 : Tell b1 (signP isHy k1) 0 k2 b2) (T2 : Tell b2 (twoP k2) m k3 b3) (hc : c = decide (0 < LenV y m)) (hv : c = true → v = (y - 1970) * 12 + (m - 1)) : Tell b (monthP l) v k3 (b3 || !c) := by
  unfold monthP
  refine Tell.bind (f := fun y l1 => (signP isHy l1).bind fun s => (twoP s.2).bind fun m => if decide (0 < LenV y m.1) = true then some ((y - 1970) * 12 + (m.1 - 1), m.2) else none) T1 ?_
  refine Tell.bind (f := fun _ l1 => (twoP l1).bind fun m => if decide (0 < LenV y m.1) = true then some ((y - 1970) * 12 + (m.1 - 1), m.2) else none) S1 ?_
  refine Tell.bind (f := fun m l1 => if decide (0 < LenV y m) = true then some ((y - 1970) * 12 + (m - 1), l1) else none) T2 ?_
  rw [← hc]
  cases c with
  | true => rw [hv rfl]; exact Tell.must
  | false => exact .inr ⟨by simp, .inr rfl⟩
theorem week_tell {l k1 k2 k3 k4 : List UInt8} {b b1 b2 b3 b4 : Bool} {y m v : Int} {c : Bool} (T1 : Tell b (yrP l) y k1 b1) (S1 : Tell b1 (signP isHy k1) 0 k2 b2) (S2 : Tell b2 (signP isW k2) 0 k3 b3) (T2 : Tell b3 (twoP k3) m k4 b4) (hc : c = decide (1 ≤ m ∧ m ≤ WeeksV y)) (hv : c = true → v = (firstV y + 7 * (m - 1)) * 86400000) : Tell b (weekP l) v k4 (b4 || !c) := by
  unfold weekP
  refine Tell.bind (f := fun y l1 => (signP isHy l1).bind fun s => (signP isW s.2).bind fun t => (twoP t.2).bind fun k => if 1 ≤ k.1 ∧ k.1 ≤ WeeksV y then some ((firstV y + 7 * (k.1 - 1)) * 86400000, k.2) else none) T1 ?_
  refine Tell.bind (f := fun _ l1 => (signP isW l1).bind fun t => (twoP t.2).bind fun k => if 1 ≤ k.1 ∧ k.1 ≤ WeeksV y then some ((firstV y + 7 * (k.1 - 1)) * 86400000, k.2) else none) S1 ?_
  refine Tell.bind (f := fun _ l1 => (twoP l1).bind fun k => if 1 ≤ k.1 ∧ k.1 ≤ WeeksV y then some ((firstV y + 7 * (k.1 - 1)) * 86400000, k.2) else none) S2 ?_
  refine Tell.bind (f := fun k l1 => if 1 ≤ k ∧ k ≤ WeeksV y then some ((firstV y + 7 * (k - 1)) * 86400000, l1) else none) T2 ?_
  by_cases g : 1 ≤ m ∧ m ≤ WeeksV y
  · rw [decide_eq_true g] at hc
    subst hc
    rw [hv rfl]
    rw [if_pos g]
    simpa using Tell.pure
  · rw [decide_eq_false g] at hc
    subst hc
    rw [if_neg g]
    exact .inr ⟨by simp, .inr rfl⟩
/-- The tables of the road of Parse. -/
def ReadTabs (w : World) : Prop := Errs w ∧ Lens w
theorem ReadTabs.below {w w' : World} (h : ReadTabs w) (hb : Below w.heap.size w w') : ReadTabs w' := ⟨h.1.below hb, h.2.below hb⟩
set_option maxHeartbeats 1000000 in
set_option maxRecDepth 100000 in
theorem date_any (w0 : World) (R : Nat) (l : List UInt8) (b : Bool) (w : World) (h : Rd w0 w R l b) (hl : l.length ≤ 1000000) (hT : ReadTabs w0) :
    Calls Tryz.prog 150 #[.pointer (some ⟨R, 0, none⟩)] w fun e w' => ∃ v k b', e = .returned (.int .i64 v) ∧ Rd w0 w' R k b' ∧ k.length ≤ 1000000 ∧ -100000000000000000 ≤ v ∧ v ≤ 100000000000000000 ∧ Hid (Tell b (dateP l) v k b') := by
  have HY := hide (rdYear_any w0 R l b w h hl hT.1)
  have HS := hide (fun l b w h hl => sign_any w0 R l b ⟨#[45]⟩ isHy w h hl signs_hy)
  have HT2 := hide (fun l b w h hl => rdTwo_any w0 R l b w h hl hT.1)
  have HL := hide (fun w (hb : Below w0.heap.size w0 w) => hT.2.below hb)
  clear h hT
  go_enter Tryz.func150, Tryz.ntmps150
  go_wp2_with fail
  refine HY.out.mono ?_
  rintro e v1 ⟨y, k1, b1, rfl, h1, hk1, y1, y2, T1⟩
  go_wp2_with fail
  refine (HS.out _ _ _ h1 hk1).mono ?_
  rintro e v2 ⟨k2, b2, rfl, h2, hk2, S1⟩
  have S1 := hide S1
  clear h1 hk1
  go_wp2_with fail
  refine (HT2.out _ _ _ h2 hk2).mono ?_
  rintro e v3 ⟨m, k3, b3, rfl, h3, hk3, m1, m2, T2⟩
  clear h2 hk2
  go_wp2_with fail
  refine (HS.out _ _ _ h3 hk3).mono ?_
  rintro e v4 ⟨k4, b4, rfl, h4, hk4, S2⟩
  have S2 := hide S2
  clear h3 hk3
  go_wp2_with fail
  refine (HT2.out _ _ _ h4 hk4).mono ?_
  rintro e v5 ⟨d, k5, b5, rfl, h5, hk5, d1, d2, T3⟩
  clear h4 hk4
  have HT := HL.out _ h5.below
  have FIN := hide (fun (v : Int) (b6 : Bool) => date_tell (v := v) (b6 := b6) T1.out S1.out T2.out S2.out T3.out)
  clear T1 S1 T2 S2 T3
  by_cases g : 1 ≤ d ∧ d ≤ LenV y m
  · have hd := day_is g.1 g.2
    have hn : numD y m d = some (newV y + aheadI y m + (d - 1)) := if_pos g
    have hb := hd.bounds
    rw [hn] at FIN
    have HN := hide (number_in _ y m d v5 hd HT)
    clear hd hn g HT
    generalize newV y + aheadI y m + (d - 1) = n at *
    go_wp2_with fail
    refine HN.out.mono ?_
    rintro e v6 ⟨rfl, rfl⟩
    go_wp2_with fail
    refine (must_any w0 R k5 b5 true _ h5).mono ?_
    rintro e v7 ⟨rfl, h6⟩
    clear h5
    go_wp2_with fail
    go_ret
    exact ⟨_, k5, _, rfl, h6, hk5, by omega, by omega, FIN.out _ _ (by simpa using Tell.pure)⟩
  · have hn : numD y m d = none := if_neg g
    rw [hn] at FIN
    have HN := hide (number_out y m d v5 (by omega) y2 (by omega) (by omega) g HT)
    clear hn g HT
    go_wp2_with fail
    refine HN.out.mono ?_
    rintro e v6 ⟨rfl, rfl⟩
    go_wp2_with fail
    refine (must_any w0 R k5 b5 false _ h5).mono ?_
    rintro e v7 ⟨rfl, h6⟩
    clear h5
    go_wp2_with fail
    go_ret
    exact ⟨_, k5, _, rfl, h6, hk5, by omega, by omega, FIN.out _ _ (.inr ⟨by simp, .inr rfl⟩)⟩
set_option maxHeartbeats 1000000 in
set_option maxRecDepth 100000 in
theorem month_any (w0 : World) (R : Nat) (l : List UInt8) (b : Bool) (w : World) (h : Rd w0 w R l b) (hl : l.length ≤ 1000000) (hT : ReadTabs w0) :
    Calls Tryz.prog 151 #[.pointer (some ⟨R, 0, none⟩)] w fun e w' => ∃ v k b', e = .returned (.int .i64 v) ∧ Rd w0 w' R k b' ∧ Hid (Tell b (monthP l) v k b') := by
  have HY := hide (rdYear_any w0 R l b w h hl hT.1)
  have HS := hide (fun l b w h hl => sign_any w0 R l b ⟨#[45]⟩ isHy w h hl signs_hy)
  have HT2 := hide (fun l b w h hl => rdTwo_any w0 R l b w h hl hT.1)
  have HL := hide (fun w (hb : Below w0.heap.size w0 w) => hT.2.below hb)
  clear h hT
  go_enter Tryz.func151, Tryz.ntmps151
  go_wp2_with fail
  refine HY.out.mono ?_
  rintro e v1 ⟨y, k1, b1, rfl, h1, hk1, y1, y2, T1⟩
  go_wp2_with fail
  refine (HS.out _ _ _ h1 hk1).mono ?_
  rintro e v2 ⟨k2, b2, rfl, h2, hk2, S1⟩
  have S1 := hide S1
  clear h1 hk1
  go_wp2_with fail
  refine (HT2.out _ _ _ h2 hk2).mono ?_
  rintro e v3 ⟨m, k3, b3, rfl, h3, hk3, m1, m2, T2⟩
  clear h2 hk2
  have HT := HL.out _ h3.below
  have FIN := hide (fun (v : Int) (c : Bool) => month_tell (v := v) (c := c) T1.out S1.out T2.out)
  have HN := hide (length_any y m v3 (by omega) y2 (by omega) (by omega) HT)
  clear T1 S1 T2 HT
  by_cases g : 0 < LenV y m
  · have hy : 1 ≤ y ∧ y ≤ 275760 := by
      by_cases hy : 1 ≤ y ∧ y ≤ 275760
      · exact hy
      · rw [year_len hy] at g; omega
    obtain ⟨ya, yb⟩ := hy
    have gd : decide (0 < LenV y m) = true := decide_eq_true g
    have F := hide (fun v => FIN.out v true gd.symm)
    clear FIN
    generalize LenV y m = n at *
    go_wp2_with fail
    refine HN.out.mono ?_
    rintro e v6 ⟨rfl, rfl⟩
    go_wp2_with fail
    refine (must_any w0 R k3 b3 true _ h3).mono ?_
    rintro e v7 ⟨rfl, h6⟩
    clear h3
    go_wp2_with fail
    go_ret
    exact ⟨_, k3, _, rfl, h6, F.out _ (fun _ => by omega)⟩
  · have g0 : LenV y m = 0 := by
      unfold LenV at g ⊢
      split
      · rename_i x
        rw [if_pos x] at g
        have := len_bounds y m
        omega
      · rfl
    have gd : decide (0 < LenV y m) = false := decide_eq_false g
    have F := hide (fun v => FIN.out v false gd.symm (fun x => by cases x))
    rw [g0] at HN
    clear FIN gd g g0
    go_wp2_with fail
    refine HN.out.mono ?_
    rintro e v6 ⟨rfl, rfl⟩
    go_wp2_with fail
    refine (must_any w0 R k3 b3 false _ h3).mono ?_
    rintro e v7 ⟨rfl, h6⟩
    clear h3
    go_wp2_with fail
    go_ret
    exact ⟨_, k3, _, rfl, h6, F.out _⟩
set_option maxHeartbeats 1000000 in
set_option maxRecDepth 100000 in
theorem week_any (w0 : World) (R : Nat) (l : List UInt8) (b : Bool) (w : World) (h : Rd w0 w R l b) (hl : l.length ≤ 1000000) (hT : ReadTabs w0) :
    Calls Tryz.prog 152 #[.pointer (some ⟨R, 0, none⟩)] w fun e w' => ∃ v k b', e = .returned (.int .i64 v) ∧ Rd w0 w' R k b' ∧ Hid (Tell b (weekP l) v k b') := by
  have HY := hide (rdYear_any w0 R l b w h hl hT.1)
  have HS := hide (fun l b w h hl => sign_any w0 R l b ⟨#[45]⟩ isHy w h hl signs_hy)
  have HW := hide (fun l b w h hl => sign_any w0 R l b ⟨#[87]⟩ isW w h hl signs_W)
  have HT2 := hide (fun l b w h hl => rdTwo_any w0 R l b w h hl hT.1)
  clear h hT
  go_enter Tryz.func152, Tryz.ntmps152
  go_wp2_with fail
  refine HY.out.mono ?_
  rintro e v1 ⟨y, k1, b1, rfl, h1, hk1, y1, y2, T1⟩
  go_wp2_with fail
  refine (HS.out _ _ _ h1 hk1).mono ?_
  rintro e v2 ⟨k2, b2, rfl, h2, hk2, S1⟩
  have S1 := hide S1
  clear h1 hk1
  go_wp2_with fail
  refine (HW.out _ _ _ h2 hk2).mono ?_
  rintro e v3 ⟨k3, b3, rfl, h3, hk3, S2⟩
  have S2 := hide S2
  clear h2 hk2
  go_wp2_with fail
  refine (HT2.out _ _ _ h3 hk3).mono ?_
  rintro e v4 ⟨m, k4, b4, rfl, h4, hk4, m1, m2, T2⟩
  clear h3 hk3
  have FIN := hide (fun (v : Int) (c : Bool) => week_tell (v := v) (c := c) T1.out S1.out S2.out T2.out)
  have HN := hide (monday_any y m v4 (by omega) (by omega))
  clear T1 S1 S2 T2
  by_cases g : 1 ≤ m ∧ m ≤ WeeksV y
  · have hy := weeks_some g
    have nb := new_bounds hy.1 (by omega : y ≤ 275762)
    have fb := first_bounds y
    have F := hide (fun v => FIN.out v true (decide_eq_true g).symm)
    rw [mon_in g] at HN
    simp only at HN
    have fb1 : -719165 ≤ firstV y := by omega
    have fb2 : firstV y ≤ 200000003 := by omega
    clear FIN g hy nb fb
    generalize firstV y = n at *
    go_wp2_with fail
    refine HN.out.mono ?_
    rintro e v6 ⟨rfl, rfl⟩
    go_wp2_with fail
    refine (must_any w0 R k4 b4 true _ h4).mono ?_
    rintro e v7 ⟨rfl, h6⟩
    clear h4
    go_wp2_with fail
    go_ret
    exact ⟨_, k4, _, rfl, h6, F.out _ (fun _ => by omega)⟩
  · have F := hide (fun v => FIN.out v false (decide_eq_false g).symm (fun x => by cases x))
    rw [mon_out g] at HN
    simp only at HN
    clear FIN g
    go_wp2_with fail
    refine HN.out.mono ?_
    rintro e v6 ⟨rfl, rfl⟩
    go_wp2_with fail
    refine (must_any w0 R k4 b4 false _ h4).mono ?_
    rintro e v7 ⟨rfl, h6⟩
    clear h4
    go_wp2_with fail
    go_ret
    exact ⟨_, k4, _, rfl, h6, F.out _⟩
end Go.Proofs.YtfjfkkbgkjmghaaGreatDoor

namespace Go.Proofs.YtfjfkkbgkjmghaaGreatDoor
open Go.RowKit
set_option maxRecDepth 100000
theorem secP_none {n : Int} {l : List UInt8} (h : signP isCol l = none) : secP n l = some (n, l) := by unfold secP; rw [h]
theorem secP_some {n v : Int} {l k : List UInt8} (h : signP isCol l = some (v, k)) : secP n l = (belowP 60 k).bind fun s => fracP (n + s.1 * 1000) s.2 := by unfold secP; rw [h]
theorem fracP_none {n : Int} {l : List UInt8} (h : signP isPt l = none) : fracP n l = some (n, l) := by unfold fracP; rw [h]
theorem fracP_some {n v : Int} {l k : List UInt8} (h : signP isPt l = some (v, k)) : fracP n l = (thP k).bind fun f => some (n + f.1, f.2) := by unfold fracP; rw [h]
theorem time_tell {l k1 k2 k3 k4 : List UInt8} {b b1 b2 b3 b4 : Bool} {x m v : Int} (T1 : Tell b (belowP 24 l) x k1 b1) (S1 : Tell b1 (signP isCol k1) 0 k2 b2) (T2 : Tell b2 (belowP 60 k2) m k3 b3) (h : Tell b3 (secP (x * 3600000 + m * 60000) k3) v k4 b4) : Tell b (timeP l) v k4 b4 := by
  unfold timeP
  refine Tell.bind (f := fun x l1 => (signP isCol l1).bind fun s => (belowP 60 s.2).bind fun m => secP (x * 3600000 + m.1 * 60000) m.2) T1 ?_
  refine Tell.bind (f := fun _ l1 => (belowP 60 l1).bind fun m => secP (x * 3600000 + m.1 * 60000) m.2) S1 ?_
  exact Tell.bind (f := fun m l1 => secP (x * 3600000 + m * 60000) l1) T2 h
theorem sign_zero {p : UInt8 → Bool} {l k : List UInt8} {v : Int} (h : signP p l = some (v, k)) : signP p l = some (0, k) := by
  cases l with
  | nil => cases h
  | cons c r =>
    rw [sign_cons] at h ⊢
    split at h
    · rename_i e; cases h; exact if_pos e
    · cases h
set_option maxHeartbeats 1000000 in
set_option maxRecDepth 100000 in
theorem time_any (w0 : World) (R : Nat) (l : List UInt8) (b : Bool) (w : World) (h : Rd w0 w R l b) (hl : l.length ≤ 1000000) (hT : Errs w0) :
    Calls Tryz.prog 153 #[.pointer (some ⟨R, 0, none⟩)] w fun e w' => ∃ v k b', e = .returned (.int .i64 v) ∧ Rd w0 w' R k b' ∧ 0 ≤ v ∧ v ≤ 1000000000000 ∧ Hid (Tell b (timeP l) v k b') := by
  have H24 := hide (below_any w0 R l b 24 w h hl (by omega) hT)
  have HS := hide (fun l b w h hl => sign_any w0 R l b ⟨#[58]⟩ isCol w h hl signs_col)
  have H60 := hide (fun l b w h hl => below_any w0 R l b 60 w h hl (by omega) hT)
  have HTH := hide (fun l b w h hl => thousandths_any w0 R l b w h hl hT)
  have HNN := hide (fun l b w h hl hn => next_no w0 R l b ⟨#[58]⟩ isCol w h hl signs_col hn)
  have HNY := hide (fun l k b w h hl hn => next_yes w0 R l k b ⟨#[58]⟩ isCol w h hl signs_col hn)
  have HPN := hide (fun l b w h hl hn => next_no w0 R l b ⟨#[46]⟩ isPt w h hl signs_pt hn)
  have HPY := hide (fun l k b w h hl hn => next_yes w0 R l k b ⟨#[46]⟩ isPt w h hl signs_pt hn)
  clear h hT
  go_enter Tryz.func153, Tryz.ntmps153
  go_wp2_with fail
  refine H24.out.mono ?_
  rintro e v1 ⟨x, k1, b1, rfl, h1, hk1, x1, x2, T1⟩
  go_wp2_with fail
  refine (HS.out _ _ _ h1 hk1).mono ?_
  rintro e v2 ⟨k2, b2, rfl, h2, hk2, S1⟩
  have S1 := hide S1
  clear h1 hk1
  go_wp2_with fail
  refine (H60.out _ _ _ h2 hk2).mono ?_
  rintro e v3 ⟨m, k3, b3, rfl, h3, hk3, m1, m2, T2⟩
  clear h2 hk2
  have FIN := hide (fun (v : Int) (k4 : List UInt8) (b4 : Bool) => time_tell (v := v) (k4 := k4) (b4 := b4) T1.out S1.out T2.out)
  clear T1 S1 T2
  cases hn : signP isCol k3 with
  | none =>
    have HN := hide (HNN.out _ _ _ h3 hk3 hn)
    rw [secP_none hn] at FIN
    clear hn
    go_wp2_with fail
    refine HN.out.mono ?_
    rintro e v4 ⟨rfl, rfl⟩
    go_wp2_with fail
    go_ret
    exact ⟨_, k3, b3, rfl, h3, by omega, by omega, FIN.out _ _ _ Tell.pure⟩
  | some y =>
    obtain ⟨yv, k4⟩ := y
    have HN := hide (HNY.out _ _ _ _ h3 hk3 (sign_zero hn))
    have hk4 : k4.length ≤ 1000000 := Nat.le_trans (sign_len hn) hk3
    rw [secP_some hn] at FIN
    clear hn h3 hk3
    go_wp2_with fail
    refine HN.out.mono ?_
    rintro e v4 ⟨rfl, h4⟩
    go_wp2_with fail
    refine (H60.out _ _ _ h4 hk4).mono ?_
    rintro e v5 ⟨s, k5, b5, rfl, h5, hk5, s1, s2, T3⟩
    clear h4 hk4 HN
    have FIN2 := hide (fun (v : Int) (k : List UInt8) (b' : Bool) (hh : Tell b5 (fracP (x * 3600000 + m * 60000 + s * 1000) k5) v k b') => FIN.out v k b' (Tell.bind (f := fun s l1 => fracP (x * 3600000 + m * 60000 + s * 1000) l1) T3.out hh))
    clear FIN T3
    cases hp : signP isPt k5 with
    | none =>
      have HN := hide (HPN.out _ _ _ h5 hk5 hp)
      rw [fracP_none hp] at FIN2
      clear hp
      go_wp2_with fail
      refine HN.out.mono ?_
      rintro e v6 ⟨rfl, rfl⟩
      go_wp2_with fail
      go_ret
      exact ⟨_, k5, b5, rfl, h5, by omega, by omega, FIN2.out _ _ _ Tell.pure⟩
    | some y =>
      obtain ⟨yv, k6⟩ := y
      have HN := hide (HPY.out _ _ _ _ h5 hk5 (sign_zero hp))
      have hk6 : k6.length ≤ 1000000 := Nat.le_trans (sign_len hp) hk5
      rw [fracP_some hp] at FIN2
      clear hp h5 hk5
      go_wp2_with fail
      refine HN.out.mono ?_
      rintro e v6 ⟨rfl, h6⟩
      go_wp2_with fail
      refine (HTH.out _ _ _ h6 hk6).mono ?_
      rintro e v7 ⟨f, k7, b7, rfl, h7, hk7, f1, f2, T4⟩
      clear h6 hk6 HN
      have FIN3 := hide (FIN2.out _ _ _ (Tell.bind (f := fun f l1 => some (x * 3600000 + m * 60000 + s * 1000 + f, l1)) T4.out Tell.pure))
      clear FIN2 T4
      go_wp2_with fail
      go_ret
      exact ⟨_, k7, b7, rfl, h7, by omega, by omega, FIN3⟩
theorem local_tell {l k1 k2 k3 : List UInt8} {b b1 b2 b3 : Bool} {d t : Int} (T1 : Tell b (dateP l) d k1 b1) (S1 : Tell b1 (signP isSep k1) 0 k2 b2) (T2 : Tell b2 (timeP k2) t k3 b3) : Tell b (localP l) (d + t) k3 b3 := by
  unfold localP
  refine Tell.bind (f := fun d l1 => (signP isSep l1).bind fun s => (timeP s.2).bind fun t => some (d + t.1, t.2)) T1 ?_
  refine Tell.bind (f := fun _ l1 => (timeP l1).bind fun t => some (d + t.1, t.2)) S1 ?_
  exact Tell.bind (f := fun t l1 => some (d + t, l1)) T2 Tell.pure
set_option maxHeartbeats 1000000 in
set_option maxRecDepth 100000 in
theorem local_any (w0 : World) (R : Nat) (l : List UInt8) (b : Bool) (w : World) (h : Rd w0 w R l b) (hl : l.length ≤ 1000000) (hT : ReadTabs w0) :
    Calls Tryz.prog 154 #[.pointer (some ⟨R, 0, none⟩)] w fun e w' => ∃ v k b', e = .returned (.int .i64 v) ∧ Rd w0 w' R k b' ∧ Hid (Tell b (localP l) v k b') := by
  have HD := hide (date_any w0 R l b w h hl hT)
  have HS := hide (fun l b w h hl => sign_any w0 R l b ⟨#[84, 32]⟩ isSep w h hl signs_sep)
  have HC := hide (fun l b w h hl => time_any w0 R l b w h hl hT.1)
  clear h hT
  go_enter Tryz.func154, Tryz.ntmps154
  go_wp2_with fail
  refine HD.out.mono ?_
  rintro e v1 ⟨x, k1, b1, rfl, h1, hk1, x1, x2, T1⟩
  go_wp2_with fail
  refine (HS.out _ _ _ h1 hk1).mono ?_
  rintro e v2 ⟨k2, b2, rfl, h2, hk2, S1⟩
  have S1 := hide S1
  clear h1 hk1
  go_wp2_with fail
  refine (HC.out _ _ _ h2 hk2).mono ?_
  rintro e v3 ⟨m, k3, b3, rfl, h3, m1, m2, T2⟩
  clear h2 hk2
  have FIN := hide (local_tell T1.out S1.out T2.out)
  clear T1 S1 T2
  go_wp2_with fail
  go_ret
  exact ⟨_, k3, b3, rfl, h3, FIN⟩
end Go.Proofs.YtfjfkkbgkjmghaaGreatDoor

namespace Go.Proofs.YtfjfkkbgkjmghaaGreatDoor
open Go.RowKit
set_option maxRecDepth 100000
set_option maxHeartbeats 1000000 in
theorem isKind_no (kind : Int) (w : World) (h : ¬ (1 ≤ kind ∧ kind ≤ 5)) :
    Calls Tryz.prog 149 #[.int .i64 kind] w fun e w' => e = .returned (.bool false) ∧ w' = w := by
  rcases (show kind < 1 ∨ (1 ≤ kind ∧ 5 < kind) by omega) with g | ⟨g, g'⟩
  · clear h
    go_enter Tryz.func149, Tryz.ntmps149
    go_wp2_with fail
    go_ret
    exact ⟨rfl, rfl⟩
  · have d : decide (kind ≤ 5) = false := decide_eq_false (by omega)
    clear h
    go_enter Tryz.func149, Tryz.ntmps149
    go_wp2_with fail
    go_ret
    exact ⟨rfl, rfl⟩
set_option maxHeartbeats 1000000 in
theorem isKind_yes (kind : Int) (w : World) (g : 1 ≤ kind) (g' : kind ≤ 5) :
    Calls Tryz.prog 149 #[.int .i64 kind] w fun e w' => e = .returned (.bool true) ∧ w' = w := by
  have d : decide (kind ≤ 5) = true := decide_eq_true g'
  go_enter Tryz.func149, Tryz.ntmps149
  go_wp2_with fail
  go_ret
  exact ⟨rfl, rfl⟩
set_option maxHeartbeats 1000000 in
theorem parse_kind (kind : Int) (s : ByteArray) (w : World) (h : ¬ (1 ≤ kind ∧ kind ≤ 5)) :
    Calls Tryz.prog 117 #[.int .i64 kind, .string s] w fun e w' => e = .returned (.tuple #[.int .i64 0, .int .i64 3]) ∧ w' = w := by
  have HK := hide (fun w => isKind_no kind w h)
  clear h
  go_enter Tryz.func117, Tryz.ntmps117
  go_wp2_with fail
  refine (HK.out _).mono ?_
  rintro e v ⟨rfl, rfl⟩
  go_wp2_with fail
  go_ret2
  exact ⟨rfl, rfl⟩
/-- How Parse ends, by how the reading went. -/
theorem end_bad {p : Got} {v : Int} {k : List UInt8} (h : Tell false p v k true) : outM (fin p) = (0, 1) := by
  rcases h with ⟨_, h, _⟩ | ⟨_, h⟩
  · cases h
  · rcases h with h | h
    · cases h
    · rw [h]; rfl
theorem end_left {p : Got} {v : Int} {c : UInt8} {k : List UInt8} (h : Tell false p v (c :: k) false) : outM (fin p) = (0, 1) := by
  rcases h with ⟨_, _, h⟩ | ⟨h, _⟩
  · rw [h]; rfl
  · cases h
theorem end_good {p : Got} {v : Int} (h : Tell false p v [] false) : outM (fin p) = (v, 0) := by
  rcases h with ⟨_, _, h⟩ | ⟨h, _⟩
  · rw [h]; rfl
  · cases h
theorem ret_both {a b : Int} {p : Int × Int} (h : p = (a, b)) : Ending.returned (.tuple #[.int .i64 a, .int .i64 b]) = .returned (.tuple #[.int .i64 p.1, .int .i64 p.2]) := by rw [h]
theorem lie_fresh (w : World) (o x : Obj) : ((w.alloc o).alloc x).heap[w.heap.size + 1]? = some x := by
  show ((w.heap.push o).push x)[w.heap.size + 1]? = some x
  rw [show w.heap.size + 1 = (w.heap.push o).size by simp]
  exact Array.getElem?_push_size
theorem rd_fresh (w : World) (o : Obj) (s : ByteArray) : Rd w ((w.alloc o).alloc (.cells #[.string s, .bool false] 154)) (w.heap.size + 1) s.data.toList false :=
  ⟨by omega, lie_fresh w o _, ((Below.refl _ w).alloc (Nat.le_refl _) o).alloc (by simp) _⟩
set_option maxHeartbeats 1000000 in
set_option maxRecDepth 100000 in
theorem progParse_1 (s : ByteArray) (w : World) (hs : s.size ≤ 100000) (hT : ReadTabs w) :
    Calls Tryz.prog 117 #[.int .i64 1, .string s] w fun e w' => e = .returned (.tuple #[.int .i64 (outM (fin (dateP s.data.toList))).1, .int .i64 (outM (fin (dateP s.data.toList))).2]) ∧ Below w.heap.size w w' := by
  have HK := hide (fun w => isKind_yes 1 w (by decide) (by decide))
  have HR := hide (fun R w' h => (date_any w R s.data.toList false w' h (by simp; omega) hT).mono (fun e w'' ⟨v, k, b', he, hr, _, _, _, T⟩ => (⟨v, k, b', he, hr, T⟩ : ∃ v k b', e = Ending.returned (.int .i64 v) ∧ Rd w w'' R k b' ∧ Hid (Tell false (dateP s.data.toList) v k b'))))
  have RF := hide (fun o => rd_fresh w o s)
  clear hT hs
  generalize dateP s.data.toList = p at *
  go_enter Tryz.func117, Tryz.ntmps117
  go_wp2_with fail
  refine (HK.out _).mono ?_
  rintro e v ⟨rfl, rfl⟩
  go_wp2_with fail
  refine (HR.out _ _ (RF.out _)).mono ?_
  rintro e v1 ⟨x, k, b, rfl, h, T⟩
  have h0 := hide h
  have c1 := h.cell1
  cases b with
  | true =>
    have E := hide (end_bad T.out)
    clear T h HK HR RF
    go_wp2_with fail
    go_ret2
    exact ⟨ret_both E.out, h0.out.below⟩
  | false =>
    cases k with
    | nil =>
      have c0 : v1.cell? ⟨v.heap.size + 1, 0, none⟩ = some (.string ⟨#[]⟩) := h.cell0
      have E := hide (end_good T.out)
      clear T h HK HR RF
      go_wp2_with fail
      go_ret2
      exact ⟨ret_both E.out, h0.out.below⟩
    | cons c k =>
      have c0 := h.cell0
      have E := hide (end_left T.out)
      have hne : ¬ (txt (c :: k)).toList = [] := by rw [ByteArray.toList_eq, txt_data]; simp
      have hne2 : (txt (c :: k)).toList.isEmpty = false := by rw [ByteArray.toList_eq, txt_data]; rfl
      clear T h HK HR RF
      generalize txt (c :: k) = t at *
      go_wp2_with fail
      go_ret2
      exact ⟨ret_both E.out, h0.out.below⟩
set_option maxHeartbeats 1000000 in
set_option maxRecDepth 100000 in
theorem progParse_2 (s : ByteArray) (w : World) (hs : s.size ≤ 100000) (hT : ReadTabs w) :
    Calls Tryz.prog 117 #[.int .i64 2, .string s] w fun e w' => e = .returned (.tuple #[.int .i64 (outM (fin (monthP s.data.toList))).1, .int .i64 (outM (fin (monthP s.data.toList))).2]) ∧ Below w.heap.size w w' := by
  have HK := hide (fun w => isKind_yes 2 w (by decide) (by decide))
  have HR := hide (fun R w' h => (month_any w R s.data.toList false w' h (by simp; omega) hT).mono (fun e w'' ⟨v, k, b', he, hr, T⟩ => (⟨v, k, b', he, hr, T⟩ : ∃ v k b', e = Ending.returned (.int .i64 v) ∧ Rd w w'' R k b' ∧ Hid (Tell false (monthP s.data.toList) v k b'))))
  have RF := hide (fun o => rd_fresh w o s)
  clear hT hs
  generalize monthP s.data.toList = p at *
  go_enter Tryz.func117, Tryz.ntmps117
  go_wp2_with fail
  refine (HK.out _).mono ?_
  rintro e v ⟨rfl, rfl⟩
  go_wp2_with fail
  refine (HR.out _ _ (RF.out _)).mono ?_
  rintro e v1 ⟨x, k, b, rfl, h, T⟩
  have h0 := hide h
  have c1 := h.cell1
  cases b with
  | true =>
    have E := hide (end_bad T.out)
    clear T h HK HR RF
    go_wp2_with fail
    go_ret2
    exact ⟨ret_both E.out, h0.out.below⟩
  | false =>
    cases k with
    | nil =>
      have c0 : v1.cell? ⟨v.heap.size + 1, 0, none⟩ = some (.string ⟨#[]⟩) := h.cell0
      have E := hide (end_good T.out)
      clear T h HK HR RF
      go_wp2_with fail
      go_ret2
      exact ⟨ret_both E.out, h0.out.below⟩
    | cons c k =>
      have c0 := h.cell0
      have E := hide (end_left T.out)
      have hne : ¬ (txt (c :: k)).toList = [] := by rw [ByteArray.toList_eq, txt_data]; simp
      have hne2 : (txt (c :: k)).toList.isEmpty = false := by rw [ByteArray.toList_eq, txt_data]; rfl
      clear T h HK HR RF
      generalize txt (c :: k) = t at *
      go_wp2_with fail
      go_ret2
      exact ⟨ret_both E.out, h0.out.below⟩
set_option maxHeartbeats 1000000 in
set_option maxRecDepth 100000 in
theorem progParse_3 (s : ByteArray) (w : World) (hs : s.size ≤ 100000) (hT : ReadTabs w) :
    Calls Tryz.prog 117 #[.int .i64 3, .string s] w fun e w' => e = .returned (.tuple #[.int .i64 (outM (fin (weekP s.data.toList))).1, .int .i64 (outM (fin (weekP s.data.toList))).2]) ∧ Below w.heap.size w w' := by
  have HK := hide (fun w => isKind_yes 3 w (by decide) (by decide))
  have HR := hide (fun R w' h => (week_any w R s.data.toList false w' h (by simp; omega) hT).mono (fun e w'' ⟨v, k, b', he, hr, T⟩ => (⟨v, k, b', he, hr, T⟩ : ∃ v k b', e = Ending.returned (.int .i64 v) ∧ Rd w w'' R k b' ∧ Hid (Tell false (weekP s.data.toList) v k b'))))
  have RF := hide (fun o => rd_fresh w o s)
  clear hT hs
  generalize weekP s.data.toList = p at *
  go_enter Tryz.func117, Tryz.ntmps117
  go_wp2_with fail
  refine (HK.out _).mono ?_
  rintro e v ⟨rfl, rfl⟩
  go_wp2_with fail
  refine (HR.out _ _ (RF.out _)).mono ?_
  rintro e v1 ⟨x, k, b, rfl, h, T⟩
  have h0 := hide h
  have c1 := h.cell1
  cases b with
  | true =>
    have E := hide (end_bad T.out)
    clear T h HK HR RF
    go_wp2_with fail
    go_ret2
    exact ⟨ret_both E.out, h0.out.below⟩
  | false =>
    cases k with
    | nil =>
      have c0 : v1.cell? ⟨v.heap.size + 1, 0, none⟩ = some (.string ⟨#[]⟩) := h.cell0
      have E := hide (end_good T.out)
      clear T h HK HR RF
      go_wp2_with fail
      go_ret2
      exact ⟨ret_both E.out, h0.out.below⟩
    | cons c k =>
      have c0 := h.cell0
      have E := hide (end_left T.out)
      have hne : ¬ (txt (c :: k)).toList = [] := by rw [ByteArray.toList_eq, txt_data]; simp
      have hne2 : (txt (c :: k)).toList.isEmpty = false := by rw [ByteArray.toList_eq, txt_data]; rfl
      clear T h HK HR RF
      generalize txt (c :: k) = t at *
      go_wp2_with fail
      go_ret2
      exact ⟨ret_both E.out, h0.out.below⟩
set_option maxHeartbeats 1000000 in
set_option maxRecDepth 100000 in
theorem progParse_4 (s : ByteArray) (w : World) (hs : s.size ≤ 100000) (hT : ReadTabs w) :
    Calls Tryz.prog 117 #[.int .i64 4, .string s] w fun e w' => e = .returned (.tuple #[.int .i64 (outM (fin (timeP s.data.toList))).1, .int .i64 (outM (fin (timeP s.data.toList))).2]) ∧ Below w.heap.size w w' := by
  have HK := hide (fun w => isKind_yes 4 w (by decide) (by decide))
  have HR := hide (fun R w' h => (time_any w R s.data.toList false w' h (by simp; omega) hT.1).mono (fun e w'' ⟨v, k, b', he, hr, _, _, T⟩ => (⟨v, k, b', he, hr, T⟩ : ∃ v k b', e = Ending.returned (.int .i64 v) ∧ Rd w w'' R k b' ∧ Hid (Tell false (timeP s.data.toList) v k b'))))
  have RF := hide (fun o => rd_fresh w o s)
  clear hT hs
  generalize timeP s.data.toList = p at *
  go_enter Tryz.func117, Tryz.ntmps117
  go_wp2_with fail
  refine (HK.out _).mono ?_
  rintro e v ⟨rfl, rfl⟩
  go_wp2_with fail
  refine (HR.out _ _ (RF.out _)).mono ?_
  rintro e v1 ⟨x, k, b, rfl, h, T⟩
  have h0 := hide h
  have c1 := h.cell1
  cases b with
  | true =>
    have E := hide (end_bad T.out)
    clear T h HK HR RF
    go_wp2_with fail
    go_ret2
    exact ⟨ret_both E.out, h0.out.below⟩
  | false =>
    cases k with
    | nil =>
      have c0 : v1.cell? ⟨v.heap.size + 1, 0, none⟩ = some (.string ⟨#[]⟩) := h.cell0
      have E := hide (end_good T.out)
      clear T h HK HR RF
      go_wp2_with fail
      go_ret2
      exact ⟨ret_both E.out, h0.out.below⟩
    | cons c k =>
      have c0 := h.cell0
      have E := hide (end_left T.out)
      have hne : ¬ (txt (c :: k)).toList = [] := by rw [ByteArray.toList_eq, txt_data]; simp
      have hne2 : (txt (c :: k)).toList.isEmpty = false := by rw [ByteArray.toList_eq, txt_data]; rfl
      clear T h HK HR RF
      generalize txt (c :: k) = t at *
      go_wp2_with fail
      go_ret2
      exact ⟨ret_both E.out, h0.out.below⟩
set_option maxHeartbeats 1000000 in
set_option maxRecDepth 100000 in
theorem progParse_5 (s : ByteArray) (w : World) (hs : s.size ≤ 100000) (hT : ReadTabs w) :
    Calls Tryz.prog 117 #[.int .i64 5, .string s] w fun e w' => e = .returned (.tuple #[.int .i64 (outM (fin (localP s.data.toList))).1, .int .i64 (outM (fin (localP s.data.toList))).2]) ∧ Below w.heap.size w w' := by
  have HK := hide (fun w => isKind_yes 5 w (by decide) (by decide))
  have HR := hide (fun R w' h => (local_any w R s.data.toList false w' h (by simp; omega) hT).mono (fun e w'' ⟨v, k, b', he, hr, T⟩ => (⟨v, k, b', he, hr, T⟩ : ∃ v k b', e = Ending.returned (.int .i64 v) ∧ Rd w w'' R k b' ∧ Hid (Tell false (localP s.data.toList) v k b'))))
  have RF := hide (fun o => rd_fresh w o s)
  clear hT hs
  generalize localP s.data.toList = p at *
  go_enter Tryz.func117, Tryz.ntmps117
  go_wp2_with fail
  refine (HK.out _).mono ?_
  rintro e v ⟨rfl, rfl⟩
  go_wp2_with fail
  refine (HR.out _ _ (RF.out _)).mono ?_
  rintro e v1 ⟨x, k, b, rfl, h, T⟩
  have h0 := hide h
  have c1 := h.cell1
  cases b with
  | true =>
    have E := hide (end_bad T.out)
    clear T h HK HR RF
    go_wp2_with fail
    go_ret2
    exact ⟨ret_both E.out, h0.out.below⟩
  | false =>
    cases k with
    | nil =>
      have c0 : v1.cell? ⟨v.heap.size + 1, 0, none⟩ = some (.string ⟨#[]⟩) := h.cell0
      have E := hide (end_good T.out)
      clear T h HK HR RF
      go_wp2_with fail
      go_ret2
      exact ⟨ret_both E.out, h0.out.below⟩
    | cons c k =>
      have c0 := h.cell0
      have E := hide (end_left T.out)
      have hne : ¬ (txt (c :: k)).toList = [] := by rw [ByteArray.toList_eq, txt_data]; simp
      have hne2 : (txt (c :: k)).toList.isEmpty = false := by rw [ByteArray.toList_eq, txt_data]; rfl
      clear T h HK HR RF
      generalize txt (c :: k) = t at *
      go_wp2_with fail
      go_ret2
      exact ⟨ret_both E.out, h0.out.below⟩
theorem momParse_read (kind : Int) (s : ByteArray) (w : World) (hs : s.size ≤ 100000) (hT : ReadTabs w) :
    Calls Tryz.prog 117 #[.int .i64 kind, .string s] w fun e w' => e = .returned (.tuple #[.int .i64 (momV kind s.data.toList).1, .int .i64 (momV kind s.data.toList).2]) ∧ Below w.heap.size w w' := by
  by_cases hk : 1 ≤ kind ∧ kind ≤ 5
  · unfold momV
    rw [if_pos hk]
    obtain ⟨h1, h2⟩ := hk
    rcases (show kind = 1 ∨ kind = 2 ∨ kind = 3 ∨ kind = 4 ∨ kind = 5 by omega) with rfl | rfl | rfl | rfl | rfl
    · have := progParse_1 s w hs hT
      rw [date_fin] at this; exact this
    · have := progParse_2 s w hs hT
      rw [month_fin] at this; exact this
    · have := progParse_3 s w hs hT
      rw [week_fin] at this; exact this
    · have := progParse_4 s w hs hT
      rw [time_fin] at this; exact this
    · have := progParse_5 s w hs hT
      rw [local_fin] at this; exact this
  · unfold momV
    rw [if_neg hk]
    refine (parse_kind kind s w hk).mono ?_
    rintro e w' ⟨rfl, rfl⟩
    exact ⟨rfl, Below.refl _ _⟩

end Go.Proofs.YtfjfkkbgkjmghaaGreatDoor
