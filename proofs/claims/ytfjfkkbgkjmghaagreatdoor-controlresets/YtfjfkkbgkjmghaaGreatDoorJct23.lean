/- The program's 'split' and 'pad'. The program's yearOf. The program's Date and Week. The program's showDay, showDate, showMonth, showTime. The program's showWeek, showTime, showLocal. The program's Parse and Show of moments. -/
import Derived.Test.YtfjfkkbgkjmghaaGreatDoorJct4
import Derived.Test.YtfjfkkbgkjmghaaGreatDoorJct22
import Derived.Shelf.SlSorted.Search

namespace Go.Proofs.YtfjfkkbgkjmghaaGreatDoor
open Go.RowKit
set_option maxRecDepth 100000
theorem drew_below (w : World) (q : Nat) : Below w.heap.size w (w.drewN q) := ⟨rfl, rfl, rfl, Nat.le_refl _, fun _ _ => rfl⟩
theorem quo_bounds {n s : Int} (h1 : -9223372036854775808 ≤ n) (h2 : n ≤ 9223372036854775807) (h3 : 2 ≤ s) : -4611686018427387904 ≤ n.tdiv s ∧ n.tdiv s ≤ 4611686018427387904 := by
  have e := Int.mul_tdiv_add_tmod n s
  by_cases hn : 0 ≤ n
  · have a := Int.tdiv_nonneg hn (show 0 ≤ s by omega)
    have b := Int.tmod_nonneg s hn
    have c : 2 * n.tdiv s ≤ s * n.tdiv s := Int.mul_le_mul_of_nonneg_right h3 a
    omega
  · have a : n.tdiv s ≤ 0 := by
      have := Int.tdiv_nonneg (a := -n) (b := s) (by omega) (by omega)
      rw [Int.neg_tdiv] at this
      omega
    have b := left_bounds (n := n) (s := s) (by omega) (by omega)
    have c : s * n.tdiv s ≤ 2 * n.tdiv s := Int.mul_le_mul_of_nonpos_right h3 a
    omega
theorem ret_halves {a b c d : Int} (h1 : a = c) (h2 : b = d) : Ending.returned (.tuple #[.int .i64 a, .int .i64 b]) = .returned (.tuple #[.int .i64 c, .int .i64 d]) := by rw [h1, h2]
theorem quo_up {n s : Int} (h3 : 1 ≤ s) (h : 0 ≤ n.tmod s) : n.tdiv s = n / s ∧ n.tmod s = n % s := by
  have e := (left_at (n := n) h3).1 h
  have e1 := Int.mul_tdiv_add_tmod n s
  have e2 := Int.mul_ediv_add_emod n s
  exact ⟨Int.eq_of_mul_eq_mul_left (show s ≠ 0 by omega) (by omega), e.symm⟩
theorem quo_down {n s : Int} (h3 : 1 ≤ s) (h : n.tmod s < 0) : n.tdiv s - 1 = n / s ∧ n.tmod s + s = n % s := by
  have e := ((left_at (n := n) h3).2 h).1
  have e1 := Int.mul_tdiv_add_tmod n s
  have e2 := Int.mul_ediv_add_emod n s
  refine ⟨Int.eq_of_mul_eq_mul_left (show s ≠ 0 by omega) ?_, e.symm⟩
  rw [Int.mul_sub]; omega
set_option maxHeartbeats 1000000 in
theorem split_any (n s : Int) (w : World) (h1 : -9223372036854775808 ≤ n) (h2 : n ≤ 9223372036854775807) (h3 : 2 ≤ s) (h4 : s ≤ 86400000) :
    Calls Tryz.prog 198 #[.int .i64 n, .int .i64 s] w fun e w' => e = .returned (.tuple #[.int .i64 (n / s), .int .i64 (n % s)]) ∧ Below w.heap.size w w' := by
  have ⟨d1, d2⟩ := quo_bounds h1 h2 h3
  have U := hide (quo_up (n := n) (s := s) (by omega))
  have D := hide (quo_down (n := n) (s := s) (by omega))
  have LB := hide (left_bounds (n := n) (s := s) (by omega))
  go_enter Tryz.func198, Tryz.ntmps198
  go_wp2_with fail
  go_quiet (fail)
  by_cases hc : 0 ≤ n.tmod s
  · have E := hide (U.out hc)
    clear U D LB
    go_wp2_with fail
    go_ret2
    exact ⟨ret_halves E.out.1 E.out.2, drew_below _ _⟩
  · have hc' : n.tmod s < 0 := by omega
    have E := hide (D.out hc')
    have hn : n < 0 := by
      rcases Int.lt_or_le n 0 with g | g
      · exact g
      · have := Int.tmod_nonneg s g; omega
    have b1 := (LB.out hn).1
    clear U D LB hc
    go_wp2_with fail
    go_ret2
    exact ⟨ret_halves E.out.1 E.out.2, drew_below _ _⟩
set_option maxHeartbeats 1000000 in
theorem padP_any (n k : Nat) (w : World) (hn : n ≤ 1000000) (hk : k ≤ 10) (hT : Tens w) :
    Calls Tryz.prog 200 #[.int .i64 n, .int .i64 k] w fun e w' => e = .returned (.string (txt (padL n k))) ∧ Below w.heap.size w w' := by
  have HI := hide (itoa_any n w hn hT)
  have HR := hide (fun w => repeat_noughts (k - (decD n).length) w (by omega))
  have hl := decD_len (n := n) (k := 7) (by omega) (by decide)
  have hz : (txt (decD n)).size = (decD n).length := rfl
  have hj : Hid (txt (padL n k) = txt (List.replicate (k - (decD n).length) 48) ++ txt (decD n)) := by
    show _ = _
    unfold padL
    rw [txt_app]
  have hr : (txt (List.replicate (k - (decD n).length) 48)).size ≤ 10 := by rw [txt_size, List.length_replicate]; omega
  have ha := fun w => run_string_add_sum (P := Tryz.prog) w (txt (List.replicate (k - (decD n).length) 48)) (txt (decD n)) (by omega)
  have hn2 : (n : Int) ≤ 1000000 := by omega
  have hn3 : (0 : Int) ≤ n := by omega
  generalize txt (List.replicate (k - (decD n).length) 48) = zs at *
  by_cases g : (decD n).length ≤ k
  · have e : ((k - (decD n).length : Nat) : Int) = (k : Int) - ((decD n).length : Int) := by omega
    rw [e] at HR
    have g' : ((decD n).length : Int) ≤ (k : Int) := by omega
    have gm : max (0 : Int) ((k : Int) - ((decD n).length : Int)) = (k : Int) - ((decD n).length : Int) := by omega
    clear e hT hn
    generalize txt (decD n) = ds at *
    go_enter Tryz.func200, Tryz.ntmps200
    go_wp2_with fail
    refine HI.out.mono ?_
    rintro e v ⟨rfl, b1⟩
    go_wp2_with fail
    refine (HR.out _).mono ?_
    rintro e v2 ⟨rfl, b2⟩
    go_wp2_with fail
    go_ret
    exact ⟨ret_str hj.out.symm, chain b1 b2⟩
  · have e : k - (decD n).length = 0 := by omega
    rw [e] at HR
    have g' : (k : Int) < ((decD n).length : Int) := by omega
    have gm : max (0 : Int) ((k : Int) - ((decD n).length : Int)) = 0 := by omega
    clear e hT hn
    generalize txt (decD n) = ds at *
    go_enter Tryz.func200, Tryz.ntmps200
    go_wp2_with fail
    refine HI.out.mono ?_
    rintro e v ⟨rfl, b1⟩
    go_wp2_with fail
    refine (HR.out _).mono ?_
    rintro e v2 ⟨rfl, b2⟩
    go_wp2_with fail
    go_ret
    exact ⟨ret_str hj.out.symm, chain b1 b2⟩
end Go.Proofs.YtfjfkkbgkjmghaaGreatDoor

namespace Go.Proofs.YtfjfkkbgkjmghaaGreatDoor
open Go.RowKit Go.Sort
set_option maxRecDepth 100000
/-- What a function that is handed on answers: where a year begins. -/
def Begins (g : Nat) (F : Int → Int) : Prop := ∀ (y : Int) (w : World), 1 ≤ y → y ≤ 275763 → Calls Tryz.prog g #[.int .i64 y] w fun e w' => e = .returned (.int .i64 (F y)) ∧ w' = w
set_option maxHeartbeats 1000000 in
theorem closure_any (g : Nat) (eg : ∀ args w, (callFunc g args).run Tryz.prog w = .ok (.enter g args) w) (F : Int → Int) (hg : Begins g F) (bb bn : Nat) (n x : Int) (W : World) (x1 : 0 ≤ x) (x2 : x < 275760)
    (hb : W.cell? ⟨bb, 0, none⟩ = some (.func (.func g) #[] #[])) (hn : W.cell? ⟨bn, 0, none⟩ = some (.int .i64 n)) :
    Calls Tryz.prog 241 (#[.int .i64 x] ++ #[.pointer (some ⟨bb, 0, none⟩), .pointer (some ⟨bn, 0, none⟩)]) W fun e w' => e = .returned (.bool (decide (n < F (x + 2)))) ∧ ∃ q, w' = W.drewN q := by
  have hF := fun w => hg (x + 2) w (by omega) (by omega)
  generalize F (x + 2) = f at *
  have HF := hide hF
  clear hF hg
  go_enter Tryz.func241, Tryz.ntmps241
  go_wp2
  go_quiet (exact Calls.quiet_of_same (HF.out _))
  go_wp2
  go_ret
  exact ⟨rfl, nq, rfl⟩
def renS : Go.Shelf.Ren := ⟨fun | 16 => 240 | n => n, fun | 3 => 3 | 4 => 4 | 34 => 206 | 35 => 57 | 38 => 194 | n => n, fun n => n⟩
theorem laysS : Go.Proofs.SlLaysO.n16 Tryz.prog renS := {
  mixed := by kernel_rfl
  f16 := Tryz.func240.trans (congrArg some (by kernel_rfl))
  t3 := Tryz.underlying3
  a3 := Tryz.isAgg3
  z3 := Tryz.sizeOf3
  v3 := Tryz.zeroValue3
  t4 := Tryz.underlying4
  a4 := Tryz.isAgg4
  z4 := Tryz.sizeOf4
  v4 := Tryz.zeroValue4
  t35 := Tryz.underlying57
  a35 := Tryz.isAgg57
  z35 := Tryz.sizeOf57
  v35 := Tryz.zeroValue57
  t38 := Tryz.underlying194
  a38 := Tryz.isAgg194
  z38 := Tryz.sizeOf194
  v38 := Tryz.zeroValue194 }
theorem eg34 : ∀ args w, (callFunc 241 args).run Tryz.prog w = .ok (.enter 241 args) w := enters_of Tryz.func241 (by kernel_rfl) rfl
theorem count_is {n T : Nat} {p : Nat → Bool} (hT : T ≤ n) (h1 : ∀ i, i < T → p i = false) (h2 : ∀ i, T ≤ i → i < n → p i = true) : (List.range n).countP (fun i => !p i) = T := by
  have hr : ∀ t, t < n → (List.range n)[t]! = t := fun t ht => by rw [getElem!_pos _ t (by simpa using ht)]; simp
  refine Lib.countP_boundary _ (List.range n) T (by simpa using hT) (fun t ht => ?_) (fun t h3 h4 => ?_)
  · rw [hr t (by omega), h1 t ht]; rfl
  · rw [hr t (by simpa using h4), h2 t h3 (by simpa using h4)]; rfl
/-- The world behind the two boxes. -/
def boxed (w : World) (n : Int) (g : Nat) : World := (w.alloc (.cells #[.int .i64 n] 2)).alloc (.cells #[.func (.func g) #[] #[]] 104)
theorem boxed_n (w : World) (n : Int) (g : Nat) : (boxed w n g).cell? ⟨w.heap.size, 0, none⟩ = some (.int .i64 n) := cell_alloc_sl _ (cell_new_sl w _ _)
theorem boxed_g (w : World) (n : Int) (g : Nat) : (boxed w n g).cell? ⟨w.heap.size + 1, 0, none⟩ = some (.func (.func g) #[] #[]) := by
  have := cell_new_sl (w.alloc (.cells #[.int .i64 n] 2)) (.func (.func g) #[] #[]) 104
  rwa [World.size_alloc] at this
theorem boxed_size (w : World) (n : Int) (g : Nat) : (boxed w n g).heap.size = w.heap.size + 1 + 1 := by simp [boxed]
theorem boxed_below (w : World) (n : Int) (g : Nat) (q : Nat) (os : Array Obj) : Below w.heap.size w (grow ((boxed w n g).drewN q) os) := by
  have hB0 : Below w.heap.size w (boxed w n g) := ((Below.refl _ w).alloc (Nat.le_refl _) _).alloc (by simp) _
  exact hB0.trans (below_grown_sl w.heap.size (boxed w n g) q os (by rw [boxed_size]; omega))
theorem search_any (g : Nat) (eg : ∀ args w, (callFunc g args).run Tryz.prog w = .ok (.enter g args) w) (F : Int → Int) (hg : Begins g F) (hF : ∀ x y, x ≤ y → F x ≤ F y) (n y : Int) (y1 : 1 ≤ y) (y2 : y ≤ 275761)
    (hlo : F y ≤ n) (hhi : y ≤ 275760 → n < F (y + 1)) (w : World) (q : Nat) :
    Calls Tryz.prog 240 #[.int .i64 275760, .func (.func 241) #[] #[.pointer (some ⟨w.heap.size + 1, 0, none⟩), .pointer (some ⟨w.heap.size, 0, none⟩)]] ((boxed w n g).drewN q) fun e w' =>
      e = .returned (.int .i64 (y - 1)) ∧ ∃ q' os, w' = grow ((boxed w n g).drewN q') os := by
  have cn : ((boxed w n g).drewN q).cell? ⟨w.heap.size, 0, none⟩ = some (.int .i64 n) := boxed_n w n g
  have cg : ((boxed w n g).drewN q).cell? ⟨w.heap.size + 1, 0, none⟩ = some (.func (.func g) #[] #[]) := boxed_g w n g
  have sz : ((boxed w n g).drewN q).heap.size = w.heap.size + 1 + 1 := boxed_size w n g
  have h := Any.sort_Search laysS 241 #[.pointer (some ⟨w.heap.size + 1, 0, none⟩), .pointer (some ⟨w.heap.size, 0, none⟩)] 275760 (fun i => decide (n < F ((i : Int) + 2))) ((boxed w n g).drewN q) eg34 (by decide)
    (fun m os i hi => (closure_any g eg F hg (w.heap.size + 1) w.heap.size n (i : Int) _ (by omega) (by omega) (cell_grown (by rw [sz]; exact Nat.lt_succ_self _) cg m os) (cell_grown (by rw [sz]; show w.heap.size < _; omega) cn m os)).mono
      fun _ _ ⟨he, q, hq⟩ => ⟨he, q, #[], by rw [hq, grow_empty]⟩)
    (fun a b hab _ ha => by
      have := hF ((a : Int) + 2) ((b : Int) + 2) (by omega)
      have := of_decide_eq_true ha
      exact decide_eq_true (by omega))
  have hc : (List.range 275760).countP (fun i : Nat => !decide (n < F ((i : Int) + 2))) = (y - 1).toNat := by
    refine count_is (p := fun i : Nat => decide (n < F ((i : Int) + 2))) (by omega) (fun i hi => ?_) (fun i h1 h2 => ?_)
    · have := hF ((i : Int) + 2) y (by omega)
      exact decide_eq_false (by omega)
    · have := hF (y + 1) ((i : Int) + 2) (by omega)
      have := hhi (by omega)
      exact decide_eq_true (by omega)
  rw [hc] at h
  have e : (((y - 1).toNat : Nat) : Int) = y - 1 := by omega
  rw [e] at h
  refine h.mono ?_
  rintro e' w' ⟨he, q', os, rfl⟩
  exact ⟨he, q + q', os, by rw [World.drewN_drewN]⟩
theorem ret_year {a b : Int} {c : Bool} (h : a = b) : Ending.returned (.tuple #[.int .i64 a, .bool c]) = .returned (.tuple #[.int .i64 b, .bool c]) := by rw [h]
set_option maxHeartbeats 1000000 in
theorem yearOf_at (g : Nat) (eg : ∀ args w, (callFunc g args).run Tryz.prog w = .ok (.enter g args) w) (F : Int → Int) (hg : Begins g F) (hF : ∀ x y, x ≤ y → F x ≤ F y) (n y : Int) (y1 : 1 ≤ y) (y2 : y ≤ 275761)
    (hlo : F y ≤ n) (hhi : y ≤ 275760 → n < F (y + 1)) (w : World) :
    Calls Tryz.prog 225 #[.int .i64 n, .func (.func g) #[] #[]] w fun e w' => e = .returned (.tuple #[.int .i64 y, .bool (yearOk y)]) ∧ Below w.heap.size w w' := by
  have hS := fun q => search_any g eg F hg hF n y y1 y2 hlo hhi w q
  have h1 := fun w => hg 1 w (by decide) (by decide)
  have hle : F 1 ≤ n := by have := hF 1 y y1; omega
  have hB := boxed_below w n g
  have ey : (1 : Int) + (y - 1) = y := by omega
  have hY : ∀ w, Calls Tryz.prog 217 #[.int .i64 (1 + (y - 1))] w fun e w' => e = .returned (.bool (yearOk y)) ∧ w' = w := fun w => by rw [ey]; exact isYear_any y w
  generalize yearOk y = b at *
  generalize F 1 = f at *
  unfold boxed at hS hB
  have HS := hide hS
  have H1 := hide h1
  have HB := hide hB
  have HY := hide hY
  have EY := hide ey
  clear hS h1 hB hg hF hlo hhi hY ey
  go_enter Tryz.func225, Tryz.ntmps225
  go_wp2
  go_quiet (exact Calls.quiet_of_same (H1.out _))
  go_wp2_with fail
  refine (HS.out _).mono ?_
  rintro e w' ⟨rfl, q, os, rfl⟩
  go_wp2_with fail
  refine (HY.out _).mono ?_
  rintro e u1 ⟨rfl, rfl⟩
  go_wp2_with fail
  go_ret2
  exact ⟨ret_year EY.out, HB.out _ _⟩
set_option maxHeartbeats 1000000 in
theorem yearOf_low (g : Nat) (eg : ∀ args w, (callFunc g args).run Tryz.prog w = .ok (.enter g args) w) (F : Int → Int) (hg : Begins g F) (n : Int) (h : n < F 1) (w : World) :
    Calls Tryz.prog 225 #[.int .i64 n, .func (.func g) #[] #[]] w fun e w' => e = .returned (.tuple #[.int .i64 0, .bool false]) ∧ Below w.heap.size w w' := by
  have h1 := fun w => hg 1 w (by decide) (by decide)
  have hB := fun q => boxed_below w n g q #[]
  generalize F 1 = f at *
  unfold boxed at hB
  have H1 := hide h1
  have HB := hide hB
  clear h1 hB hg
  go_enter Tryz.func225, Tryz.ntmps225
  go_wp2
  go_quiet (exact Calls.quiet_of_same (H1.out _))
  go_wp2_with fail
  go_ret2
  exact ⟨rfl, by have := HB.out nq; rw [grow_empty] at this; exact this⟩
theorem begins_day : Begins 216 newV := fun y w h1 h2 => firstDay_any y w h1 h2
theorem begins_monday : Begins 220 firstV := fun y w h1 h2 => firstMonday_any y w h1 h2
theorem eg_day : ∀ args w, (callFunc 216 args).run Tryz.prog w = .ok (.enter 216 args) w := enters_of Tryz.func216 (by kernel_rfl) rfl
theorem eg_monday : ∀ args w, (callFunc 220 args).run Tryz.prog w = .ok (.enter 220 args) w := enters_of Tryz.func220 (by kernel_rfl) rfl
end Go.Proofs.YtfjfkkbgkjmghaaGreatDoor

namespace Go.Proofs.YtfjfkkbgkjmghaaGreatDoor
open Go.RowKit
set_option maxRecDepth 100000
theorem ret_date {y m d c : Int} (h : c = d) : Ending.returned (.tuple #[.int .i64 y, .int .i64 m, .int .i64 c, .int .i64 0]) = .returned (.tuple #[.int .i64 y, .int .i64 m, .int .i64 d, .int .i64 0]) := by rw [h]
theorem yearOf_day (n y : Int) (w : World) (y1 : 1 ≤ y) (y2 : y ≤ 275760) (h : IsYear n y) :
    Calls Tryz.prog 225 #[.int .i64 n, .func (.func 216) #[] #[]] w fun e w' => e = .returned (.tuple #[.int .i64 y, .bool true]) ∧ Below w.heap.size w w' := by
  have := yearOf_at _ eg_day newV begins_day (fun _ _ => new_mono) n y y1 (by omega) h.1 (fun _ => h.2) w
  rw [yearOk_in y1 y2] at this; exact this
theorem yearOf_week (n y : Int) (w : World) (y1 : 1 ≤ y) (y2 : y ≤ 275760) (h : InWeeks n y) :
    Calls Tryz.prog 225 #[.int .i64 n, .func (.func 220) #[] #[]] w fun e w' => e = .returned (.tuple #[.int .i64 y, .bool true]) ∧ Below w.heap.size w w' := by
  have := yearOf_at _ eg_monday firstV begins_monday (fun _ _ => first_mono) n y y1 (by omega) h.1 (fun _ => h.2) w
  rw [yearOk_in y1 y2] at this; exact this
theorem yearOf_dayhigh (n : Int) (w : World) (h : newV 275761 ≤ n) :
    Calls Tryz.prog 225 #[.int .i64 n, .func (.func 216) #[] #[]] w fun e w' => e = .returned (.tuple #[.int .i64 275761, .bool false]) ∧ Below w.heap.size w w' := by
  have := yearOf_at _ eg_day newV begins_day (fun _ _ => new_mono) n 275761 (by decide) (by decide) h (fun h => absurd h (by decide)) w
  rw [yearOk_high (by decide)] at this; exact this
theorem yearOf_weekhigh (n : Int) (w : World) (h : firstV 275761 ≤ n) :
    Calls Tryz.prog 225 #[.int .i64 n, .func (.func 220) #[] #[]] w fun e w' => e = .returned (.tuple #[.int .i64 275761, .bool false]) ∧ Below w.heap.size w w' := by
  have := yearOf_at _ eg_monday firstV begins_monday (fun _ _ => first_mono) n 275761 (by decide) (by decide) h (fun h => absurd h (by decide)) w
  rw [yearOk_high (by decide)] at this; exact this
theorem yearOf_dayno (n : Int) (w : World) (h : n < newV 1 ∨ newV 275761 ≤ n) :
    ∃ y, Calls Tryz.prog 225 #[.int .i64 n, .func (.func 216) #[] #[]] w fun e w' => e = .returned (.tuple #[.int .i64 y, .bool false]) ∧ Below w.heap.size w w' :=
  h.elim (fun h => ⟨_, yearOf_low _ eg_day newV begins_day n h w⟩) (fun h => ⟨_, yearOf_dayhigh n w h⟩)
theorem yearOf_weekno (n : Int) (w : World) (h : n < firstV 1 ∨ firstV 275761 ≤ n) :
    ∃ y, Calls Tryz.prog 225 #[.int .i64 n, .func (.func 220) #[] #[]] w fun e w' => e = .returned (.tuple #[.int .i64 y, .bool false]) ∧ Below w.heap.size w w' :=
  h.elim (fun h => ⟨_, yearOf_low _ eg_monday firstV begins_monday n h w⟩) (fun h => ⟨_, yearOf_weekhigh n w h⟩)
set_option maxHeartbeats 1000000 in
theorem dateCall_out (n : Int) (w : World) (h : n < newV 1 ∨ newV 275761 ≤ n) :
    Calls Tryz.prog 223 #[.int .i64 n] w fun e w' => e = .returned (.tuple #[.int .i64 0, .int .i64 0, .int .i64 0, .int .i64 2]) ∧ Below w.heap.size w w' := by
  obtain ⟨y, hY⟩ := yearOf_dayno n w h
  have HY := hide hY
  clear hY h
  go_enter Tryz.func223, Tryz.ntmps223
  go_wp2_with fail
  refine (HY.out).mono ?_
  rintro e v1 ⟨rfl, b1⟩
  go_wp2_with fail
  (try simp only [Exit.inBlock, Exit.then]); refine bodyPost_ret (results_tmp4 rfl _ _ _) rfl ?_
  exact ⟨rfl, b1⟩
set_option maxHeartbeats 1000000 in
theorem dateCall_in (n y m d : Int) (w : World) (h : IsDay n y m d) (hT : Lens w) :
    Calls Tryz.prog 223 #[.int .i64 n] w fun e w' => e = .returned (.tuple #[.int .i64 y, .int .i64 m, .int .i64 d, .int .i64 0]) ∧ Below w.heap.size w w' := by
  have HY := hide (yearOf_day n y w h.y1 h.y2 h.year)
  have hN := fun (k : Int) (h1 : 1 ≤ k) (h2 : k < m) => month_next h h1 h2
  have hH := month_here h
  obtain ⟨c1, c2⟩ := h.bounds
  have hM := fun (k : Int) (g : k ≤ m) => aheadI_mono (y := y) g
  have e := h.is
  obtain ⟨y1, y2, m1, m2, d1, d2, -⟩ := h
  have hB := fun (k : Int) (h : k ≤ 13) => aheadI_bounds (y := y) h
  have hX := fun (k : Int) (h : 1 ≤ k) => aheadI_next (y := y) h
  have hK := len_bounds y
  have hm := hK m
  have hF := fun w => firstDay_any y w y1 (by omega)
  have hS := fun (k : Int) (h1 : 1 ≤ k) (h2 : k ≤ 12) w hT => by
    have := length_any y k w (by omega) (by omega) (by omega) (by omega) hT
    rw [len_in (by omega)] at this; exact this
  obtain ⟨n1, n2⟩ := new_range y1 (by omega)
  generalize newV y = N at *
  have r1 : 0 ≤ n - N ∧ n - N ≤ 400 := by have := hB m (by omega); omega
  have HN := hide hN
  have HH := hide hH
  have HM := hide hM
  have HB := hide hB
  have HX := hide hX
  have HK := hide hK
  have HF := hide hF
  have HS := hide hS
  have HT := hide hT
  have E := hide e
  clear hN hH hM hB hX hK hm hF hS hT e d2
  go_enter Tryz.func223, Tryz.ntmps223
  go_wp2_with fail
  refine (HY.out).mono ?_
  rintro e v1 ⟨rfl, b1⟩
  have T1 := hide (HT.out.below b1)
  go_wp2_with fail
  refine (HF.out _).mono ?_
  rintro e u1 ⟨rfl, rfl⟩
  go_wp2_with fail
  go_loop [3, 7] (fun s t => ∃ k r : Int, s = .int .i64 k ∧ t = .int .i64 r ∧ 1 ≤ k ∧ k ≤ m ∧ Hid (r = n - N - aheadI y k)) (fun s _ => (m - intOf s).toNat)
  case atStart => exact ⟨1, n - N, rfl, rfl, by omega, by omega, hide (by rw [aheadI_1]; omega)⟩
  case round =>
    obtain ⟨k, r, rfl, rfl, k1, k2, eR⟩ := hrel
    have hb := HB.out k (by omega)
    have hm := HM.out k k2
    have r1 : 0 ≤ r := by have := eR.out; have := E.out; omega
    have r2 : r ≤ 400 := by have := eR.out; omega
    have hs := HS.out k (by omega) (by omega)
    have hc := HK.out k
    clear hb hm
    by_cases hk : k < m
    · have hn : lenV y k ≤ r := by rw [eR.out]; exact HN.out k k1 hk
      have hx := hide (HX.out k k1)
      generalize lenV y k = l at *
      have Hs := hide hs
      clear hs
      go_wp2_with fail
      refine (Hs.out _ T1.out).mono ?_
      rintro e u1 ⟨rfl, rfl⟩
      go_wp2_with fail
      refine (Hs.out _ T1.out).mono ?_
      rintro e u1 ⟨rfl, rfl⟩
      go_wp2_with fail
      go_round
      case rel => exact ⟨k + 1, r - l, rfl, rfl, by omega, by omega, hide (by rw [hx.out, eR.out]; omega)⟩
      case measure => simp [intOf]; omega
    · obtain rfl : k = m := by omega
      have hn : r < lenV y k := by rw [eR.out]; exact HH.out.1
      have hd := hide (HH.out.2)
      generalize lenV y k = l at *
      have Hs := hide hs
      clear hs hk
      go_wp2_with fail
      refine (Hs.out _ T1.out).mono ?_
      rintro e u1 ⟨rfl, rfl⟩
      go_wp2_with fail
      (try simp only [Exit.inBlock, Exit.then]); refine bodyPost_ret (results_tmp4 rfl _ _ _) rfl ?_
      exact ⟨ret_date (by rw [eR.out]; exact hd.out), b1⟩
set_option maxHeartbeats 1000000 in
theorem weekCall_out (n : Int) (w : World) (h : n < firstV 1 ∨ firstV 275761 ≤ n) :
    Calls Tryz.prog 201 #[.int .i64 n] w fun e w' => e = .returned (.tuple #[.int .i64 0, .int .i64 0, .int .i64 2]) ∧ Below w.heap.size w w' := by
  obtain ⟨y, hY⟩ := yearOf_weekno n w h
  have HY := hide hY
  clear hY h
  go_enter Tryz.func201, Tryz.ntmps201
  go_wp2_with fail
  refine (HY.out).mono ?_
  rintro e v1 ⟨rfl, b1⟩
  go_wp2_with fail
  go_ret3
  exact ⟨rfl, b1⟩
theorem ret_week {y m d : Int} (h : m = d) : Ending.returned (.tuple #[.int .i64 y, .int .i64 m, .int .i64 0]) = .returned (.tuple #[.int .i64 y, .int .i64 d, .int .i64 0]) := by rw [h]
set_option maxHeartbeats 1000000 in
theorem weekCall_in (n y : Int) (w : World) (y1 : 1 ≤ y) (y2 : y ≤ 275760) (h : InWeeks n y) :
    Calls Tryz.prog 201 #[.int .i64 n] w fun e w' => e = .returned (.tuple #[.int .i64 y, .int .i64 (weekV n y), .int .i64 0]) ∧ Below w.heap.size w w' := by
  have HY := hide (yearOf_week n y w y1 y2 h)
  have hF := fun w => firstMonday_any y w y1 (by omega)
  obtain ⟨n1, n2⟩ := first_range y1 (by omega)
  have h1 := h.1
  have h2 := h.2
  have h3 := first_step y
  have E := hide (show weekV n y = (n - firstV y) / 7 + 1 from rfl)
  generalize weekV n y = v at *
  generalize firstV y = F at *
  have h4 : n - F ≤ 371 := by omega
  have h5 : 0 ≤ n - F := by omega
  have h6 : n ≤ 300000000 := by omega
  have HF := hide hF
  clear hF h3 h h2
  go_enter Tryz.func201, Tryz.ntmps201
  go_wp2_with fail
  refine (HY.out).mono ?_
  rintro e v1 ⟨rfl, b1⟩
  go_wp2_with fail
  refine (HF.out _).mono ?_
  rintro e u1 ⟨rfl, rfl⟩
  go_wp2_with fail
  go_ret3
  exact ⟨ret_week E.out.symm, b1⟩
end Go.Proofs.YtfjfkkbgkjmghaaGreatDoor

namespace Go.Proofs.YtfjfkkbgkjmghaaGreatDoor
open Go.RowKit
set_option maxRecDepth 100000
/-- The tables of the road of Show. -/
def ShowTabs (w : World) : Prop := Lens w ∧ Tens w
theorem ShowTabs.below {w w' : World} (h : ShowTabs w) (hb : Below w.heap.size w w') : ShowTabs w' := ⟨h.1.below hb, h.2.below hb⟩
theorem ret_pad {a b : ByteArray} (h : a = b) : Ending.returned (.tuple #[.string a, .int .i64 0]) = .returned (.tuple #[.string b, .int .i64 0]) := by rw [h]
set_option maxHeartbeats 1000000 in
theorem showDay_out (k : Int) (w : World) (h : k < newV 1 ∨ newV 275761 ≤ k) :
    Calls Tryz.prog 199 #[.int .i64 k] w fun e w' => e = .returned (.tuple #[.string ⟨#[]⟩, .int .i64 2]) ∧ Below w.heap.size w w' := by
  have HD := hide (fun w => dateCall_out k w h)
  clear h
  go_enter Tryz.func199, Tryz.ntmps199
  go_wp2_with fail
  refine (HD.out _).mono ?_
  rintro e v ⟨rfl, b1⟩
  go_wp2_with fail
  go_ret2
  exact ⟨rfl, b1⟩
set_option maxHeartbeats 1000000 in
theorem showDay_in (k : Int) (y m d : Nat) (w : World) (h : IsDay k y m d) (hT : ShowTabs w) :
    Calls Tryz.prog 199 #[.int .i64 k] w fun e w' => e = .returned (.tuple #[.string (txt (dateL y m d)), .int .i64 0]) ∧ Below w.heap.size w w' := by
  have HD := hide (dateCall_in k y m d w h hT.1)
  have hb := h.y2; have m2 := h.m2; have d2 := h.d2; have l2 := len_bounds y m
  have HA := hide (fun w' (b : Below w.heap.size w w') => padP_any y 4 w' (by omega) (by decide) (hT.2.below b))
  have HB := hide (fun w' (b : Below w.heap.size w w') => padP_any m 2 w' (by omega) (by decide) (hT.2.below b))
  have HC := hide (fun w' (b : Below w.heap.size w w') => padP_any d 2 w' (by omega) (by decide) (hT.2.below b))
  have z1 : (txt (padL y 4)).size ≤ 9 := by rw [txt_size]; exact pad_most (k := 9) (by omega) (by decide) (by decide)
  have z2 : (txt (padL m 2)).size ≤ 9 := by rw [txt_size]; exact pad_most (k := 9) (by omega) (by decide) (by decide)
  have z3 : (txt (padL d 2)).size ≤ 9 := by rw [txt_size]; exact pad_most (k := 9) (by omega) (by decide) (by decide)
  have E : Hid (txt (dateL y m d) = txt (padL y 4) ++ ⟨#[45]⟩ ++ txt (padL m 2) ++ ⟨#[45]⟩ ++ txt (padL d 2)) := by
    show _ = _
    unfold dateL
    rw [show (⟨#[45]⟩ : ByteArray) = txt [45] from rfl, txt_app, txt_app, txt_app, txt_app]
    simp
  generalize txt (padL y 4) = a at *
  generalize txt (padL m 2) = b at *
  generalize txt (padL d 2) = c at *
  have ze : (⟨#[45]⟩ : ByteArray).size = 1 := rfl
  have p1 := fun w => run_string_add_sum (P := Tryz.prog) w a ⟨#[45]⟩ (by omega)
  have p2 := fun w => run_string_add_sum (P := Tryz.prog) w (a ++ ⟨#[45]⟩) b (by rw [ByteArray.size_append]; omega)
  have p3 := fun w => run_string_add_sum (P := Tryz.prog) w (a ++ ⟨#[45]⟩ ++ b) ⟨#[45]⟩ (by rw [ByteArray.size_append, ByteArray.size_append]; omega)
  have p4 := fun w => run_string_add_sum (P := Tryz.prog) w (a ++ ⟨#[45]⟩ ++ b ++ ⟨#[45]⟩) c (by rw [ByteArray.size_append, ByteArray.size_append, ByteArray.size_append]; omega)
  clear ze z1 z2 z3 h hT hb m2 d2 l2
  generalize a ++ ⟨#[45]⟩ ++ b ++ ⟨#[45]⟩ ++ c = s4 at *
  generalize a ++ ⟨#[45]⟩ ++ b ++ ⟨#[45]⟩ = s3 at *
  generalize a ++ ⟨#[45]⟩ ++ b = s2 at *
  generalize a ++ ⟨#[45]⟩ = s1 at *
  generalize (y : Int) = Y at *
  generalize (m : Int) = M at *
  generalize (d : Int) = D at *
  go_enter Tryz.func199, Tryz.ntmps199
  go_wp2_with fail
  refine HD.out.mono ?_
  rintro e v ⟨rfl, b1⟩
  go_wp2_with fail
  refine (HA.out _ b1).mono ?_
  rintro e v2 ⟨rfl, b2⟩
  have b2 := chain b1 b2
  go_wp2_with fail
  refine (HB.out _ b2).mono ?_
  rintro e v3 ⟨rfl, b3⟩
  have b3 := chain b2 b3
  go_wp2_with fail
  refine (HC.out _ b3).mono ?_
  rintro e v4 ⟨rfl, b4⟩
  have b4 := chain b3 b4
  go_wp2_with fail
  go_ret2
  exact ⟨ret_pad E.out.symm, b4⟩
set_option maxHeartbeats 1000000 in
theorem showDate_yes (n k : Int) (y m d : Nat) (w : World) (h : IsDay k y m d) (hN : k = n / 86400000) (h0 : n % 86400000 = 0) (n1 : -9223372036854775808 ≤ n) (n2 : n ≤ 9223372036854775807) (hT : ShowTabs w) :
    Calls Tryz.prog 156 #[.int .i64 n] w fun e w' => e = .returned (.tuple #[.string (txt (dateL y m d)), .int .i64 0]) ∧ Below w.heap.size w w' := by
  have HS := hide (split_any n 86400000 w n1 n2 (by decide) (by decide))
  have HD := hide (fun w' (b : Below w.heap.size w w') => showDay_in k y m d w' h (hT.below b))
  rw [← hN, h0] at HS
  clear h hN h0 hT n1 n2
  generalize txt (dateL y m d) = t at *
  go_enter Tryz.func156, Tryz.ntmps156
  go_wp2_with fail
  refine HS.out.mono ?_
  rintro e v ⟨rfl, b1⟩
  go_wp2_with fail
  refine (HD.out _ b1).mono ?_
  rintro e v2 ⟨rfl, b2⟩
  go_wp2_with fail
  go_ret2
  exact ⟨rfl, chain b1 b2⟩
set_option maxHeartbeats 1000000 in
theorem showDate_rest (n : Int) (w : World) (h0 : ¬ n % 86400000 = 0) (n1 : -9223372036854775808 ≤ n) (n2 : n ≤ 9223372036854775807) :
    Calls Tryz.prog 156 #[.int .i64 n] w fun e w' => e = .returned (.tuple #[.string ⟨#[]⟩, .int .i64 2]) ∧ Below w.heap.size w w' := by
  have HS := hide (split_any n 86400000 w n1 n2 (by decide) (by decide))
  have r0 : (n % 86400000 == 0) = false := beq_no h0
  have r1 : (n % 86400000 != 0) = true := by simpa using h0
  generalize n % 86400000 = r at *
  generalize n / 86400000 = k at *
  clear n1 n2
  go_enter Tryz.func156, Tryz.ntmps156
  go_wp2_with fail
  refine HS.out.mono ?_
  rintro e v ⟨rfl, b1⟩
  go_wp2_with fail
  go_ret2
  exact ⟨rfl, b1⟩
set_option maxHeartbeats 1000000 in
theorem showDate_out (n k : Int) (w : World) (hN : k = n / 86400000) (h : k < newV 1 ∨ newV 275761 ≤ k) (n1 : -9223372036854775808 ≤ n) (n2 : n ≤ 9223372036854775807) :
    Calls Tryz.prog 156 #[.int .i64 n] w fun e w' => e = .returned (.tuple #[.string ⟨#[]⟩, .int .i64 2]) ∧ Below w.heap.size w w' := by
  by_cases h0 : n % 86400000 = 0
  · have HS := hide (split_any n 86400000 w n1 n2 (by decide) (by decide))
    have HD := hide (fun w' => showDay_out k w' h)
    rw [← hN, h0] at HS
    clear h hN h0 n1 n2
    go_enter Tryz.func156, Tryz.ntmps156
    go_wp2_with fail
    refine HS.out.mono ?_
    rintro e v ⟨rfl, b1⟩
    go_wp2_with fail
    refine (HD.out _).mono ?_
    rintro e v2 ⟨rfl, b2⟩
    go_wp2_with fail
    go_ret2
    exact ⟨rfl, chain b1 b2⟩
  · exact showDate_rest n w h0 n1 n2
set_option maxHeartbeats 1000000 in
theorem showMonth_no (n j : Int) (w : World) (hJ : j = n / 12) (h : j < -1969 ∨ 273790 < j) (n1 : -9223372036854775808 ≤ n) (n2 : n ≤ 9223372036854775807) :
    Calls Tryz.prog 157 #[.int .i64 n] w fun e w' => e = .returned (.tuple #[.string ⟨#[]⟩, .int .i64 2]) ∧ Below w.heap.size w w' := by
  have HS := hide (split_any n 12 w n1 n2 (by decide) (by decide))
  rw [← hJ] at HS
  clear hJ n1 n2
  generalize n % 12 = r at *
  rcases (show j < -1969 ∨ (-1969 ≤ j ∧ 273790 < j) by omega) with g | ⟨g, g'⟩
  · clear h
    go_enter Tryz.func157, Tryz.ntmps157
    go_wp2_with fail
    refine HS.out.mono ?_
    rintro e v ⟨rfl, b1⟩
    go_wp2_with fail
    go_ret2
    exact ⟨rfl, b1⟩
  · clear h
    go_enter Tryz.func157, Tryz.ntmps157
    go_wp2_with fail
    refine HS.out.mono ?_
    rintro e v ⟨rfl, b1⟩
    go_wp2_with fail
    go_ret2
    exact ⟨rfl, b1⟩
set_option maxHeartbeats 1000000 in
theorem showMonth_yes (n j : Int) (y m : Nat) (w : World) (hJ : j = n / 12) (hy : j + 1970 = y) (hm : n % 12 + 1 = m) (y1 : 1 ≤ y) (y2 : y ≤ 275760) (n1 : -9223372036854775808 ≤ n) (n2 : n ≤ 9223372036854775807) (hT : ShowTabs w) :
    Calls Tryz.prog 157 #[.int .i64 n] w fun e w' => e = .returned (.tuple #[.string (txt (monthL y m)), .int .i64 0]) ∧ Below w.heap.size w w' := by
  have HS := hide (split_any n 12 w n1 n2 (by decide) (by decide))
  rw [← hJ] at HS
  have rb := left_less (n := n) (s := 12) (by decide)
  have HA := hide (fun w' (b : Below w.heap.size w w') => padP_any y 4 w' (by omega) (by decide) (hT.2.below b))
  have HB := hide (fun w' (b : Below w.heap.size w w') => padP_any m 2 w' (by omega) (by decide) (hT.2.below b))
  have z1 : (txt (padL y 4)).size ≤ 9 := by rw [txt_size]; exact pad_most (k := 9) (by omega) (by decide) (by decide)
  have z2 : (txt (padL m 2)).size ≤ 9 := by rw [txt_size]; exact pad_most (k := 9) (by omega) (by decide) (by decide)
  have E : Hid (txt (monthL y m) = txt (padL y 4) ++ ⟨#[45]⟩ ++ txt (padL m 2)) := by
    show _ = _
    unfold monthL
    rw [show (⟨#[45]⟩ : ByteArray) = txt [45] from rfl, txt_app, txt_app]
    simp
  generalize txt (padL y 4) = a at *
  generalize txt (padL m 2) = b at *
  have ze : (⟨#[45]⟩ : ByteArray).size = 1 := rfl
  have p1 := fun w => run_string_add_sum (P := Tryz.prog) w a ⟨#[45]⟩ (by omega)
  have p2 := fun w => run_string_add_sum (P := Tryz.prog) w (a ++ ⟨#[45]⟩) b (by rw [ByteArray.size_append]; omega)
  generalize a ++ ⟨#[45]⟩ ++ b = s2 at *
  generalize a ++ ⟨#[45]⟩ = s1 at *
  rw [← hy] at HA
  rw [← hm] at HB
  have j1 : -1969 ≤ j := by omega
  have j2 : j ≤ 273790 := by omega
  have r1 : 0 ≤ n % 12 := rb.1
  have r2 : n % 12 < 12 := rb.2
  clear ze z1 z2 hT hJ hy hm y1 y2 n1 n2 rb
  generalize n % 12 = r at *
  go_enter Tryz.func157, Tryz.ntmps157
  go_wp2_with fail
  refine HS.out.mono ?_
  rintro e v ⟨rfl, b1⟩
  go_wp2_with fail
  refine (HA.out _ b1).mono ?_
  rintro e v2 ⟨rfl, b2⟩
  have b2 := chain b1 b2
  go_wp2_with fail
  refine (HB.out _ b2).mono ?_
  rintro e v3 ⟨rfl, b3⟩
  have b3 := chain b2 b3
  go_wp2_with fail
  go_ret2
  exact ⟨ret_pad E.out.symm, b3⟩
end Go.Proofs.YtfjfkkbgkjmghaaGreatDoor

namespace Go.Proofs.YtfjfkkbgkjmghaaGreatDoor
open Go.RowKit
set_option maxRecDepth 100000
set_option maxHeartbeats 1000000 in
theorem showWeek_out (n k : Int) (w : World) (hN : k = n / 86400000) (h : k < firstV 1 ∨ firstV 275761 ≤ k) (n1 : -9223372036854775808 ≤ n) (n2 : n ≤ 9223372036854775807) :
    Calls Tryz.prog 158 #[.int .i64 n] w fun e w' => e = .returned (.tuple #[.string ⟨#[]⟩, .int .i64 2]) ∧ Below w.heap.size w w' := by
  have HS := hide (split_any n 86400000 w n1 n2 (by decide) (by decide))
  have HD := hide (fun w' => weekCall_out k w' h)
  rw [← hN] at HS
  clear h hN n1 n2
  generalize n % 86400000 = r at *
  go_enter Tryz.func158, Tryz.ntmps158
  go_wp2_with fail
  refine HS.out.mono ?_
  rintro e v ⟨rfl, b1⟩
  go_wp2_with fail
  refine (HD.out _).mono ?_
  rintro e v2 ⟨rfl, b2⟩
  go_wp2_with fail
  go_ret2
  exact ⟨rfl, chain b1 b2⟩
set_option maxHeartbeats 1000000 in
theorem showWeek_rest (n k y : Int) (w : World) (hN : k = n / 86400000) (h0 : ¬ n % 86400000 = 0) (hy : InWeeks k y) (y1 : 1 ≤ y) (y2 : y ≤ 275760) (n1 : -9223372036854775808 ≤ n) (n2 : n ≤ 9223372036854775807) :
    Calls Tryz.prog 158 #[.int .i64 n] w fun e w' => e = .returned (.tuple #[.string ⟨#[]⟩, .int .i64 2]) ∧ Below w.heap.size w w' := by
  have HS := hide (split_any n 86400000 w n1 n2 (by decide) (by decide))
  have HD := hide (fun w' => weekCall_in k y w' y1 y2 hy)
  rw [← hN] at HS
  have r0 : (n % 86400000 == 0) = false := beq_no h0
  have r1 : (n % 86400000 != 0) = true := by simpa using h0
  clear hN n1 n2 hy y1 y2
  generalize n % 86400000 = r at *
  generalize weekV k y = q at *
  go_enter Tryz.func158, Tryz.ntmps158
  go_wp2_with fail
  refine HS.out.mono ?_
  rintro e v ⟨rfl, b1⟩
  go_wp2_with fail
  refine (HD.out _).mono ?_
  rintro e v2 ⟨rfl, b2⟩
  go_wp2_with fail
  go_ret2
  exact ⟨rfl, chain b1 b2⟩
set_option maxHeartbeats 1000000 in
theorem showWeek_day (n k y : Int) (w : World) (hN : k = n / 86400000) (h0 : n % 86400000 = 0) (hw : ¬ wdayV k = 1) (hy : InWeeks k y) (y1 : 1 ≤ y) (y2 : y ≤ 275760) (n1 : -9223372036854775808 ≤ n) (n2 : n ≤ 9223372036854775807) :
    Calls Tryz.prog 158 #[.int .i64 n] w fun e w' => e = .returned (.tuple #[.string ⟨#[]⟩, .int .i64 2]) ∧ Below w.heap.size w w' := by
  have HS := hide (split_any n 86400000 w n1 n2 (by decide) (by decide))
  have HD := hide (fun w' => weekCall_in k y w' y1 y2 hy)
  have HW := hide (fun w' => weekday_any k w' (by omega) (by omega))
  rw [← hN, h0] at HS
  have wb := wday_bounds k
  have r0 : (wdayV k == 1) = false := beq_no hw
  have r1 : (wdayV k != 1) = true := by simpa using hw
  clear hN n1 n2 hy y1 y2 h0
  generalize wdayV k = d at *
  generalize weekV k y = q at *
  go_enter Tryz.func158, Tryz.ntmps158
  go_wp2_with fail
  refine HS.out.mono ?_
  rintro e v ⟨rfl, b1⟩
  go_wp2_with fail
  refine (HD.out _).mono ?_
  rintro e v2 ⟨rfl, b2⟩
  go_wp2_with fail
  refine (HW.out _).mono ?_
  rintro e v3 ⟨rfl, rfl⟩
  go_wp2_with fail
  go_ret2
  exact ⟨rfl, chain b1 b2⟩
set_option maxHeartbeats 1000000 in
theorem showWeek_yes (n k : Int) (y q : Nat) (w : World) (hN : k = n / 86400000) (h0 : n % 86400000 = 0) (hw : wdayV k = 1) (hy : InWeeks k y) (y1 : 1 ≤ y) (y2 : y ≤ 275760) (hv : (q : Int) = weekV k y) (n1 : -9223372036854775808 ≤ n) (n2 : n ≤ 9223372036854775807) (hT : ShowTabs w) :
    Calls Tryz.prog 158 #[.int .i64 n] w fun e w' => e = .returned (.tuple #[.string (txt (weekL y q)), .int .i64 0]) ∧ Below w.heap.size w w' := by
  have HS := hide (split_any n 86400000 w n1 n2 (by decide) (by decide))
  have HD := hide (fun w' => weekCall_in k y w' (by omega) (by omega) hy)
  have HW := hide (fun w' => weekday_any k w' (by omega) (by omega))
  rw [hw] at HW
  rw [← hN, h0] at HS
  rw [← hv] at HD
  have ⟨v1, v2, _, _⟩ := week_is hy
  have v3 := (weeks_is y).2
  have hq : q < 100 := by omega
  have HA := hide (fun w' (b : Below w.heap.size w w') => padP_any y 4 w' (by omega) (by decide) (hT.2.below b))
  have HB := hide (fun w' (b : Below w.heap.size w w') => padP_any q 2 w' (by omega) (by decide) (hT.2.below b))
  have z1 : (txt (padL y 4)).size ≤ 9 := by rw [txt_size]; exact pad_most (k := 9) (by omega) (by decide) (by decide)
  have z2 : (txt (padL q 2)).size ≤ 9 := by rw [txt_size]; exact pad_most (k := 9) (by omega) (by decide) (by decide)
  have E : Hid (txt (weekL y q) = txt (padL y 4) ++ ⟨#[45, 87]⟩ ++ txt (padL q 2)) := by
    show _ = _
    unfold weekL
    rw [show (⟨#[45, 87]⟩ : ByteArray) = txt [45, 87] from rfl, txt_app, txt_app]
    simp
  generalize txt (padL y 4) = a at *
  generalize txt (padL q 2) = b at *
  have ze : (⟨#[45, 87]⟩ : ByteArray).size = 2 := rfl
  have p1 := fun w => run_string_add_sum (P := Tryz.prog) w a ⟨#[45, 87]⟩ (by omega)
  have p2 := fun w => run_string_add_sum (P := Tryz.prog) w (a ++ ⟨#[45, 87]⟩) b (by rw [ByteArray.size_append]; omega)
  generalize a ++ ⟨#[45, 87]⟩ ++ b = s2 at *
  generalize a ++ ⟨#[45, 87]⟩ = s1 at *
  clear ze z1 z2 hT hN h0 hw hy y1 y2 hv n1 n2 v1 v2 v3 hq
  generalize (y : Int) = Y at *
  generalize (q : Int) = Q at *
  go_enter Tryz.func158, Tryz.ntmps158
  go_wp2_with fail
  refine HS.out.mono ?_
  rintro e v ⟨rfl, b1⟩
  go_wp2_with fail
  refine (HD.out _).mono ?_
  rintro e v2 ⟨rfl, b2⟩
  have b2 := chain b1 b2
  go_wp2_with fail
  refine (HW.out _).mono ?_
  rintro e v3 ⟨rfl, rfl⟩
  go_wp2_with fail
  refine (HA.out _ b2).mono ?_
  rintro e v4 ⟨rfl, b3⟩
  have b3 := chain b2 b3
  go_wp2_with fail
  refine (HB.out _ b3).mono ?_
  rintro e v5 ⟨rfl, b4⟩
  have b4 := chain b3 b4
  go_wp2_with fail
  go_ret2
  exact ⟨ret_pad E.out.symm, b4⟩
theorem pad_trim {m : Nat} (h : m < 1000) : trimZ (padL m 3) = fracD 3 m := by
  rw [← trim_pad 3 m (by omega), pad_3 h]
  have e : padD 3 m = [dgB (m / 10 ^ 2), dgB (m % 10 ^ 2 / 10 ^ 1), dgB (m % 10 ^ 2 % 10 ^ 1 / 10 ^ 0)] := rfl
  rw [e, show m / 10 ^ 2 = m / 100 by omega, show m % 10 ^ 2 / 10 ^ 1 = m / 10 % 10 by omega, show m % 10 ^ 2 % 10 ^ 1 / 10 ^ 0 = m % 10 by omega]
set_option maxHeartbeats 1000000 in
theorem showTime_no (n : Int) (w : World) (h : n < 0 ∨ 86400000 ≤ n) :
    Calls Tryz.prog 159 #[.int .i64 n] w fun e w' => e = .returned (.tuple #[.string ⟨#[]⟩, .int .i64 2]) ∧ Below w.heap.size w w' := by
  rcases (show n < 0 ∨ (0 ≤ n ∧ 86400000 ≤ n) by omega) with g | ⟨g, g'⟩
  · clear h
    go_enter Tryz.func159, Tryz.ntmps159
    go_wp2_with fail
    go_ret2
    exact ⟨rfl, Below.refl _ _⟩
  · clear h
    go_enter Tryz.func159, Tryz.ntmps159
    go_wp2_with fail
    go_ret2
    exact ⟨rfl, Below.refl _ _⟩
theorem clock_0 {n : Nat} (h : n % 60000 = 0) : txt (clockL n) = txt (padL (n / 3600000) 2) ++ ⟨#[58]⟩ ++ txt (padL (n % 3600000 / 60000) 2) := by
  unfold clockL
  rw [if_pos h, show n / 60000 % 60 = n % 3600000 / 60000 by omega, show (⟨#[58]⟩ : ByteArray) = txt [58] from rfl, txt_app, txt_app]
  simp
theorem clock_1 {n : Nat} (h : ¬ n % 60000 = 0) (h2 : n % 1000 = 0) : txt (clockL n) = txt (padL (n / 3600000) 2) ++ ⟨#[58]⟩ ++ txt (padL (n % 3600000 / 60000) 2) ++ (⟨#[58]⟩ ++ txt (padL (n % 60000 / 1000) 2)) := by
  unfold clockL
  rw [if_neg h, if_pos h2, show n / 60000 % 60 = n % 3600000 / 60000 by omega, show n / 1000 % 60 = n % 60000 / 1000 by omega, show (⟨#[58]⟩ : ByteArray) = txt [58] from rfl, txt_app, txt_app, txt_app, txt_app]
  simp
theorem clock_2 {n : Nat} (h : ¬ n % 60000 = 0) (h2 : ¬ n % 1000 = 0) : txt (clockL n) = txt (padL (n / 3600000) 2) ++ ⟨#[58]⟩ ++ txt (padL (n % 3600000 / 60000) 2) ++ (⟨#[58]⟩ ++ txt (padL (n % 60000 / 1000) 2)) ++ (⟨#[46]⟩ ++ txt (fracD 3 (n % 1000))) := by
  unfold clockL
  rw [if_neg h, if_neg h2, show n / 60000 % 60 = n % 3600000 / 60000 by omega, show n / 1000 % 60 = n % 60000 / 1000 by omega, show (⟨#[58]⟩ : ByteArray) = txt [58] from rfl, show (⟨#[46]⟩ : ByteArray) = txt [46] from rfl, txt_app, txt_app, txt_app, txt_app, txt_app, txt_app]
  simp
set_option maxHeartbeats 2000000 in
theorem showTime_yes (n : Nat) (w : World) (h : n < 86400000) (hT : ShowTabs w) :
    Calls Tryz.prog 159 #[.int .i64 n] w fun e w' => e = .returned (.tuple #[.string (txt (clockL n)), .int .i64 0]) ∧ Below w.heap.size w w' := by
  have HA := hide (fun w' (b : Below w.heap.size w w') => padP_any (n / 3600000) 2 w' (by omega) (by decide) (hT.2.below b))
  have HB := hide (fun w' (b : Below w.heap.size w w') => padP_any (n % 3600000 / 60000) 2 w' (by omega) (by decide) (hT.2.below b))
  have HC := hide (fun w' (b : Below w.heap.size w w') => padP_any (n % 60000 / 1000) 2 w' (by omega) (by decide) (hT.2.below b))
  have HF := hide (fun w' (b : Below w.heap.size w w') => padP_any (n % 1000) 3 w' (by omega) (by decide) (hT.2.below b))
  have z1 : (txt (padL (n / 3600000) 2)).size ≤ 9 := by rw [txt_size]; exact pad_most (k := 9) (by omega) (by decide) (by decide)
  have z2 : (txt (padL (n % 3600000 / 60000) 2)).size ≤ 9 := by rw [txt_size]; exact pad_most (k := 9) (by omega) (by decide) (by decide)
  have z3 : (txt (padL (n % 60000 / 1000) 2)).size ≤ 9 := by rw [txt_size]; exact pad_most (k := 9) (by omega) (by decide) (by decide)
  have z4 : (txt (padL (n % 1000) 3)).size ≤ 9 := by rw [txt_size]; exact pad_most (k := 9) (by omega) (by decide) (by decide)
  have z5 : (txt (fracD 3 (n % 1000))).size ≤ 9 := by
    have := fracD_len 3 (n % 1000)
    rw [txt_size]; omega
  have HR := hide (fun w' => trimRight_any (txt (padL (n % 1000) 3)) w' (by omega))
  rw [txt_data, pad_trim (by omega)] at HR
  have e1 : ((n / 3600000 : Nat) : Int) = (n : Int) / 3600000 := by omega
  have e2 : ((n % 3600000 / 60000 : Nat) : Int) = (n : Int) % 3600000 / 60000 := by omega
  have e3 : ((n % 60000 / 1000 : Nat) : Int) = (n : Int) % 60000 / 1000 := by omega
  have e4 : ((n % 1000 : Nat) : Int) = (n : Int) % 1000 := by omega
  rw [e1] at HA
  rw [e2] at HB
  rw [e3] at HC
  rw [e4] at HF
  clear e1 e2 e3 e4 hT
  have n0 : (0 : Int) ≤ (n : Int) := by omega
  have n1 : (n : Int) < 86400000 := by omega
  have zc : (⟨#[58]⟩ : ByteArray).size = 1 := rfl
  have zp : (⟨#[46]⟩ : ByteArray).size = 1 := rfl
  have c0 := hide (clock_0 (n := n))
  have c1 := hide (clock_1 (n := n))
  have c2 := hide (clock_2 (n := n))
  generalize txt (padL (n / 3600000) 2) = a at *
  generalize txt (padL (n % 3600000 / 60000) 2) = b at *
  generalize txt (padL (n % 60000 / 1000) 2) = c at *
  generalize txt (padL (n % 1000) 3) = f at *
  generalize txt (fracD 3 (n % 1000)) = g at *
  have p1 := fun w => run_string_add_sum (P := Tryz.prog) w a ⟨#[58]⟩ (by omega)
  have p2 := fun w => run_string_add_sum (P := Tryz.prog) w (a ++ ⟨#[58]⟩) b (by rw [ByteArray.size_append]; omega)
  have p3 := fun w => run_string_add_sum (P := Tryz.prog) w ⟨#[58]⟩ c (by omega)
  have p4 := fun w => run_string_add_sum (P := Tryz.prog) w (a ++ ⟨#[58]⟩ ++ b) (⟨#[58]⟩ ++ c) (by rw [ByteArray.size_append, ByteArray.size_append, ByteArray.size_append]; omega)
  have p5 := fun w => run_string_add_sum (P := Tryz.prog) w ⟨#[46]⟩ g (by omega)
  have p6 := fun w => run_string_add_sum (P := Tryz.prog) w (a ++ ⟨#[58]⟩ ++ b ++ (⟨#[58]⟩ ++ c)) (⟨#[46]⟩ ++ g) (by rw [ByteArray.size_append, ByteArray.size_append, ByteArray.size_append, ByteArray.size_append, ByteArray.size_append]; omega)
  generalize a ++ ⟨#[58]⟩ ++ b ++ (⟨#[58]⟩ ++ c) ++ (⟨#[46]⟩ ++ g) = s6 at *
  generalize a ++ ⟨#[58]⟩ ++ b ++ (⟨#[58]⟩ ++ c) = s4 at *
  generalize ⟨#[58]⟩ ++ c = s3 at *
  generalize ⟨#[46]⟩ ++ g = s5 at *
  generalize a ++ ⟨#[58]⟩ ++ b = s2 at *
  generalize a ++ ⟨#[58]⟩ = s1 at *
  clear z1 z2 z3 z4 z5 zc zp
  by_cases h60 : n % 60000 = 0
  · have E := hide (c0.out h60)
    have r1 : ((n : Int) % 60000 != 0) = false := by simp; omega
    have r1' : ((n : Int) % 60000 == 0) = true := by simp; omega
    have r2 : ((n : Int) % 1000 != 0) = false := by simp; omega
    have r2' : ((n : Int) % 1000 == 0) = true := by simp; omega
    clear c0 c1 c2 h60 h HC HF HR p3 p4 p5 p6
    generalize clockL n = L at *
    generalize (n : Int) = x at *
    go_enter Tryz.func159, Tryz.ntmps159
    go_wp2_with fail
    refine (HA.out _ (Below.refl _ _)).mono ?_
    rintro e v1 ⟨rfl, b1⟩
    go_wp2_with fail
    refine (HB.out _ b1).mono ?_
    rintro e v2 ⟨rfl, b2⟩
    have b2 := chain b1 b2
    go_wp2_with fail
    go_ret2
    exact ⟨ret_pad E.out.symm, b2⟩
  · by_cases h10 : n % 1000 = 0
    · have E := hide (c1.out h60 h10)
      have r1 : ((n : Int) % 60000 != 0) = true := by simp; omega
      have r1' : ((n : Int) % 60000 == 0) = false := by simp; omega
      have r2 : ((n : Int) % 1000 != 0) = false := by simp; omega
      have r2' : ((n : Int) % 1000 == 0) = true := by simp; omega
      clear c0 c1 c2 h60 h10 h HF HR p5 p6
      generalize clockL n = L at *
      generalize (n : Int) = x at *
      go_enter Tryz.func159, Tryz.ntmps159
      go_wp2_with fail
      refine (HA.out _ (Below.refl _ _)).mono ?_
      rintro e v1 ⟨rfl, b1⟩
      go_wp2_with fail
      refine (HB.out _ b1).mono ?_
      rintro e v2 ⟨rfl, b2⟩
      have b2 := chain b1 b2
      go_wp2_with fail
      refine (HC.out _ b2).mono ?_
      rintro e v3 ⟨rfl, b3⟩
      have b3 := chain b2 b3
      go_wp2_with fail
      go_ret2
      exact ⟨ret_pad E.out.symm, b3⟩
    · have E := hide (c2.out h60 h10)
      have r1 : ((n : Int) % 60000 != 0) = true := by simp; omega
      have r1' : ((n : Int) % 60000 == 0) = false := by simp; omega
      have r2 : ((n : Int) % 1000 != 0) = true := by simp; omega
      have r2' : ((n : Int) % 1000 == 0) = false := by simp; omega
      clear c0 c1 c2 h60 h10 h
      generalize clockL n = L at *
      generalize (n : Int) = x at *
      go_enter Tryz.func159, Tryz.ntmps159
      go_wp2_with fail
      refine (HA.out _ (Below.refl _ _)).mono ?_
      rintro e v1 ⟨rfl, b1⟩
      go_wp2_with fail
      refine (HB.out _ b1).mono ?_
      rintro e v2 ⟨rfl, b2⟩
      have b2 := chain b1 b2
      go_wp2_with fail
      refine (HC.out _ b2).mono ?_
      rintro e v3 ⟨rfl, b3⟩
      have b3 := chain b2 b3
      go_wp2_with fail
      refine (HF.out _ b3).mono ?_
      rintro e v4 ⟨rfl, b4⟩
      have b4 := chain b3 b4
      go_wp2_with fail
      refine (HR.out _).mono ?_
      rintro e v5 ⟨rfl, rfl⟩
      go_wp2_with fail
      go_ret2
      exact ⟨ret_pad E.out.symm, b4⟩
set_option maxHeartbeats 1000000 in
theorem showLocal_no (n k : Int) (w : World) (hN : k = n / 86400000) (h : k < newV 1 ∨ newV 275761 ≤ k) (n1 : -9223372036854775808 ≤ n) (n2 : n ≤ 9223372036854775807) :
    Calls Tryz.prog 160 #[.int .i64 n] w fun e w' => e = .returned (.tuple #[.string ⟨#[]⟩, .int .i64 2]) ∧ Below w.heap.size w w' := by
  have HS := hide (split_any n 86400000 w n1 n2 (by decide) (by decide))
  have HD := hide (fun w' => showDay_out k w' h)
  rw [← hN] at HS
  clear h hN n1 n2
  generalize n % 86400000 = r at *
  go_enter Tryz.func160, Tryz.ntmps160
  go_wp2_with fail
  refine HS.out.mono ?_
  rintro e v ⟨rfl, b1⟩
  go_wp2_with fail
  refine (HD.out _).mono ?_
  rintro e v2 ⟨rfl, b2⟩
  go_wp2_with fail
  go_ret2
  exact ⟨rfl, chain b1 b2⟩
set_option maxHeartbeats 1000000 in
theorem showLocal_yes (n k : Int) (y m d r : Nat) (w : World) (h : IsDay k y m d) (hr : r < 86400000) (hN : k = n / 86400000) (h0 : n % 86400000 = r) (n1 : -9223372036854775808 ≤ n) (n2 : n ≤ 9223372036854775807) (hT : ShowTabs w) :
    Calls Tryz.prog 160 #[.int .i64 n] w fun e w' => e = .returned (.tuple #[.string (txt (dateL y m d ++ 84 :: clockL r)), .int .i64 0]) ∧ Below w.heap.size w w' := by
  have HS := hide (split_any n 86400000 w n1 n2 (by decide) (by decide))
  have HD := hide (fun w' (b : Below w.heap.size w w') => showDay_in k y m d w' h (hT.below b))
  have HC := hide (fun w' (b : Below w.heap.size w w') => showTime_yes r w' hr (hT.below b))
  rw [← hN, h0] at HS
  have z1 := dateL_size h
  have z2 := clockL_size hr
  have E : Hid (txt (dateL y m d ++ 84 :: clockL r) = txt (dateL y m d) ++ ⟨#[84]⟩ ++ txt (clockL r)) := by
    show _ = _
    rw [show (⟨#[84]⟩ : ByteArray) = txt [84] from rfl, txt_app, txt_app]
    simp
  generalize dateL y m d ++ 84 :: clockL r = W at *
  generalize txt (dateL y m d) = a at *
  generalize txt (clockL r) = b at *
  have zt : (⟨#[84]⟩ : ByteArray).size = 1 := rfl
  have p1 := fun w => run_string_add_sum (P := Tryz.prog) w a ⟨#[84]⟩ (by omega)
  have p2 := fun w => run_string_add_sum (P := Tryz.prog) w (a ++ ⟨#[84]⟩) b (by rw [ByteArray.size_append]; omega)
  generalize a ++ ⟨#[84]⟩ ++ b = s2 at *
  generalize a ++ ⟨#[84]⟩ = s1 at *
  have r1 : (0 : Int) ≤ (r : Int) := by omega
  have r2 : (r : Int) < 86400000 := by omega
  clear h hN h0 n1 n2 hT z1 z2 zt hr
  generalize (r : Int) = x at *
  go_enter Tryz.func160, Tryz.ntmps160
  go_wp2_with fail
  refine HS.out.mono ?_
  rintro e v ⟨rfl, b1⟩
  go_wp2_with fail
  refine (HD.out _ b1).mono ?_
  rintro e v2 ⟨rfl, b2⟩
  have b2 := chain b1 b2
  go_wp2_with fail
  refine (HC.out _ b2).mono ?_
  rintro e v3 ⟨rfl, b3⟩
  have b3 := chain b2 b3
  go_wp2_with fail
  go_ret2
  exact ⟨ret_pad E.out.symm, b3⟩
end Go.Proofs.YtfjfkkbgkjmghaaGreatDoor

namespace Go.Proofs.YtfjfkkbgkjmghaaGreatDoor
open Go.RowKit
set_option maxRecDepth 100000
/-- The tables of the road. -/
def Tabs (w : World) : Prop := ReadTabs w ∧ Tens w
theorem Tabs.below {w w' : World} (h : Tabs w) (hb : Below w.heap.size w w') : Tabs w' := ⟨h.1.below hb, h.2.below hb⟩
theorem Tabs.show {w : World} (h : Tabs w) : ShowTabs w := ⟨h.1.2, h.2⟩
theorem momParse_any (kind : Int) (s : ByteArray) (w : World) (hs : s.size ≤ 100000) (hT : Tabs w) :
    Calls Tryz.prog 117 #[.int .i64 kind, .string s] w fun e w' => e = .returned (.tuple #[.int .i64 (momV kind s.data.toList).1, .int .i64 (momV kind s.data.toList).2]) ∧ Below w.heap.size w w' := momParse_read kind s w hs hT.1
set_option maxHeartbeats 1000000 in
theorem show_of1 (n : Int) (t : ByteArray) (c : Int) (w : World) (h : Calls Tryz.prog 156 #[.int .i64 n] w fun e w' => e = .returned (.tuple #[.string t, .int .i64 c]) ∧ Below w.heap.size w w') :
    Calls Tryz.prog 119 #[.int .i64 1, .int .i64 n] w fun e w' => e = .returned (.tuple #[.string t, .int .i64 c]) ∧ Below w.heap.size w w' := by
  have H := hide h
  clear h
  go_enter Tryz.func119, Tryz.ntmps119
  go_wp2_with fail
  refine H.out.mono ?_
  rintro e v ⟨rfl, b1⟩
  go_wp2_with fail
  go_ret2
  exact ⟨rfl, b1⟩
set_option maxHeartbeats 1000000 in
theorem show_of2 (n : Int) (t : ByteArray) (c : Int) (w : World) (h : Calls Tryz.prog 157 #[.int .i64 n] w fun e w' => e = .returned (.tuple #[.string t, .int .i64 c]) ∧ Below w.heap.size w w') :
    Calls Tryz.prog 119 #[.int .i64 2, .int .i64 n] w fun e w' => e = .returned (.tuple #[.string t, .int .i64 c]) ∧ Below w.heap.size w w' := by
  have H := hide h
  clear h
  go_enter Tryz.func119, Tryz.ntmps119
  go_wp2_with fail
  refine H.out.mono ?_
  rintro e v ⟨rfl, b1⟩
  go_wp2_with fail
  go_ret2
  exact ⟨rfl, b1⟩
set_option maxHeartbeats 1000000 in
theorem show_of3 (n : Int) (t : ByteArray) (c : Int) (w : World) (h : Calls Tryz.prog 158 #[.int .i64 n] w fun e w' => e = .returned (.tuple #[.string t, .int .i64 c]) ∧ Below w.heap.size w w') :
    Calls Tryz.prog 119 #[.int .i64 3, .int .i64 n] w fun e w' => e = .returned (.tuple #[.string t, .int .i64 c]) ∧ Below w.heap.size w w' := by
  have H := hide h
  clear h
  go_enter Tryz.func119, Tryz.ntmps119
  go_wp2_with fail
  refine H.out.mono ?_
  rintro e v ⟨rfl, b1⟩
  go_wp2_with fail
  go_ret2
  exact ⟨rfl, b1⟩
set_option maxHeartbeats 1000000 in
theorem show_of4 (n : Int) (t : ByteArray) (c : Int) (w : World) (h : Calls Tryz.prog 159 #[.int .i64 n] w fun e w' => e = .returned (.tuple #[.string t, .int .i64 c]) ∧ Below w.heap.size w w') :
    Calls Tryz.prog 119 #[.int .i64 4, .int .i64 n] w fun e w' => e = .returned (.tuple #[.string t, .int .i64 c]) ∧ Below w.heap.size w w' := by
  have H := hide h
  clear h
  go_enter Tryz.func119, Tryz.ntmps119
  go_wp2_with fail
  refine H.out.mono ?_
  rintro e v ⟨rfl, b1⟩
  go_wp2_with fail
  go_ret2
  exact ⟨rfl, b1⟩
set_option maxHeartbeats 1000000 in
theorem show_of5 (n : Int) (t : ByteArray) (c : Int) (w : World) (h : Calls Tryz.prog 160 #[.int .i64 n] w fun e w' => e = .returned (.tuple #[.string t, .int .i64 c]) ∧ Below w.heap.size w w') :
    Calls Tryz.prog 119 #[.int .i64 5, .int .i64 n] w fun e w' => e = .returned (.tuple #[.string t, .int .i64 c]) ∧ Below w.heap.size w w' := by
  have H := hide h
  clear h
  go_enter Tryz.func119, Tryz.ntmps119
  go_wp2_with fail
  refine H.out.mono ?_
  rintro e v ⟨rfl, b1⟩
  go_wp2_with fail
  go_ret2
  exact ⟨rfl, b1⟩
theorem momShow_yes {kind n : Int} {t : List UInt8} (h : ShowIs kind n t) (w : World) (n1 : -9223372036854775808 ≤ n) (n2 : n ≤ 9223372036854775807) (hT : Tabs w) :
    Calls Tryz.prog 119 #[.int .i64 kind, .int .i64 n] w fun e w' => e = .returned (.tuple #[.string (txt t), .int .i64 0]) ∧ Below w.heap.size w w' := by
  rcases h with ⟨rfl, k, y, m, d, hd, e, rfl⟩ | ⟨rfl, y, m, y1, y2, m1, m2, e, rfl⟩ | ⟨rfl, y, k, y1, y2, k1, k2, e, rfl⟩ | ⟨rfl, k, hk, e, rfl⟩ | ⟨rfl, k, y, m, d, r, hd, hr, e, rfl⟩
  · exact show_of1 n _ _ w (showDate_yes n k y m d w hd (by omega) (by omega) n1 n2 hT.show)
  · exact show_of2 n _ _ w (showMonth_yes n _ y m w rfl (by omega) (by omega) y1 y2 n1 n2 hT.show)
  · have hy : InWeeks (firstV y + 7 * ((k : Int) - 1)) y := by
      have := (weeks_is y).1
      exact ⟨by omega, by omega⟩
    have f := first_monday y
    exact show_of3 n _ _ w (showWeek_yes n _ y k w (by omega) (by omega) (by unfold wdayV at *; omega) hy y1 y2 (by unfold weekV; omega) n1 n2 hT.show)
  · subst e
    exact show_of4 k _ _ w (showTime_yes k w hk hT.show)
  · exact show_of5 n _ _ w (showLocal_yes n k y m d r w hd hr (by omega) (by omega) n1 n2 hT.show)
theorem momShow_no {kind n : Int} (h : ShowNo kind n) (w : World) (n1 : -9223372036854775808 ≤ n) (n2 : n ≤ 9223372036854775807) (_hT : Tabs w) :
    Calls Tryz.prog 119 #[.int .i64 kind, .int .i64 n] w fun e w' => e = .returned (.tuple #[.string ⟨#[]⟩, .int .i64 2]) ∧ Below w.heap.size w w' := by
  rcases h with ⟨rfl, h | h⟩ | ⟨rfl, h⟩ | ⟨rfl, h⟩ | ⟨rfl, h⟩ | ⟨rfl, h⟩
  · exact show_of1 n _ _ w (showDate_rest n w h n1 n2)
  · exact show_of1 n _ _ w (showDate_out n _ w rfl h n1 n2)
  · exact show_of2 n _ _ w (showMonth_no n _ w rfl h n1 n2)
  · by_cases g : firstV 1 ≤ n / 86400000 ∧ n / 86400000 < firstV 275761
    · obtain ⟨y, y1, y2, hy⟩ := inWeeks_some g.1 g.2
      by_cases h0 : n % 86400000 = 0
      · have hw : ¬ wdayV (n / 86400000) = 1 := by omega
        exact show_of3 n _ _ w (showWeek_day n _ y w rfl h0 hw hy y1 y2 n1 n2)
      · exact show_of3 n _ _ w (showWeek_rest n _ y w rfl h0 hy y1 y2 n1 n2)
    · exact show_of3 n _ _ w (showWeek_out n _ w rfl (by omega) n1 n2)
  · exact show_of4 n _ _ w (showTime_no n w h)
  · exact show_of5 n _ _ w (showLocal_no n _ w rfl h n1 n2)

end Go.Proofs.YtfjfkkbgkjmghaaGreatDoor
