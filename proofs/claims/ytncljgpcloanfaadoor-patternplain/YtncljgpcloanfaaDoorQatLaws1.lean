/- The walks of stage 9's laws: each returns true, and what lay in the world lies there still. Condition: the tables that the program's road names. -/
import Derived.Test.YtncljgpcloanfaaDoorQatRJ
import Derived.Test.YtncljgpcloanfaaDoorQatZ5
namespace Go.Proofs.YtncljgpcloanfaaDoor
open Go.RowKit

theorem pwake_1 : fitsV (⟨#[40, 97, 98, 41, 43]⟩ : ByteArray).data.toList (⟨#[97, 98, 97, 98]⟩ : ByteArray).data.toList = (true, 0) := by decide +kernel
theorem pwake_2 : fitsV (⟨#[91, 94, 97, 45, 99, 93, 92, 100, 123, 50, 125]⟩ : ByteArray).data.toList (⟨#[120, 52]⟩ : ByteArray).data.toList = (false, 0) := by decide +kernel
theorem pwake_3 : rightL (⟨#[40, 97]⟩ : ByteArray).data.toList = false := by decide +kernel
set_option maxHeartbeats 4000000 in
set_option maxRecDepth 100000 in
theorem pwakes_any (w : World) (hT : PatTabs w) :
    Calls Tryd.prog 9 #[] w fun e w' => e = .returned (.bool true) ∧ Below w.heap.size w w' := by
  have H1 := hide (patFits_any ⟨#[40, 97, 98, 41, 43]⟩ ⟨#[97, 98, 97, 98]⟩ w (by decide) (by decide) hT)
  have H2 := hide (fun w' (b : Below w.heap.size w w') => patFits_any ⟨#[91, 94, 97, 45, 99, 93, 92, 100, 123, 50, 125]⟩ ⟨#[120, 52]⟩ w' (by decide) (by decide) (hT.below b))
  have H3 := hide (fun w' (b : Below w.heap.size w w') => patRight_any ⟨#[40, 97]⟩ w' (by decide) (hT.below b))
  unfold fitV at H1 H2
  rw [pwake_1] at H1
  rw [pwake_2] at H2
  rw [pwake_3] at H3
  clear hT
  go_enter Tryd.func9, Tryd.ntmps9
  go_wp2_with fail
  refine (H1.out).mono ?_
  rintro e u1 ⟨rfl, b1⟩
  go_wp2_with fail
  refine (H2.out _ b1).mono ?_
  rintro e u2 ⟨rfl, c2⟩
  have b2 := chain b1 c2
  clear c2
  go_wp2_with fail
  refine (H3.out _ b2).mono ?_
  rintro e u3 ⟨rfl, c3⟩
  have b3 := chain b2 c3
  clear c3
  go_wp2_with fail
  go_ret
  exact ⟨rfl, b3⟩

set_option maxHeartbeats 1000000 in
theorem longP_yes (s : ByteArray) (w : World) (h1 : 120 < s.size) (h2 : s.size ≤ 4000) :
    Calls Tryd.prog 12 #[.string s] w fun e w' => e = .returned (.bool true) ∧ w' = w := by
  have i1 : (120 : Int) < (s.size : Int) := by omega
  have i2 : (s.size : Int) ≤ 4000 := by omega
  have d2 : decide ((s.size : Int) ≤ 4000) = true := decide_eq_true i2
  go_enter Tryd.func12, Tryd.ntmps12
  go_wp2_with fail
  go_ret
  first | exact ⟨rfl, rfl⟩ | exact ⟨ret_bool d2, rfl⟩
set_option maxHeartbeats 1000000 in
theorem longP_no (s : ByteArray) (w : World) (h : ¬ (120 < s.size ∧ s.size ≤ 4000)) :
    Calls Tryd.prog 12 #[.string s] w fun e w' => e = .returned (.bool false) ∧ w' = w := by
  by_cases h1 : 120 < s.size
  · have i1 : (120 : Int) < (s.size : Int) := by omega
    have i2 : ¬ (s.size : Int) ≤ 4000 := by omega
    have d2 : decide ((s.size : Int) ≤ 4000) = false := decide_eq_false i2
    go_enter Tryd.func12, Tryd.ntmps12
    go_wp2_with fail
    go_ret
    first | exact ⟨rfl, rfl⟩ | exact ⟨ret_bool d2, rfl⟩
  · have i1 : ¬ (120 : Int) < (s.size : Int) := by omega
    go_enter Tryd.func12, Tryd.ntmps12
    go_wp2_with fail
    go_ret
    exact ⟨rfl, rfl⟩
set_option maxHeartbeats 4000000 in
set_option maxRecDepth 100000 in
theorem patternRight_walk (p : ByteArray) (hp : p.size ≤ maxLen) (w : World) (hT : PatTabs w) :
    Calls Tryd.prog 3 #[.string p] w fun e w' => e = .returned (.bool true) ∧ Below w.heap.size w w' := by
  have HW := hide (pwakes_any w hT)
  have H1 := hide (fun w' (b : Below w.heap.size w w') => patRight_any p w' hp (hT.below b))
  have H2 := hide (fun w' => refRight_all p w')
  clear hT hp
  generalize rightL p.data.toList = r at *
  go_enter Tryd.func3, Tryd.ntmps3
  go_wp2_with fail
  refine (HW.out).mono ?_
  rintro e u1 ⟨rfl, b1⟩
  go_wp2_with fail
  refine (H1.out _ b1).mono ?_
  rintro e u2 ⟨rfl, c2⟩
  have b2 := chain b1 c2
  clear c2
  go_wp2_with fail
  refine (H2.out _).mono ?_
  rintro e u3 ⟨rfl, c3⟩
  have b3 := chain b2 c3
  clear c3
  go_wp2_with fail
  go_ret
  exact ⟨rfl, b3⟩

set_option maxHeartbeats 4000000 in
set_option maxRecDepth 100000 in
theorem patternFits_walk (p s : ByteArray) (hp : p.size ≤ maxLen) (hs : s.size ≤ maxLen) (w : World) (hT : PatTabs w) :
    Calls Tryd.prog 4 #[.string p, .string s] w fun e w' => e = .returned (.bool true) ∧ Below w.heap.size w w' := by
  have HW := hide (pwakes_any w hT)
  by_cases h : 120 < s.size ∧ s.size ≤ 4000
  · have HL := hide (fun w' => longP_yes s w' h.1 h.2)
    clear hT hp hs h
    go_enter Tryd.func4, Tryd.ntmps4
    go_wp2_with fail
    refine (HW.out).mono ?_
    rintro e u1 ⟨rfl, b1⟩
    go_wp2_with fail
    refine (HL.out _).mono ?_
    rintro e u2 ⟨rfl, rfl⟩
    go_wp2_with fail
    go_ret
    exact ⟨rfl, b1⟩
  · have HL := hide (fun w' => longP_no s w' h)
    have H1 := hide (fun w' (b : Below w.heap.size w w') => patFits_any p s w' hp hs (hT.below b))
    have H2 := hide (fun w' => refFits_all p s w')
    unfold fitV at H1 H2
    clear hT hp hs h
    generalize (fitsV p.data.toList s.data.toList).1 = a at *
    generalize (fitsV p.data.toList s.data.toList).2 = e at *
    go_enter Tryd.func4, Tryd.ntmps4
    go_wp2_with fail
    refine (HW.out).mono ?_
    rintro e u1 ⟨rfl, b1⟩
    go_wp2_with fail
    refine (HL.out _).mono ?_
    rintro e u2 ⟨rfl, rfl⟩
    go_wp2_with fail
    refine (H1.out _ b1).mono ?_
    rintro e u3 ⟨rfl, c3⟩
    have b3 := chain b1 c3
    clear c3
    go_wp2_with fail
    refine (H2.out _).mono ?_
    rintro e u4 ⟨rfl, c4⟩
    have b4 := chain b3 c4
    clear c4
    go_wp2_with fail
    go_ret
    exact ⟨rfl, b4⟩

/-- What the statement says of two patterns with a bar between. -/
theorem bars_fit {p q s : List UInt8} (h : p.length + q.length ≤ 199) (h1 : (fitsV p s).2 = 0) (h2 : (fitsV q s).2 = 0) : (fitsV (p ++ 124 :: q) s) = ((fitsV p s).1 || (fitsV q s).1, 0) := by
  rcases fits_cases p s with ⟨a1, a2, a3⟩ | ⟨a3, _⟩ | ⟨a3, _⟩
  · rcases fits_cases q s with ⟨b1, b2, b3⟩ | ⟨b3, _⟩ | ⟨b3, _⟩
    · obtain ⟨r1, r2⟩ := bars_right a1 b1 h
      rw [a3, b3]
      unfold fitsV
      rw [r1, if_pos rfl, if_neg a2, r2]
    · rw [b3] at h2; cases h2
    · rw [b3] at h2; cases h2
  · rw [a3] at h1; cases h1
  · rw [a3] at h1; cases h1
set_option maxHeartbeats 4000000 in
set_option maxRecDepth 100000 in
theorem patternBars_walk (p q s : ByteArray) (hp : p.size ≤ maxLen) (hq : q.size ≤ maxLen) (hs : s.size ≤ maxLen) (hpq : p.size + q.size ≤ 4611686018427387904) (w : World) (hT : PatTabs w) :
    Calls Tryd.prog 5 #[.string p, .string q, .string s] w fun e w' => e = .returned (.bool true) ∧ Below w.heap.size w w' := by
  have HW := hide (pwakes_any w hT)
  by_cases h : 120 < s.size ∧ s.size ≤ 4000
  · have HL := hide (fun w' => longP_yes s w' h.1 h.2)
    clear hT hp hq hs h
    go_enter Tryd.func5, Tryd.ntmps5
    go_wp2_with fail
    refine (HW.out).mono ?_
    rintro e u1 ⟨rfl, b1⟩
    go_wp2_with fail
    refine (HL.out _).mono ?_
    rintro e u2 ⟨rfl, rfl⟩
    go_wp2_with fail
    go_ret
    exact ⟨rfl, b1⟩
  have HL := hide (fun w' => longP_no s w' h)
  by_cases g : 199 < p.size + q.size
  · have i1 : (199 : Int) < (p.size : Int) + (q.size : Int) := by omega
    clear hT hp hq hs h g
    go_enter Tryd.func5, Tryd.ntmps5
    go_wp2_with fail
    refine (HW.out).mono ?_
    rintro e u1 ⟨rfl, b1⟩
    go_wp2_with fail
    refine (HL.out _).mono ?_
    rintro e u2 ⟨rfl, rfl⟩
    go_wp2_with fail
    go_ret
    exact ⟨rfl, b1⟩
  have i1 : ¬ (199 : Int) < (p.size : Int) + (q.size : Int) := by omega
  have z1 : p.data.toList.length = p.size := by simp
  have z2 : q.data.toList.length = q.size := by simp
  have H1 := hide (fun w' (b : Below w.heap.size w w') => patFits_any p s w' hp hs (hT.below b))
  have H2 := hide (fun w' (b : Below w.heap.size w w') => patFits_any q s w' hq hs (hT.below b))
  have z3 : (p ++ ⟨#[124]⟩).size ≤ 200 := by rw [ByteArray.size_append]; show p.size + 1 ≤ 200; omega
  have z4 : (p ++ ⟨#[124]⟩ ++ q).size ≤ 400 := by rw [ByteArray.size_append]; omega
  have H3 := hide (fun w' (b : Below w.heap.size w w') => patFits_any (p ++ ⟨#[124]⟩ ++ q) s w' (by unfold maxLen; omega) hs (hT.below b))
  have EB := bars_fit (p := p.data.toList) (q := q.data.toList) (s := s.data.toList) (by omega)
  unfold fitV at H1 H2 H3
  rw [app_bar] at H3
  have q1 := fun w => run_string_add_sum (P := Tryd.prog) w p ⟨#[124]⟩ (by show p.size + 1 ≤ 9223372036854775807; omega)
  have q2 := fun w => run_string_add_sum (P := Tryd.prog) w (p ++ ⟨#[124]⟩) q (by omega)
  clear hT hp hq hs h g z1 z2 z3 z4
  generalize p ++ ⟨#[124]⟩ ++ q = y2 at *
  generalize p ++ ⟨#[124]⟩ = y1 at *
  generalize fitsV (p.data.toList ++ 124 :: q.data.toList) s.data.toList = F3 at *
  generalize fitsV p.data.toList s.data.toList = F1 at *
  generalize fitsV q.data.toList s.data.toList = F2 at *
  obtain ⟨a, e1⟩ := F1
  obtain ⟨b, e2⟩ := F2
  obtain ⟨c, e3⟩ := F3
  dsimp only at H1 H2 H3 EB
  by_cases k1 : e1 = 0
  · subst k1
    by_cases k2 : e2 = 0
    · subst k2
      obtain ⟨rfl, rfl⟩ := Prod.mk.inj (EB rfl rfl)
      clear EB
      cases a with
      | true =>
        rw [Bool.true_or] at H3
        go_enter Tryd.func5, Tryd.ntmps5
        go_wp2_with fail
        refine (HW.out).mono ?_
        rintro e u1 ⟨rfl, b1⟩
        go_wp2_with fail
        refine (HL.out _).mono ?_
        rintro e u2 ⟨rfl, rfl⟩
        go_wp2_with fail
        refine (H1.out _ b1).mono ?_
        rintro e u3 ⟨rfl, c3⟩
        have b3 := chain b1 c3
        clear c3
        go_wp2_with fail
        refine (H2.out _ b3).mono ?_
        rintro e u4 ⟨rfl, c4⟩
        have b4 := chain b3 c4
        clear c4
        go_wp2_with fail
        refine (H3.out _ b4).mono ?_
        rintro e u5 ⟨rfl, c5⟩
        have b5 := chain b4 c5
        clear c5
        go_wp2_with fail
        go_ret
        exact ⟨rfl, b5⟩
      | false =>
        rw [Bool.false_or] at H3
        go_enter Tryd.func5, Tryd.ntmps5
        go_wp2_with fail
        refine (HW.out).mono ?_
        rintro e u1 ⟨rfl, b1⟩
        go_wp2_with fail
        refine (HL.out _).mono ?_
        rintro e u2 ⟨rfl, rfl⟩
        go_wp2_with fail
        refine (H1.out _ b1).mono ?_
        rintro e u3 ⟨rfl, c3⟩
        have b3 := chain b1 c3
        clear c3
        go_wp2_with fail
        refine (H2.out _ b3).mono ?_
        rintro e u4 ⟨rfl, c4⟩
        have b4 := chain b3 c4
        clear c4
        go_wp2_with fail
        refine (H3.out _ b4).mono ?_
        rintro e u5 ⟨rfl, c5⟩
        have b5 := chain b4 c5
        clear c5
        go_wp2_with fail
        go_ret
        exact ⟨rfl, b5⟩
    · have d2 : (e2 != 0) = true := by rw [bne_iff_ne]; exact k2
      clear EB k2
      go_enter Tryd.func5, Tryd.ntmps5
      go_wp2_with fail
      refine (HW.out).mono ?_
      rintro e u1 ⟨rfl, b1⟩
      go_wp2_with fail
      refine (HL.out _).mono ?_
      rintro e u2 ⟨rfl, rfl⟩
      go_wp2_with fail
      refine (H1.out _ b1).mono ?_
      rintro e u3 ⟨rfl, c3⟩
      have b3 := chain b1 c3
      clear c3
      go_wp2_with fail
      refine (H2.out _ b3).mono ?_
      rintro e u4 ⟨rfl, c4⟩
      have b4 := chain b3 c4
      clear c4
      go_wp2_with fail
      refine (H3.out _ b4).mono ?_
      rintro e u5 ⟨rfl, c5⟩
      have b5 := chain b4 c5
      clear c5
      go_wp2_with fail
      go_ret
      exact ⟨rfl, b5⟩
  · have d1 : (e1 != 0) = true := by rw [bne_iff_ne]; exact k1
    clear EB k1
    go_enter Tryd.func5, Tryd.ntmps5
    go_wp2_with fail
    refine (HW.out).mono ?_
    rintro e u1 ⟨rfl, b1⟩
    go_wp2_with fail
    refine (HL.out _).mono ?_
    rintro e u2 ⟨rfl, rfl⟩
    go_wp2_with fail
    refine (H1.out _ b1).mono ?_
    rintro e u3 ⟨rfl, c3⟩
    have b3 := chain b1 c3
    clear c3
    go_wp2_with fail
    refine (H2.out _ b3).mono ?_
    rintro e u4 ⟨rfl, c4⟩
    have b4 := chain b3 c4
    clear c4
    go_wp2_with fail
    refine (H3.out _ b4).mono ?_
    rintro e u5 ⟨rfl, c5⟩
    have b5 := chain b4 c5
    clear c5
    go_wp2_with fail
    go_ret
    exact ⟨rfl, b5⟩

end Go.Proofs.YtncljgpcloanfaaDoor
