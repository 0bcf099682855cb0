/- The walks of stage 8's laws: each returns true, and what lay in the world lies there still. Condition: the tables that the program's road names. -/
import Derived.Test.YtkllknfgojjphaaDoorLinkProg
import Derived.Test.YtkllknfgojjphaaDoorLinkRef7
namespace Go.Proofs.YtkllknfgojjphaaDoor
open Go.RowKit

theorem lwake_1 : absL (⟨#[104, 116, 116, 112, 115, 58, 47, 47, 97, 46, 98, 58, 56, 48, 47, 99, 63, 100, 35, 101]⟩ : ByteArray).data.toList = true := by decide +kernel
theorem lwake_2 : absL (⟨#[104, 116, 116, 112, 58, 97]⟩ : ByteArray).data.toList = false := by decide +kernel
theorem lwake_3 : hostL (⟨#[91, 58, 58, 49, 93]⟩ : ByteArray).data.toList = true := by decide +kernel
theorem lwake_4 : hostL (⟨#[49, 46, 50, 46, 51]⟩ : ByteArray).data.toList = false := by decide +kernel
theorem lwake_5 : fineL (⟨#[97, 37, 50, 48, 98]⟩ : ByteArray).data.toList = true := by decide +kernel
theorem lwake_6 : fineL (⟨#[97, 32, 98]⟩ : ByteArray).data.toList = false := by decide +kernel
set_option maxHeartbeats 1000000 in
theorem longK_no (s : ByteArray) (w : World) (h : s.size ≤ 8192) :
    Calls Tryd.prog 10 #[.string s] w fun e w' => e = .returned (.bool false) ∧ w' = w := by
  have d : decide ((8192 : Int) < (s.size : Int)) = false := decide_eq_false (by omega)
  go_enter Tryd.func10, Tryd.ntmps10
  go_wp2_with fail
  go_ret
  first | exact ⟨rfl, rfl⟩ | exact ⟨ret_bool d, rfl⟩
set_option maxHeartbeats 1000000 in
theorem longK_yes (s : ByteArray) (w : World) (h : 8192 < s.size) :
    Calls Tryd.prog 10 #[.string s] w fun e w' => e = .returned (.bool true) ∧ w' = w := by
  have d : decide ((8192 : Int) < (s.size : Int)) = true := decide_eq_true (by omega)
  go_enter Tryd.func10, Tryd.ntmps10
  go_wp2_with fail
  go_ret
  first | exact ⟨rfl, rfl⟩ | exact ⟨ret_bool d, rfl⟩
set_option maxHeartbeats 2000000 in
set_option maxRecDepth 100000 in
theorem lwakes_any (w : World) (hT : LinkTabs w) :
    Calls Tryd.prog 9 #[] w fun e w' => e = .returned (.bool true) ∧ Below w.heap.size w w' := by
  have H1 := hide (linkAbs_any ⟨#[104, 116, 116, 112, 115, 58, 47, 47, 97, 46, 98, 58, 56, 48, 47, 99, 63, 100, 35, 101]⟩ w (by decide) hT)
  rw [lwake_1] at H1
  have H2 := hide (fun w' (b : Below w.heap.size w w') => linkAbs_any ⟨#[104, 116, 116, 112, 58, 97]⟩ w' (by decide) (hT.below b))
  rw [lwake_2] at H2
  clear hT
  go_enter Tryd.func9, Tryd.ntmps9
  go_wp2_with fail
  refine H1.out.mono ?_
  rintro e v1 ⟨rfl, b1⟩
  go_wp2_with fail
  refine (H2.out _ b1).mono ?_
  rintro e v2 ⟨rfl, b2⟩
  go_wp2_with fail
  go_ret
  exact ⟨rfl, chain b1 b2⟩

set_option maxHeartbeats 2000000 in
set_option maxRecDepth 100000 in
theorem linkSchemes_walk (s : ByteArray) (w : World) (hT : LinkTabs w) :
    Calls Tryd.prog 3 #[.string s] w fun e w' => e = .returned (.bool true) ∧ Below w.heap.size w w' := by
  have HW := hide (lwakes_any w hT)
  by_cases h : s.size ≤ 8192
  · have HL := hide (fun w' => longK_no s w' h)
    have H1 := hide (fun w' (b : Below w.heap.size w w') => linkScheme_any s w' (by omega) (hT.below b))
    have H2 := hide (fun w' => refScheme_any s w' (by omega))
    unfold schV at H1 H2
    clear hT h
    generalize txt (schL s.data.toList) = t at *
    generalize schOk s.data.toList = o at *
    go_enter Tryd.func3, Tryd.ntmps3
    go_wp2_with fail
    refine (HW.out).mono ?_
    rintro e v1 ⟨rfl, c1⟩
    have b1 := c1
    go_wp2_with fail
    refine (HL.out _).mono ?_
    rintro e uu ⟨rfl, rfl⟩
    go_wp2_with fail
    refine (H1.out _ (b1)).mono ?_
    rintro e v2 ⟨rfl, c2⟩
    have b2 := chain b1 c2
    go_wp2_with fail
    refine (H2.out _).mono ?_
    rintro e v3 ⟨rfl, c3⟩
    have b3 := chain b2 c3
    go_wp2_with fail
    go_ret
    exact ⟨rfl, b3⟩
  · have HL := hide (fun w' => longK_yes s w' (by omega))
    clear hT h
    go_enter Tryd.func3, Tryd.ntmps3
    go_wp2_with fail
    refine (HW.out).mono ?_
    rintro e v1 ⟨rfl, c1⟩
    have b1 := c1
    go_wp2_with fail
    refine (HL.out _).mono ?_
    rintro e uu ⟨rfl, rfl⟩
    go_wp2_with fail
    go_ret
    exact ⟨rfl, b1⟩

set_option maxHeartbeats 2000000 in
set_option maxRecDepth 100000 in
theorem linkHosts_walk (s : ByteArray) (w : World) (hT : LinkTabs w) :
    Calls Tryd.prog 4 #[.string s] w fun e w' => e = .returned (.bool true) ∧ Below w.heap.size w w' := by
  have A1 := hide (fun w' (b : Below w.heap.size w w') => linkHost_any ⟨#[91, 58, 58, 49, 93]⟩ w' (by decide) (hT.below b))
  rw [lwake_3] at A1
  have A2 := hide (fun w' (b : Below w.heap.size w w') => linkHost_any ⟨#[49, 46, 50, 46, 51]⟩ w' (by decide) (hT.below b))
  rw [lwake_4] at A2
  by_cases h : s.size ≤ 8192
  · have HL := hide (fun w' => longK_no s w' h)
    have H1 := hide (fun w' (b : Below w.heap.size w w') => linkHost_any s w' (by omega) (hT.below b))
    have H2 := hide (fun w' => refHost_any s w' (by omega))
    clear hT h
    generalize hostL s.data.toList = t at *
    go_enter Tryd.func4, Tryd.ntmps4
    go_wp2_with fail
    refine (A1.out _ (Below.refl _ _)).mono ?_
    rintro e v1 ⟨rfl, c1⟩
    have b1 := c1
    go_wp2_with fail
    refine (A2.out _ (b1)).mono ?_
    rintro e v2 ⟨rfl, c2⟩
    have b2 := chain b1 c2
    go_wp2_with fail
    refine (HL.out _).mono ?_
    rintro e uu ⟨rfl, rfl⟩
    go_wp2_with fail
    refine (H1.out _ (b2)).mono ?_
    rintro e v3 ⟨rfl, c3⟩
    have b3 := chain b2 c3
    go_wp2_with fail
    refine (H2.out _).mono ?_
    rintro e v4 ⟨rfl, c4⟩
    have b4 := chain b3 c4
    go_wp2_with fail
    go_ret
    exact ⟨rfl, b4⟩
  · have HL := hide (fun w' => longK_yes s w' (by omega))
    clear hT h
    go_enter Tryd.func4, Tryd.ntmps4
    go_wp2_with fail
    refine (A1.out _ (Below.refl _ _)).mono ?_
    rintro e v1 ⟨rfl, c1⟩
    have b1 := c1
    go_wp2_with fail
    refine (A2.out _ (b1)).mono ?_
    rintro e v2 ⟨rfl, c2⟩
    have b2 := chain b1 c2
    go_wp2_with fail
    refine (HL.out _).mono ?_
    rintro e uu ⟨rfl, rfl⟩
    go_wp2_with fail
    go_ret
    exact ⟨rfl, b2⟩

set_option maxHeartbeats 2000000 in
set_option maxRecDepth 100000 in
theorem linkFine_walk (s t : ByteArray) (w : World) (hT : LinkTabs w) :
    Calls Tryd.prog 5 #[.string s, .string t] w fun e w' => e = .returned (.bool true) ∧ Below w.heap.size w w' := by
  have A1 := hide (fun w' (b : Below w.heap.size w w') => linkFine_any ⟨#[97, 37, 50, 48, 98]⟩ w' (by decide) (hT.below b))
  rw [lwake_5] at A1
  have A2 := hide (fun w' (b : Below w.heap.size w w') => linkFine_any ⟨#[97, 32, 98]⟩ w' (by decide) (hT.below b))
  rw [lwake_6] at A2
  by_cases h : 8192 < s.size
  · have HL := hide (fun w' => longK_yes s w' h)
    clear hT h
    go_enter Tryd.func5, Tryd.ntmps5
    go_wp2_with fail
    refine (A1.out _ (Below.refl _ _)).mono ?_
    rintro e v1 ⟨rfl, c1⟩
    have b1 := c1
    go_wp2_with fail
    refine (A2.out _ (b1)).mono ?_
    rintro e v2 ⟨rfl, c2⟩
    have b2 := chain b1 c2
    go_wp2_with fail
    refine (HL.out _).mono ?_
    rintro e uu ⟨rfl, rfl⟩
    go_wp2_with fail
    go_ret
    exact ⟨rfl, b2⟩
  by_cases g : 8192 < t.size
  · have HL := hide (fun w' => longK_no s w' (by omega))
    have HM := hide (fun w' => longK_yes t w' g)
    clear hT h g
    go_enter Tryd.func5, Tryd.ntmps5
    go_wp2_with fail
    refine (A1.out _ (Below.refl _ _)).mono ?_
    rintro e v1 ⟨rfl, c1⟩
    have b1 := c1
    go_wp2_with fail
    refine (A2.out _ (b1)).mono ?_
    rintro e v2 ⟨rfl, c2⟩
    have b2 := chain b1 c2
    go_wp2_with fail
    refine (HL.out _).mono ?_
    rintro e uu ⟨rfl, rfl⟩
    go_wp2_with fail
    refine (HM.out _).mono ?_
    rintro e uu ⟨rfl, rfl⟩
    go_wp2_with fail
    go_ret
    exact ⟨rfl, b2⟩
  have HL := hide (fun w' => longK_no s w' (by omega))
  have HM := hide (fun w' => longK_no t w' (by omega))
  have H1 := hide (fun w' (b : Below w.heap.size w w') => linkFine_any s w' (by omega) (hT.below b))
  have H2 := hide (fun w' (b : Below w.heap.size w w') => linkFine_any t w' (by omega) (hT.below b))
  have H3 := hide (fun w' => refFine_any s w' (by omega))
  have H4 := hide (fun w' => refFine_any t w' (by omega))
  have H5 := hide (fun w' (b : Below w.heap.size w w') => linkFine_any (s ++ t) w' (by rw [ByteArray.size_append]; omega) (hT.below b))
  rw [show (s ++ t).data.toList = s.data.toList ++ t.data.toList by simp] at H5
  have EJ := hide (fun h1 h2 => fine_app (a := s.data.toList) (b := t.data.toList) h1 h2)
  have q1 := fun w => run_string_add_sum (P := Tryd.prog) w s t (by omega)
  clear hT
  generalize s ++ t = st at *
  generalize fineL (s.data.toList ++ t.data.toList) = fst at *
  generalize fineL s.data.toList = fs at *
  generalize fineL t.data.toList = ft at *
  cases fs with
  | false =>
    clear EJ
    go_enter Tryd.func5, Tryd.ntmps5
    go_wp2_with fail
    refine (A1.out _ (Below.refl _ _)).mono ?_
    rintro e v1 ⟨rfl, c1⟩
    have b1 := c1
    go_wp2_with fail
    refine (A2.out _ (b1)).mono ?_
    rintro e v2 ⟨rfl, c2⟩
    have b2 := chain b1 c2
    go_wp2_with fail
    refine (HL.out _).mono ?_
    rintro e uu ⟨rfl, rfl⟩
    go_wp2_with fail
    refine (HM.out _).mono ?_
    rintro e uu ⟨rfl, rfl⟩
    go_wp2_with fail
    refine (H1.out _ (b2)).mono ?_
    rintro e v3 ⟨rfl, c3⟩
    have b3 := chain b2 c3
    go_wp2_with fail
    refine (H2.out _ (b3)).mono ?_
    rintro e v4 ⟨rfl, c4⟩
    have b4 := chain b3 c4
    go_wp2_with fail
    refine (H3.out _).mono ?_
    rintro e v5 ⟨rfl, c5⟩
    have b5 := chain b4 c5
    go_wp2_with fail
    refine (H4.out _).mono ?_
    rintro e v6 ⟨rfl, c6⟩
    have b6 := chain b5 c6
    go_wp2_with fail
    go_ret
    exact ⟨rfl, b6⟩
  | true =>
    cases ft with
    | false =>
      clear EJ
      go_enter Tryd.func5, Tryd.ntmps5
      go_wp2_with fail
      refine (A1.out _ (Below.refl _ _)).mono ?_
      rintro e v1 ⟨rfl, c1⟩
      have b1 := c1
      go_wp2_with fail
      refine (A2.out _ (b1)).mono ?_
      rintro e v2 ⟨rfl, c2⟩
      have b2 := chain b1 c2
      go_wp2_with fail
      refine (HL.out _).mono ?_
      rintro e uu ⟨rfl, rfl⟩
      go_wp2_with fail
      refine (HM.out _).mono ?_
      rintro e uu ⟨rfl, rfl⟩
      go_wp2_with fail
      refine (H1.out _ (b2)).mono ?_
      rintro e v3 ⟨rfl, c3⟩
      have b3 := chain b2 c3
      go_wp2_with fail
      refine (H2.out _ (b3)).mono ?_
      rintro e v4 ⟨rfl, c4⟩
      have b4 := chain b3 c4
      go_wp2_with fail
      refine (H3.out _).mono ?_
      rintro e v5 ⟨rfl, c5⟩
      have b5 := chain b4 c5
      go_wp2_with fail
      refine (H4.out _).mono ?_
      rintro e v6 ⟨rfl, c6⟩
      have b6 := chain b5 c6
      go_wp2_with fail
      go_ret
      exact ⟨rfl, b6⟩
    | true =>
      obtain rfl : fst = true := EJ.out rfl rfl
      clear EJ
      go_enter Tryd.func5, Tryd.ntmps5
      go_wp2_with fail
      refine (A1.out _ (Below.refl _ _)).mono ?_
      rintro e v1 ⟨rfl, c1⟩
      have b1 := c1
      go_wp2_with fail
      refine (A2.out _ (b1)).mono ?_
      rintro e v2 ⟨rfl, c2⟩
      have b2 := chain b1 c2
      go_wp2_with fail
      refine (HL.out _).mono ?_
      rintro e uu ⟨rfl, rfl⟩
      go_wp2_with fail
      refine (HM.out _).mono ?_
      rintro e uu ⟨rfl, rfl⟩
      go_wp2_with fail
      refine (H1.out _ (b2)).mono ?_
      rintro e v3 ⟨rfl, c3⟩
      have b3 := chain b2 c3
      go_wp2_with fail
      refine (H2.out _ (b3)).mono ?_
      rintro e v4 ⟨rfl, c4⟩
      have b4 := chain b3 c4
      go_wp2_with fail
      refine (H3.out _).mono ?_
      rintro e v5 ⟨rfl, c5⟩
      have b5 := chain b4 c5
      go_wp2_with fail
      refine (H4.out _).mono ?_
      rintro e v6 ⟨rfl, c6⟩
      have b6 := chain b5 c6
      go_wp2_with fail
      refine (H5.out _ (b6)).mono ?_
      rintro e v7 ⟨rfl, c7⟩
      have b7 := chain b6 c7
      go_wp2_with fail
      go_ret
      exact ⟨rfl, b7⟩

set_option maxHeartbeats 2000000 in
set_option maxRecDepth 100000 in
theorem linkAbsolute_walk (s : ByteArray) (w : World) (hT : LinkTabs w) :
    Calls Tryd.prog 6 #[.string s] w fun e w' => e = .returned (.bool true) ∧ Below w.heap.size w w' := by
  have HW := hide (lwakes_any w hT)
  by_cases h : s.size ≤ 8192
  · have HL := hide (fun w' => longK_no s w' h)
    have H1 := hide (fun w' (b : Below w.heap.size w w') => linkAbs_any s w' (by omega) (hT.below b))
    have H2 := hide (fun w' => refAbs_any s w' (by omega))
    clear hT h
    generalize absL s.data.toList = t at *
    go_enter Tryd.func6, Tryd.ntmps6
    go_wp2_with fail
    refine (HW.out).mono ?_
    rintro e v1 ⟨rfl, c1⟩
    have b1 := c1
    go_wp2_with fail
    refine (HL.out _).mono ?_
    rintro e uu ⟨rfl, rfl⟩
    go_wp2_with fail
    refine (H1.out _ (b1)).mono ?_
    rintro e v2 ⟨rfl, c2⟩
    have b2 := chain b1 c2
    go_wp2_with fail
    refine (H2.out _).mono ?_
    rintro e v3 ⟨rfl, c3⟩
    have b3 := chain b2 c3
    go_wp2_with fail
    go_ret
    exact ⟨rfl, b3⟩
  · have HL := hide (fun w' => longK_yes s w' (by omega))
    clear hT h
    go_enter Tryd.func6, Tryd.ntmps6
    go_wp2_with fail
    refine (HW.out).mono ?_
    rintro e v1 ⟨rfl, c1⟩
    have b1 := c1
    go_wp2_with fail
    refine (HL.out _).mono ?_
    rintro e uu ⟨rfl, rfl⟩
    go_wp2_with fail
    go_ret
    exact ⟨rfl, b1⟩

set_option maxHeartbeats 2000000 in
set_option maxRecDepth 100000 in
theorem linkCases_walk (s : ByteArray) (w : World) (hT : LinkTabs w) :
    Calls Tryd.prog 7 #[.string s] w fun e w' => e = .returned (.bool true) ∧ Below w.heap.size w w' := by
  have HW := hide (lwakes_any w hT)
  by_cases h : s.size ≤ 8192
  · have HL := hide (fun w' => longK_no s w' h)
    have H1 := hide (fun w' (b : Below w.heap.size w w') => linkScheme_any s w' (by omega) (hT.below b))
    have H2 := hide (fun w' (b : Below w.heap.size w w') => linkAbs_any s w' (by omega) (hT.below b))
    cases hok : schOk s.data.toList with
    | false =>
      rw [schV_no hok] at H1
      rw [abs_none hok] at H2
      clear hT h hok
      go_enter Tryd.func7, Tryd.ntmps7
      go_wp2_with fail
      refine (HW.out).mono ?_
      rintro e v1 ⟨rfl, c1⟩
      have b1 := c1
      go_wp2_with fail
      refine (HL.out _).mono ?_
      rintro e uu ⟨rfl, rfl⟩
      go_wp2_with fail
      refine (H1.out _ (b1)).mono ?_
      rintro e v2 ⟨rfl, c2⟩
      have b2 := chain b1 c2
      go_wp2_with fail
      refine (H2.out _ (b2)).mono ?_
      rintro e v3 ⟨rfl, c3⟩
      have b3 := chain b2 c3
      go_wp2_with fail
      go_ret
      exact ⟨rfl, b3⟩
    | true =>
      rw [schV_ok hok] at H1
      obtain ⟨_, el, eb⟩ := abs_ok hok
      have hl : s.data.toList.length = s.size := by simp
      have EC := abs_cases hok
      obtain ⟨sc, f1, f2, f3⟩ := txt_ex (schL s.data.toList)
      rw [f1] at H1
      have hsc : sc.size + 1 ≤ s.size := by omega
      rw [← f3, ← f2, ← sub_end] at EC
      have hx : (s.extract sc.size s.size).size ≤ 8192 := by rw [ByteArray.size_extract]; omega
      have H3 := hide (fun w' (b : Below w.heap.size w w') => linkAbs_any (sc ++ s.extract sc.size s.size) w' (by rw [ByteArray.size_append]; omega) (hT.below b))
      rw [show (sc ++ s.extract sc.size s.size).data.toList = sc.data.toList ++ (s.extract sc.size s.size).data.toList by simp, EC] at H3
      obtain ⟨x, ex⟩ : ∃ x, s.extract sc.size s.size = x := ⟨_, rfl⟩
      rw [ex] at H3 hx
      have q1 := fun w => run_string_add_sum (P := Tryd.prog) w sc x (by omega)
      have hs8 : s.size ≤ 8192 := h
      clear hT h hok el eb hl EC f1 f2 f3
      generalize sc ++ x = y at *
      generalize absL s.data.toList = a at *
      go_enter Tryd.func7, Tryd.ntmps7
      go_wp2_with fail
      refine (HW.out).mono ?_
      rintro e v1 ⟨rfl, c1⟩
      have b1 := c1
      go_wp2_with fail
      refine (HL.out _).mono ?_
      rintro e uu ⟨rfl, rfl⟩
      go_wp2_with fail
      refine (H1.out _ (b1)).mono ?_
      rintro e v2 ⟨rfl, c2⟩
      have b2 := chain b1 c2
      go_wp2_with fail
      refine (H3.out _ (b2)).mono ?_
      rintro e v3 ⟨rfl, c3⟩
      have b3 := chain b2 c3
      go_wp2_with fail
      refine (H2.out _ (b3)).mono ?_
      rintro e v4 ⟨rfl, c4⟩
      have b4 := chain b3 c4
      go_wp2_with fail
      go_ret
      exact ⟨rfl, b4⟩
  · have HL := hide (fun w' => longK_yes s w' (by omega))
    clear hT h
    go_enter Tryd.func7, Tryd.ntmps7
    go_wp2_with fail
    refine (HW.out).mono ?_
    rintro e v1 ⟨rfl, c1⟩
    have b1 := c1
    go_wp2_with fail
    refine (HL.out _).mono ?_
    rintro e uu ⟨rfl, rfl⟩
    go_wp2_with fail
    go_ret
    exact ⟨rfl, b1⟩


end Go.Proofs.YtkllknfgojjphaaDoor
