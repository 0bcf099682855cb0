/- The program's Show answers by the function of 'Num'; it changes nothing that was there. Conditions: numbers of 64 bits; the library's table of powers of ten reads as its text lays it. -/
import Derived.Test.YthakeibmbcgjfaaDoorDigWalks
import Derived.Test.YthakeibmbcgjfaaDoorNumLib
import Derived.Test.YthakeibmbcgjfaaDoorNumFmt
import Derived.Test.YthakeibmbcgjfaaDoorBByte
import Derived.Test.YthakeibmbcgjfaaDoorBText
import Derived.Test.YthakeibmbcgjfaaDoorBString
import Derived.Test.YthakeibmbcgjfaaDoorRefShow2
namespace Go.Proofs.YthakeibmbcgjfaaDoor
open Go.RowKit

theorem pad_text {r : Nat} (h : r < 1000000) : (txt (decD (1000000 + r))).extract 1 7 = txt (padD 6 r) ∧ (txt (decD (1000000 + r))).size = 7 := by
  have e : decD (1000000 + r) = dgB 1 :: padD 6 r := dec_pad 6 r h
  rw [e]
  have hl := padD_len 6 r
  refine ⟨?_, by rw [txt_size, List.length_cons, hl]⟩
  have := Lib.extract_mk (dgB 1 :: padD 6 r) 1 7
  unfold txt
  rw [this]
  have h2 : List.take (7 - 1) (List.drop 1 (dgB 1 :: padD 6 r)) = padD 6 r := by
    rw [List.drop_one, List.tail_cons]; exact List.take_of_length_le (by omega)
  rw [h2]
theorem frac_text {r : Nat} (h : r < 1000000) : trimZ (txt (padD 6 r)).data.toList = fracD 6 r := trim_pad 6 r h

set_option maxHeartbeats 2000000 in
theorem show_p0 (u : Nat) (w : World) (hu : u ≤ 9223372036854775807) (hr : u % 1000000 = 0) (hT : Tens w) :
    Calls Tryd.prog 10 #[.int .i64 ((u : Int))] w fun e w' => e = .returned (.string (txt (tellL [] u))) ∧ Below w.heap.size w w' := by
  have hF := fun w hT => format_any (u / 1000000) w (by omega) hT
  have hdl := decD_len (n := u / 1000000) (k := 20) (by omega) (by decide)
  have hL := fun w => leftU_any u 1000000 w (by omega) (by omega) (by omega)
  rw [show ((u / 1000000 : Nat) : Int) = (u : Int) / 1000000 by omega] at hF
  rw [show ((u % 1000000 : Nat) : Int) = (u : Int) % 1000000 by omega, show ((1000000 : Nat) : Int) = 1000000 from rfl] at hL
  have HX := hide (tell_no (pre := []) hr)
  have hr' : (u : Int) % 1000000 = 0 := by omega
  rw [hr'] at hL
  clear hr'
  generalize decD (u / 1000000) = d at *
  have HF := hide hF
  have HL := hide hL
  have HTn := hide hT
  clear hF hL hT hr
  have hx0 : 0 ≤ (u : Int) := by omega
  have hx1 : (u : Int) ≤ 9223372036854775807 := by omega
  have h0 := HoldsB.fresh w
  have b0 : Below w.heap.size w (w.alloc (.cells #[.pointer none, .slice none 0 0] 40)) := (Below.refl _ w).alloc (Nat.le_refl _) _
  clear hu
  generalize (u : Int) = x at *
  go_enter Tryd.func10, Tryd.ntmps10
  go_wp2_with fail
  refine (HF.out _ (HTn.out.below b0)).mono ?_
  rintro e w2 ⟨rfl, b2⟩
  have c2 := b0.trans (b2.mono b0.size)
  go_wp2_with fail
  refine (writeString _ _ _ (txt d) _ (h0.below b2) (by simp [txt_size]; omega) c2.size).mono ?_
  rintro e w3 ⟨rfl, h3, b3⟩
  have c3 := c2.trans b3
  go_wp2_with fail
  refine (HL.out _).mono ?_
  rintro e u1 ⟨rfl, rfl⟩
  go_wp2_with fail
  refine (builderText _ _ _ _ h3 c3.size).mono ?_
  rintro e w7 ⟨rfl, b7⟩
  go_wp2_with fail
  go_ret
  refine ⟨ret_str ?_, c3.trans b7⟩
  rw [HX.out]
  simp [txt_data]

set_option maxHeartbeats 2000000 in
theorem show_p1 (u : Nat) (w : World) (hu : u ≤ 9223372036854775807) (hr : u % 1000000 ≠ 0) (hT : Tens w) :
    Calls Tryd.prog 10 #[.int .i64 ((u : Int))] w fun e w' => e = .returned (.string (txt (tellL [] u))) ∧ Below w.heap.size w w' := by
  have hF := fun w hT => format_any (u / 1000000) w (by omega) hT
  have hdl := decD_len (n := u / 1000000) (k := 20) (by omega) (by decide)
  have hL := fun w => leftU_any u 1000000 w (by omega) (by omega) (by omega)
  rw [show ((u / 1000000 : Nat) : Int) = (u : Int) / 1000000 by omega] at hF
  rw [show ((u % 1000000 : Nat) : Int) = (u : Int) % 1000000 by omega, show ((1000000 : Nat) : Int) = 1000000 from rfl] at hL
  have HX := hide (tell_yes (pre := []) hr)
  have hr0 : 0 < (u : Int) % 1000000 := by omega
  have hr1 : (u : Int) % 1000000 < 1000000 := by omega
  have hG := fun w hT => format_any (1000000 + u % 1000000) w (by omega) hT
  have ⟨hp1, hp2⟩ := pad_text (r := u % 1000000) (by omega)
  have hR := fun w => trimRight_any (txt (padD 6 (u % 1000000))) w (by rw [txt_size, padD_len]; omega)
  rw [frac_text (by omega)] at hR
  have hfl := fracD_len 6 (u % 1000000)
  rw [show ((1000000 + u % 1000000 : Nat) : Int) = 1000000 + (u : Int) % 1000000 by omega] at hG
  generalize decD (1000000 + u % 1000000) = g at *
  generalize padD 6 (u % 1000000) = q at *
  generalize fracD 6 (u % 1000000) = f at *
  have HG := hide hG
  have HR := hide hR
  clear hG hR
  generalize decD (u / 1000000) = d at *
  have HF := hide hF
  have HL := hide hL
  have HTn := hide hT
  clear hF hL hT hr
  have hx0 : 0 ≤ (u : Int) := by omega
  have hx1 : (u : Int) ≤ 9223372036854775807 := by omega
  have h0 := HoldsB.fresh w
  have b0 : Below w.heap.size w (w.alloc (.cells #[.pointer none, .slice none 0 0] 40)) := (Below.refl _ w).alloc (Nat.le_refl _) _
  clear hu
  generalize (u : Int) = x at *
  go_enter Tryd.func10, Tryd.ntmps10
  go_wp2_with fail
  refine (HF.out _ (HTn.out.below b0)).mono ?_
  rintro e w2 ⟨rfl, b2⟩
  have c2 := b0.trans (b2.mono b0.size)
  go_wp2_with fail
  refine (writeString _ _ _ (txt d) _ (h0.below b2) (by simp [txt_size]; omega) c2.size).mono ?_
  rintro e w3 ⟨rfl, h3, b3⟩
  have c3 := c2.trans b3
  go_wp2_with fail
  refine (HL.out _).mono ?_
  rintro e u1 ⟨rfl, rfl⟩
  go_wp2_with fail
  refine (writeByte _ _ _ 46 _ h3 (by simp [txt_data]; omega) c3.size).mono ?_
  rintro e w4 ⟨rfl, h4, b4⟩
  have c4 := c3.trans b4
  go_wp2_with fail
  refine (HG.out _ (HTn.out.below c4)).mono ?_
  rintro e w5 ⟨rfl, b5⟩
  have c5 := c4.trans (b5.mono c4.size)
  go_wp2_with fail
  refine (HR.out _).mono ?_
  rintro e u1 ⟨rfl, rfl⟩
  go_wp2_with fail
  refine (writeString _ _ _ (txt f) _ (h4.below b5) (by simp [txt_size, txt_data]; omega) c5.size).mono ?_
  rintro e w6 ⟨rfl, h6, b6⟩
  have c6 := c5.trans b6
  go_wp2_with fail
  refine (builderText _ _ _ _ h6 c6.size).mono ?_
  rintro e w7 ⟨rfl, b7⟩
  go_wp2_with fail
  go_ret
  refine ⟨ret_str ?_, c6.trans b7⟩
  rw [HX.out]
  simp [txt_data]

set_option maxHeartbeats 2000000 in
theorem show_n0 (u : Nat) (w : World) (hu : u ≤ 9223372036854775808) (h1 : 1 ≤ u) (hr : u % 1000000 = 0) (hT : Tens w) :
    Calls Tryd.prog 10 #[.int .i64 (-(u : Int))] w fun e w' => e = .returned (.string (txt (tellL [45] u))) ∧ Below w.heap.size w w' := by
  have hF := fun w hT => format_any (u / 1000000) w (by omega) hT
  have hdl := decD_len (n := u / 1000000) (k := 20) (by omega) (by decide)
  have hL := fun w => leftU_any u 1000000 w (by omega) (by omega) (by omega)
  rw [show ((u / 1000000 : Nat) : Int) = (u : Int) / 1000000 by omega] at hF
  rw [show ((u % 1000000 : Nat) : Int) = (u : Int) % 1000000 by omega, show ((1000000 : Nat) : Int) = 1000000 from rfl] at hL
  have HX := hide (tell_no (pre := [45]) hr)
  have hr' : (u : Int) % 1000000 = 0 := by omega
  rw [hr'] at hL
  clear hr'
  generalize decD (u / 1000000) = d at *
  have HF := hide hF
  have HL := hide hL
  have HTn := hide hT
  clear hF hL hT hr
  have hx0 : 1 ≤ (u : Int) := by omega
  have hx1 : (u : Int) ≤ 9223372036854775808 := by omega
  have h0 := HoldsB.fresh w
  have b0 : Below w.heap.size w (w.alloc (.cells #[.pointer none, .slice none 0 0] 40)) := (Below.refl _ w).alloc (Nat.le_refl _) _
  have hneg : IntKind.u64.wrap (-IntKind.u64.wrap (-(u : Int))) = (u : Int) := by rw [IntKind.wrap_u64, IntKind.wrap_u64]; omega
  clear hu h1
  generalize (u : Int) = x at *
  go_enter Tryd.func10, Tryd.ntmps10
  go_wp2_with fail
  refine (writeByte _ _ _ 45 _ h0 (by simp) b0.size).mono ?_
  rintro e w1 ⟨rfl, h1, b1⟩
  have c1 := b0.trans b1
  go_wp2_with fail
  refine (HF.out _ (HTn.out.below c1)).mono ?_
  rintro e w2 ⟨rfl, b2⟩
  have c2 := c1.trans (b2.mono c1.size)
  go_wp2_with fail
  refine (writeString _ _ _ (txt d) _ (h1.below b2) (by simp [txt_size]; omega) c2.size).mono ?_
  rintro e w3 ⟨rfl, h3, b3⟩
  have c3 := c2.trans b3
  go_wp2_with fail
  refine (HL.out _).mono ?_
  rintro e u1 ⟨rfl, rfl⟩
  go_wp2_with fail
  refine (builderText _ _ _ _ h3 c3.size).mono ?_
  rintro e w7 ⟨rfl, b7⟩
  go_wp2_with fail
  go_ret
  refine ⟨ret_str ?_, c3.trans b7⟩
  rw [HX.out]
  simp [txt_data]

set_option maxHeartbeats 2000000 in
theorem show_n1 (u : Nat) (w : World) (hu : u ≤ 9223372036854775808) (h1 : 1 ≤ u) (hr : u % 1000000 ≠ 0) (hT : Tens w) :
    Calls Tryd.prog 10 #[.int .i64 (-(u : Int))] w fun e w' => e = .returned (.string (txt (tellL [45] u))) ∧ Below w.heap.size w w' := by
  have hF := fun w hT => format_any (u / 1000000) w (by omega) hT
  have hdl := decD_len (n := u / 1000000) (k := 20) (by omega) (by decide)
  have hL := fun w => leftU_any u 1000000 w (by omega) (by omega) (by omega)
  rw [show ((u / 1000000 : Nat) : Int) = (u : Int) / 1000000 by omega] at hF
  rw [show ((u % 1000000 : Nat) : Int) = (u : Int) % 1000000 by omega, show ((1000000 : Nat) : Int) = 1000000 from rfl] at hL
  have HX := hide (tell_yes (pre := [45]) hr)
  have hr0 : 0 < (u : Int) % 1000000 := by omega
  have hr1 : (u : Int) % 1000000 < 1000000 := by omega
  have hG := fun w hT => format_any (1000000 + u % 1000000) w (by omega) hT
  have ⟨hp1, hp2⟩ := pad_text (r := u % 1000000) (by omega)
  have hR := fun w => trimRight_any (txt (padD 6 (u % 1000000))) w (by rw [txt_size, padD_len]; omega)
  rw [frac_text (by omega)] at hR
  have hfl := fracD_len 6 (u % 1000000)
  rw [show ((1000000 + u % 1000000 : Nat) : Int) = 1000000 + (u : Int) % 1000000 by omega] at hG
  generalize decD (1000000 + u % 1000000) = g at *
  generalize padD 6 (u % 1000000) = q at *
  generalize fracD 6 (u % 1000000) = f at *
  have HG := hide hG
  have HR := hide hR
  clear hG hR
  generalize decD (u / 1000000) = d at *
  have HF := hide hF
  have HL := hide hL
  have HTn := hide hT
  clear hF hL hT hr
  have hx0 : 1 ≤ (u : Int) := by omega
  have hx1 : (u : Int) ≤ 9223372036854775808 := by omega
  have h0 := HoldsB.fresh w
  have b0 : Below w.heap.size w (w.alloc (.cells #[.pointer none, .slice none 0 0] 40)) := (Below.refl _ w).alloc (Nat.le_refl _) _
  have hneg : IntKind.u64.wrap (-IntKind.u64.wrap (-(u : Int))) = (u : Int) := by rw [IntKind.wrap_u64, IntKind.wrap_u64]; omega
  clear hu h1
  generalize (u : Int) = x at *
  go_enter Tryd.func10, Tryd.ntmps10
  go_wp2_with fail
  refine (writeByte _ _ _ 45 _ h0 (by simp) b0.size).mono ?_
  rintro e w1 ⟨rfl, h1, b1⟩
  have c1 := b0.trans b1
  go_wp2_with fail
  refine (HF.out _ (HTn.out.below c1)).mono ?_
  rintro e w2 ⟨rfl, b2⟩
  have c2 := c1.trans (b2.mono c1.size)
  go_wp2_with fail
  refine (writeString _ _ _ (txt d) _ (h1.below b2) (by simp [txt_size]; omega) c2.size).mono ?_
  rintro e w3 ⟨rfl, h3, b3⟩
  have c3 := c2.trans b3
  go_wp2_with fail
  refine (HL.out _).mono ?_
  rintro e u1 ⟨rfl, rfl⟩
  go_wp2_with fail
  refine (writeByte _ _ _ 46 _ h3 (by simp [txt_data]; omega) c3.size).mono ?_
  rintro e w4 ⟨rfl, h4, b4⟩
  have c4 := c3.trans b4
  go_wp2_with fail
  refine (HG.out _ (HTn.out.below c4)).mono ?_
  rintro e w5 ⟨rfl, b5⟩
  have c5 := c4.trans (b5.mono c4.size)
  go_wp2_with fail
  refine (HR.out _).mono ?_
  rintro e u1 ⟨rfl, rfl⟩
  go_wp2_with fail
  refine (writeString _ _ _ (txt f) _ (h4.below b5) (by simp [txt_size, txt_data]; omega) c5.size).mono ?_
  rintro e w6 ⟨rfl, h6, b6⟩
  have c6 := c5.trans b6
  go_wp2_with fail
  refine (builderText _ _ _ _ h6 c6.size).mono ?_
  rintro e w7 ⟨rfl, b7⟩
  go_wp2_with fail
  go_ret
  refine ⟨ret_str ?_, c6.trans b7⟩
  rw [HX.out]
  simp [txt_data]

theorem show_any (n : Int) (w : World) (h1 : -9223372036854775808 ≤ n) (h2 : n ≤ 9223372036854775807) (hT : Tens w) :
    Calls Tryd.prog 10 #[.int .i64 n] w fun e w' => e = .returned (.string (txt (showL n))) ∧ Below w.heap.size w w' := by
  rw [tell_is]
  by_cases hn : n < 0
  · obtain ⟨u, rfl⟩ : ∃ u : Nat, n = -(u : Int) := ⟨n.natAbs, by omega⟩
    have e : (-(u : Int)).natAbs = u := by omega
    rw [if_pos hn, e]
    by_cases hr : u % 1000000 = 0
    · exact show_n0 u w (by omega) (by omega) hr hT
    · exact show_n1 u w (by omega) (by omega) hr hT
  · obtain ⟨u, rfl⟩ : ∃ u : Nat, n = (u : Int) := ⟨n.toNat, by omega⟩
    have e : (u : Int).natAbs = u := by omega
    rw [if_neg hn, e]
    by_cases hr : u % 1000000 = 0
    · exact show_p0 u w (by omega) hr hT
    · exact show_p1 u w (by omega) hr hT

end Go.Proofs.YthakeibmbcgjfaaDoor
