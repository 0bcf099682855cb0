/- The number of a day, by the program: the call returns the number, or 0 and the error where there is no such day; the world is as it was. Condition: numbers of 64 bits; the table of lengths reads as the program's text lays it. -/
import Derived.Test.YtekcbkicfoaheaaGreatDoorDayProg
import Derived.Test.YtekcbkicfoaheaaGreatDoorDayNumR
namespace Go.Proofs.YtekcbkicfoaheaaGreatDoor
open Go.RowKit

set_option maxHeartbeats 1000000 in
theorem number_in (n y m d : Int) (w : World) (h : IsDay n y m d) (hT : Lens w) :
    Calls Tryz.prog 35 #[.int .i64 y, .int .i64 m, .int .i64 d] w fun e w' => e = .returned (.tuple #[.int .i64 n, .int .i64 0]) ∧ w' = w := by
  obtain ⟨y1, y2, m1, m2, d1, d2, e⟩ := h
  have hL := fun w => length_any y m w (by omega) (by omega) (by omega) (by omega)
  rw [len_in (by omega)] at hL
  have hF := fun w => firstDay_any y w y1 (by omega)
  have hS := fun (k : Int) (h1 : 1 ≤ k) (h2 : k ≤ 12) w => length_any y k w (by omega) (by omega) (by omega) (by omega)
  have hS := fun (k : Int) (h1 : 1 ≤ k) (h2 : k ≤ 12) w hT => by
    have := hS k h1 h2 w hT
    rw [len_in (by omega)] at this; exact this
  have hX := fun (k : Int) (h : 1 ≤ k) => aheadI_next (y := y) h
  have hB := fun (k : Int) (h : k ≤ 13) => aheadI_bounds (y := y) h
  have hM := len_bounds y m
  have hK := len_bounds y
  obtain ⟨n1, n2⟩ := new_range y1 (by omega)
  generalize newV y = N at *
  generalize lenV y m = L at *
  have E := hide e
  have HL := hide hL
  have HF := hide hF
  have HS := hide hS
  have HX := hide hX
  have HB := hide hB
  have HK := hide hK
  clear e hL hF hS hX hB hK
  have HT := hide hT
  clear hT
  go_enter Tryz.func35, Tryz.ntmps35
  go_wp2_with fail
  refine (HL.out _ HT.out).mono ?_
  rintro e u1 ⟨rfl, rfl⟩
  go_wp2_with fail
  refine (HF.out _).mono ?_
  rintro e u1 ⟨rfl, rfl⟩
  go_wp2_with fail
  go_loop [8, 9] (fun s t => ∃ k A : Int, t = .int .i64 k ∧ s = .int .i64 A ∧ 1 ≤ k ∧ k ≤ m ∧ Hid (A = N + aheadI y k)) (fun _ t => (m - intOf t).toNat)
  case atStart => exact ⟨1, N, rfl, rfl, by omega, by omega, hide (by rw [aheadI_1]; omega)⟩
  case round =>
    obtain ⟨k, A, rfl, rfl, k1, k2, eA⟩ := hrel
    have hb := HB.out k (by omega)
    have a1 : -719162 ≤ A := by have := eA.out; omega
    have a2 : A ≤ 200000366 := by have := eA.out; omega
    clear hb
    by_cases hk : k < m
    · have hs := HS.out k (by omega) (by omega)
      have hc := HK.out k
      have hx := hide (HX.out k k1)
      generalize lenV y k = l at *
      have Hs := hide hs
      clear hs
      go_wp2_with fail
      refine (Hs.out _ HT.out).mono ?_
      rintro e u1 ⟨rfl, rfl⟩
      go_wp2_with fail
      go_round
      case rel => exact ⟨k + 1, A + l, rfl, rfl, by omega, by omega, hide (by rw [hx.out, eA.out]; omega)⟩
      case measure => simp [intOf]; omega
    · obtain rfl : k = m := by omega
      go_wp2_with fail
      go_ret2
      exact ⟨ret_num (by rw [E.out, eA.out]), rfl⟩

set_option maxHeartbeats 1000000 in
theorem number_out (y m d : Int) (w : World) (h1 : -9223372036854775808 ≤ y) (h2 : y ≤ 9223372036854775807) (g1 : -9223372036854775808 ≤ m) (g2 : m ≤ 9223372036854775807) (h : ¬ (1 ≤ d ∧ d ≤ LenV y m)) (hT : Lens w) :
    Calls Tryz.prog 35 #[.int .i64 y, .int .i64 m, .int .i64 d] w fun e w' => e = .returned (.tuple #[.int .i64 0, .int .i64 2]) ∧ w' = w := by
  by_cases hd : d < 1
  · clear h
    go_enter Tryz.func35, Tryz.ntmps35
    go_wp2_with fail
    go_ret2
    exact ⟨rfl, rfl⟩
  · have hd' : LenV y m < d := by omega
    have hd2 : 1 ≤ d := by omega
    have hL := fun w => length_any y m w h1 h2 g1 g2
    generalize LenV y m = L at *
    have HL := hide hL
    clear hL h hd
    have HT := hide hT
    clear hT
    go_enter Tryz.func35, Tryz.ntmps35
    go_wp2_with fail
    refine (HL.out _ HT.out).mono ?_
    rintro e u1 ⟨rfl, rfl⟩
    go_wp2_with fail
    go_ret2
    exact ⟨rfl, rfl⟩

theorem wake_is : IsDay 11016 2000 2 29 := ⟨by decide, by decide, by decide, by decide, by decide, by decide, by decide⟩


end Go.Proofs.YtekcbkicfoaheaaGreatDoor
