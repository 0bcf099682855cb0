/- The document's Show answers by the function of 'Num': its walks. Condition: numbers of 64 bits. -/
import Derived.Test.YthakeibmbcgjfaaDoorRefShow2
namespace Go.Proofs.YthakeibmbcgjfaaDoor
open Go.RowKit

set_option maxHeartbeats 2000000 in
theorem refShow_p0 (u : Nat) (w : World) (hu : u ≤ 9223372036854775807) (hr : u % 1000000 = 0) :
    Calls Tryd.prog 11 #[.int .i64 ((u : Int))] w fun e w' => e = .returned (.string (txt (tellL [] u))) ∧ Below w.heap.size w w' := by
  have hD := fun w => refDigits_any (u / 1000000) w (by omega)
  have hdl := decD_len (n := u / 1000000) (k := 20) (by omega) (by decide)
  have hle := tell_len (pre := []) (u := u) (by decide) (by omega)
  rw [show ((u / 1000000 : Nat) : Int) = (u : Int) / 1000000 by omega] at hD
  have HT := hide (tell_no (pre := []) hr)
  have hr' : ((u : Int) % 1000000 == 0) = true := by simp; omega
  generalize hdd : decD (u / 1000000) = d at *
  have hz : (txt d).size ≤ 20 := by rw [txt_size]; omega
  have HD := hide hD
  clear hD hr hdd
  have hx0 : 0 ≤ (u : Int) := by omega
  have hx1 : (u : Int) ≤ 9223372036854775807 := by omega
  clear hu
  generalize hxx : (u : Int) = x at *
  clear hxx
  go_enter Tryd.func11, Tryd.ntmps11
  go_wp2_with fail
  refine (HD.out _).mono ?_
  rintro e w1 ⟨rfl, b1⟩
  go_wp2_with fail
  go_ret
  refine ⟨ret_str ?_, b1⟩
  rw [HT.out]; rfl

set_option maxHeartbeats 2000000 in
theorem refShow_p1 (u : Nat) (w : World) (hu : u ≤ 9223372036854775807) (hr : u % 1000000 ≠ 0) :
    Calls Tryd.prog 11 #[.int .i64 ((u : Int))] w fun e w' => e = .returned (.string (txt (tellL [] u))) ∧ Below w.heap.size w w' := by
  have hD := fun w => refDigits_any (u / 1000000) w (by omega)
  have hdl := decD_len (n := u / 1000000) (k := 20) (by omega) (by decide)
  have hle := tell_len (pre := []) (u := u) (by decide) (by omega)
  rw [show ((u / 1000000 : Nat) : Int) = (u : Int) / 1000000 by omega] at hD
  have HT := hide (tell_yes (pre := []) hr)
  have hr' : ((u : Int) % 1000000 == 0) = false := by simp; omega
  have HS := hide (showAt_start ([] ++ decD (u / 1000000) ++ [46]) (m := u % 1000000) (by omega))
  have HX : Hid ((u : Int) % 1000000 = ((u % 1000000 : Nat) : Int)) := hide (by omega)
  generalize hdd : decD (u / 1000000) = d at *
  have hz : (txt d).size ≤ 20 := by rw [txt_size]; omega
  have HD := hide hD
  clear hD hr hdd
  have hx0 : 0 ≤ (u : Int) := by omega
  have hx1 : (u : Int) ≤ 9223372036854775807 := by omega
  clear hu
  generalize hxx : (u : Int) = x at *
  clear hxx
  go_enter Tryd.func11, Tryd.ntmps11
  go_wp2_with fail
  refine (HD.out _).mono ?_
  rintro e w1 ⟨rfl, b1⟩
  go_wp2_with fail
  go_loopw [3, 5] (fun v a wr => ∃ (r p m : Nat) (acc : List UInt8), v = .string (txt acc) ∧ a = .int .u64 r ∧ ShowAt (tellL [] u) r acc p m ∧ Below w.heap.size w wr) (fun v _ _ => 40 - Lib.strSize v)
  case atStart => exact ⟨u % 1000000, 6, u % 1000000, [] ++ d ++ [46], by show Value.string _ = _; rw [← txt_app]; rfl, by rw [HX.out], by rw [HT.out]; exact HS.out, b1⟩
  case round =>
    obtain ⟨r, p, m, acc, rfl, rfl, hS, hb⟩ := hrel
    rename World => wr
    clear HD HX HS HT hr' hz hx0 hx1
    have hless := showAt_less hS
    by_cases h0 : 0 < r
    · obtain ⟨hlen, m', hS'⟩ := showAt_next hS h0
      have hD2 := fun w => refDigits_any (r / 100000) w (by omega)
      rw [decD_one (show r / 100000 < 10 by omega), show ((r / 100000 : Nat) : Int) = (r : Int) / 100000 by omega] at hD2
      have hac : (txt acc).size ≤ 30 := by rw [txt_size]; omega
      have hone : (txt [dgB (r / 100000)]).size = 1 := rfl
      have HAC := hide (show acc.length ≤ 29 by omega)
      have HAP := hide (txt_app acc [dgB (r / 100000)])
      have HD2 := hide hD2
      have HS2 := hide hS'
      have HM : Hid ((r : Int) % 100000 * 10 = ((r % 100000 * 10 : Nat) : Int)) := hide (by omega)
      have hy0 : 0 < (r : Int) := by omega
      have hy1 : (r : Int) < 1000000 := by omega
      clear hD2 hS' hS hlen hle h0 hless
      generalize hyy : (r : Int) = y at *
      clear hyy
      go_wp2_with fail
      refine (HD2.out _).mono ?_
      rintro e w2 ⟨rfl, b2⟩
      go_wp2_with fail
      go_roundw
      case rel => exact ⟨r % 100000 * 10, p - 1, m', acc ++ [dgB (r / 100000)], by rw [← HAP.out], by rw [HM.out], HS2.out, hb.trans (b2.mono hb.size)⟩
      case measure =>
        have := HAC.out
        simp [Lib.strSize, txt_size, ByteArray.size_append]; omega
    · obtain rfl : r = 0 := by omega
      have E := hide (showAt_end hS)
      clear hS h0 hless
      go_wp2_with fail
      go_ret
      exact ⟨ret_str (by rw [E.out]), hb⟩

set_option maxHeartbeats 2000000 in
theorem refShow_n0 (u : Nat) (w : World) (hu : u ≤ 9223372036854775808) (h1 : 1 ≤ u) (hr : u % 1000000 = 0) :
    Calls Tryd.prog 11 #[.int .i64 (-(u : Int))] w fun e w' => e = .returned (.string (txt (tellL [45] u))) ∧ Below w.heap.size w w' := by
  have hD := fun w => refDigits_any (u / 1000000) w (by omega)
  have hdl := decD_len (n := u / 1000000) (k := 20) (by omega) (by decide)
  have hle := tell_len (pre := [45]) (u := u) (by decide) (by omega)
  rw [show ((u / 1000000 : Nat) : Int) = (u : Int) / 1000000 by omega] at hD
  have HT := hide (tell_no (pre := [45]) hr)
  have hr' : ((u : Int) % 1000000 == 0) = true := by simp; omega
  generalize hdd : decD (u / 1000000) = d at *
  have hz : (txt d).size ≤ 20 := by rw [txt_size]; omega
  have HD := hide hD
  clear hD hr hdd
  have hx0 : 1 ≤ (u : Int) := by omega
  have hx1 : (u : Int) ≤ 9223372036854775808 := by omega
  have hzp : (⟨#[45]⟩ : ByteArray).size = 1 := rfl
  have HA : Hid ((⟨#[45]⟩ : ByteArray) ++ txt d = txt ([45] ++ d)) := hide (txt_app [45] d)
  have hneg : ∀ x : Int, -(-x + 1) + 1 = x := fun x => by omega
  clear hu h1
  generalize hxx : (u : Int) = x at *
  clear hxx
  go_enter Tryd.func11, Tryd.ntmps11
  go_wp2_with fail
  refine (HD.out _).mono ?_
  rintro e w1 ⟨rfl, b1⟩
  go_wp2_with fail
  go_ret
  refine ⟨ret_str ?_, b1⟩
  rw [HT.out]; exact HA.out

set_option maxHeartbeats 2000000 in
theorem refShow_n1 (u : Nat) (w : World) (hu : u ≤ 9223372036854775808) (h1 : 1 ≤ u) (hr : u % 1000000 ≠ 0) :
    Calls Tryd.prog 11 #[.int .i64 (-(u : Int))] w fun e w' => e = .returned (.string (txt (tellL [45] u))) ∧ Below w.heap.size w w' := by
  have hD := fun w => refDigits_any (u / 1000000) w (by omega)
  have hdl := decD_len (n := u / 1000000) (k := 20) (by omega) (by decide)
  have hle := tell_len (pre := [45]) (u := u) (by decide) (by omega)
  rw [show ((u / 1000000 : Nat) : Int) = (u : Int) / 1000000 by omega] at hD
  have HT := hide (tell_yes (pre := [45]) hr)
  have hr' : ((u : Int) % 1000000 == 0) = false := by simp; omega
  have HS := hide (showAt_start ([45] ++ decD (u / 1000000) ++ [46]) (m := u % 1000000) (by omega))
  have HX : Hid ((u : Int) % 1000000 = ((u % 1000000 : Nat) : Int)) := hide (by omega)
  generalize hdd : decD (u / 1000000) = d at *
  have hz : (txt d).size ≤ 20 := by rw [txt_size]; omega
  have HD := hide hD
  clear hD hr hdd
  have hx0 : 1 ≤ (u : Int) := by omega
  have hx1 : (u : Int) ≤ 9223372036854775808 := by omega
  have hzp : (⟨#[45]⟩ : ByteArray).size = 1 := rfl
  have HA : Hid ((⟨#[45]⟩ : ByteArray) ++ txt d = txt ([45] ++ d)) := hide (txt_app [45] d)
  have hneg : ∀ x : Int, -(-x + 1) + 1 = x := fun x => by omega
  clear hu h1
  generalize hxx : (u : Int) = x at *
  clear hxx
  go_enter Tryd.func11, Tryd.ntmps11
  go_wp2_with fail
  refine (HD.out _).mono ?_
  rintro e w1 ⟨rfl, b1⟩
  go_wp2_with fail
  go_loopw [3, 5] (fun v a wr => ∃ (r p m : Nat) (acc : List UInt8), v = .string (txt acc) ∧ a = .int .u64 r ∧ ShowAt (tellL [45] u) r acc p m ∧ Below w.heap.size w wr) (fun v _ _ => 40 - Lib.strSize v)
  case atStart => exact ⟨u % 1000000, 6, u % 1000000, [45] ++ d ++ [46], by show Value.string _ = _; rw [← txt_app, ← txt_app]; rfl, by rw [HX.out], by rw [HT.out]; exact HS.out, b1⟩
  case round =>
    obtain ⟨r, p, m, acc, rfl, rfl, hS, hb⟩ := hrel
    rename World => wr
    clear HD HX HS HT hr' hz hx0 hx1 hzp hneg HA
    have hless := showAt_less hS
    by_cases h0 : 0 < r
    · obtain ⟨hlen, m', hS'⟩ := showAt_next hS h0
      have hD2 := fun w => refDigits_any (r / 100000) w (by omega)
      rw [decD_one (show r / 100000 < 10 by omega), show ((r / 100000 : Nat) : Int) = (r : Int) / 100000 by omega] at hD2
      have hac : (txt acc).size ≤ 30 := by rw [txt_size]; omega
      have hone : (txt [dgB (r / 100000)]).size = 1 := rfl
      have HAC := hide (show acc.length ≤ 29 by omega)
      have HAP := hide (txt_app acc [dgB (r / 100000)])
      have HD2 := hide hD2
      have HS2 := hide hS'
      have HM : Hid ((r : Int) % 100000 * 10 = ((r % 100000 * 10 : Nat) : Int)) := hide (by omega)
      have hy0 : 0 < (r : Int) := by omega
      have hy1 : (r : Int) < 1000000 := by omega
      clear hD2 hS' hS hlen hle h0 hless
      generalize hyy : (r : Int) = y at *
      clear hyy
      go_wp2_with fail
      refine (HD2.out _).mono ?_
      rintro e w2 ⟨rfl, b2⟩
      go_wp2_with fail
      go_roundw
      case rel => exact ⟨r % 100000 * 10, p - 1, m', acc ++ [dgB (r / 100000)], by rw [← HAP.out], by rw [HM.out], HS2.out, hb.trans (b2.mono hb.size)⟩
      case measure =>
        have := HAC.out
        simp [Lib.strSize, txt_size, ByteArray.size_append]; omega
    · obtain rfl : r = 0 := by omega
      have E := hide (showAt_end hS)
      clear hS h0 hless
      go_wp2_with fail
      go_ret
      exact ⟨ret_str (by rw [E.out]), hb⟩

theorem refShow_any (n : Int) (w : World) (h1 : -9223372036854775808 ≤ n) (h2 : n ≤ 9223372036854775807) :
    Calls Tryd.prog 11 #[.int .i64 n] w fun e w' => e = .returned (.string (txt (showL n))) ∧ Below w.heap.size w w' := by
  rw [tell_is]
  by_cases hn : n < 0
  · obtain ⟨u, rfl⟩ : ∃ u : Nat, n = -(u : Int) := ⟨n.natAbs, by omega⟩
    have e : (-(u : Int)).natAbs = u := by omega
    rw [if_pos hn, e]
    by_cases hr : u % 1000000 = 0
    · exact refShow_n0 u w (by omega) (by omega) hr
    · exact refShow_n1 u w (by omega) (by omega) hr
  · obtain ⟨u, rfl⟩ : ∃ u : Nat, n = (u : Int) := ⟨n.toNat, by omega⟩
    have e : (u : Int).natAbs = u := by omega
    rw [if_neg hn, e]
    by_cases hr : u % 1000000 = 0
    · exact refShow_p0 u w (by omega) hr
    · exact refShow_p1 u w (by omega) hr

end Go.Proofs.YthakeibmbcgjfaaDoor
