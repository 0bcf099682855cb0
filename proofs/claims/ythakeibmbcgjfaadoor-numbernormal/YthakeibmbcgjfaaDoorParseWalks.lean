/- The program's cut, millionths and Parse answer by the functions of 'Num' and 'NumProg'; they change nothing that was there. Conditions: texts of fewer than 2^32 - 15 bytes; the library's variable MaxLen holds some number. -/
import Derived.Test.YthakeibmbcgjfaaDoorDigWalks
import Derived.Test.YthakeibmbcgjfaaDoorNumLib
namespace Go.Proofs.YthakeibmbcgjfaaDoor
open Go.RowKit

theorem results_tmp4 {fn : Func} {t u v x : Tmp} (h : fn.results = #[.tmp t, .tmp u, .tmp v, .tmp x]) (tmps : Array Value) (P : Program) (w : World) :
    (results fn tmps).run P w = .ok (.tuple #[tmps.getD t undef, tmps.getD u undef, tmps.getD v undef, tmps.getD x undef]) w := by
  simp [results, h]


theorem ret_mil {n : Int} {b : Bool} {m : Int} {c : Bool} (h : n = m) (g : b = c) : Ending.returned (.tuple #[.int .i64 n, .bool b]) = .returned (.tuple #[.int .i64 m, .bool c]) := by rw [h, g]

set_option maxHeartbeats 1000000 in
theorem millionths_no (s : ByteArray) (w : World) (hs : s.size ≤ maxLen) (hn : someD (s.data.toList.drop 6) = true) :
    Calls Tryd.prog 14 #[.string s] w fun e w' => e = .returned (.tuple #[.int .i64 0, .bool false]) ∧ w' = w := by
  have hz := trimZ_size s.data.toList
  have hl := (trimZ_len s.data.toList).2 hn
  have hsz : s.data.toList.length = s.size := by simp
  unfold maxLen at hs
  have hT := fun w => trimRight_any s w (by omega)
  generalize trimZ s.data.toList = t at *
  have ht : (txt t).size = t.length := rfl
  have hl' : (6 : Int) < ((txt t).size : Int) := by omega
  have HT := hide hT
  clear hT hn
  go_enter Tryd.func14, Tryd.ntmps14
  go_wp2_with fail
  refine (HT.out _).mono ?_
  rintro e u1 ⟨rfl, rfl⟩
  go_wp2_with fail
  go_ret2
  exact ⟨rfl, rfl⟩

theorem tens_le {n t j : Nat} (h : n < 10 ^ t) (hj : t + j ≤ 6) : n * 10 ^ j ≤ 1000000 := by
  have h1 : n * 10 ^ j ≤ 10 ^ t * 10 ^ j := Nat.mul_le_mul_right _ (Nat.le_of_lt h)
  rw [← Nat.pow_add] at h1
  have h2 : 10 ^ (t + j) ≤ 10 ^ 6 := Nat.pow_le_pow_right (by decide) hj
  have h3 : 10 ^ 6 = 1000000 := by decide
  omega
theorem tens_next (n j : Nat) : n * 10 ^ (j + 1) = n * 10 ^ j * 10 := by rw [Nat.pow_succ, Nat.mul_assoc]
/-- A number with j noughts behind it. -/
structure TenAt (a j n : Nat) : Prop where
  is : n = a * 10 ^ j

set_option maxHeartbeats 1000000 in
theorem millionths_yes (s : ByteArray) (w : World) (hs : s.size ≤ maxLen) (hd : ∀ c ∈ s.data.toList, isDg c = true) (hn : someD (s.data.toList.drop 6) = false) :
    Calls Tryd.prog 14 #[.string s] w fun e w' => e = .returned (.tuple #[.int .i64 (fracOf 6 s.data.toList : Nat), .bool true]) ∧ w' = w := by
  have hl : (trimZ s.data.toList).length ≤ 6 := by
    rcases Nat.lt_or_ge 6 (trimZ s.data.toList).length with g | g
    · rw [(trimZ_len _).1 g] at hn; cases hn
    · exact g
  have hdt := trimZ_dg hd
  have hfr := trimZ_frac hl
  unfold maxLen at hs
  have hT := fun w => trimRight_any s w (by omega)
  generalize trimZ s.data.toList = t at *
  have hlt := natOf_lt t hdt
  have hW := fun w => wholePart_any (txt t) w (by rw [txt_size]; unfold maxLen; omega) hdt
  have ew : wholeV 0 (txt t).data.toList = natOf t := wholeV_eq 0 t (by
    have := tens_le (j := 0) hlt (by omega)
    unfold MW; unfold natOf at this; omega)
  rw [ew] at hW
  have ht : (txt t).size = t.length := rfl
  have hle := fun j => tens_le (j := j) hlt
  generalize natOf t = n at *
  have HT := hide hT
  have HW := hide hW
  have HF := hide hfr
  have HL := hide hle
  have hl' : ((txt t).size : Int) ≤ 6 := by omega
  clear hT hW hn hd hdt hlt hfr ew hle
  go_enter Tryd.func14, Tryd.ntmps14
  go_wp2_with fail
  refine (HT.out _).mono ?_
  rintro e u1 ⟨rfl, rfl⟩
  go_wp2_with fail
  refine (HW.out _).mono ?_
  rintro e u1 ⟨rfl, rfl⟩
  go_wp2_with fail
  go_loop [4, 15] (fun v i => ∃ j m : Nat, t.length + j ≤ 6 ∧ i = .int .i64 j ∧ v = .int .i64 m ∧ TenAt n j m) (fun _ i => 6 - (intOf i).toNat)
  case atStart => exact ⟨0, n, hl, rfl, rfl, ⟨by rw [Nat.pow_zero, Nat.mul_one]⟩⟩
  case round =>
    obtain ⟨j, m, hj, rfl, rfl, hm⟩ := hrel
    have hmb : m ≤ 1000000 := by rw [hm.is]; exact HL.out j hj
    by_cases hlt : t.length + j < 6
    · have E : TenAt n (j + 1) (m * 10) := ⟨by rw [tens_next, ← hm.is]⟩
      clear hm
      go_wp2_with fail
      go_round
      case rel => exact ⟨j + 1, m * 10, by omega, by go_num, by go_num, E⟩
      case measure => simp [intOf]; omega
    · have E : Hid (m = fracOf 6 s.data.toList) := by
        have e := HF.out
        rw [show 6 - t.length = j by omega] at e
        rw [hm.is]; exact e
      clear hm
      go_wp2_with fail
      go_ret2
      exact ⟨ret_mil (by rw [E.out]) rfl, rfl⟩

end Go.Proofs.YthakeibmbcgjfaaDoor
