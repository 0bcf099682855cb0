/- Joined texts. MomShP: The program's showDay, showDate, showMonth, showTime. Conditions: numbers of 64 bits; the tables of its road. MomShP2: The program's showWeek, showTime, showLocal. Conditions: numbers of 64 bits; the tables of its road. MomProg: The program's Parse and Show of moments: they answer by momV, and by ShowIs and ShowNo. Conditions: numbers of 64 bits, texts as long as the law asks; the tables of their road. -/
import Derived.Test.YtpkpkpiphgjbaaaGreatDoorJcl21
import Derived.Test.YtpkpkpiphgjbaaaGreatDoorJcl5
namespace Go.Proofs.YtpkpkpiphgjbaaaGreatDoor
open Go.RowKit
set_option maxRecDepth 100000

/-- The tables of the road of Show. -/
def ShowTabs (w : World) : Prop := Lens w ∧ Tens w
theorem ShowTabs.below {w w' : World} (h : ShowTabs w) (hb : Below w.heap.size w w') : ShowTabs w' := ⟨h.1.below hb, h.2.below hb⟩
theorem ret_pad {a b : ByteArray} (h : a = b) : Ending.returned (.tuple #[.string a, .int .i64 0]) = .returned (.tuple #[.string b, .int .i64 0]) := by rw [h]

set_option maxHeartbeats 1000000 in
theorem showDay_out (k : Int) (w : World) (h : k < newV 1 ∨ newV 275761 ≤ k) :
    Calls Tryz.prog 165 #[.int .i64 k] w fun e w' => e = .returned (.tuple #[.string ⟨#[]⟩, .int .i64 2]) ∧ Below w.heap.size w w' := by
  have HD := hide (fun w => dateCall_out k w h)
  clear h
  go_enter Tryz.func165, Tryz.ntmps165
  go_wp2_with fail
  refine (HD.out _).mono ?_
  rintro e v ⟨rfl, b1⟩
  go_wp2_with fail
  go_ret2
  exact ⟨rfl, b1⟩

set_option maxHeartbeats 1000000 in
theorem showDay_in (k : Int) (y m d : Nat) (w : World) (h : IsDay k y m d) (hT : ShowTabs w) :
    Calls Tryz.prog 165 #[.int .i64 k] w fun e w' => e = .returned (.tuple #[.string (txt (dateL y m d)), .int .i64 0]) ∧ Below w.heap.size w w' := by
  have HD := hide (dateCall_in k y m d w h hT.1)
  have hb := h.y2; have m2 := h.m2; have d2 := h.d2; have l2 := len_bounds y m
  have HA := hide (fun w' (b : Below w.heap.size w w') => padP_any y 4 w' (by omega) (by decide) (hT.2.below b))
  have HB := hide (fun w' (b : Below w.heap.size w w') => padP_any m 2 w' (by omega) (by decide) (hT.2.below b))
  have HC := hide (fun w' (b : Below w.heap.size w w') => padP_any d 2 w' (by omega) (by decide) (hT.2.below b))
  have z1 : (txt (padL y 4)).size ≤ 9 := by rw [txt_size]; exact pad_most (k := 9) (by omega) (by decide) (by decide)
  have z2 : (txt (padL m 2)).size ≤ 9 := by rw [txt_size]; exact pad_most (k := 9) (by omega) (by decide) (by decide)
  have z3 : (txt (padL d 2)).size ≤ 9 := by rw [txt_size]; exact pad_most (k := 9) (by omega) (by decide) (by decide)
  have E : Hid (txt (dateL y m d) = txt (padL y 4) ++ ⟨#[45]⟩ ++ txt (padL m 2) ++ ⟨#[45]⟩ ++ txt (padL d 2)) := by
    show _ = _
    unfold dateL
    rw [show (⟨#[45]⟩ : ByteArray) = txt [45] from rfl, txt_app, txt_app, txt_app, txt_app]
    simp
  generalize txt (padL y 4) = a at *
  generalize txt (padL m 2) = b at *
  generalize txt (padL d 2) = c at *
  have ze : (⟨#[45]⟩ : ByteArray).size = 1 := rfl
  have p1 := fun w => run_string_add_sum (P := Tryz.prog) w a ⟨#[45]⟩ (by omega)
  have p2 := fun w => run_string_add_sum (P := Tryz.prog) w (a ++ ⟨#[45]⟩) b (by rw [ByteArray.size_append]; omega)
  have p3 := fun w => run_string_add_sum (P := Tryz.prog) w (a ++ ⟨#[45]⟩ ++ b) ⟨#[45]⟩ (by rw [ByteArray.size_append, ByteArray.size_append]; omega)
  have p4 := fun w => run_string_add_sum (P := Tryz.prog) w (a ++ ⟨#[45]⟩ ++ b ++ ⟨#[45]⟩) c (by rw [ByteArray.size_append, ByteArray.size_append, ByteArray.size_append]; omega)
  clear ze z1 z2 z3 h hT hb m2 d2 l2
  generalize a ++ ⟨#[45]⟩ ++ b ++ ⟨#[45]⟩ ++ c = s4 at *
  generalize a ++ ⟨#[45]⟩ ++ b ++ ⟨#[45]⟩ = s3 at *
  generalize a ++ ⟨#[45]⟩ ++ b = s2 at *
  generalize a ++ ⟨#[45]⟩ = s1 at *
  generalize (y : Int) = Y at *
  generalize (m : Int) = M at *
  generalize (d : Int) = D at *
  go_enter Tryz.func165, Tryz.ntmps165
  go_wp2_with fail
  refine HD.out.mono ?_
  rintro e v ⟨rfl, b1⟩
  go_wp2_with fail
  refine (HA.out _ b1).mono ?_
  rintro e v2 ⟨rfl, b2⟩
  have b2 := chain b1 b2
  go_wp2_with fail
  refine (HB.out _ b2).mono ?_
  rintro e v3 ⟨rfl, b3⟩
  have b3 := chain b2 b3
  go_wp2_with fail
  refine (HC.out _ b3).mono ?_
  rintro e v4 ⟨rfl, b4⟩
  have b4 := chain b3 b4
  go_wp2_with fail
  go_ret2
  exact ⟨ret_pad E.out.symm, b4⟩

set_option maxHeartbeats 1000000 in
theorem showDate_yes (n k : Int) (y m d : Nat) (w : World) (h : IsDay k y m d) (hN : k = n / 86400000) (h0 : n % 86400000 = 0) (n1 : -9223372036854775808 ≤ n) (n2 : n ≤ 9223372036854775807) (hT : ShowTabs w) :
    Calls Tryz.prog 122 #[.int .i64 n] w fun e w' => e = .returned (.tuple #[.string (txt (dateL y m d)), .int .i64 0]) ∧ Below w.heap.size w w' := by
  have HS := hide (split_any n 86400000 w n1 n2 (by decide) (by decide))
  have HD := hide (fun w' (b : Below w.heap.size w w') => showDay_in k y m d w' h (hT.below b))
  rw [← hN, h0] at HS
  clear h hN h0 hT n1 n2
  generalize txt (dateL y m d) = t at *
  go_enter Tryz.func122, Tryz.ntmps122
  go_wp2_with fail
  refine HS.out.mono ?_
  rintro e v ⟨rfl, b1⟩
  go_wp2_with fail
  refine (HD.out _ b1).mono ?_
  rintro e v2 ⟨rfl, b2⟩
  go_wp2_with fail
  go_ret2
  exact ⟨rfl, chain b1 b2⟩

set_option maxHeartbeats 1000000 in
theorem showDate_rest (n : Int) (w : World) (h0 : ¬ n % 86400000 = 0) (n1 : -9223372036854775808 ≤ n) (n2 : n ≤ 9223372036854775807) :
    Calls Tryz.prog 122 #[.int .i64 n] w fun e w' => e = .returned (.tuple #[.string ⟨#[]⟩, .int .i64 2]) ∧ Below w.heap.size w w' := by
  have HS := hide (split_any n 86400000 w n1 n2 (by decide) (by decide))
  have r0 : (n % 86400000 == 0) = false := beq_no h0
  have r1 : (n % 86400000 != 0) = true := by simpa using h0
  generalize n % 86400000 = r at *
  generalize n / 86400000 = k at *
  clear n1 n2
  go_enter Tryz.func122, Tryz.ntmps122
  go_wp2_with fail
  refine HS.out.mono ?_
  rintro e v ⟨rfl, b1⟩
  go_wp2_with fail
  go_ret2
  exact ⟨rfl, b1⟩

set_option maxHeartbeats 1000000 in
theorem showDate_out (n k : Int) (w : World) (hN : k = n / 86400000) (h : k < newV 1 ∨ newV 275761 ≤ k) (n1 : -9223372036854775808 ≤ n) (n2 : n ≤ 9223372036854775807) :
    Calls Tryz.prog 122 #[.int .i64 n] w fun e w' => e = .returned (.tuple #[.string ⟨#[]⟩, .int .i64 2]) ∧ Below w.heap.size w w' := by
  by_cases h0 : n % 86400000 = 0
  · have HS := hide (split_any n 86400000 w n1 n2 (by decide) (by decide))
    have HD := hide (fun w' => showDay_out k w' h)
    rw [← hN, h0] at HS
    clear h hN h0 n1 n2
    go_enter Tryz.func122, Tryz.ntmps122
    go_wp2_with fail
    refine HS.out.mono ?_
    rintro e v ⟨rfl, b1⟩
    go_wp2_with fail
    refine (HD.out _).mono ?_
    rintro e v2 ⟨rfl, b2⟩
    go_wp2_with fail
    go_ret2
    exact ⟨rfl, chain b1 b2⟩
  · exact showDate_rest n w h0 n1 n2

set_option maxHeartbeats 1000000 in
theorem showMonth_no (n j : Int) (w : World) (hJ : j = n / 12) (h : j < -1969 ∨ 273790 < j) (n1 : -9223372036854775808 ≤ n) (n2 : n ≤ 9223372036854775807) :
    Calls Tryz.prog 123 #[.int .i64 n] w fun e w' => e = .returned (.tuple #[.string ⟨#[]⟩, .int .i64 2]) ∧ Below w.heap.size w w' := by
  have HS := hide (split_any n 12 w n1 n2 (by decide) (by decide))
  rw [← hJ] at HS
  clear hJ n1 n2
  generalize n % 12 = r at *
  rcases (show j < -1969 ∨ (-1969 ≤ j ∧ 273790 < j) by omega) with g | ⟨g, g'⟩
  · clear h
    go_enter Tryz.func123, Tryz.ntmps123
    go_wp2_with fail
    refine HS.out.mono ?_
    rintro e v ⟨rfl, b1⟩
    go_wp2_with fail
    go_ret2
    exact ⟨rfl, b1⟩
  · clear h
    go_enter Tryz.func123, Tryz.ntmps123
    go_wp2_with fail
    refine HS.out.mono ?_
    rintro e v ⟨rfl, b1⟩
    go_wp2_with fail
    go_ret2
    exact ⟨rfl, b1⟩

set_option maxHeartbeats 1000000 in
theorem showMonth_yes (n j : Int) (y m : Nat) (w : World) (hJ : j = n / 12) (hy : j + 1970 = y) (hm : n % 12 + 1 = m) (y1 : 1 ≤ y) (y2 : y ≤ 275760) (n1 : -9223372036854775808 ≤ n) (n2 : n ≤ 9223372036854775807) (hT : ShowTabs w) :
    Calls Tryz.prog 123 #[.int .i64 n] w fun e w' => e = .returned (.tuple #[.string (txt (monthL y m)), .int .i64 0]) ∧ Below w.heap.size w w' := by
  have HS := hide (split_any n 12 w n1 n2 (by decide) (by decide))
  rw [← hJ] at HS
  have rb := left_less (n := n) (s := 12) (by decide)
  have HA := hide (fun w' (b : Below w.heap.size w w') => padP_any y 4 w' (by omega) (by decide) (hT.2.below b))
  have HB := hide (fun w' (b : Below w.heap.size w w') => padP_any m 2 w' (by omega) (by decide) (hT.2.below b))
  have z1 : (txt (padL y 4)).size ≤ 9 := by rw [txt_size]; exact pad_most (k := 9) (by omega) (by decide) (by decide)
  have z2 : (txt (padL m 2)).size ≤ 9 := by rw [txt_size]; exact pad_most (k := 9) (by omega) (by decide) (by decide)
  have E : Hid (txt (monthL y m) = txt (padL y 4) ++ ⟨#[45]⟩ ++ txt (padL m 2)) := by
    show _ = _
    unfold monthL
    rw [show (⟨#[45]⟩ : ByteArray) = txt [45] from rfl, txt_app, txt_app]
    simp
  generalize txt (padL y 4) = a at *
  generalize txt (padL m 2) = b at *
  have ze : (⟨#[45]⟩ : ByteArray).size = 1 := rfl
  have p1 := fun w => run_string_add_sum (P := Tryz.prog) w a ⟨#[45]⟩ (by omega)
  have p2 := fun w => run_string_add_sum (P := Tryz.prog) w (a ++ ⟨#[45]⟩) b (by rw [ByteArray.size_append]; omega)
  generalize a ++ ⟨#[45]⟩ ++ b = s2 at *
  generalize a ++ ⟨#[45]⟩ = s1 at *
  rw [← hy] at HA
  rw [← hm] at HB
  have j1 : -1969 ≤ j := by omega
  have j2 : j ≤ 273790 := by omega
  have r1 : 0 ≤ n % 12 := rb.1
  have r2 : n % 12 < 12 := rb.2
  clear ze z1 z2 hT hJ hy hm y1 y2 n1 n2 rb
  generalize n % 12 = r at *
  go_enter Tryz.func123, Tryz.ntmps123
  go_wp2_with fail
  refine HS.out.mono ?_
  rintro e v ⟨rfl, b1⟩
  go_wp2_with fail
  refine (HA.out _ b1).mono ?_
  rintro e v2 ⟨rfl, b2⟩
  have b2 := chain b1 b2
  go_wp2_with fail
  refine (HB.out _ b2).mono ?_
  rintro e v3 ⟨rfl, b3⟩
  have b3 := chain b2 b3
  go_wp2_with fail
  go_ret2
  exact ⟨ret_pad E.out.symm, b3⟩

end Go.Proofs.YtpkpkpiphgjbaaaGreatDoor

namespace Go.Proofs.YtpkpkpiphgjbaaaGreatDoor
open Go.RowKit
set_option maxRecDepth 100000

set_option maxHeartbeats 1000000 in
theorem showWeek_out (n k : Int) (w : World) (hN : k = n / 86400000) (h : k < firstV 1 ∨ firstV 275761 ≤ k) (n1 : -9223372036854775808 ≤ n) (n2 : n ≤ 9223372036854775807) :
    Calls Tryz.prog 124 #[.int .i64 n] w fun e w' => e = .returned (.tuple #[.string ⟨#[]⟩, .int .i64 2]) ∧ Below w.heap.size w w' := by
  have HS := hide (split_any n 86400000 w n1 n2 (by decide) (by decide))
  have HD := hide (fun w' => weekCall_out k w' h)
  rw [← hN] at HS
  clear h hN n1 n2
  generalize n % 86400000 = r at *
  go_enter Tryz.func124, Tryz.ntmps124
  go_wp2_with fail
  refine HS.out.mono ?_
  rintro e v ⟨rfl, b1⟩
  go_wp2_with fail
  refine (HD.out _).mono ?_
  rintro e v2 ⟨rfl, b2⟩
  go_wp2_with fail
  go_ret2
  exact ⟨rfl, chain b1 b2⟩

set_option maxHeartbeats 1000000 in
theorem showWeek_rest (n k y : Int) (w : World) (hN : k = n / 86400000) (h0 : ¬ n % 86400000 = 0) (hy : InWeeks k y) (y1 : 1 ≤ y) (y2 : y ≤ 275760) (n1 : -9223372036854775808 ≤ n) (n2 : n ≤ 9223372036854775807) :
    Calls Tryz.prog 124 #[.int .i64 n] w fun e w' => e = .returned (.tuple #[.string ⟨#[]⟩, .int .i64 2]) ∧ Below w.heap.size w w' := by
  have HS := hide (split_any n 86400000 w n1 n2 (by decide) (by decide))
  have HD := hide (fun w' => weekCall_in k y w' y1 y2 hy)
  rw [← hN] at HS
  have r0 : (n % 86400000 == 0) = false := beq_no h0
  have r1 : (n % 86400000 != 0) = true := by simpa using h0
  clear hN n1 n2 hy y1 y2
  generalize n % 86400000 = r at *
  generalize weekV k y = q at *
  go_enter Tryz.func124, Tryz.ntmps124
  go_wp2_with fail
  refine HS.out.mono ?_
  rintro e v ⟨rfl, b1⟩
  go_wp2_with fail
  refine (HD.out _).mono ?_
  rintro e v2 ⟨rfl, b2⟩
  go_wp2_with fail
  go_ret2
  exact ⟨rfl, chain b1 b2⟩

set_option maxHeartbeats 1000000 in
theorem showWeek_day (n k y : Int) (w : World) (hN : k = n / 86400000) (h0 : n % 86400000 = 0) (hw : ¬ wdayV k = 1) (hy : InWeeks k y) (y1 : 1 ≤ y) (y2 : y ≤ 275760) (n1 : -9223372036854775808 ≤ n) (n2 : n ≤ 9223372036854775807) :
    Calls Tryz.prog 124 #[.int .i64 n] w fun e w' => e = .returned (.tuple #[.string ⟨#[]⟩, .int .i64 2]) ∧ Below w.heap.size w w' := by
  have HS := hide (split_any n 86400000 w n1 n2 (by decide) (by decide))
  have HD := hide (fun w' => weekCall_in k y w' y1 y2 hy)
  have HW := hide (fun w' => weekday_any k w' (by omega) (by omega))
  rw [← hN, h0] at HS
  have wb := wday_bounds k
  have r0 : (wdayV k == 1) = false := beq_no hw
  have r1 : (wdayV k != 1) = true := by simpa using hw
  clear hN n1 n2 hy y1 y2 h0
  generalize wdayV k = d at *
  generalize weekV k y = q at *
  go_enter Tryz.func124, Tryz.ntmps124
  go_wp2_with fail
  refine HS.out.mono ?_
  rintro e v ⟨rfl, b1⟩
  go_wp2_with fail
  refine (HD.out _).mono ?_
  rintro e v2 ⟨rfl, b2⟩
  go_wp2_with fail
  refine (HW.out _).mono ?_
  rintro e v3 ⟨rfl, rfl⟩
  go_wp2_with fail
  go_ret2
  exact ⟨rfl, chain b1 b2⟩

set_option maxHeartbeats 1000000 in
theorem showWeek_yes (n k : Int) (y q : Nat) (w : World) (hN : k = n / 86400000) (h0 : n % 86400000 = 0) (hw : wdayV k = 1) (hy : InWeeks k y) (y1 : 1 ≤ y) (y2 : y ≤ 275760) (hv : (q : Int) = weekV k y) (n1 : -9223372036854775808 ≤ n) (n2 : n ≤ 9223372036854775807) (hT : ShowTabs w) :
    Calls Tryz.prog 124 #[.int .i64 n] w fun e w' => e = .returned (.tuple #[.string (txt (weekL y q)), .int .i64 0]) ∧ Below w.heap.size w w' := by
  have HS := hide (split_any n 86400000 w n1 n2 (by decide) (by decide))
  have HD := hide (fun w' => weekCall_in k y w' (by omega) (by omega) hy)
  have HW := hide (fun w' => weekday_any k w' (by omega) (by omega))
  rw [hw] at HW
  rw [← hN, h0] at HS
  rw [← hv] at HD
  have ⟨v1, v2, _, _⟩ := week_is hy
  have v3 := (weeks_is y).2
  have hq : q < 100 := by omega
  have HA := hide (fun w' (b : Below w.heap.size w w') => padP_any y 4 w' (by omega) (by decide) (hT.2.below b))
  have HB := hide (fun w' (b : Below w.heap.size w w') => padP_any q 2 w' (by omega) (by decide) (hT.2.below b))
  have z1 : (txt (padL y 4)).size ≤ 9 := by rw [txt_size]; exact pad_most (k := 9) (by omega) (by decide) (by decide)
  have z2 : (txt (padL q 2)).size ≤ 9 := by rw [txt_size]; exact pad_most (k := 9) (by omega) (by decide) (by decide)
  have E : Hid (txt (weekL y q) = txt (padL y 4) ++ ⟨#[45, 87]⟩ ++ txt (padL q 2)) := by
    show _ = _
    unfold weekL
    rw [show (⟨#[45, 87]⟩ : ByteArray) = txt [45, 87] from rfl, txt_app, txt_app]
    simp
  generalize txt (padL y 4) = a at *
  generalize txt (padL q 2) = b at *
  have ze : (⟨#[45, 87]⟩ : ByteArray).size = 2 := rfl
  have p1 := fun w => run_string_add_sum (P := Tryz.prog) w a ⟨#[45, 87]⟩ (by omega)
  have p2 := fun w => run_string_add_sum (P := Tryz.prog) w (a ++ ⟨#[45, 87]⟩) b (by rw [ByteArray.size_append]; omega)
  generalize a ++ ⟨#[45, 87]⟩ ++ b = s2 at *
  generalize a ++ ⟨#[45, 87]⟩ = s1 at *
  clear ze z1 z2 hT hN h0 hw hy y1 y2 hv n1 n2 v1 v2 v3 hq
  generalize (y : Int) = Y at *
  generalize (q : Int) = Q at *
  go_enter Tryz.func124, Tryz.ntmps124
  go_wp2_with fail
  refine HS.out.mono ?_
  rintro e v ⟨rfl, b1⟩
  go_wp2_with fail
  refine (HD.out _).mono ?_
  rintro e v2 ⟨rfl, b2⟩
  have b2 := chain b1 b2
  go_wp2_with fail
  refine (HW.out _).mono ?_
  rintro e v3 ⟨rfl, rfl⟩
  go_wp2_with fail
  refine (HA.out _ b2).mono ?_
  rintro e v4 ⟨rfl, b3⟩
  have b3 := chain b2 b3
  go_wp2_with fail
  refine (HB.out _ b3).mono ?_
  rintro e v5 ⟨rfl, b4⟩
  have b4 := chain b3 b4
  go_wp2_with fail
  go_ret2
  exact ⟨ret_pad E.out.symm, b4⟩

theorem pad_trim {m : Nat} (h : m < 1000) : trimZ (padL m 3) = fracD 3 m := by
  rw [← trim_pad 3 m (by omega), pad_3 h]
  have e : padD 3 m = [dgB (m / 10 ^ 2), dgB (m % 10 ^ 2 / 10 ^ 1), dgB (m % 10 ^ 2 % 10 ^ 1 / 10 ^ 0)] := rfl
  rw [e, show m / 10 ^ 2 = m / 100 by omega, show m % 10 ^ 2 / 10 ^ 1 = m / 10 % 10 by omega, show m % 10 ^ 2 % 10 ^ 1 / 10 ^ 0 = m % 10 by omega]

set_option maxHeartbeats 1000000 in
theorem showTime_no (n : Int) (w : World) (h : n < 0 ∨ 86400000 ≤ n) :
    Calls Tryz.prog 125 #[.int .i64 n] w fun e w' => e = .returned (.tuple #[.string ⟨#[]⟩, .int .i64 2]) ∧ Below w.heap.size w w' := by
  rcases (show n < 0 ∨ (0 ≤ n ∧ 86400000 ≤ n) by omega) with g | ⟨g, g'⟩
  · clear h
    go_enter Tryz.func125, Tryz.ntmps125
    go_wp2_with fail
    go_ret2
    exact ⟨rfl, Below.refl _ _⟩
  · clear h
    go_enter Tryz.func125, Tryz.ntmps125
    go_wp2_with fail
    go_ret2
    exact ⟨rfl, Below.refl _ _⟩

theorem clock_0 {n : Nat} (h : n % 60000 = 0) : txt (clockL n) = txt (padL (n / 3600000) 2) ++ ⟨#[58]⟩ ++ txt (padL (n % 3600000 / 60000) 2) := by
  unfold clockL
  rw [if_pos h, show n / 60000 % 60 = n % 3600000 / 60000 by omega, show (⟨#[58]⟩ : ByteArray) = txt [58] from rfl, txt_app, txt_app]
  simp
theorem clock_1 {n : Nat} (h : ¬ n % 60000 = 0) (h2 : n % 1000 = 0) : txt (clockL n) = txt (padL (n / 3600000) 2) ++ ⟨#[58]⟩ ++ txt (padL (n % 3600000 / 60000) 2) ++ (⟨#[58]⟩ ++ txt (padL (n % 60000 / 1000) 2)) := by
  unfold clockL
  rw [if_neg h, if_pos h2, show n / 60000 % 60 = n % 3600000 / 60000 by omega, show n / 1000 % 60 = n % 60000 / 1000 by omega, show (⟨#[58]⟩ : ByteArray) = txt [58] from rfl, txt_app, txt_app, txt_app, txt_app]
  simp
theorem clock_2 {n : Nat} (h : ¬ n % 60000 = 0) (h2 : ¬ n % 1000 = 0) : txt (clockL n) = txt (padL (n / 3600000) 2) ++ ⟨#[58]⟩ ++ txt (padL (n % 3600000 / 60000) 2) ++ (⟨#[58]⟩ ++ txt (padL (n % 60000 / 1000) 2)) ++ (⟨#[46]⟩ ++ txt (fracD 3 (n % 1000))) := by
  unfold clockL
  rw [if_neg h, if_neg h2, show n / 60000 % 60 = n % 3600000 / 60000 by omega, show n / 1000 % 60 = n % 60000 / 1000 by omega, show (⟨#[58]⟩ : ByteArray) = txt [58] from rfl, show (⟨#[46]⟩ : ByteArray) = txt [46] from rfl, txt_app, txt_app, txt_app, txt_app, txt_app, txt_app]
  simp

set_option maxHeartbeats 2000000 in
theorem showTime_yes (n : Nat) (w : World) (h : n < 86400000) (hT : ShowTabs w) :
    Calls Tryz.prog 125 #[.int .i64 n] w fun e w' => e = .returned (.tuple #[.string (txt (clockL n)), .int .i64 0]) ∧ Below w.heap.size w w' := by
  have HA := hide (fun w' (b : Below w.heap.size w w') => padP_any (n / 3600000) 2 w' (by omega) (by decide) (hT.2.below b))
  have HB := hide (fun w' (b : Below w.heap.size w w') => padP_any (n % 3600000 / 60000) 2 w' (by omega) (by decide) (hT.2.below b))
  have HC := hide (fun w' (b : Below w.heap.size w w') => padP_any (n % 60000 / 1000) 2 w' (by omega) (by decide) (hT.2.below b))
  have HF := hide (fun w' (b : Below w.heap.size w w') => padP_any (n % 1000) 3 w' (by omega) (by decide) (hT.2.below b))
  have z1 : (txt (padL (n / 3600000) 2)).size ≤ 9 := by rw [txt_size]; exact pad_most (k := 9) (by omega) (by decide) (by decide)
  have z2 : (txt (padL (n % 3600000 / 60000) 2)).size ≤ 9 := by rw [txt_size]; exact pad_most (k := 9) (by omega) (by decide) (by decide)
  have z3 : (txt (padL (n % 60000 / 1000) 2)).size ≤ 9 := by rw [txt_size]; exact pad_most (k := 9) (by omega) (by decide) (by decide)
  have z4 : (txt (padL (n % 1000) 3)).size ≤ 9 := by rw [txt_size]; exact pad_most (k := 9) (by omega) (by decide) (by decide)
  have z5 : (txt (fracD 3 (n % 1000))).size ≤ 9 := by
    have := fracD_len 3 (n % 1000)
    rw [txt_size]; omega
  have HR := hide (fun w' => trimRight_any (txt (padL (n % 1000) 3)) w' (by omega))
  rw [txt_data, pad_trim (by omega)] at HR
  have e1 : ((n / 3600000 : Nat) : Int) = (n : Int) / 3600000 := by omega
  have e2 : ((n % 3600000 / 60000 : Nat) : Int) = (n : Int) % 3600000 / 60000 := by omega
  have e3 : ((n % 60000 / 1000 : Nat) : Int) = (n : Int) % 60000 / 1000 := by omega
  have e4 : ((n % 1000 : Nat) : Int) = (n : Int) % 1000 := by omega
  rw [e1] at HA
  rw [e2] at HB
  rw [e3] at HC
  rw [e4] at HF
  clear e1 e2 e3 e4 hT
  have n0 : (0 : Int) ≤ (n : Int) := by omega
  have n1 : (n : Int) < 86400000 := by omega
  have zc : (⟨#[58]⟩ : ByteArray).size = 1 := rfl
  have zp : (⟨#[46]⟩ : ByteArray).size = 1 := rfl
  have c0 := hide (clock_0 (n := n))
  have c1 := hide (clock_1 (n := n))
  have c2 := hide (clock_2 (n := n))
  generalize txt (padL (n / 3600000) 2) = a at *
  generalize txt (padL (n % 3600000 / 60000) 2) = b at *
  generalize txt (padL (n % 60000 / 1000) 2) = c at *
  generalize txt (padL (n % 1000) 3) = f at *
  generalize txt (fracD 3 (n % 1000)) = g at *
  have p1 := fun w => run_string_add_sum (P := Tryz.prog) w a ⟨#[58]⟩ (by omega)
  have p2 := fun w => run_string_add_sum (P := Tryz.prog) w (a ++ ⟨#[58]⟩) b (by rw [ByteArray.size_append]; omega)
  have p3 := fun w => run_string_add_sum (P := Tryz.prog) w ⟨#[58]⟩ c (by omega)
  have p4 := fun w => run_string_add_sum (P := Tryz.prog) w (a ++ ⟨#[58]⟩ ++ b) (⟨#[58]⟩ ++ c) (by rw [ByteArray.size_append, ByteArray.size_append, ByteArray.size_append]; omega)
  have p5 := fun w => run_string_add_sum (P := Tryz.prog) w ⟨#[46]⟩ g (by omega)
  have p6 := fun w => run_string_add_sum (P := Tryz.prog) w (a ++ ⟨#[58]⟩ ++ b ++ (⟨#[58]⟩ ++ c)) (⟨#[46]⟩ ++ g) (by rw [ByteArray.size_append, ByteArray.size_append, ByteArray.size_append, ByteArray.size_append, ByteArray.size_append]; omega)
  generalize a ++ ⟨#[58]⟩ ++ b ++ (⟨#[58]⟩ ++ c) ++ (⟨#[46]⟩ ++ g) = s6 at *
  generalize a ++ ⟨#[58]⟩ ++ b ++ (⟨#[58]⟩ ++ c) = s4 at *
  generalize ⟨#[58]⟩ ++ c = s3 at *
  generalize ⟨#[46]⟩ ++ g = s5 at *
  generalize a ++ ⟨#[58]⟩ ++ b = s2 at *
  generalize a ++ ⟨#[58]⟩ = s1 at *
  clear z1 z2 z3 z4 z5 zc zp
  by_cases h60 : n % 60000 = 0
  · have E := hide (c0.out h60)
    have r1 : ((n : Int) % 60000 != 0) = false := by simp; omega
    have r1' : ((n : Int) % 60000 == 0) = true := by simp; omega
    have r2 : ((n : Int) % 1000 != 0) = false := by simp; omega
    have r2' : ((n : Int) % 1000 == 0) = true := by simp; omega
    clear c0 c1 c2 h60 h HC HF HR p3 p4 p5 p6
    generalize clockL n = L at *
    generalize (n : Int) = x at *
    go_enter Tryz.func125, Tryz.ntmps125
    go_wp2_with fail
    refine (HA.out _ (Below.refl _ _)).mono ?_
    rintro e v1 ⟨rfl, b1⟩
    go_wp2_with fail
    refine (HB.out _ b1).mono ?_
    rintro e v2 ⟨rfl, b2⟩
    have b2 := chain b1 b2
    go_wp2_with fail
    go_ret2
    exact ⟨ret_pad E.out.symm, b2⟩
  · by_cases h10 : n % 1000 = 0
    · have E := hide (c1.out h60 h10)
      have r1 : ((n : Int) % 60000 != 0) = true := by simp; omega
      have r1' : ((n : Int) % 60000 == 0) = false := by simp; omega
      have r2 : ((n : Int) % 1000 != 0) = false := by simp; omega
      have r2' : ((n : Int) % 1000 == 0) = true := by simp; omega
      clear c0 c1 c2 h60 h10 h HF HR p5 p6
      generalize clockL n = L at *
      generalize (n : Int) = x at *
      go_enter Tryz.func125, Tryz.ntmps125
      go_wp2_with fail
      refine (HA.out _ (Below.refl _ _)).mono ?_
      rintro e v1 ⟨rfl, b1⟩
      go_wp2_with fail
      refine (HB.out _ b1).mono ?_
      rintro e v2 ⟨rfl, b2⟩
      have b2 := chain b1 b2
      go_wp2_with fail
      refine (HC.out _ b2).mono ?_
      rintro e v3 ⟨rfl, b3⟩
      have b3 := chain b2 b3
      go_wp2_with fail
      go_ret2
      exact ⟨ret_pad E.out.symm, b3⟩
    · have E := hide (c2.out h60 h10)
      have r1 : ((n : Int) % 60000 != 0) = true := by simp; omega
      have r1' : ((n : Int) % 60000 == 0) = false := by simp; omega
      have r2 : ((n : Int) % 1000 != 0) = true := by simp; omega
      have r2' : ((n : Int) % 1000 == 0) = false := by simp; omega
      clear c0 c1 c2 h60 h10 h
      generalize clockL n = L at *
      generalize (n : Int) = x at *
      go_enter Tryz.func125, Tryz.ntmps125
      go_wp2_with fail
      refine (HA.out _ (Below.refl _ _)).mono ?_
      rintro e v1 ⟨rfl, b1⟩
      go_wp2_with fail
      refine (HB.out _ b1).mono ?_
      rintro e v2 ⟨rfl, b2⟩
      have b2 := chain b1 b2
      go_wp2_with fail
      refine (HC.out _ b2).mono ?_
      rintro e v3 ⟨rfl, b3⟩
      have b3 := chain b2 b3
      go_wp2_with fail
      refine (HF.out _ b3).mono ?_
      rintro e v4 ⟨rfl, b4⟩
      have b4 := chain b3 b4
      go_wp2_with fail
      refine (HR.out _).mono ?_
      rintro e v5 ⟨rfl, rfl⟩
      go_wp2_with fail
      go_ret2
      exact ⟨ret_pad E.out.symm, b4⟩

set_option maxHeartbeats 1000000 in
theorem showLocal_no (n k : Int) (w : World) (hN : k = n / 86400000) (h : k < newV 1 ∨ newV 275761 ≤ k) (n1 : -9223372036854775808 ≤ n) (n2 : n ≤ 9223372036854775807) :
    Calls Tryz.prog 126 #[.int .i64 n] w fun e w' => e = .returned (.tuple #[.string ⟨#[]⟩, .int .i64 2]) ∧ Below w.heap.size w w' := by
  have HS := hide (split_any n 86400000 w n1 n2 (by decide) (by decide))
  have HD := hide (fun w' => showDay_out k w' h)
  rw [← hN] at HS
  clear h hN n1 n2
  generalize n % 86400000 = r at *
  go_enter Tryz.func126, Tryz.ntmps126
  go_wp2_with fail
  refine HS.out.mono ?_
  rintro e v ⟨rfl, b1⟩
  go_wp2_with fail
  refine (HD.out _).mono ?_
  rintro e v2 ⟨rfl, b2⟩
  go_wp2_with fail
  go_ret2
  exact ⟨rfl, chain b1 b2⟩

set_option maxHeartbeats 1000000 in
theorem showLocal_yes (n k : Int) (y m d r : Nat) (w : World) (h : IsDay k y m d) (hr : r < 86400000) (hN : k = n / 86400000) (h0 : n % 86400000 = r) (n1 : -9223372036854775808 ≤ n) (n2 : n ≤ 9223372036854775807) (hT : ShowTabs w) :
    Calls Tryz.prog 126 #[.int .i64 n] w fun e w' => e = .returned (.tuple #[.string (txt (dateL y m d ++ 84 :: clockL r)), .int .i64 0]) ∧ Below w.heap.size w w' := by
  have HS := hide (split_any n 86400000 w n1 n2 (by decide) (by decide))
  have HD := hide (fun w' (b : Below w.heap.size w w') => showDay_in k y m d w' h (hT.below b))
  have HC := hide (fun w' (b : Below w.heap.size w w') => showTime_yes r w' hr (hT.below b))
  rw [← hN, h0] at HS
  have z1 := dateL_size h
  have z2 := clockL_size hr
  have E : Hid (txt (dateL y m d ++ 84 :: clockL r) = txt (dateL y m d) ++ ⟨#[84]⟩ ++ txt (clockL r)) := by
    show _ = _
    rw [show (⟨#[84]⟩ : ByteArray) = txt [84] from rfl, txt_app, txt_app]
    simp
  generalize dateL y m d ++ 84 :: clockL r = W at *
  generalize txt (dateL y m d) = a at *
  generalize txt (clockL r) = b at *
  have zt : (⟨#[84]⟩ : ByteArray).size = 1 := rfl
  have p1 := fun w => run_string_add_sum (P := Tryz.prog) w a ⟨#[84]⟩ (by omega)
  have p2 := fun w => run_string_add_sum (P := Tryz.prog) w (a ++ ⟨#[84]⟩) b (by rw [ByteArray.size_append]; omega)
  generalize a ++ ⟨#[84]⟩ ++ b = s2 at *
  generalize a ++ ⟨#[84]⟩ = s1 at *
  have r1 : (0 : Int) ≤ (r : Int) := by omega
  have r2 : (r : Int) < 86400000 := by omega
  clear h hN h0 n1 n2 hT z1 z2 zt hr
  generalize (r : Int) = x at *
  go_enter Tryz.func126, Tryz.ntmps126
  go_wp2_with fail
  refine HS.out.mono ?_
  rintro e v ⟨rfl, b1⟩
  go_wp2_with fail
  refine (HD.out _ b1).mono ?_
  rintro e v2 ⟨rfl, b2⟩
  have b2 := chain b1 b2
  go_wp2_with fail
  refine (HC.out _ b2).mono ?_
  rintro e v3 ⟨rfl, b3⟩
  have b3 := chain b2 b3
  go_wp2_with fail
  go_ret2
  exact ⟨ret_pad E.out.symm, b3⟩

end Go.Proofs.YtpkpkpiphgjbaaaGreatDoor

namespace Go.Proofs.YtpkpkpiphgjbaaaGreatDoor
open Go.RowKit
set_option maxRecDepth 100000

/-- The tables of the road. -/
def Tabs (w : World) : Prop := ReadTabs w ∧ Tens w
theorem Tabs.below {w w' : World} (h : Tabs w) (hb : Below w.heap.size w w') : Tabs w' := ⟨h.1.below hb, h.2.below hb⟩
theorem Tabs.show {w : World} (h : Tabs w) : ShowTabs w := ⟨h.1.2, h.2⟩

theorem momParse_any (kind : Int) (s : ByteArray) (w : World) (hs : s.size ≤ 100000) (hT : Tabs w) :
    Calls Tryz.prog 76 #[.int .i64 kind, .string s] w fun e w' => e = .returned (.tuple #[.int .i64 (momV kind s.data.toList).1, .int .i64 (momV kind s.data.toList).2]) ∧ Below w.heap.size w w' := momParse_read kind s w hs hT.1

set_option maxHeartbeats 1000000 in
theorem show_of1 (n : Int) (t : ByteArray) (c : Int) (w : World) (h : Calls Tryz.prog 122 #[.int .i64 n] w fun e w' => e = .returned (.tuple #[.string t, .int .i64 c]) ∧ Below w.heap.size w w') :
    Calls Tryz.prog 78 #[.int .i64 1, .int .i64 n] w fun e w' => e = .returned (.tuple #[.string t, .int .i64 c]) ∧ Below w.heap.size w w' := by
  have H := hide h
  clear h
  go_enter Tryz.func78, Tryz.ntmps78
  go_wp2_with fail
  refine H.out.mono ?_
  rintro e v ⟨rfl, b1⟩
  go_wp2_with fail
  go_ret2
  exact ⟨rfl, b1⟩

set_option maxHeartbeats 1000000 in
theorem show_of2 (n : Int) (t : ByteArray) (c : Int) (w : World) (h : Calls Tryz.prog 123 #[.int .i64 n] w fun e w' => e = .returned (.tuple #[.string t, .int .i64 c]) ∧ Below w.heap.size w w') :
    Calls Tryz.prog 78 #[.int .i64 2, .int .i64 n] w fun e w' => e = .returned (.tuple #[.string t, .int .i64 c]) ∧ Below w.heap.size w w' := by
  have H := hide h
  clear h
  go_enter Tryz.func78, Tryz.ntmps78
  go_wp2_with fail
  refine H.out.mono ?_
  rintro e v ⟨rfl, b1⟩
  go_wp2_with fail
  go_ret2
  exact ⟨rfl, b1⟩

set_option maxHeartbeats 1000000 in
theorem show_of3 (n : Int) (t : ByteArray) (c : Int) (w : World) (h : Calls Tryz.prog 124 #[.int .i64 n] w fun e w' => e = .returned (.tuple #[.string t, .int .i64 c]) ∧ Below w.heap.size w w') :
    Calls Tryz.prog 78 #[.int .i64 3, .int .i64 n] w fun e w' => e = .returned (.tuple #[.string t, .int .i64 c]) ∧ Below w.heap.size w w' := by
  have H := hide h
  clear h
  go_enter Tryz.func78, Tryz.ntmps78
  go_wp2_with fail
  refine H.out.mono ?_
  rintro e v ⟨rfl, b1⟩
  go_wp2_with fail
  go_ret2
  exact ⟨rfl, b1⟩

set_option maxHeartbeats 1000000 in
theorem show_of4 (n : Int) (t : ByteArray) (c : Int) (w : World) (h : Calls Tryz.prog 125 #[.int .i64 n] w fun e w' => e = .returned (.tuple #[.string t, .int .i64 c]) ∧ Below w.heap.size w w') :
    Calls Tryz.prog 78 #[.int .i64 4, .int .i64 n] w fun e w' => e = .returned (.tuple #[.string t, .int .i64 c]) ∧ Below w.heap.size w w' := by
  have H := hide h
  clear h
  go_enter Tryz.func78, Tryz.ntmps78
  go_wp2_with fail
  refine H.out.mono ?_
  rintro e v ⟨rfl, b1⟩
  go_wp2_with fail
  go_ret2
  exact ⟨rfl, b1⟩

set_option maxHeartbeats 1000000 in
theorem show_of5 (n : Int) (t : ByteArray) (c : Int) (w : World) (h : Calls Tryz.prog 126 #[.int .i64 n] w fun e w' => e = .returned (.tuple #[.string t, .int .i64 c]) ∧ Below w.heap.size w w') :
    Calls Tryz.prog 78 #[.int .i64 5, .int .i64 n] w fun e w' => e = .returned (.tuple #[.string t, .int .i64 c]) ∧ Below w.heap.size w w' := by
  have H := hide h
  clear h
  go_enter Tryz.func78, Tryz.ntmps78
  go_wp2_with fail
  refine H.out.mono ?_
  rintro e v ⟨rfl, b1⟩
  go_wp2_with fail
  go_ret2
  exact ⟨rfl, b1⟩

set_option maxHeartbeats 1000000 in
theorem momShow_kind (kind n : Int) (w : World) (h : kind < 1 ∨ 5 < kind) (_hT : Tabs w) :
    Calls Tryz.prog 78 #[.int .i64 kind, .int .i64 n] w fun e w' => e = .returned (.tuple #[.string ⟨#[]⟩, .int .i64 3]) ∧ Below w.heap.size w w' := by
  have k1 : (kind == 1) = false := beq_no (by omega)
  have k2 : (kind == 2) = false := beq_no (by omega)
  have k3 : (kind == 3) = false := beq_no (by omega)
  have k4 : (kind == 4) = false := beq_no (by omega)
  have k5 : (kind == 5) = false := beq_no (by omega)
  clear _hT h
  go_enter Tryz.func78, Tryz.ntmps78
  go_wp2_with fail
  go_ret2
  exact ⟨rfl, Below.refl _ _⟩

theorem momShow_yes {kind n : Int} {t : List UInt8} (h : ShowIs kind n t) (w : World) (n1 : -9223372036854775808 ≤ n) (n2 : n ≤ 9223372036854775807) (hT : Tabs w) :
    Calls Tryz.prog 78 #[.int .i64 kind, .int .i64 n] w fun e w' => e = .returned (.tuple #[.string (txt t), .int .i64 0]) ∧ Below w.heap.size w w' := by
  rcases h with ⟨rfl, k, y, m, d, hd, e, rfl⟩ | ⟨rfl, y, m, y1, y2, m1, m2, e, rfl⟩ | ⟨rfl, y, k, y1, y2, k1, k2, e, rfl⟩ | ⟨rfl, k, hk, e, rfl⟩ | ⟨rfl, k, y, m, d, r, hd, hr, e, rfl⟩
  · exact show_of1 n _ _ w (showDate_yes n k y m d w hd (by omega) (by omega) n1 n2 hT.show)
  · exact show_of2 n _ _ w (showMonth_yes n _ y m w rfl (by omega) (by omega) y1 y2 n1 n2 hT.show)
  · have hy : InWeeks (firstV y + 7 * ((k : Int) - 1)) y := by
      have := (weeks_is y).1
      exact ⟨by omega, by omega⟩
    have f := first_monday y
    exact show_of3 n _ _ w (showWeek_yes n _ y k w (by omega) (by omega) (by unfold wdayV at *; omega) hy y1 y2 (by unfold weekV; omega) n1 n2 hT.show)
  · subst e
    exact show_of4 k _ _ w (showTime_yes k w hk hT.show)
  · exact show_of5 n _ _ w (showLocal_yes n k y m d r w hd hr (by omega) (by omega) n1 n2 hT.show)
theorem momShow_no {kind n : Int} (h : ShowNo kind n) (w : World) (n1 : -9223372036854775808 ≤ n) (n2 : n ≤ 9223372036854775807) (_hT : Tabs w) :
    Calls Tryz.prog 78 #[.int .i64 kind, .int .i64 n] w fun e w' => e = .returned (.tuple #[.string ⟨#[]⟩, .int .i64 2]) ∧ Below w.heap.size w w' := by
  rcases h with ⟨rfl, h | h⟩ | ⟨rfl, h⟩ | ⟨rfl, h⟩ | ⟨rfl, h⟩ | ⟨rfl, h⟩
  · exact show_of1 n _ _ w (showDate_rest n w h n1 n2)
  · exact show_of1 n _ _ w (showDate_out n _ w rfl h n1 n2)
  · exact show_of2 n _ _ w (showMonth_no n _ w rfl h n1 n2)
  · by_cases g : firstV 1 ≤ n / 86400000 ∧ n / 86400000 < firstV 275761
    · obtain ⟨y, y1, y2, hy⟩ := inWeeks_some g.1 g.2
      by_cases h0 : n % 86400000 = 0
      · have hw : ¬ wdayV (n / 86400000) = 1 := by omega
        exact show_of3 n _ _ w (showWeek_day n _ y w rfl h0 hw hy y1 y2 n1 n2)
      · exact show_of3 n _ _ w (showWeek_rest n _ y w rfl h0 hy y1 y2 n1 n2)
    · exact show_of3 n _ _ w (showWeek_out n _ w rfl (by omega) n1 n2)
  · exact show_of4 n _ _ w (showTime_no n w h)
  · exact show_of5 n _ _ w (showLocal_no n _ w rfl h n1 n2)

end Go.Proofs.YtpkpkpiphgjbaaaGreatDoor
