/- The program's showDay, showDate, showMonth, showTime. Conditions: numbers of 64 bits; the tables of its road. -/
import Derived.Test.YtekcbkicfoaheaaGreatDoorMomSplit
import Derived.Test.YtekcbkicfoaheaaGreatDoorDayDate
import Derived.Test.YtekcbkicfoaheaaGreatDoorMomSh3
namespace Go.Proofs.YtekcbkicfoaheaaGreatDoor
open Go.RowKit

/-- The tables of the road of Show. -/
def ShowTabs (w : World) : Prop := Lens w ∧ Tens w
theorem ShowTabs.below {w w' : World} (h : ShowTabs w) (hb : Below w.heap.size w w') : ShowTabs w' := ⟨h.1.below hb, h.2.below hb⟩
theorem ret_pad {a b : ByteArray} (h : a = b) : Ending.returned (.tuple #[.string a, .int .i64 0]) = .returned (.tuple #[.string b, .int .i64 0]) := by rw [h]

set_option maxHeartbeats 1000000 in
theorem showDay_out (k : Int) (w : World) (h : k < newV 1 ∨ newV 275761 ≤ k) :
    Calls Tryz.prog 49 #[.int .i64 k] w fun e w' => e = .returned (.tuple #[.string ⟨#[]⟩, .int .i64 2]) ∧ Below w.heap.size w w' := by
  have HD := hide (fun w => dateCall_out k w h)
  clear h
  go_enter Tryz.func49, Tryz.ntmps49
  go_wp2_with fail
  refine (HD.out _).mono ?_
  rintro e v ⟨rfl, b1⟩
  go_wp2_with fail
  go_ret2
  exact ⟨rfl, b1⟩

set_option maxHeartbeats 1000000 in
theorem showDay_in (k : Int) (y m d : Nat) (w : World) (h : IsDay k y m d) (hT : ShowTabs w) :
    Calls Tryz.prog 49 #[.int .i64 k] w fun e w' => e = .returned (.tuple #[.string (txt (dateL y m d)), .int .i64 0]) ∧ Below w.heap.size w w' := by
  have HD := hide (dateCall_in k y m d w h hT.1)
  have hb := h.y2; have m2 := h.m2; have d2 := h.d2; have l2 := len_bounds y m
  have HA := hide (fun w' (b : Below w.heap.size w w') => padP_any y 4 w' (by omega) (by decide) (hT.2.below b))
  have HB := hide (fun w' (b : Below w.heap.size w w') => padP_any m 2 w' (by omega) (by decide) (hT.2.below b))
  have HC := hide (fun w' (b : Below w.heap.size w w') => padP_any d 2 w' (by omega) (by decide) (hT.2.below b))
  have z1 : (txt (padL y 4)).size ≤ 9 := by rw [txt_size]; exact pad_most (k := 9) (by omega) (by decide) (by decide)
  have z2 : (txt (padL m 2)).size ≤ 9 := by rw [txt_size]; exact pad_most (k := 9) (by omega) (by decide) (by decide)
  have z3 : (txt (padL d 2)).size ≤ 9 := by rw [txt_size]; exact pad_most (k := 9) (by omega) (by decide) (by decide)
  have E : Hid (txt (dateL y m d) = txt (padL y 4) ++ ⟨#[45]⟩ ++ txt (padL m 2) ++ ⟨#[45]⟩ ++ txt (padL d 2)) := by
    show _ = _
    unfold dateL
    rw [show (⟨#[45]⟩ : ByteArray) = txt [45] from rfl, txt_app, txt_app, txt_app, txt_app]
    simp
  generalize txt (padL y 4) = a at *
  generalize txt (padL m 2) = b at *
  generalize txt (padL d 2) = c at *
  have ze : (⟨#[45]⟩ : ByteArray).size = 1 := rfl
  have p1 := fun w => run_string_add_sum (P := Tryz.prog) w a ⟨#[45]⟩ (by omega)
  have p2 := fun w => run_string_add_sum (P := Tryz.prog) w (a ++ ⟨#[45]⟩) b (by rw [ByteArray.size_append]; omega)
  have p3 := fun w => run_string_add_sum (P := Tryz.prog) w (a ++ ⟨#[45]⟩ ++ b) ⟨#[45]⟩ (by rw [ByteArray.size_append, ByteArray.size_append]; omega)
  have p4 := fun w => run_string_add_sum (P := Tryz.prog) w (a ++ ⟨#[45]⟩ ++ b ++ ⟨#[45]⟩) c (by rw [ByteArray.size_append, ByteArray.size_append, ByteArray.size_append]; omega)
  clear ze z1 z2 z3 h hT hb m2 d2 l2
  generalize a ++ ⟨#[45]⟩ ++ b ++ ⟨#[45]⟩ ++ c = s4 at *
  generalize a ++ ⟨#[45]⟩ ++ b ++ ⟨#[45]⟩ = s3 at *
  generalize a ++ ⟨#[45]⟩ ++ b = s2 at *
  generalize a ++ ⟨#[45]⟩ = s1 at *
  generalize (y : Int) = Y at *
  generalize (m : Int) = M at *
  generalize (d : Int) = D at *
  go_enter Tryz.func49, Tryz.ntmps49
  go_wp2_with fail
  refine HD.out.mono ?_
  rintro e v ⟨rfl, b1⟩
  go_wp2_with fail
  refine (HA.out _ b1).mono ?_
  rintro e v2 ⟨rfl, b2⟩
  have b2 := chain b1 b2
  go_wp2_with fail
  refine (HB.out _ b2).mono ?_
  rintro e v3 ⟨rfl, b3⟩
  have b3 := chain b2 b3
  go_wp2_with fail
  refine (HC.out _ b3).mono ?_
  rintro e v4 ⟨rfl, b4⟩
  have b4 := chain b3 b4
  go_wp2_with fail
  go_ret2
  exact ⟨ret_pad E.out.symm, b4⟩

set_option maxHeartbeats 1000000 in
theorem showDate_yes (n k : Int) (y m d : Nat) (w : World) (h : IsDay k y m d) (hN : k = n / 86400000) (h0 : n % 86400000 = 0) (n1 : -9223372036854775808 ≤ n) (n2 : n ≤ 9223372036854775807) (hT : ShowTabs w) :
    Calls Tryz.prog 20 #[.int .i64 n] w fun e w' => e = .returned (.tuple #[.string (txt (dateL y m d)), .int .i64 0]) ∧ Below w.heap.size w w' := by
  have HS := hide (split_any n 86400000 w n1 n2 (by decide) (by decide))
  have HD := hide (fun w' (b : Below w.heap.size w w') => showDay_in k y m d w' h (hT.below b))
  rw [← hN, h0] at HS
  clear h hN h0 hT n1 n2
  generalize txt (dateL y m d) = t at *
  go_enter Tryz.func20, Tryz.ntmps20
  go_wp2_with fail
  refine HS.out.mono ?_
  rintro e v ⟨rfl, b1⟩
  go_wp2_with fail
  refine (HD.out _ b1).mono ?_
  rintro e v2 ⟨rfl, b2⟩
  go_wp2_with fail
  go_ret2
  exact ⟨rfl, chain b1 b2⟩

set_option maxHeartbeats 1000000 in
theorem showDate_rest (n : Int) (w : World) (h0 : ¬ n % 86400000 = 0) (n1 : -9223372036854775808 ≤ n) (n2 : n ≤ 9223372036854775807) :
    Calls Tryz.prog 20 #[.int .i64 n] w fun e w' => e = .returned (.tuple #[.string ⟨#[]⟩, .int .i64 2]) ∧ Below w.heap.size w w' := by
  have HS := hide (split_any n 86400000 w n1 n2 (by decide) (by decide))
  have r0 : (n % 86400000 == 0) = false := beq_no h0
  have r1 : (n % 86400000 != 0) = true := by simpa using h0
  generalize n % 86400000 = r at *
  generalize n / 86400000 = k at *
  clear n1 n2
  go_enter Tryz.func20, Tryz.ntmps20
  go_wp2_with fail
  refine HS.out.mono ?_
  rintro e v ⟨rfl, b1⟩
  go_wp2_with fail
  go_ret2
  exact ⟨rfl, b1⟩

set_option maxHeartbeats 1000000 in
theorem showDate_out (n k : Int) (w : World) (hN : k = n / 86400000) (h : k < newV 1 ∨ newV 275761 ≤ k) (n1 : -9223372036854775808 ≤ n) (n2 : n ≤ 9223372036854775807) :
    Calls Tryz.prog 20 #[.int .i64 n] w fun e w' => e = .returned (.tuple #[.string ⟨#[]⟩, .int .i64 2]) ∧ Below w.heap.size w w' := by
  by_cases h0 : n % 86400000 = 0
  · have HS := hide (split_any n 86400000 w n1 n2 (by decide) (by decide))
    have HD := hide (fun w' => showDay_out k w' h)
    rw [← hN, h0] at HS
    clear h hN h0 n1 n2
    go_enter Tryz.func20, Tryz.ntmps20
    go_wp2_with fail
    refine HS.out.mono ?_
    rintro e v ⟨rfl, b1⟩
    go_wp2_with fail
    refine (HD.out _).mono ?_
    rintro e v2 ⟨rfl, b2⟩
    go_wp2_with fail
    go_ret2
    exact ⟨rfl, chain b1 b2⟩
  · exact showDate_rest n w h0 n1 n2

set_option maxHeartbeats 1000000 in
theorem showMonth_no (n j : Int) (w : World) (hJ : j = n / 12) (h : j < -1969 ∨ 273790 < j) (n1 : -9223372036854775808 ≤ n) (n2 : n ≤ 9223372036854775807) :
    Calls Tryz.prog 21 #[.int .i64 n] w fun e w' => e = .returned (.tuple #[.string ⟨#[]⟩, .int .i64 2]) ∧ Below w.heap.size w w' := by
  have HS := hide (split_any n 12 w n1 n2 (by decide) (by decide))
  rw [← hJ] at HS
  clear hJ n1 n2
  generalize n % 12 = r at *
  rcases (show j < -1969 ∨ (-1969 ≤ j ∧ 273790 < j) by omega) with g | ⟨g, g'⟩
  · clear h
    go_enter Tryz.func21, Tryz.ntmps21
    go_wp2_with fail
    refine HS.out.mono ?_
    rintro e v ⟨rfl, b1⟩
    go_wp2_with fail
    go_ret2
    exact ⟨rfl, b1⟩
  · clear h
    go_enter Tryz.func21, Tryz.ntmps21
    go_wp2_with fail
    refine HS.out.mono ?_
    rintro e v ⟨rfl, b1⟩
    go_wp2_with fail
    go_ret2
    exact ⟨rfl, b1⟩

set_option maxHeartbeats 1000000 in
theorem showMonth_yes (n j : Int) (y m : Nat) (w : World) (hJ : j = n / 12) (hy : j + 1970 = y) (hm : n % 12 + 1 = m) (y1 : 1 ≤ y) (y2 : y ≤ 275760) (n1 : -9223372036854775808 ≤ n) (n2 : n ≤ 9223372036854775807) (hT : ShowTabs w) :
    Calls Tryz.prog 21 #[.int .i64 n] w fun e w' => e = .returned (.tuple #[.string (txt (monthL y m)), .int .i64 0]) ∧ Below w.heap.size w w' := by
  have HS := hide (split_any n 12 w n1 n2 (by decide) (by decide))
  rw [← hJ] at HS
  have rb := left_less (n := n) (s := 12) (by decide)
  have HA := hide (fun w' (b : Below w.heap.size w w') => padP_any y 4 w' (by omega) (by decide) (hT.2.below b))
  have HB := hide (fun w' (b : Below w.heap.size w w') => padP_any m 2 w' (by omega) (by decide) (hT.2.below b))
  have z1 : (txt (padL y 4)).size ≤ 9 := by rw [txt_size]; exact pad_most (k := 9) (by omega) (by decide) (by decide)
  have z2 : (txt (padL m 2)).size ≤ 9 := by rw [txt_size]; exact pad_most (k := 9) (by omega) (by decide) (by decide)
  have E : Hid (txt (monthL y m) = txt (padL y 4) ++ ⟨#[45]⟩ ++ txt (padL m 2)) := by
    show _ = _
    unfold monthL
    rw [show (⟨#[45]⟩ : ByteArray) = txt [45] from rfl, txt_app, txt_app]
    simp
  generalize txt (padL y 4) = a at *
  generalize txt (padL m 2) = b at *
  have ze : (⟨#[45]⟩ : ByteArray).size = 1 := rfl
  have p1 := fun w => run_string_add_sum (P := Tryz.prog) w a ⟨#[45]⟩ (by omega)
  have p2 := fun w => run_string_add_sum (P := Tryz.prog) w (a ++ ⟨#[45]⟩) b (by rw [ByteArray.size_append]; omega)
  generalize a ++ ⟨#[45]⟩ ++ b = s2 at *
  generalize a ++ ⟨#[45]⟩ = s1 at *
  rw [← hy] at HA
  rw [← hm] at HB
  have j1 : -1969 ≤ j := by omega
  have j2 : j ≤ 273790 := by omega
  have r1 : 0 ≤ n % 12 := rb.1
  have r2 : n % 12 < 12 := rb.2
  clear ze z1 z2 hT hJ hy hm y1 y2 n1 n2 rb
  generalize n % 12 = r at *
  go_enter Tryz.func21, Tryz.ntmps21
  go_wp2_with fail
  refine HS.out.mono ?_
  rintro e v ⟨rfl, b1⟩
  go_wp2_with fail
  refine (HA.out _ b1).mono ?_
  rintro e v2 ⟨rfl, b2⟩
  have b2 := chain b1 b2
  go_wp2_with fail
  refine (HB.out _ b2).mono ?_
  rintro e v3 ⟨rfl, b3⟩
  have b3 := chain b2 b3
  go_wp2_with fail
  go_ret2
  exact ⟨ret_pad E.out.symm, b3⟩

end Go.Proofs.YtekcbkicfoaheaaGreatDoor
