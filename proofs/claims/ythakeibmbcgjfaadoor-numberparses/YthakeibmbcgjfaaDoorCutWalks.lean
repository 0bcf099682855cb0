/- The program's cut answers by the parts of a number's text; it changes nothing that was there. Conditions: texts of fewer than 2^32 - 15 bytes; the library's variable MaxLen holds some number. -/
import Derived.Test.YthakeibmbcgjfaaDoorParseWalks
namespace Go.Proofs.YthakeibmbcgjfaaDoor
open Go.RowKit

theorem allDT_any (l : List UInt8) (w : World) (hs : l.length < 4294967281) :
    Calls Tryd.prog 25 #[.string (txt l)] w fun e w' => e = .returned (.bool (allD l)) ∧ w' = w :=
  allDigits_any (txt l) w (by rw [txt_size]; unfold maxLen; omega)
theorem allDN_any (w : World) : Calls Tryd.prog 25 #[.string ⟨#[]⟩] w fun e w' => e = .returned (.bool true) ∧ w' = w := allDT_any [] w (by decide)
theorem txt_none (l : List UInt8) : (txt l).toList = [] ↔ l = [] := by rw [ByteArray.toList_eq]; exact Iff.rfl
theorem txt_some {l : List UInt8} (h : l ≠ []) : (txt l).toList.isEmpty = false := by
  cases g : (txt l).toList.isEmpty with
  | false => rfl
  | true => exact absurd ((txt_none l).1 (List.isEmpty_iff.1 g)) h
theorem body_size (s : ByteArray) : (bodyV s.data.toList).length ≤ s.size := by
  have e : s.data.toList.length = s.size := by simp
  unfold bodyV
  split
  · rw [List.length_tail]; omega
  · omega

set_option maxHeartbeats 1000000 in
theorem cut_A1 (s : ByteArray) (hb : bodyV s.data.toList = []) (w : World) (_hs : s.size < 4294967281) (hM : SomeMax w) :
    Calls Tryd.prog 12 #[.string s] w fun e w' => e = .returned (.tuple #[.string ⟨#[]⟩, .string ⟨#[]⟩, .bool false, .bool false]) ∧ Below w.heap.size w w' := by
  have hz := body_size s
  have hn := (txt_none []).2 rfl
  have hP := fun w => cutPrefix_any s w
  rw [hb] at hP hz
  have HP := hide hP
  have HC := hide (cutAt_no [] w (by decide) hM (by decide))
  clear hP hb hM
  go_enter Tryd.func12, Tryd.ntmps12
  go_wp2_with fail
  refine (HP.out _).mono ?_
  rintro e u1 ⟨rfl, rfl⟩
  go_wp2_with fail
  refine HC.out.mono ?_
  rintro e w1 ⟨rfl, b1⟩
  go_wp2_with fail
  (try simp only [Exit.inBlock, Exit.then])
  refine bodyPost_ret (results_tmp4 rfl _ _ _) rfl ?_
  exact ⟨rfl, b1⟩

set_option maxHeartbeats 1000000 in
theorem cut_A2 (s : ByteArray) (b : List UInt8) (hb : bodyV s.data.toList = b) (hp : (46 : UInt8) ∉ b) (h0 : b ≠ []) (hd : allD b = false) (w : World) (hs : s.size < 4294967281) (hM : SomeMax w) :
    Calls Tryd.prog 12 #[.string s] w fun e w' => e = .returned (.tuple #[.string ⟨#[]⟩, .string ⟨#[]⟩, .bool false, .bool false]) ∧ Below w.heap.size w w' := by
  have hz := body_size s
  have hn := mt (txt_none b).1 h0
  have hn2 := txt_some h0
  have hl : b.length < 4294967281 := by rw [← hb]; omega
  have hD := fun w => allDT_any b w hl
  rw [hd] at hD
  have HD := hide hD
  clear hD hd h0
  have hP := fun w => cutPrefix_any s w
  rw [hb] at hP hz
  have HP := hide hP
  have HC := hide (cutAt_no b w (by omega) hM hp)
  clear hP hb hM
  go_enter Tryd.func12, Tryd.ntmps12
  go_wp2_with fail
  refine (HP.out _).mono ?_
  rintro e u1 ⟨rfl, rfl⟩
  go_wp2_with fail
  refine HC.out.mono ?_
  rintro e w1 ⟨rfl, b1⟩
  go_wp2_with fail
  refine (HD.out _).mono ?_
  rintro e u2 ⟨rfl, rfl⟩
  go_wp2_with fail
  (try simp only [Exit.inBlock, Exit.then])
  refine bodyPost_ret (results_tmp4 rfl _ _ _) rfl ?_
  exact ⟨rfl, b1⟩

set_option maxHeartbeats 1000000 in
theorem cut_A3 (s : ByteArray) (b : List UInt8) (hb : bodyV s.data.toList = b) (hp : (46 : UInt8) ∉ b) (h0 : b ≠ []) (hd : allD b = true) (w : World) (hs : s.size < 4294967281) (hM : SomeMax w) :
    Calls Tryd.prog 12 #[.string s] w fun e w' => e = .returned (.tuple #[.string (txt b), .string ⟨#[]⟩, .bool (negV s.data.toList), .bool true]) ∧ Below w.heap.size w w' := by
  have hz := body_size s
  have hn := mt (txt_none b).1 h0
  have hn2 := txt_some h0
  have hl : b.length < 4294967281 := by rw [← hb]; omega
  have hD := fun w => allDT_any b w hl
  rw [hd] at hD
  have HD := hide hD
  clear hD hd h0
  have hP := fun w => cutPrefix_any s w
  rw [hb] at hP hz
  have HP := hide hP
  have HC := hide (cutAt_no b w (by omega) hM hp)
  clear hP hb hM
  generalize negV s.data.toList = g at *
  go_enter Tryd.func12, Tryd.ntmps12
  go_wp2_with fail
  refine (HP.out _).mono ?_
  rintro e u1 ⟨rfl, rfl⟩
  go_wp2_with fail
  refine HC.out.mono ?_
  rintro e w1 ⟨rfl, b1⟩
  go_wp2_with fail
  refine (HD.out _).mono ?_
  rintro e u2 ⟨rfl, rfl⟩
  go_wp2_with fail
  refine (allDN_any _).mono ?_
  rintro e u2 ⟨rfl, rfl⟩
  go_wp2_with fail
  (try simp only [Exit.inBlock, Exit.then])
  refine bodyPost_ret (results_tmp4 rfl _ _ _) rfl ?_
  exact ⟨rfl, b1⟩

set_option maxHeartbeats 1000000 in
theorem cut_B1 (s : ByteArray) (a : List UInt8) (hb : bodyV s.data.toList = a ++ 46 :: []) (hp : (46 : UInt8) ∉ a) (w : World) (hs : s.size < 4294967281) (hM : SomeMax w) :
    Calls Tryd.prog 12 #[.string s] w fun e w' => e = .returned (.tuple #[.string ⟨#[]⟩, .string ⟨#[]⟩, .bool false, .bool false]) ∧ Below w.heap.size w w' := by
  have hz := body_size s
  have hn := (txt_none []).2 rfl
  have hP := fun w => cutPrefix_any s w
  rw [hb] at hP hz
  have HP := hide hP
  have HC := hide (cutAt_yes a [] w (by omega) hM hp)
  clear hP hb hM
  go_enter Tryd.func12, Tryd.ntmps12
  go_wp2_with fail
  refine (HP.out _).mono ?_
  rintro e u1 ⟨rfl, rfl⟩
  go_wp2_with fail
  refine HC.out.mono ?_
  rintro e w1 ⟨rfl, b1⟩
  go_wp2_with fail
  (try simp only [Exit.inBlock, Exit.then])
  refine bodyPost_ret (results_tmp4 rfl _ _ _) rfl ?_
  exact ⟨rfl, b1⟩

set_option maxHeartbeats 1000000 in
theorem cut_B2 (s : ByteArray) (a f : List UInt8) (hb : bodyV s.data.toList = a ++ 46 :: f) (hp : (46 : UInt8) ∉ a) (h0 : f ≠ []) (hd : allD a = false) (w : World) (hs : s.size < 4294967281) (hM : SomeMax w) :
    Calls Tryd.prog 12 #[.string s] w fun e w' => e = .returned (.tuple #[.string ⟨#[]⟩, .string ⟨#[]⟩, .bool false, .bool false]) ∧ Below w.heap.size w w' := by
  have hz := body_size s
  have hn := mt (txt_none f).1 h0
  have hn2 := txt_some h0
  have hl : (a ++ 46 :: f).length < 4294967281 := by rw [← hb]; omega
  have hl2 : a.length < 4294967281 ∧ f.length < 4294967281 := by simp at hl; omega
  have hD := fun w => allDT_any a w hl2.1
  rw [hd] at hD
  have HD := hide hD
  clear hD hd h0
  have hP := fun w => cutPrefix_any s w
  rw [hb] at hP hz
  have HP := hide hP
  have HC := hide (cutAt_yes a f w hl hM hp)
  clear hP hb hM
  go_enter Tryd.func12, Tryd.ntmps12
  go_wp2_with fail
  refine (HP.out _).mono ?_
  rintro e u1 ⟨rfl, rfl⟩
  go_wp2_with fail
  refine HC.out.mono ?_
  rintro e w1 ⟨rfl, b1⟩
  go_wp2_with fail
  refine (HD.out _).mono ?_
  rintro e u2 ⟨rfl, rfl⟩
  go_wp2_with fail
  (try simp only [Exit.inBlock, Exit.then])
  refine bodyPost_ret (results_tmp4 rfl _ _ _) rfl ?_
  exact ⟨rfl, b1⟩

set_option maxHeartbeats 1000000 in
theorem cut_B3 (s : ByteArray) (a f : List UInt8) (hb : bodyV s.data.toList = a ++ 46 :: f) (hp : (46 : UInt8) ∉ a) (h0 : f ≠ []) (hd : allD a = true) (hd2 : allD f = false) (w : World) (hs : s.size < 4294967281) (hM : SomeMax w) :
    Calls Tryd.prog 12 #[.string s] w fun e w' => e = .returned (.tuple #[.string ⟨#[]⟩, .string ⟨#[]⟩, .bool false, .bool false]) ∧ Below w.heap.size w w' := by
  have hz := body_size s
  have hn := mt (txt_none f).1 h0
  have hn2 := txt_some h0
  have hl : (a ++ 46 :: f).length < 4294967281 := by rw [← hb]; omega
  have hl2 : a.length < 4294967281 ∧ f.length < 4294967281 := by simp at hl; omega
  have hD := fun w => allDT_any a w hl2.1
  rw [hd] at hD
  have HD := hide hD
  have hE := fun w => allDT_any f w hl2.2
  rw [hd2] at hE
  have HE := hide hE
  clear hD hd h0 hE hd2
  have hP := fun w => cutPrefix_any s w
  rw [hb] at hP hz
  have HP := hide hP
  have HC := hide (cutAt_yes a f w hl hM hp)
  clear hP hb hM
  go_enter Tryd.func12, Tryd.ntmps12
  go_wp2_with fail
  refine (HP.out _).mono ?_
  rintro e u1 ⟨rfl, rfl⟩
  go_wp2_with fail
  refine HC.out.mono ?_
  rintro e w1 ⟨rfl, b1⟩
  go_wp2_with fail
  refine (HD.out _).mono ?_
  rintro e u2 ⟨rfl, rfl⟩
  go_wp2_with fail
  refine (HE.out _).mono ?_
  rintro e u2 ⟨rfl, rfl⟩
  go_wp2_with fail
  (try simp only [Exit.inBlock, Exit.then])
  refine bodyPost_ret (results_tmp4 rfl _ _ _) rfl ?_
  exact ⟨rfl, b1⟩

set_option maxHeartbeats 1000000 in
theorem cut_B4 (s : ByteArray) (a f : List UInt8) (hb : bodyV s.data.toList = a ++ 46 :: f) (hp : (46 : UInt8) ∉ a) (h0 : f ≠ []) (hd : allD a = true) (hd2 : allD f = true) (w : World) (hs : s.size < 4294967281) (hM : SomeMax w) :
    Calls Tryd.prog 12 #[.string s] w fun e w' => e = .returned (.tuple #[.string (txt a), .string (txt f), .bool (negV s.data.toList), .bool true]) ∧ Below w.heap.size w w' := by
  have hz := body_size s
  have hn := mt (txt_none f).1 h0
  have hn2 := txt_some h0
  have hl : (a ++ 46 :: f).length < 4294967281 := by rw [← hb]; omega
  have hl2 : a.length < 4294967281 ∧ f.length < 4294967281 := by simp at hl; omega
  have hD := fun w => allDT_any a w hl2.1
  rw [hd] at hD
  have HD := hide hD
  have hE := fun w => allDT_any f w hl2.2
  rw [hd2] at hE
  have HE := hide hE
  clear hD hd h0 hE hd2
  have hP := fun w => cutPrefix_any s w
  rw [hb] at hP hz
  have HP := hide hP
  have HC := hide (cutAt_yes a f w hl hM hp)
  clear hP hb hM
  generalize negV s.data.toList = g at *
  go_enter Tryd.func12, Tryd.ntmps12
  go_wp2_with fail
  refine (HP.out _).mono ?_
  rintro e u1 ⟨rfl, rfl⟩
  go_wp2_with fail
  refine HC.out.mono ?_
  rintro e w1 ⟨rfl, b1⟩
  go_wp2_with fail
  refine (HD.out _).mono ?_
  rintro e u2 ⟨rfl, rfl⟩
  go_wp2_with fail
  refine (HE.out _).mono ?_
  rintro e u2 ⟨rfl, rfl⟩
  go_wp2_with fail
  (try simp only [Exit.inBlock, Exit.then])
  refine bodyPost_ret (results_tmp4 rfl _ _ _) rfl ?_
  exact ⟨rfl, b1⟩

theorem cut_none (s : ByteArray) (w : World) (hs : s.size < 4294967281) (hM : SomeMax w) (hp : partsV (bodyV s.data.toList) = none) :
    Calls Tryd.prog 12 #[.string s] w fun e w' => e = .returned (.tuple #[.string ⟨#[]⟩, .string ⟨#[]⟩, .bool false, .bool false]) ∧ Below w.heap.size w w' := by
  by_cases h46 : (46 : UInt8) ∈ bodyV s.data.toList
  · obtain ⟨a, f, hb, hn⟩ := first_point h46
    by_cases h0 : f = []
    · subst h0; exact cut_B1 s a hb hn w hs hM
    · cases g : allD a with
      | false => exact cut_B2 s a f hb hn h0 g w hs hM
      | true =>
        cases g2 : allD f with
        | false => exact cut_B3 s a f hb hn h0 g g2 w hs hM
        | true =>
          rw [hb, partsV_point ((allD_iff a).1 g) ((allD_iff f).1 g2) h0] at hp; cases hp
  · by_cases h0 : bodyV s.data.toList = []
    · exact cut_A1 s h0 w hs hM
    · cases g : allD (bodyV s.data.toList) with
      | false => exact cut_A2 s _ rfl h46 h0 g w hs hM
      | true => rw [partsV_whole ((allD_iff _).1 g) h0] at hp; cases hp
theorem cut_some (s : ByteArray) (w : World) (hs : s.size < 4294967281) (hM : SomeMax w) {a f : List UInt8} (hp : partsV (bodyV s.data.toList) = some (a, f)) :
    Calls Tryd.prog 12 #[.string s] w fun e w' => e = .returned (.tuple #[.string (txt a), .string (txt f), .bool (negV s.data.toList), .bool true]) ∧ Below w.heap.size w w' := by
  have ⟨ha, hf, hc⟩ := partsV_some hp
  rcases hc with ⟨rfl, h0, hb⟩ | ⟨h0, hb⟩
  · exact cut_A3 s a hb (dg_no_point ha) h0 ((allD_iff a).2 ha) w hs hM
  · exact cut_B4 s a f hb (dg_no_point ha) h0 ((allD_iff a).2 ha) ((allD_iff f).2 hf) w hs hM

theorem ret_num {n : Int} {b : Int} {m : Int} {c : Int} (h : (n, b) = (m, c)) : Ending.returned (.tuple #[.int .i64 n, .int .i64 b]) = .returned (.tuple #[.int .i64 m, .int .i64 c]) := by cases h; rfl
theorem parts_size {s : ByteArray} {a f : List UInt8} (hp : partsV (bodyV s.data.toList) = some (a, f)) : a.length ≤ s.size ∧ f.length ≤ s.size := by
  have hz := body_size s
  have ⟨_, _, hc⟩ := partsV_some hp
  rcases hc with ⟨rfl, h0, hb⟩ | ⟨h0, hb⟩
  · rw [hb] at hz; simp; exact hz
  · rw [hb] at hz; simp at hz; omega

set_option maxHeartbeats 1000000 in
set_option maxRecDepth 100000 in
theorem parse_none (s : ByteArray) (w : World) (hs : s.size < 4294967281) (hM : SomeMax w) (hp : partsV (bodyV s.data.toList) = none) :
    Calls Tryd.prog 8 #[.string s] w fun e w' => e = .returned (.tuple #[.int .i64 0, .int .i64 1]) ∧ Below w.heap.size w w' := by
  have HC := hide (cut_none s w hs hM hp)
  clear hp hM
  go_enter Tryd.func8, Tryd.ntmps8
  go_wp2_with fail
  refine HC.out.mono ?_
  rintro e w1 ⟨rfl, b1⟩
  go_wp2_with fail
  go_ret2
  exact ⟨rfl, b1⟩

set_option maxHeartbeats 1000000 in
set_option maxRecDepth 100000 in
theorem parse_B1 (s : ByteArray) (w : World) (hs : s.size < 4294967281) (hM : SomeMax w) {a f : List UInt8} (hp : partsV (bodyV s.data.toList) = some (a, f)) (h6 : someD (f.drop 6) = true) :
    Calls Tryd.prog 8 #[.string s] w fun e w' => e = .returned (.tuple #[.int .i64 0, .int .i64 2]) ∧ Below w.heap.size w w' := by
  have ⟨z1, z2⟩ := parts_size hp
  have ⟨ha, hf, _⟩ := partsV_some hp
  have HC := hide (cut_some s w hs hM hp)
  have HW := hide (fun w => wholePart_any (txt a) w (by rw [txt_size]; unfold maxLen; omega) ha)
  have HF := hide (fun w => millionths_no (txt f) w (by rw [txt_size]; unfold maxLen; omega) h6)
  clear hp hM ha hf h6
  go_enter Tryd.func8, Tryd.ntmps8
  go_wp2_with fail
  refine HC.out.mono ?_
  rintro e w1 ⟨rfl, b1⟩
  go_wp2_with fail
  refine (HW.out _).mono ?_
  rintro e u2 ⟨rfl, rfl⟩
  go_wp2_with fail
  refine (HF.out _).mono ?_
  rintro e u2 ⟨rfl, rfl⟩
  go_wp2_with fail
  go_ret2
  exact ⟨rfl, b1⟩

set_option maxHeartbeats 1000000 in
set_option maxRecDepth 100000 in
theorem parse_B2 (s : ByteArray) (w : World) (hs : s.size < 4294967281) (hM : SomeMax w) {a f : List UInt8} (hp : partsV (bodyV s.data.toList) = some (a, f)) (h6 : someD (f.drop 6) = false) (hw : MW < wholeV 0 a) :
    Calls Tryd.prog 8 #[.string s] w fun e w' => e = .returned (.tuple #[.int .i64 0, .int .i64 2]) ∧ Below w.heap.size w w' := by
  have ⟨z1, z2⟩ := parts_size hp
  have ⟨ha, hf, _⟩ := partsV_some hp
  have HC := hide (cut_some s w hs hM hp)
  have HW := hide (fun w => wholePart_any (txt a) w (by rw [txt_size]; unfold maxLen; omega) ha)
  have HF := hide (fun w => millionths_yes (txt f) w (by rw [txt_size]; unfold maxLen; omega) hf h6)
  have hlt := fracOf_lt 6 f hf
  have h10 : 10 ^ 6 = 1000000 := by decide
  rw [h10] at hlt
  have hle := wholeV_le 0 a (by unfold MW; omega) ha
  unfold MW at *
  rw [txt_data] at *
  generalize wholeV 0 a = n at *
  have hw' : (1000000000000 : Int) < (n : Int) := by omega
  clear hp hM ha hf h6
  go_enter Tryd.func8, Tryd.ntmps8
  go_wp2_with fail
  refine HC.out.mono ?_
  rintro e w1 ⟨rfl, b1⟩
  go_wp2_with fail
  refine (HW.out _).mono ?_
  rintro e u2 ⟨rfl, rfl⟩
  go_wp2_with fail
  refine (HF.out _).mono ?_
  rintro e u2 ⟨rfl, rfl⟩
  go_wp2_with fail
  go_ret2
  exact ⟨rfl, b1⟩

set_option maxHeartbeats 1000000 in
set_option maxRecDepth 100000 in
theorem parse_B3 (s : ByteArray) (w : World) (hs : s.size < 4294967281) (hM : SomeMax w) {a f : List UInt8} (hp : partsV (bodyV s.data.toList) = some (a, f)) (h6 : someD (f.drop 6) = false) (hw : wholeV 0 a = MW) (h0 : 0 < fracOf 6 f) :
    Calls Tryd.prog 8 #[.string s] w fun e w' => e = .returned (.tuple #[.int .i64 0, .int .i64 2]) ∧ Below w.heap.size w w' := by
  have ⟨z1, z2⟩ := parts_size hp
  have ⟨ha, hf, _⟩ := partsV_some hp
  have HC := hide (cut_some s w hs hM hp)
  have HW := hide (fun w => wholePart_any (txt a) w (by rw [txt_size]; unfold maxLen; omega) ha)
  have HF := hide (fun w => millionths_yes (txt f) w (by rw [txt_size]; unfold maxLen; omega) hf h6)
  have hlt := fracOf_lt 6 f hf
  have h10 : 10 ^ 6 = 1000000 := by decide
  rw [h10] at hlt
  have hle := wholeV_le 0 a (by unfold MW; omega) ha
  unfold MW at *
  rw [txt_data] at *
  generalize wholeV 0 a = n at *
  subst hw
  generalize fracOf 6 f = m at *
  have h0' : (0 : Int) < (m : Int) := by omega
  clear hp hM ha hf h6
  go_enter Tryd.func8, Tryd.ntmps8
  go_wp2_with fail
  refine HC.out.mono ?_
  rintro e w1 ⟨rfl, b1⟩
  go_wp2_with fail
  refine (HW.out _).mono ?_
  rintro e u2 ⟨rfl, rfl⟩
  go_wp2_with fail
  refine (HF.out _).mono ?_
  rintro e u2 ⟨rfl, rfl⟩
  go_wp2_with fail
  go_ret2
  exact ⟨rfl, b1⟩

set_option maxHeartbeats 1000000 in
set_option maxRecDepth 100000 in
theorem parse_lt_true (s : ByteArray) (w : World) (hs : s.size < 4294967281) (hM : SomeMax w) {a f : List UInt8} (hp : partsV (bodyV s.data.toList) = some (a, f)) (h6 : someD (f.drop 6) = false) (hw : wholeV 0 a ≤ MW) (_h0 : ¬ (wholeV 0 a = MW ∧ 0 < fracOf 6 f)) (hg : negV s.data.toList = true) (hx : wholeV 0 a < MW) :
    Calls Tryd.prog 8 #[.string s] w fun e w' => e = .returned (.tuple #[.int .i64 (-((wholeV 0 a * 1000000 + fracOf 6 f : Nat) : Int)), .int .i64 0]) ∧ Below w.heap.size w w' := by
  have ⟨z1, z2⟩ := parts_size hp
  have ⟨ha, hf, _⟩ := partsV_some hp
  have HC := hide (cut_some s w hs hM hp)
  have HW := hide (fun w => wholePart_any (txt a) w (by rw [txt_size]; unfold maxLen; omega) ha)
  have HF := hide (fun w => millionths_yes (txt f) w (by rw [txt_size]; unfold maxLen; omega) hf h6)
  have hlt := fracOf_lt 6 f hf
  have h10 : 10 ^ 6 = 1000000 := by decide
  rw [h10] at hlt
  have hle := wholeV_le 0 a (by unfold MW; omega) ha
  unfold MW at *
  rw [txt_data] at *
  generalize wholeV 0 a = n at *
  rw [hg] at HC
  generalize fracOf 6 f = m at *
  have hw' : (n : Int) ≤ 1000000000000 := by omega
  have hm' : (m : Int) < 1000000 := by omega
  have hx' : (n : Int) < 1000000000000 := by omega
  have hR : ((n * 1000000 + m : Nat) : Int) = (n : Int) * 1000000 + (m : Int) := by omega
  have hn0 : 0 ≤ (n : Int) := by omega
  have hm0 : 0 ≤ (m : Int) := by omega
  rw [hR]
  clear hR hw hle _h0 hx hlt hp hM ha hf h6 hg h10 hw'
  generalize (n : Int) = x at *
  generalize (m : Int) = y at *
  go_enter Tryd.func8, Tryd.ntmps8
  go_wp2_with fail
  refine HC.out.mono ?_
  rintro e w1 ⟨rfl, b1⟩
  go_wp2_with fail
  refine (HW.out _).mono ?_
  rintro e u2 ⟨rfl, rfl⟩
  go_wp2_with fail
  refine (HF.out _).mono ?_
  rintro e u2 ⟨rfl, rfl⟩
  go_wp2_with fail
  go_ret2
  exact ⟨rfl, b1⟩

set_option maxHeartbeats 1000000 in
set_option maxRecDepth 100000 in
theorem parse_eq_true (s : ByteArray) (w : World) (hs : s.size < 4294967281) (hM : SomeMax w) {a f : List UInt8} (hp : partsV (bodyV s.data.toList) = some (a, f)) (h6 : someD (f.drop 6) = false) (hw : wholeV 0 a ≤ MW) (h0 : ¬ (wholeV 0 a = MW ∧ 0 < fracOf 6 f)) (hg : negV s.data.toList = true) (hx : wholeV 0 a = MW) :
    Calls Tryd.prog 8 #[.string s] w fun e w' => e = .returned (.tuple #[.int .i64 (-((wholeV 0 a * 1000000 + fracOf 6 f : Nat) : Int)), .int .i64 0]) ∧ Below w.heap.size w w' := by
  have ⟨z1, z2⟩ := parts_size hp
  have ⟨ha, hf, _⟩ := partsV_some hp
  have HC := hide (cut_some s w hs hM hp)
  have HW := hide (fun w => wholePart_any (txt a) w (by rw [txt_size]; unfold maxLen; omega) ha)
  have HF := hide (fun w => millionths_yes (txt f) w (by rw [txt_size]; unfold maxLen; omega) hf h6)
  have hlt := fracOf_lt 6 f hf
  have h10 : 10 ^ 6 = 1000000 := by decide
  rw [h10] at hlt
  have hle := wholeV_le 0 a (by unfold MW; omega) ha
  unfold MW at *
  rw [txt_data] at *
  generalize wholeV 0 a = n at *
  rw [hg] at HC
  generalize fracOf 6 f = m at *
  have hw' : (n : Int) ≤ 1000000000000 := by omega
  have hm' : (m : Int) < 1000000 := by omega
  subst hx
  obtain rfl : m = 0 := by omega
  clear hp hM ha hf h6 hg
  go_enter Tryd.func8, Tryd.ntmps8
  go_wp2_with fail
  refine HC.out.mono ?_
  rintro e w1 ⟨rfl, b1⟩
  go_wp2_with fail
  refine (HW.out _).mono ?_
  rintro e u2 ⟨rfl, rfl⟩
  go_wp2_with fail
  refine (HF.out _).mono ?_
  rintro e u2 ⟨rfl, rfl⟩
  go_wp2_with fail
  go_ret2
  exact ⟨ret_num (by go_num), b1⟩

set_option maxHeartbeats 1000000 in
set_option maxRecDepth 100000 in
theorem parse_lt_false (s : ByteArray) (w : World) (hs : s.size < 4294967281) (hM : SomeMax w) {a f : List UInt8} (hp : partsV (bodyV s.data.toList) = some (a, f)) (h6 : someD (f.drop 6) = false) (hw : wholeV 0 a ≤ MW) (_h0 : ¬ (wholeV 0 a = MW ∧ 0 < fracOf 6 f)) (hg : negV s.data.toList = false) (hx : wholeV 0 a < MW) :
    Calls Tryd.prog 8 #[.string s] w fun e w' => e = .returned (.tuple #[.int .i64 ((wholeV 0 a * 1000000 + fracOf 6 f : Nat) : Int), .int .i64 0]) ∧ Below w.heap.size w w' := by
  have ⟨z1, z2⟩ := parts_size hp
  have ⟨ha, hf, _⟩ := partsV_some hp
  have HC := hide (cut_some s w hs hM hp)
  have HW := hide (fun w => wholePart_any (txt a) w (by rw [txt_size]; unfold maxLen; omega) ha)
  have HF := hide (fun w => millionths_yes (txt f) w (by rw [txt_size]; unfold maxLen; omega) hf h6)
  have hlt := fracOf_lt 6 f hf
  have h10 : 10 ^ 6 = 1000000 := by decide
  rw [h10] at hlt
  have hle := wholeV_le 0 a (by unfold MW; omega) ha
  unfold MW at *
  rw [txt_data] at *
  generalize wholeV 0 a = n at *
  rw [hg] at HC
  generalize fracOf 6 f = m at *
  have hw' : (n : Int) ≤ 1000000000000 := by omega
  have hm' : (m : Int) < 1000000 := by omega
  have hx' : (n : Int) < 1000000000000 := by omega
  have hR : ((n * 1000000 + m : Nat) : Int) = (n : Int) * 1000000 + (m : Int) := by omega
  have hn0 : 0 ≤ (n : Int) := by omega
  have hm0 : 0 ≤ (m : Int) := by omega
  rw [hR]
  clear hR hw hle _h0 hx hlt hp hM ha hf h6 hg h10 hw'
  generalize (n : Int) = x at *
  generalize (m : Int) = y at *
  go_enter Tryd.func8, Tryd.ntmps8
  go_wp2_with fail
  refine HC.out.mono ?_
  rintro e w1 ⟨rfl, b1⟩
  go_wp2_with fail
  refine (HW.out _).mono ?_
  rintro e u2 ⟨rfl, rfl⟩
  go_wp2_with fail
  refine (HF.out _).mono ?_
  rintro e u2 ⟨rfl, rfl⟩
  go_wp2_with fail
  go_ret2
  exact ⟨rfl, b1⟩

set_option maxHeartbeats 1000000 in
set_option maxRecDepth 100000 in
theorem parse_eq_false (s : ByteArray) (w : World) (hs : s.size < 4294967281) (hM : SomeMax w) {a f : List UInt8} (hp : partsV (bodyV s.data.toList) = some (a, f)) (h6 : someD (f.drop 6) = false) (hw : wholeV 0 a ≤ MW) (h0 : ¬ (wholeV 0 a = MW ∧ 0 < fracOf 6 f)) (hg : negV s.data.toList = false) (hx : wholeV 0 a = MW) :
    Calls Tryd.prog 8 #[.string s] w fun e w' => e = .returned (.tuple #[.int .i64 ((wholeV 0 a * 1000000 + fracOf 6 f : Nat) : Int), .int .i64 0]) ∧ Below w.heap.size w w' := by
  have ⟨z1, z2⟩ := parts_size hp
  have ⟨ha, hf, _⟩ := partsV_some hp
  have HC := hide (cut_some s w hs hM hp)
  have HW := hide (fun w => wholePart_any (txt a) w (by rw [txt_size]; unfold maxLen; omega) ha)
  have HF := hide (fun w => millionths_yes (txt f) w (by rw [txt_size]; unfold maxLen; omega) hf h6)
  have hlt := fracOf_lt 6 f hf
  have h10 : 10 ^ 6 = 1000000 := by decide
  rw [h10] at hlt
  have hle := wholeV_le 0 a (by unfold MW; omega) ha
  unfold MW at *
  rw [txt_data] at *
  generalize wholeV 0 a = n at *
  rw [hg] at HC
  generalize fracOf 6 f = m at *
  have hw' : (n : Int) ≤ 1000000000000 := by omega
  have hm' : (m : Int) < 1000000 := by omega
  subst hx
  obtain rfl : m = 0 := by omega
  clear hp hM ha hf h6 hg
  go_enter Tryd.func8, Tryd.ntmps8
  go_wp2_with fail
  refine HC.out.mono ?_
  rintro e w1 ⟨rfl, b1⟩
  go_wp2_with fail
  refine (HW.out _).mono ?_
  rintro e u2 ⟨rfl, rfl⟩
  go_wp2_with fail
  refine (HF.out _).mono ?_
  rintro e u2 ⟨rfl, rfl⟩
  go_wp2_with fail
  go_ret2
  exact ⟨ret_num (by go_num), b1⟩

theorem parse_any (s : ByteArray) (w : World) (hs : s.size < 4294967281) (hM : SomeMax w) :
    Calls Tryd.prog 8 #[.string s] w fun e w' => e = .returned (.tuple #[.int .i64 (parseV s.data.toList).1, .int .i64 (parseV s.data.toList).2]) ∧ Below w.heap.size w w' := by
  unfold parseV
  cases hp : partsV (bodyV s.data.toList) with
  | none => exact parse_none s w hs hM hp
  | some x =>
    obtain ⟨a, f⟩ := x
    have ⟨ha, hf, _⟩ := partsV_some hp
    simp only
    cases h6 : someD (f.drop 6) with
    | true => rw [num_bad (.inr (.inr h6)) hf]; exact parse_B1 s w hs hM hp h6
    | false =>
      rcases Nat.lt_or_ge MW (wholeV 0 a) with hw | hw
      · rw [num_bad (.inl hw) hf]; exact parse_B2 s w hs hM hp h6 hw
      · by_cases h0 : wholeV 0 a = MW ∧ 0 < fracOf 6 f
        · rw [num_bad (.inr (.inl h0)) hf]; exact parse_B3 s w hs hM hp h6 h0.1 h0.2
        · rw [num_fine hw h0 h6 hf]
          cases hg : negV s.data.toList with
          | true =>
            rw [if_pos rfl]
            rcases Nat.lt_or_eq_of_le hw with hx | hx
            · exact parse_lt_true s w hs hM hp h6 hw h0 hg hx
            · exact parse_eq_true s w hs hM hp h6 hw h0 hg hx
          | false =>
            rw [if_neg (by decide)]
            rcases Nat.lt_or_eq_of_le hw with hx | hx
            · exact parse_lt_false s w hs hM hp h6 hw h0 hg hx
            · exact parse_eq_false s w hs hM hp h6 hw h0 hg hx

end Go.Proofs.YthakeibmbcgjfaaDoor
