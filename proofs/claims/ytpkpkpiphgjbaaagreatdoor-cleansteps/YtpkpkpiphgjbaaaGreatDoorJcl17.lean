/- Joined texts. CutWalks: The program's cut answers by the parts of a number's text; it changes nothing that was there. Conditions: texts of fewer than 2^32 - 15 bytes; the library's variable MaxLen holds some number. TensT: The library's table of powers of ten, as a condition of a world. No condition. NumFmt: What strconv.FormatUint answers at base 10: a number's digits; the shelf's contracts of what it calls, laid at this program. Condition: the library's table of powers of ten reads as its text lays it. Builder: A strings.Builder that a call has made itself, and the bytes that it holds. No condition. BByte: What WriteByte does to a strings.Builder that the call has made itself: the shelf's contract, laid at this program. Condition: what is written fits the bounds of append. BText: What WriteString does to a strings.Builder that the call has made itself: the shelf's contract, laid at this program. Condition: what is written fits the bounds of append. BString: What String answers of a strings.Builder that the call has made itself: the shelf's contract, laid at this program. No condition. -/
import Derived.Test.YtpkpkpiphgjbaaaGreatDoorJcl16
import Derived.Lib.ItoaMem
import Derived.Lib.AppendIntMem
import Derived.Test.YtpkpkpiphgjbaaaGreatDoorProg
import Derived.Shelf.Strconv.Itoa1
import Derived.Shelf.Strconv.Itoa2
import Derived.Test.YtpkpkpiphgjbaaaGreatDoorJcl6
import Derived.Lib.Builder
import Derived.Lib.UnsafeStr
import Derived.Test.YtpkpkpiphgjbaaaGreatDoorJcl2
import Derived.Shelf.Strings.Builder1
namespace Go.Proofs.YtpkpkpiphgjbaaaGreatDoor
open Go.RowKit
set_option maxRecDepth 100000

theorem allDT_any (l : List UInt8) (w : World) (hs : l.length < 4294967281) :
    Calls Tryz.prog 150 #[.string (txt l)] w fun e w' => e = .returned (.bool (allD l)) ∧ w' = w :=
  allDigits_any (txt l) w (by rw [txt_size]; unfold maxLen; omega)
theorem allDN_any (w : World) : Calls Tryz.prog 150 #[.string ⟨#[]⟩] w fun e w' => e = .returned (.bool true) ∧ w' = w := allDT_any [] w (by decide)
theorem txt_none (l : List UInt8) : (txt l).toList = [] ↔ l = [] := by rw [ByteArray.toList_eq]; exact Iff.rfl
theorem txt_some {l : List UInt8} (h : l ≠ []) : (txt l).toList.isEmpty = false := by
  cases g : (txt l).toList.isEmpty with
  | false => rfl
  | true => exact absurd ((txt_none l).1 (List.isEmpty_iff.1 g)) h
theorem body_size (s : ByteArray) : (bodyV s.data.toList).length ≤ s.size := by
  have e : s.data.toList.length = s.size := by simp
  unfold bodyV
  split
  · rw [List.length_tail]; omega
  · omega

set_option maxHeartbeats 1000000 in
theorem cut_A1 (s : ByteArray) (hb : bodyV s.data.toList = []) (w : World) (_hs : s.size < 4294967281) (hM : SomeMax w) :
    Calls Tryz.prog 112 #[.string s] w fun e w' => e = .returned (.tuple #[.string ⟨#[]⟩, .string ⟨#[]⟩, .bool false, .bool false]) ∧ Below w.heap.size w w' := by
  have hz := body_size s
  have hn := (txt_none []).2 rfl
  have hP := fun w => cutPrefix_any s w
  rw [hb] at hP hz
  have HP := hide hP
  have HC := hide (cutAt_no [] w (by decide) hM (by decide))
  clear hP hb hM
  go_enter Tryz.func112, Tryz.ntmps112
  go_wp2_with fail
  refine (HP.out _).mono ?_
  rintro e u1 ⟨rfl, rfl⟩
  go_wp2_with fail
  refine HC.out.mono ?_
  rintro e w1 ⟨rfl, b1⟩
  go_wp2_with fail
  (try simp only [Exit.inBlock, Exit.then])
  refine bodyPost_ret (results_tmp4 rfl _ _ _) rfl ?_
  exact ⟨rfl, b1⟩

set_option maxHeartbeats 1000000 in
theorem cut_A2 (s : ByteArray) (b : List UInt8) (hb : bodyV s.data.toList = b) (hp : (46 : UInt8) ∉ b) (h0 : b ≠ []) (hd : allD b = false) (w : World) (hs : s.size < 4294967281) (hM : SomeMax w) :
    Calls Tryz.prog 112 #[.string s] w fun e w' => e = .returned (.tuple #[.string ⟨#[]⟩, .string ⟨#[]⟩, .bool false, .bool false]) ∧ Below w.heap.size w w' := by
  have hz := body_size s
  have hn := mt (txt_none b).1 h0
  have hn2 := txt_some h0
  have hl : b.length < 4294967281 := by rw [← hb]; omega
  have hD := fun w => allDT_any b w hl
  rw [hd] at hD
  have HD := hide hD
  clear hD hd h0
  have hP := fun w => cutPrefix_any s w
  rw [hb] at hP hz
  have HP := hide hP
  have HC := hide (cutAt_no b w (by omega) hM hp)
  clear hP hb hM
  go_enter Tryz.func112, Tryz.ntmps112
  go_wp2_with fail
  refine (HP.out _).mono ?_
  rintro e u1 ⟨rfl, rfl⟩
  go_wp2_with fail
  refine HC.out.mono ?_
  rintro e w1 ⟨rfl, b1⟩
  go_wp2_with fail
  refine (HD.out _).mono ?_
  rintro e u2 ⟨rfl, rfl⟩
  go_wp2_with fail
  (try simp only [Exit.inBlock, Exit.then])
  refine bodyPost_ret (results_tmp4 rfl _ _ _) rfl ?_
  exact ⟨rfl, b1⟩

set_option maxHeartbeats 1000000 in
theorem cut_A3 (s : ByteArray) (b : List UInt8) (hb : bodyV s.data.toList = b) (hp : (46 : UInt8) ∉ b) (h0 : b ≠ []) (hd : allD b = true) (w : World) (hs : s.size < 4294967281) (hM : SomeMax w) :
    Calls Tryz.prog 112 #[.string s] w fun e w' => e = .returned (.tuple #[.string (txt b), .string ⟨#[]⟩, .bool (negV s.data.toList), .bool true]) ∧ Below w.heap.size w w' := by
  have hz := body_size s
  have hn := mt (txt_none b).1 h0
  have hn2 := txt_some h0
  have hl : b.length < 4294967281 := by rw [← hb]; omega
  have hD := fun w => allDT_any b w hl
  rw [hd] at hD
  have HD := hide hD
  clear hD hd h0
  have hP := fun w => cutPrefix_any s w
  rw [hb] at hP hz
  have HP := hide hP
  have HC := hide (cutAt_no b w (by omega) hM hp)
  clear hP hb hM
  generalize negV s.data.toList = g at *
  go_enter Tryz.func112, Tryz.ntmps112
  go_wp2_with fail
  refine (HP.out _).mono ?_
  rintro e u1 ⟨rfl, rfl⟩
  go_wp2_with fail
  refine HC.out.mono ?_
  rintro e w1 ⟨rfl, b1⟩
  go_wp2_with fail
  refine (HD.out _).mono ?_
  rintro e u2 ⟨rfl, rfl⟩
  go_wp2_with fail
  refine (allDN_any _).mono ?_
  rintro e u2 ⟨rfl, rfl⟩
  go_wp2_with fail
  (try simp only [Exit.inBlock, Exit.then])
  refine bodyPost_ret (results_tmp4 rfl _ _ _) rfl ?_
  exact ⟨rfl, b1⟩

set_option maxHeartbeats 1000000 in
theorem cut_B1 (s : ByteArray) (a : List UInt8) (hb : bodyV s.data.toList = a ++ 46 :: []) (hp : (46 : UInt8) ∉ a) (w : World) (hs : s.size < 4294967281) (hM : SomeMax w) :
    Calls Tryz.prog 112 #[.string s] w fun e w' => e = .returned (.tuple #[.string ⟨#[]⟩, .string ⟨#[]⟩, .bool false, .bool false]) ∧ Below w.heap.size w w' := by
  have hz := body_size s
  have hn := (txt_none []).2 rfl
  have hP := fun w => cutPrefix_any s w
  rw [hb] at hP hz
  have HP := hide hP
  have HC := hide (cutAt_yes a [] w (by omega) hM hp)
  clear hP hb hM
  go_enter Tryz.func112, Tryz.ntmps112
  go_wp2_with fail
  refine (HP.out _).mono ?_
  rintro e u1 ⟨rfl, rfl⟩
  go_wp2_with fail
  refine HC.out.mono ?_
  rintro e w1 ⟨rfl, b1⟩
  go_wp2_with fail
  (try simp only [Exit.inBlock, Exit.then])
  refine bodyPost_ret (results_tmp4 rfl _ _ _) rfl ?_
  exact ⟨rfl, b1⟩

set_option maxHeartbeats 1000000 in
theorem cut_B2 (s : ByteArray) (a f : List UInt8) (hb : bodyV s.data.toList = a ++ 46 :: f) (hp : (46 : UInt8) ∉ a) (h0 : f ≠ []) (hd : allD a = false) (w : World) (hs : s.size < 4294967281) (hM : SomeMax w) :
    Calls Tryz.prog 112 #[.string s] w fun e w' => e = .returned (.tuple #[.string ⟨#[]⟩, .string ⟨#[]⟩, .bool false, .bool false]) ∧ Below w.heap.size w w' := by
  have hz := body_size s
  have hn := mt (txt_none f).1 h0
  have hn2 := txt_some h0
  have hl : (a ++ 46 :: f).length < 4294967281 := by rw [← hb]; omega
  have hl2 : a.length < 4294967281 ∧ f.length < 4294967281 := by simp at hl; omega
  have hD := fun w => allDT_any a w hl2.1
  rw [hd] at hD
  have HD := hide hD
  clear hD hd h0
  have hP := fun w => cutPrefix_any s w
  rw [hb] at hP hz
  have HP := hide hP
  have HC := hide (cutAt_yes a f w hl hM hp)
  clear hP hb hM
  go_enter Tryz.func112, Tryz.ntmps112
  go_wp2_with fail
  refine (HP.out _).mono ?_
  rintro e u1 ⟨rfl, rfl⟩
  go_wp2_with fail
  refine HC.out.mono ?_
  rintro e w1 ⟨rfl, b1⟩
  go_wp2_with fail
  refine (HD.out _).mono ?_
  rintro e u2 ⟨rfl, rfl⟩
  go_wp2_with fail
  (try simp only [Exit.inBlock, Exit.then])
  refine bodyPost_ret (results_tmp4 rfl _ _ _) rfl ?_
  exact ⟨rfl, b1⟩

set_option maxHeartbeats 1000000 in
theorem cut_B3 (s : ByteArray) (a f : List UInt8) (hb : bodyV s.data.toList = a ++ 46 :: f) (hp : (46 : UInt8) ∉ a) (h0 : f ≠ []) (hd : allD a = true) (hd2 : allD f = false) (w : World) (hs : s.size < 4294967281) (hM : SomeMax w) :
    Calls Tryz.prog 112 #[.string s] w fun e w' => e = .returned (.tuple #[.string ⟨#[]⟩, .string ⟨#[]⟩, .bool false, .bool false]) ∧ Below w.heap.size w w' := by
  have hz := body_size s
  have hn := mt (txt_none f).1 h0
  have hn2 := txt_some h0
  have hl : (a ++ 46 :: f).length < 4294967281 := by rw [← hb]; omega
  have hl2 : a.length < 4294967281 ∧ f.length < 4294967281 := by simp at hl; omega
  have hD := fun w => allDT_any a w hl2.1
  rw [hd] at hD
  have HD := hide hD
  have hE := fun w => allDT_any f w hl2.2
  rw [hd2] at hE
  have HE := hide hE
  clear hD hd h0 hE hd2
  have hP := fun w => cutPrefix_any s w
  rw [hb] at hP hz
  have HP := hide hP
  have HC := hide (cutAt_yes a f w hl hM hp)
  clear hP hb hM
  go_enter Tryz.func112, Tryz.ntmps112
  go_wp2_with fail
  refine (HP.out _).mono ?_
  rintro e u1 ⟨rfl, rfl⟩
  go_wp2_with fail
  refine HC.out.mono ?_
  rintro e w1 ⟨rfl, b1⟩
  go_wp2_with fail
  refine (HD.out _).mono ?_
  rintro e u2 ⟨rfl, rfl⟩
  go_wp2_with fail
  refine (HE.out _).mono ?_
  rintro e u2 ⟨rfl, rfl⟩
  go_wp2_with fail
  (try simp only [Exit.inBlock, Exit.then])
  refine bodyPost_ret (results_tmp4 rfl _ _ _) rfl ?_
  exact ⟨rfl, b1⟩

set_option maxHeartbeats 1000000 in
theorem cut_B4 (s : ByteArray) (a f : List UInt8) (hb : bodyV s.data.toList = a ++ 46 :: f) (hp : (46 : UInt8) ∉ a) (h0 : f ≠ []) (hd : allD a = true) (hd2 : allD f = true) (w : World) (hs : s.size < 4294967281) (hM : SomeMax w) :
    Calls Tryz.prog 112 #[.string s] w fun e w' => e = .returned (.tuple #[.string (txt a), .string (txt f), .bool (negV s.data.toList), .bool true]) ∧ Below w.heap.size w w' := by
  have hz := body_size s
  have hn := mt (txt_none f).1 h0
  have hn2 := txt_some h0
  have hl : (a ++ 46 :: f).length < 4294967281 := by rw [← hb]; omega
  have hl2 : a.length < 4294967281 ∧ f.length < 4294967281 := by simp at hl; omega
  have hD := fun w => allDT_any a w hl2.1
  rw [hd] at hD
  have HD := hide hD
  have hE := fun w => allDT_any f w hl2.2
  rw [hd2] at hE
  have HE := hide hE
  clear hD hd h0 hE hd2
  have hP := fun w => cutPrefix_any s w
  rw [hb] at hP hz
  have HP := hide hP
  have HC := hide (cutAt_yes a f w hl hM hp)
  clear hP hb hM
  generalize negV s.data.toList = g at *
  go_enter Tryz.func112, Tryz.ntmps112
  go_wp2_with fail
  refine (HP.out _).mono ?_
  rintro e u1 ⟨rfl, rfl⟩
  go_wp2_with fail
  refine HC.out.mono ?_
  rintro e w1 ⟨rfl, b1⟩
  go_wp2_with fail
  refine (HD.out _).mono ?_
  rintro e u2 ⟨rfl, rfl⟩
  go_wp2_with fail
  refine (HE.out _).mono ?_
  rintro e u2 ⟨rfl, rfl⟩
  go_wp2_with fail
  (try simp only [Exit.inBlock, Exit.then])
  refine bodyPost_ret (results_tmp4 rfl _ _ _) rfl ?_
  exact ⟨rfl, b1⟩

theorem cut_none (s : ByteArray) (w : World) (hs : s.size < 4294967281) (hM : SomeMax w) (hp : partsV (bodyV s.data.toList) = none) :
    Calls Tryz.prog 112 #[.string s] w fun e w' => e = .returned (.tuple #[.string ⟨#[]⟩, .string ⟨#[]⟩, .bool false, .bool false]) ∧ Below w.heap.size w w' := by
  by_cases h46 : (46 : UInt8) ∈ bodyV s.data.toList
  · obtain ⟨a, f, hb, hn⟩ := first_point h46
    by_cases h0 : f = []
    · subst h0; exact cut_B1 s a hb hn w hs hM
    · cases g : allD a with
      | false => exact cut_B2 s a f hb hn h0 g w hs hM
      | true =>
        cases g2 : allD f with
        | false => exact cut_B3 s a f hb hn h0 g g2 w hs hM
        | true =>
          rw [hb, partsV_point ((allD_iff a).1 g) ((allD_iff f).1 g2) h0] at hp; cases hp
  · by_cases h0 : bodyV s.data.toList = []
    · exact cut_A1 s h0 w hs hM
    · cases g : allD (bodyV s.data.toList) with
      | false => exact cut_A2 s _ rfl h46 h0 g w hs hM
      | true => rw [partsV_whole ((allD_iff _).1 g) h0] at hp; cases hp
theorem cut_some (s : ByteArray) (w : World) (hs : s.size < 4294967281) (hM : SomeMax w) {a f : List UInt8} (hp : partsV (bodyV s.data.toList) = some (a, f)) :
    Calls Tryz.prog 112 #[.string s] w fun e w' => e = .returned (.tuple #[.string (txt a), .string (txt f), .bool (negV s.data.toList), .bool true]) ∧ Below w.heap.size w w' := by
  have ⟨ha, hf, hc⟩ := partsV_some hp
  rcases hc with ⟨rfl, h0, hb⟩ | ⟨h0, hb⟩
  · exact cut_A3 s a hb (dg_no_point ha) h0 ((allD_iff a).2 ha) w hs hM
  · exact cut_B4 s a f hb (dg_no_point ha) h0 ((allD_iff a).2 ha) ((allD_iff f).2 hf) w hs hM

theorem ret_numP {n : Int} {b : Int} {m : Int} {c : Int} (h : (n, b) = (m, c)) : Ending.returned (.tuple #[.int .i64 n, .int .i64 b]) = .returned (.tuple #[.int .i64 m, .int .i64 c]) := by cases h; rfl
theorem parts_size {s : ByteArray} {a f : List UInt8} (hp : partsV (bodyV s.data.toList) = some (a, f)) : a.length ≤ s.size ∧ f.length ≤ s.size := by
  have hz := body_size s
  have ⟨_, _, hc⟩ := partsV_some hp
  rcases hc with ⟨rfl, h0, hb⟩ | ⟨h0, hb⟩
  · rw [hb] at hz; simp; exact hz
  · rw [hb] at hz; simp at hz; omega

set_option maxHeartbeats 1000000 in
set_option maxRecDepth 100000 in
theorem parse_none (s : ByteArray) (w : World) (hs : s.size < 4294967281) (hM : SomeMax w) (hp : partsV (bodyV s.data.toList) = none) :
    Calls Tryz.prog 75 #[.string s] w fun e w' => e = .returned (.tuple #[.int .i64 0, .int .i64 1]) ∧ Below w.heap.size w w' := by
  have HC := hide (cut_none s w hs hM hp)
  clear hp hM
  go_enter Tryz.func75, Tryz.ntmps75
  go_wp2_with fail
  refine HC.out.mono ?_
  rintro e w1 ⟨rfl, b1⟩
  go_wp2_with fail
  go_ret2
  exact ⟨rfl, b1⟩

set_option maxHeartbeats 1000000 in
set_option maxRecDepth 100000 in
theorem parse_B1 (s : ByteArray) (w : World) (hs : s.size < 4294967281) (hM : SomeMax w) {a f : List UInt8} (hp : partsV (bodyV s.data.toList) = some (a, f)) (h6 : someD (f.drop 6) = true) :
    Calls Tryz.prog 75 #[.string s] w fun e w' => e = .returned (.tuple #[.int .i64 0, .int .i64 2]) ∧ Below w.heap.size w w' := by
  have ⟨z1, z2⟩ := parts_size hp
  have ⟨ha, hf, _⟩ := partsV_some hp
  have HC := hide (cut_some s w hs hM hp)
  have HW := hide (fun w => wholePart_any (txt a) w (by rw [txt_size]; unfold maxLen; omega) ha)
  have HF := hide (fun w => millionths_no (txt f) w (by rw [txt_size]; unfold maxLen; omega) h6)
  clear hp hM ha hf h6
  go_enter Tryz.func75, Tryz.ntmps75
  go_wp2_with fail
  refine HC.out.mono ?_
  rintro e w1 ⟨rfl, b1⟩
  go_wp2_with fail
  refine (HW.out _).mono ?_
  rintro e u2 ⟨rfl, rfl⟩
  go_wp2_with fail
  refine (HF.out _).mono ?_
  rintro e u2 ⟨rfl, rfl⟩
  go_wp2_with fail
  go_ret2
  exact ⟨rfl, b1⟩

set_option maxHeartbeats 1000000 in
set_option maxRecDepth 100000 in
theorem parse_B2 (s : ByteArray) (w : World) (hs : s.size < 4294967281) (hM : SomeMax w) {a f : List UInt8} (hp : partsV (bodyV s.data.toList) = some (a, f)) (h6 : someD (f.drop 6) = false) (hw : MW < wholeV 0 a) :
    Calls Tryz.prog 75 #[.string s] w fun e w' => e = .returned (.tuple #[.int .i64 0, .int .i64 2]) ∧ Below w.heap.size w w' := by
  have ⟨z1, z2⟩ := parts_size hp
  have ⟨ha, hf, _⟩ := partsV_some hp
  have HC := hide (cut_some s w hs hM hp)
  have HW := hide (fun w => wholePart_any (txt a) w (by rw [txt_size]; unfold maxLen; omega) ha)
  have HF := hide (fun w => millionths_yes (txt f) w (by rw [txt_size]; unfold maxLen; omega) hf h6)
  have hlt := fracOf_lt 6 f hf
  have h10 : 10 ^ 6 = 1000000 := by decide
  rw [h10] at hlt
  have hle := wholeV_le 0 a (by unfold MW; omega) ha
  unfold MW at *
  rw [txt_data] at *
  generalize wholeV 0 a = n at *
  have hw' : (1000000000000 : Int) < (n : Int) := by omega
  clear hp hM ha hf h6
  go_enter Tryz.func75, Tryz.ntmps75
  go_wp2_with fail
  refine HC.out.mono ?_
  rintro e w1 ⟨rfl, b1⟩
  go_wp2_with fail
  refine (HW.out _).mono ?_
  rintro e u2 ⟨rfl, rfl⟩
  go_wp2_with fail
  refine (HF.out _).mono ?_
  rintro e u2 ⟨rfl, rfl⟩
  go_wp2_with fail
  go_ret2
  exact ⟨rfl, b1⟩

set_option maxHeartbeats 1000000 in
set_option maxRecDepth 100000 in
theorem parse_B3 (s : ByteArray) (w : World) (hs : s.size < 4294967281) (hM : SomeMax w) {a f : List UInt8} (hp : partsV (bodyV s.data.toList) = some (a, f)) (h6 : someD (f.drop 6) = false) (hw : wholeV 0 a = MW) (h0 : 0 < fracOf 6 f) :
    Calls Tryz.prog 75 #[.string s] w fun e w' => e = .returned (.tuple #[.int .i64 0, .int .i64 2]) ∧ Below w.heap.size w w' := by
  have ⟨z1, z2⟩ := parts_size hp
  have ⟨ha, hf, _⟩ := partsV_some hp
  have HC := hide (cut_some s w hs hM hp)
  have HW := hide (fun w => wholePart_any (txt a) w (by rw [txt_size]; unfold maxLen; omega) ha)
  have HF := hide (fun w => millionths_yes (txt f) w (by rw [txt_size]; unfold maxLen; omega) hf h6)
  have hlt := fracOf_lt 6 f hf
  have h10 : 10 ^ 6 = 1000000 := by decide
  rw [h10] at hlt
  have hle := wholeV_le 0 a (by unfold MW; omega) ha
  unfold MW at *
  rw [txt_data] at *
  generalize wholeV 0 a = n at *
  subst hw
  generalize fracOf 6 f = m at *
  have h0' : (0 : Int) < (m : Int) := by omega
  clear hp hM ha hf h6
  go_enter Tryz.func75, Tryz.ntmps75
  go_wp2_with fail
  refine HC.out.mono ?_
  rintro e w1 ⟨rfl, b1⟩
  go_wp2_with fail
  refine (HW.out _).mono ?_
  rintro e u2 ⟨rfl, rfl⟩
  go_wp2_with fail
  refine (HF.out _).mono ?_
  rintro e u2 ⟨rfl, rfl⟩
  go_wp2_with fail
  go_ret2
  exact ⟨rfl, b1⟩

set_option maxHeartbeats 1000000 in
set_option maxRecDepth 100000 in
theorem parse_lt_true (s : ByteArray) (w : World) (hs : s.size < 4294967281) (hM : SomeMax w) {a f : List UInt8} (hp : partsV (bodyV s.data.toList) = some (a, f)) (h6 : someD (f.drop 6) = false) (hw : wholeV 0 a ≤ MW) (_h0 : ¬ (wholeV 0 a = MW ∧ 0 < fracOf 6 f)) (hg : negV s.data.toList = true) (hx : wholeV 0 a < MW) :
    Calls Tryz.prog 75 #[.string s] w fun e w' => e = .returned (.tuple #[.int .i64 (-((wholeV 0 a * 1000000 + fracOf 6 f : Nat) : Int)), .int .i64 0]) ∧ Below w.heap.size w w' := by
  have ⟨z1, z2⟩ := parts_size hp
  have ⟨ha, hf, _⟩ := partsV_some hp
  have HC := hide (cut_some s w hs hM hp)
  have HW := hide (fun w => wholePart_any (txt a) w (by rw [txt_size]; unfold maxLen; omega) ha)
  have HF := hide (fun w => millionths_yes (txt f) w (by rw [txt_size]; unfold maxLen; omega) hf h6)
  have hlt := fracOf_lt 6 f hf
  have h10 : 10 ^ 6 = 1000000 := by decide
  rw [h10] at hlt
  have hle := wholeV_le 0 a (by unfold MW; omega) ha
  unfold MW at *
  rw [txt_data] at *
  generalize wholeV 0 a = n at *
  rw [hg] at HC
  generalize fracOf 6 f = m at *
  have hw' : (n : Int) ≤ 1000000000000 := by omega
  have hm' : (m : Int) < 1000000 := by omega
  have hx' : (n : Int) < 1000000000000 := by omega
  have hR : ((n * 1000000 + m : Nat) : Int) = (n : Int) * 1000000 + (m : Int) := by omega
  have hn0 : 0 ≤ (n : Int) := by omega
  have hm0 : 0 ≤ (m : Int) := by omega
  rw [hR]
  clear hR hw hle _h0 hx hlt hp hM ha hf h6 hg h10 hw'
  generalize (n : Int) = x at *
  generalize (m : Int) = y at *
  go_enter Tryz.func75, Tryz.ntmps75
  go_wp2_with fail
  refine HC.out.mono ?_
  rintro e w1 ⟨rfl, b1⟩
  go_wp2_with fail
  refine (HW.out _).mono ?_
  rintro e u2 ⟨rfl, rfl⟩
  go_wp2_with fail
  refine (HF.out _).mono ?_
  rintro e u2 ⟨rfl, rfl⟩
  go_wp2_with fail
  go_ret2
  exact ⟨rfl, b1⟩

set_option maxHeartbeats 1000000 in
set_option maxRecDepth 100000 in
theorem parse_eq_true (s : ByteArray) (w : World) (hs : s.size < 4294967281) (hM : SomeMax w) {a f : List UInt8} (hp : partsV (bodyV s.data.toList) = some (a, f)) (h6 : someD (f.drop 6) = false) (hw : wholeV 0 a ≤ MW) (h0 : ¬ (wholeV 0 a = MW ∧ 0 < fracOf 6 f)) (hg : negV s.data.toList = true) (hx : wholeV 0 a = MW) :
    Calls Tryz.prog 75 #[.string s] w fun e w' => e = .returned (.tuple #[.int .i64 (-((wholeV 0 a * 1000000 + fracOf 6 f : Nat) : Int)), .int .i64 0]) ∧ Below w.heap.size w w' := by
  have ⟨z1, z2⟩ := parts_size hp
  have ⟨ha, hf, _⟩ := partsV_some hp
  have HC := hide (cut_some s w hs hM hp)
  have HW := hide (fun w => wholePart_any (txt a) w (by rw [txt_size]; unfold maxLen; omega) ha)
  have HF := hide (fun w => millionths_yes (txt f) w (by rw [txt_size]; unfold maxLen; omega) hf h6)
  have hlt := fracOf_lt 6 f hf
  have h10 : 10 ^ 6 = 1000000 := by decide
  rw [h10] at hlt
  have hle := wholeV_le 0 a (by unfold MW; omega) ha
  unfold MW at *
  rw [txt_data] at *
  generalize wholeV 0 a = n at *
  rw [hg] at HC
  generalize fracOf 6 f = m at *
  have hw' : (n : Int) ≤ 1000000000000 := by omega
  have hm' : (m : Int) < 1000000 := by omega
  subst hx
  obtain rfl : m = 0 := by omega
  clear hp hM ha hf h6 hg
  go_enter Tryz.func75, Tryz.ntmps75
  go_wp2_with fail
  refine HC.out.mono ?_
  rintro e w1 ⟨rfl, b1⟩
  go_wp2_with fail
  refine (HW.out _).mono ?_
  rintro e u2 ⟨rfl, rfl⟩
  go_wp2_with fail
  refine (HF.out _).mono ?_
  rintro e u2 ⟨rfl, rfl⟩
  go_wp2_with fail
  go_ret2
  exact ⟨ret_numP (by go_num), b1⟩

set_option maxHeartbeats 1000000 in
set_option maxRecDepth 100000 in
theorem parse_lt_false (s : ByteArray) (w : World) (hs : s.size < 4294967281) (hM : SomeMax w) {a f : List UInt8} (hp : partsV (bodyV s.data.toList) = some (a, f)) (h6 : someD (f.drop 6) = false) (hw : wholeV 0 a ≤ MW) (_h0 : ¬ (wholeV 0 a = MW ∧ 0 < fracOf 6 f)) (hg : negV s.data.toList = false) (hx : wholeV 0 a < MW) :
    Calls Tryz.prog 75 #[.string s] w fun e w' => e = .returned (.tuple #[.int .i64 ((wholeV 0 a * 1000000 + fracOf 6 f : Nat) : Int), .int .i64 0]) ∧ Below w.heap.size w w' := by
  have ⟨z1, z2⟩ := parts_size hp
  have ⟨ha, hf, _⟩ := partsV_some hp
  have HC := hide (cut_some s w hs hM hp)
  have HW := hide (fun w => wholePart_any (txt a) w (by rw [txt_size]; unfold maxLen; omega) ha)
  have HF := hide (fun w => millionths_yes (txt f) w (by rw [txt_size]; unfold maxLen; omega) hf h6)
  have hlt := fracOf_lt 6 f hf
  have h10 : 10 ^ 6 = 1000000 := by decide
  rw [h10] at hlt
  have hle := wholeV_le 0 a (by unfold MW; omega) ha
  unfold MW at *
  rw [txt_data] at *
  generalize wholeV 0 a = n at *
  rw [hg] at HC
  generalize fracOf 6 f = m at *
  have hw' : (n : Int) ≤ 1000000000000 := by omega
  have hm' : (m : Int) < 1000000 := by omega
  have hx' : (n : Int) < 1000000000000 := by omega
  have hR : ((n * 1000000 + m : Nat) : Int) = (n : Int) * 1000000 + (m : Int) := by omega
  have hn0 : 0 ≤ (n : Int) := by omega
  have hm0 : 0 ≤ (m : Int) := by omega
  rw [hR]
  clear hR hw hle _h0 hx hlt hp hM ha hf h6 hg h10 hw'
  generalize (n : Int) = x at *
  generalize (m : Int) = y at *
  go_enter Tryz.func75, Tryz.ntmps75
  go_wp2_with fail
  refine HC.out.mono ?_
  rintro e w1 ⟨rfl, b1⟩
  go_wp2_with fail
  refine (HW.out _).mono ?_
  rintro e u2 ⟨rfl, rfl⟩
  go_wp2_with fail
  refine (HF.out _).mono ?_
  rintro e u2 ⟨rfl, rfl⟩
  go_wp2_with fail
  go_ret2
  exact ⟨rfl, b1⟩

set_option maxHeartbeats 1000000 in
set_option maxRecDepth 100000 in
theorem parse_eq_false (s : ByteArray) (w : World) (hs : s.size < 4294967281) (hM : SomeMax w) {a f : List UInt8} (hp : partsV (bodyV s.data.toList) = some (a, f)) (h6 : someD (f.drop 6) = false) (hw : wholeV 0 a ≤ MW) (h0 : ¬ (wholeV 0 a = MW ∧ 0 < fracOf 6 f)) (hg : negV s.data.toList = false) (hx : wholeV 0 a = MW) :
    Calls Tryz.prog 75 #[.string s] w fun e w' => e = .returned (.tuple #[.int .i64 ((wholeV 0 a * 1000000 + fracOf 6 f : Nat) : Int), .int .i64 0]) ∧ Below w.heap.size w w' := by
  have ⟨z1, z2⟩ := parts_size hp
  have ⟨ha, hf, _⟩ := partsV_some hp
  have HC := hide (cut_some s w hs hM hp)
  have HW := hide (fun w => wholePart_any (txt a) w (by rw [txt_size]; unfold maxLen; omega) ha)
  have HF := hide (fun w => millionths_yes (txt f) w (by rw [txt_size]; unfold maxLen; omega) hf h6)
  have hlt := fracOf_lt 6 f hf
  have h10 : 10 ^ 6 = 1000000 := by decide
  rw [h10] at hlt
  have hle := wholeV_le 0 a (by unfold MW; omega) ha
  unfold MW at *
  rw [txt_data] at *
  generalize wholeV 0 a = n at *
  rw [hg] at HC
  generalize fracOf 6 f = m at *
  have hw' : (n : Int) ≤ 1000000000000 := by omega
  have hm' : (m : Int) < 1000000 := by omega
  subst hx
  obtain rfl : m = 0 := by omega
  clear hp hM ha hf h6 hg
  go_enter Tryz.func75, Tryz.ntmps75
  go_wp2_with fail
  refine HC.out.mono ?_
  rintro e w1 ⟨rfl, b1⟩
  go_wp2_with fail
  refine (HW.out _).mono ?_
  rintro e u2 ⟨rfl, rfl⟩
  go_wp2_with fail
  refine (HF.out _).mono ?_
  rintro e u2 ⟨rfl, rfl⟩
  go_wp2_with fail
  go_ret2
  exact ⟨ret_numP (by go_num), b1⟩

theorem parse_any (s : ByteArray) (w : World) (hs : s.size < 4294967281) (hM : SomeMax w) :
    Calls Tryz.prog 75 #[.string s] w fun e w' => e = .returned (.tuple #[.int .i64 (parseV s.data.toList).1, .int .i64 (parseV s.data.toList).2]) ∧ Below w.heap.size w w' := by
  unfold parseV
  cases hp : partsV (bodyV s.data.toList) with
  | none => exact parse_none s w hs hM hp
  | some x =>
    obtain ⟨a, f⟩ := x
    have ⟨ha, hf, _⟩ := partsV_some hp
    simp only
    cases h6 : someD (f.drop 6) with
    | true => rw [num_bad (.inr (.inr h6)) hf]; exact parse_B1 s w hs hM hp h6
    | false =>
      rcases Nat.lt_or_ge MW (wholeV 0 a) with hw | hw
      · rw [num_bad (.inl hw) hf]; exact parse_B2 s w hs hM hp h6 hw
      · by_cases h0 : wholeV 0 a = MW ∧ 0 < fracOf 6 f
        · rw [num_bad (.inr (.inl h0)) hf]; exact parse_B3 s w hs hM hp h6 h0.1 h0.2
        · rw [num_fine hw h0 h6 hf]
          cases hg : negV s.data.toList with
          | true =>
            rw [if_pos rfl]
            rcases Nat.lt_or_eq_of_le hw with hx | hx
            · exact parse_lt_true s w hs hM hp h6 hw h0 hg hx
            · exact parse_eq_true s w hs hM hp h6 hw h0 hg hx
          | false =>
            rw [if_neg (by decide)]
            rcases Nat.lt_or_eq_of_le hw with hx | hx
            · exact parse_lt_false s w hs hM hp h6 hw h0 hg hx
            · exact parse_eq_false s w hs hM hp h6 hw h0 hg hx

end Go.Proofs.YtpkpkpiphgjbaaaGreatDoor

namespace Go.Proofs.YtpkpkpiphgjbaaaGreatDoor
open Go.RowKit

/-- The library's table of powers of ten. -/
def Tens (w : World) : Prop := Lib.TabIs Tryz.prog w "internal/strconv.uint64pow10" .u64 Lib.pow10Tab
theorem Tens.below {w w' : World} (h : Tens w) (hb : Below w.heap.size w w') : Tens w' := Lib.tabBelow_of_tabIs h w' hb

end Go.Proofs.YtpkpkpiphgjbaaaGreatDoor

namespace Go.Proofs.YtpkpkpiphgjbaaaGreatDoor
open Go.Shelf Go.RowKit Go.Sort
set_option maxRecDepth 100000

def smren : Go.Shelf.Ren := ⟨fun | 283 => 201 | n => n, fun | 3 => 3 | 4 => 4 | 5 => 5 | 9 => 9 | 72 => 66 | n => n, fun  | n => n⟩
theorem lays283 : Go.Proofs.Lays.n283 Tryz.prog smren := {
  mixed := by kernel_rfl
  f283 := Tryz.func201.trans (congrArg some (by kernel_rfl))
  t3 := Tryz.underlying3
  a3 := Tryz.isAgg3
  z3 := Tryz.sizeOf3
  v3 := Tryz.zeroValue3
  t4 := Tryz.underlying4
  a4 := Tryz.isAgg4
  z4 := Tryz.sizeOf4
  v4 := Tryz.zeroValue4
  t9 := Tryz.underlying9
  a9 := Tryz.isAgg9
  z9 := Tryz.sizeOf9
  v9 := Tryz.zeroValue9 }
def ndren : Go.Shelf.Ren := ⟨fun | 129 => 214 | 284 => 202 | 317 => 213 | 318 => 215 | n => n, fun | 0 => 0 | 3 => 3 | 4 => 4 | 5 => 5 | 9 => 9 | 46 => 168 | 53 => 91 | 72 => 66 | 212 => 189 | n => n, fun | 17 => 5 | n => n⟩
theorem laysM284 : Go.Proofs.LaysM.n284 Tryz.prog ndren := {
  mixed := by kernel_rfl
  f129 := Tryz.func214.trans (congrArg some (by kernel_rfl))
  f284 := Tryz.func202.trans (congrArg some (by kernel_rfl))
  f317 := Tryz.func213.trans (congrArg some (by kernel_rfl))
  f318 := Tryz.func215.trans (congrArg some (by kernel_rfl))
  t0 := Tryz.underlying0
  a0 := Tryz.isAgg0
  z0 := Tryz.sizeOf0
  v0 := Tryz.zeroValue0
  t3 := Tryz.underlying3
  a3 := Tryz.isAgg3
  z3 := Tryz.sizeOf3
  v3 := Tryz.zeroValue3
  t4 := Tryz.underlying4
  a4 := Tryz.isAgg4
  z4 := Tryz.sizeOf4
  v4 := Tryz.zeroValue4
  t5 := Tryz.underlying5
  a5 := Tryz.isAgg5
  z5 := Tryz.sizeOf5
  v5 := Tryz.zeroValue5
  t9 := Tryz.underlying9
  a9 := Tryz.isAgg9
  z9 := Tryz.sizeOf9
  v9 := Tryz.zeroValue9
  t46 := Tryz.underlying168
  a46 := Tryz.isAgg168
  z46 := Tryz.sizeOf168
  v46 := Tryz.zeroValue168
  t53 := Tryz.underlying91
  a53 := Tryz.isAgg91
  z53 := Tryz.sizeOf91
  v53 := Tryz.zeroValue91
  t212 := Tryz.underlying189
  a212 := Tryz.isAgg189
  z212 := Tryz.sizeOf189
  v212 := Tryz.zeroValue189
  g17 := by kernel_rfl
  i0 := by kernel_rfl
  i3 := by kernel_rfl
  i4 := by kernel_rfl
  i5 := by kernel_rfl
  i9 := by kernel_rfl
  i46 := by kernel_rfl
  i53 := by kernel_rfl
  i212 := by kernel_rfl
  m17 := by kernel_rfl }
def fbren : Go.Shelf.Ren := ⟨fun | 285 => 203 | n => n, fun | 0 => 0 | 3 => 3 | 4 => 4 | 5 => 5 | 9 => 9 | 37 => 63 | 51 => 181 | 53 => 91 | 72 => 66 | n => n, fun  | n => n⟩
theorem lays285 : Go.Proofs.Lays.n285 Tryz.prog fbren := {
  mixed := by kernel_rfl
  f285 := Tryz.func203.trans (congrArg some (by kernel_rfl))
  t0 := Tryz.underlying0
  a0 := Tryz.isAgg0
  z0 := Tryz.sizeOf0
  v0 := Tryz.zeroValue0
  t3 := Tryz.underlying3
  a3 := Tryz.isAgg3
  z3 := Tryz.sizeOf3
  v3 := Tryz.zeroValue3
  t4 := Tryz.underlying4
  a4 := Tryz.isAgg4
  z4 := Tryz.sizeOf4
  v4 := Tryz.zeroValue4
  t5 := Tryz.underlying5
  a5 := Tryz.isAgg5
  z5 := Tryz.sizeOf5
  v5 := Tryz.zeroValue5
  t9 := Tryz.underlying9
  a9 := Tryz.isAgg9
  z9 := Tryz.sizeOf9
  v9 := Tryz.zeroValue9
  t37 := Tryz.underlying63
  a37 := Tryz.isAgg63
  z37 := Tryz.sizeOf63
  v37 := Tryz.zeroValue63
  t51 := Tryz.underlying181
  a51 := Tryz.isAgg181
  z51 := Tryz.sizeOf181
  v51 := Tryz.zeroValue181
  t53 := Tryz.underlying91
  a53 := Tryz.isAgg91
  z53 := Tryz.sizeOf91
  v53 := Tryz.zeroValue91 }


theorem smallDigits (i : Nat) (h : i < 100) (w : World) : Calls Tryz.prog 201 #[.int .i64 i] w fun e w' => e = .returned (.string (txt (decD i))) ∧ w' = w := by
  have := Any.internal_strconv_small lays283 i h w
  rw [decDigits_eq] at this; exact this

set_option maxHeartbeats 3000000 in
set_option maxRecDepth 100000 in
theorem formatIn_any (u : Nat) (w : World) (hu64 : u < 18446744073709551616) (htab : Tens w) :
    Calls Tryz.prog 188 #[.int .u64 u, .int .i64 10] w fun e w' => e = .returned (.string (txt (decD u))) ∧ Below w.heap.size w w' := by
  by_cases hs : u < 100
  · have HS := hide (smallDigits u hs)
    have hs' : (u : Int) < 100 := by omega
    go_enter Tryz.func188, Tryz.ntmps188
    go_wp2_with fail
    refine (HS.out _).mono ?_
    rintro e u1 ⟨rfl, rfl⟩
    go_wp2_with fail
    go_ret
    exact ⟨rfl, Below.refl _ _⟩
  · have hu1 : 1 ≤ u := by omega
    have iu : (100 : Int) ≤ (u : Int) := by omega
    have hnd20 : Lib.nDigits u ≤ 20 := by have := Lib.numDigits_eq u hu1 hu64; split at this <;> omega
    have hal : Tryz.prog.arrayLen 175 = 24 := by simp [Program.arrayLen, Tryz.underlying175]
    have hsl : ∀ W, (Instr.sliceAt 175 (.pointer (some ⟨w.heap.size, 0, none⟩)) none (some (.int .i64 (Lib.nDigits u : Int))) none).run Tryz.prog W = .ok (.slice (some ⟨w.heap.size, 0, none⟩) (Lib.nDigits u) 24) W := fun W => by
      rw [run_sliceAt_array_h W 175 ⟨w.heap.size, 0, none⟩ (by simp [Program.arrayLen, Program.elem, Tryz.underlying175]) .i64 (Lib.nDigits u : Int) (by omega) (by rw [hal]; omega)]
      go_simp
    have hH0 := Lib.holds_zero0 w 175 (Lib.nDigits u) (by omega)
    have hfmt := Any.internal_strconv_formatBase10 lays285 w.heap.size 0 24 u (Array.replicate (Lib.nDigits u) 0) (w.alloc (.cells Lib.zeros24 175)) hH0 (by rw [Array.size_replicate]; exact Lib.lt_pow_nDigits u) hu64 (by rw [Array.size_replicate]; omega)
    rw [Array.size_replicate] at hfmt
    have HN := hide (Any.internal_strconv_numDigits laysM284 u hu1 hu64 (w.alloc (.cells Lib.zeros24 175)) (Lib.tabIs_alloc htab _))
    have HF := hide hfmt
    have HH0 := Lib.hid hH0
    clear hH0 hal hfmt hs
    go_enter Tryz.func188, Tryz.ntmps188
    go_wp2_with fail
    refine HN.out.mono ?_
    rintro e w1 ⟨rfl, rfl⟩
    go_wp2_with fail
    refine HF.out.mono ?_
    rintro e w' ⟨rfl, k, v', dk, rfl, hF⟩
    have hcv : (convert 63 9 (.slice (some ⟨w.heap.size, 0, none⟩) (Lib.nDigits u) 24)).run Tryz.prog ((putRow (fun (b : UInt8) => Value.int .u8 (b.toNat : Int)) (w.alloc (.cells Lib.zeros24 175)) w.heap.size 0 dk).drewN k) = .ok (.string (txt (decD u))) ((putRow (fun (b : UInt8) => Value.int .u8 (b.toNat : Int)) (w.alloc (.cells Lib.zeros24 175)) w.heap.size 0 dk).drewN k) := by
      have h := run_convert_bytes_back (P := Tryz.prog) ((putRow (fun (b : UInt8) => Value.int .u8 (b.toNat : Int)) (w.alloc (.cells Lib.zeros24 175)) w.heap.size 0 dk).drewN k) 63 9 5 ⟨w.heap.size, 0, none⟩ 24 (Lib.decDigits u) Tryz.underlying63 Tryz.underlying5 Tryz.underlying9 (fun j hj => by
        rw [Lib.row_is_numeral hF j hj, Lib.add_plain, World.cell?_drewN]
        exact cell?_putRow (fun (b : UInt8) => Value.int .u8 (b.toNat : Int)) _ w.heap.size 0 _ dk HH0.out (by rw [hF.size, Array.size_replicate]) j (by rw [hF.size]; rw [Lib.decDigits_length] at hj; exact hj))
      rw [Lib.decDigits_length, decDigits_eq] at h
      exact h
    obtain ⟨os, eo⟩ := Lib.fin_at w (.cells Lib.zeros24 175) dk k 0
    have EO := hide eo
    clear eo HH0 HF HN
    go_wp2_with fail
    go_ret
    refine ⟨rfl, ?_⟩
    rw [EO.out]
    exact Lib.below_grow _ _ (Nat.le_refl _) k os

set_option maxHeartbeats 1000000 in
theorem format_any (u : Nat) (w : World) (hu64 : u < 18446744073709551616) (htab : Tens w) :
    Calls Tryz.prog 162 #[.int .u64 u, .int .i64 10] w fun e w' => e = .returned (.string (txt (decD u))) ∧ Below w.heap.size w w' := by
  have HI := hide (formatIn_any u w hu64 htab)
  go_enter Tryz.func162, Tryz.ntmps162
  go_wp2_with fail
  refine HI.out.mono ?_
  rintro e w1 ⟨rfl, b1⟩
  go_wp2_with fail
  go_ret
  exact ⟨rfl, b1⟩

end Go.Proofs.YtpkpkpiphgjbaaaGreatDoor

namespace Go.Proofs.YtpkpkpiphgjbaaaGreatDoor
open Go.RowKit

/-- A builder in block b, of the call's own (from B on), that holds the bytes l. -/
def HoldsB (B b : Nat) (l : List UInt8) (w : World) : Prop := Lib.IsBuilder 66 5 B b (Lib.byteCells l) w

theorem HoldsB.fresh (w : World) : HoldsB w.heap.size w.heap.size [] (w.alloc (.cells #[.pointer none, .slice none 0 0] 66)) :=
  .inl ⟨Nat.le_refl _, .slice none 0 0, by simp [World.alloc, -World.alloc_eq], World.ownsRow_nil _ _ _ _, by simp [Value.ownBlock]⟩

theorem builderAt_below {T e : TypeId} {B b : Nat} {p : Value} {bs : List Value} {w w' : World} (h : Lib.BuilderAt T e B b p bs w) (hb : Below w.heap.size w w') : Lib.BuilderAt T e B b p bs w' := by
  have hlt := h.lt
  obtain ⟨h0, v, h1, h2, h3⟩ := h
  refine ⟨h0, v, by rw [hb.block b hlt]; exact h1, ?_, h3⟩
  obtain ⟨g1, g2⟩ := h2
  refine ⟨g1, ?_⟩
  rcases g2 with g2 | ⟨g, cap, cur, hv, hg, hh, r⟩
  · exact Or.inl g2
  · refine Or.inr ⟨g, cap, cur, hv, hg, ?_, r⟩
    rw [hb.block g ?_]; exact hh
    rcases Nat.lt_or_ge g w.heap.size with h' | h'
    · exact h'
    · simp [Array.getElem?_eq_none h'] at hh
/-- Another call, which changes nothing that was there, leaves the builder as it is. -/
theorem HoldsB.below {B b : Nat} {l : List UInt8} {w w' : World} (h : HoldsB B b l w) (hb : Below w.heap.size w w') : HoldsB B b l w' := by
  rcases h with h | h
  · exact .inl (builderAt_below h hb)
  · exact .inr (builderAt_below h hb)

end Go.Proofs.YtpkpkpiphgjbaaaGreatDoor

namespace Go.Proofs.YtpkpkpiphgjbaaaGreatDoor
open Go.Shelf Go.RowKit
set_option maxRecDepth 100000

def renBByte : Go.Shelf.Ren := ⟨fun | 167 => 67 | 240 => 101 | 276 => 139 | n => n, fun | 0 => 0 | 4 => 4 | 5 => 5 | 9 => 9 | 20 => 20 | 37 => 63 | 70 => 64 | 72 => 66 | 75 => 69 | 80 => 73 | 164 => 138 | n => n, fun  | n => n⟩
theorem lays167 : Go.Proofs.Lays.n167 Tryz.prog renBByte := {
  mixed := by kernel_rfl
  f167 := Tryz.func67.trans (congrArg some (by kernel_rfl))
  f240 := Tryz.func101.trans (congrArg some (by kernel_rfl))
  f276 := Tryz.func139.trans (congrArg some (by kernel_rfl))
  t0 := Tryz.underlying0
  a0 := Tryz.isAgg0
  z0 := Tryz.sizeOf0
  v0 := Tryz.zeroValue0
  t4 := Tryz.underlying4
  a4 := Tryz.isAgg4
  z4 := Tryz.sizeOf4
  v4 := Tryz.zeroValue4
  t5 := Tryz.underlying5
  a5 := Tryz.isAgg5
  z5 := Tryz.sizeOf5
  v5 := Tryz.zeroValue5
  t9 := Tryz.underlying9
  a9 := Tryz.isAgg9
  z9 := Tryz.sizeOf9
  v9 := Tryz.zeroValue9
  t20 := Tryz.underlying20
  a20 := Tryz.isAgg20
  z20 := Tryz.sizeOf20
  v20 := Tryz.zeroValue20
  t37 := Tryz.underlying63
  a37 := Tryz.isAgg63
  z37 := Tryz.sizeOf63
  v37 := Tryz.zeroValue63
  t70 := Tryz.underlying64
  a70 := Tryz.isAgg64
  z70 := Tryz.sizeOf64
  v70 := Tryz.zeroValue64
  t72 := Tryz.underlying66
  a72 := Tryz.isAgg66
  z72 := Tryz.sizeOf66
  v72 := Tryz.zeroValue66
  t75 := Tryz.underlying69
  a75 := Tryz.isAgg69
  z75 := Tryz.sizeOf69
  v75 := Tryz.zeroValue69
  t164 := Tryz.underlying138
  a164 := Tryz.isAgg138
  z164 := Tryz.sizeOf138
  v164 := Tryz.zeroValue138 }
theorem extraBByte : Builder.Extra Tryz.prog renBByte := {
  sizeBuilder := by kernel_rfl
  liesBuilder := by kernel_rfl
  t5 := Tryz.underlying5
  a5 := Tryz.isAgg5
  z5 := Tryz.sizeOf5
  v5 := Tryz.zeroValue5
  infoByte := by kernel_rfl
  cellsByte := by kernel_rfl
  sizeByte := by kernel_rfl
  neB5 := by decide }

theorem writeByte (B b : Nat) (l : List UInt8) (c : UInt8) (w : World) (h : HoldsB B b l w) (hlen : l.length + 1 ≤ 140737488355328) (hBw : B ≤ w.heap.size) :
    Calls Tryz.prog 67 #[.pointer (some ⟨b, 0, none⟩), .int .u8 (c.toNat : Int)] w fun e w' => e = .returned .nilIface ∧ HoldsB B b (l ++ [c]) w' ∧ Below B w w' := by
  refine (Any.Builder_WriteByte lays167 extraBByte B b (Lib.byteCells l) (c.toNat : Int) w h (by simpa [Lib.byteCells] using hlen) hBw).mono ?_
  rintro e w' ⟨rfl, h, hb⟩
  refine ⟨rfl, .inr ?_, hb⟩
  have e1 : Lib.byteCells (l ++ [c]) = Lib.byteCells l ++ [.int .u8 (c.toNat : Int)] := by simp [Lib.byteCells]
  rw [e1]; exact h

end Go.Proofs.YtpkpkpiphgjbaaaGreatDoor

namespace Go.Proofs.YtpkpkpiphgjbaaaGreatDoor
open Go.Shelf Go.RowKit
set_option maxRecDepth 100000

def renBText : Go.Shelf.Ren := ⟨fun | 166 => 66 | 240 => 101 | 276 => 139 | n => n, fun | 0 => 0 | 3 => 3 | 4 => 4 | 5 => 5 | 9 => 9 | 20 => 20 | 37 => 63 | 70 => 64 | 72 => 66 | 75 => 69 | 80 => 73 | 164 => 138 | n => n, fun  | n => n⟩
theorem lays166 : Go.Proofs.Lays.n166 Tryz.prog renBText := {
  mixed := by kernel_rfl
  f166 := Tryz.func66.trans (congrArg some (by kernel_rfl))
  f240 := Tryz.func101.trans (congrArg some (by kernel_rfl))
  f276 := Tryz.func139.trans (congrArg some (by kernel_rfl))
  t0 := Tryz.underlying0
  a0 := Tryz.isAgg0
  z0 := Tryz.sizeOf0
  v0 := Tryz.zeroValue0
  t3 := Tryz.underlying3
  a3 := Tryz.isAgg3
  z3 := Tryz.sizeOf3
  v3 := Tryz.zeroValue3
  t4 := Tryz.underlying4
  a4 := Tryz.isAgg4
  z4 := Tryz.sizeOf4
  v4 := Tryz.zeroValue4
  t9 := Tryz.underlying9
  a9 := Tryz.isAgg9
  z9 := Tryz.sizeOf9
  v9 := Tryz.zeroValue9
  t20 := Tryz.underlying20
  a20 := Tryz.isAgg20
  z20 := Tryz.sizeOf20
  v20 := Tryz.zeroValue20
  t37 := Tryz.underlying63
  a37 := Tryz.isAgg63
  z37 := Tryz.sizeOf63
  v37 := Tryz.zeroValue63
  t70 := Tryz.underlying64
  a70 := Tryz.isAgg64
  z70 := Tryz.sizeOf64
  v70 := Tryz.zeroValue64
  t72 := Tryz.underlying66
  a72 := Tryz.isAgg66
  z72 := Tryz.sizeOf66
  v72 := Tryz.zeroValue66
  t75 := Tryz.underlying69
  a75 := Tryz.isAgg69
  z75 := Tryz.sizeOf69
  v75 := Tryz.zeroValue69
  t164 := Tryz.underlying138
  a164 := Tryz.isAgg138
  z164 := Tryz.sizeOf138
  v164 := Tryz.zeroValue138 }
theorem extraBText : Builder.Extra Tryz.prog renBText := {
  sizeBuilder := by kernel_rfl
  liesBuilder := by kernel_rfl
  t5 := Tryz.underlying5
  a5 := Tryz.isAgg5
  z5 := Tryz.sizeOf5
  v5 := Tryz.zeroValue5
  infoByte := by kernel_rfl
  cellsByte := by kernel_rfl
  sizeByte := by kernel_rfl
  neB5 := by decide }

theorem writeString (B b : Nat) (l : List UInt8) (s : ByteArray) (w : World) (h : HoldsB B b l w) (hlen : l.length + s.size ≤ 140737488351232) (hBw : B ≤ w.heap.size) :
    Calls Tryz.prog 66 #[.pointer (some ⟨b, 0, none⟩), .string s] w fun e w' => e = .returned (.tuple #[.int .i64 s.size, .nilIface]) ∧ HoldsB B b (l ++ s.data.toList) w' ∧ Below B w w' := by
  refine (Any.Builder_WriteString lays166 extraBText B b (Lib.byteCells l) s w h (by simp [Lib.byteCells]; omega) hBw).mono ?_
  rintro e w' ⟨rfl, h, hb⟩
  refine ⟨rfl, .inr ?_, hb⟩
  have e1 : Lib.byteCells (l ++ s.data.toList) = Lib.byteCells l ++ Lib.strCells s := by simp [Lib.byteCells, Lib.strCells]
  rw [e1]; exact h

end Go.Proofs.YtpkpkpiphgjbaaaGreatDoor

namespace Go.Proofs.YtpkpkpiphgjbaaaGreatDoor
open Go.Shelf Go.RowKit
set_option maxRecDepth 100000

def renBString : Go.Shelf.Ren := ⟨fun | 169 => 68 | n => n, fun | 0 => 0 | 3 => 3 | 5 => 5 | 9 => 9 | 37 => 63 | 70 => 64 | 72 => 66 | 127 => 89 | n => n, fun  | n => n⟩
theorem lays169 : Go.Proofs.Lays.n169 Tryz.prog renBString := {
  mixed := by kernel_rfl
  f169 := Tryz.func68.trans (congrArg some (by kernel_rfl))
  t0 := Tryz.underlying0
  a0 := Tryz.isAgg0
  z0 := Tryz.sizeOf0
  v0 := Tryz.zeroValue0
  t3 := Tryz.underlying3
  a3 := Tryz.isAgg3
  z3 := Tryz.sizeOf3
  v3 := Tryz.zeroValue3
  t9 := Tryz.underlying9
  a9 := Tryz.isAgg9
  z9 := Tryz.sizeOf9
  v9 := Tryz.zeroValue9
  t37 := Tryz.underlying63
  a37 := Tryz.isAgg63
  z37 := Tryz.sizeOf63
  v37 := Tryz.zeroValue63
  t70 := Tryz.underlying64
  a70 := Tryz.isAgg64
  z70 := Tryz.sizeOf64
  v70 := Tryz.zeroValue64
  t72 := Tryz.underlying66
  a72 := Tryz.isAgg66
  z72 := Tryz.sizeOf66
  v72 := Tryz.zeroValue66
  t127 := Tryz.underlying89
  a127 := Tryz.isAgg89
  z127 := Tryz.sizeOf89
  v127 := Tryz.zeroValue89 }
theorem extraBString : Builder.Extra Tryz.prog renBString := {
  sizeBuilder := by kernel_rfl
  liesBuilder := by kernel_rfl
  t5 := Tryz.underlying5
  a5 := Tryz.isAgg5
  z5 := Tryz.sizeOf5
  v5 := Tryz.zeroValue5
  infoByte := by kernel_rfl
  cellsByte := by kernel_rfl
  sizeByte := by kernel_rfl
  neB5 := by decide }

theorem builderText (B b : Nat) (l : List UInt8) (w : World) (h : HoldsB B b l w) (hBw : B ≤ w.heap.size) :
    Calls Tryz.prog 68 #[.pointer (some ⟨b, 0, none⟩)] w fun e w' => e = .returned (.string (txt l)) ∧ Below B w w' :=
  Any.Builder_String_any lays169 extraBString B b l w h hBw

end Go.Proofs.YtpkpkpiphgjbaaaGreatDoor
