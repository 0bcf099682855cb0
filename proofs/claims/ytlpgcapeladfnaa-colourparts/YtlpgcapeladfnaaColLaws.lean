/- The walks of stage 6's laws: each returns true, and what lay in the world lies there still. Condition: the tables that the program's road names; texts as long as every row has them. -/
import Derived.Test.YtlpgcapeladfnaaColProg
import Derived.Test.YtlpgcapeladfnaaColRef
namespace Go.Proofs.Ytlpgcapeladfnaa
open Go.RowKit

theorem cwake_A : cleanL (⟨#[35, 65, 98, 67, 48, 49, 50]⟩ : ByteArray).data.toList = [35, 97, 98, 99, 48, 49, 50] := by decide +kernel
theorem cwake_B : cleanL (⟨#[35, 97, 98, 99]⟩ : ByteArray).data.toList = [35, 48, 48, 48, 48, 48, 48] := by decide +kernel
theorem small_clean (l : List UInt8) : (txt (cleanL l)).size ≤ 7 := by
  obtain ⟨a, b, c, d, e, f, h, _⟩ := simple_shape (clean_simple l)
  rw [h]; exact Nat.le_refl _
theorem small_col (r g b : UInt8) : (txt (colL r g b)).size ≤ 7 := by rw [colL_eq]; exact Nat.le_refl _
theorem small_len {s : ByteArray} (h : s.size ≤ 7) : s.size ≤ maxLen := by unfold maxLen; omega

set_option maxHeartbeats 2000000 in
set_option maxRecDepth 100000 in
theorem colWakes_any (w : World) (hT : ColTabs w) :
    Calls Try.prog 7 #[] w fun e w' => e = .returned (.bool true) ∧ Below w.heap.size w w' := by
  have hA := colClean_any ⟨#[35, 65, 98, 67, 48, 49, 50]⟩ w (by decide) hT
  have hB := fun w hT => colClean_any ⟨#[35, 97, 98, 99]⟩ w (by decide) hT
  rw [cwake_A] at hA
  rw [cwake_B] at hB
  have HA : Hid (Calls Try.prog 6 #[.string ⟨#[35, 65, 98, 67, 48, 49, 50]⟩] w fun e w' => e = .returned (.string ⟨#[35, 97, 98, 99, 48, 49, 50]⟩) ∧ Below w.heap.size w w') := hA
  have HB : Hid (∀ w, ColTabs w → Calls Try.prog 6 #[.string ⟨#[35, 97, 98, 99]⟩] w fun e w' => e = .returned (.string ⟨#[35, 48, 48, 48, 48, 48, 48]⟩) ∧ Below w.heap.size w w') := hB
  have HT := hide hT
  clear hA hB hT
  go_enter Try.func7, Try.ntmps7
  go_wp2_with fail
  refine (HA.out).mono ?_
  rintro e v1 ⟨rfl, b1⟩
  go_wp2_with fail
  refine (HB.out _ (HT.out.below b1)).mono ?_
  rintro e v2 ⟨rfl, b2⟩
  have b2 := chain b1 b2
  go_wp2_with fail
  go_ret
  exact ⟨rfl, b2⟩

set_option maxHeartbeats 2000000 in
set_option maxRecDepth 100000 in
theorem cleans_walk (s : ByteArray) (hs : s.size ≤ maxLen) (w : World) (hT : ColTabs w) :
    Calls Try.prog 3 #[.string s] w fun e w' => e = .returned (.bool true) ∧ Below w.heap.size w w' := by
  have H1 := hide (colClean_any s w hs hT)
  have H2 := hide (fun w' (b : Below w.heap.size w w') => colWakes_any w' (hT.below b))
  have H3 := hide (fun w' (b : Below w.heap.size w w') => colSimple_any s w' hs (hT.below b))
  have H4 := hide (fun w' => refSimple_any s w' hs)
  have H5 := hide (fun w' => refClean_any s w' hs)
  have H6 := hide (fun w' (b : Below w.heap.size w w') => colClean_any (txt (cleanL s.data.toList)) w' (small_len (small_clean _)) (hT.below b))
  have H7 := hide (fun w' (b : Below w.heap.size w w') => colSimple_any (txt (cleanL s.data.toList)) w' (small_len (small_clean _)) (hT.below b))
  rw [txt_data, clean_clean] at H6
  rw [txt_data, clean_simple] at H7
  clear hT hs
  generalize txt (cleanL s.data.toList) = t at *
  generalize simpleL s.data.toList = c at *
  go_enter Try.func3, Try.ntmps3
  go_wp2_with fail
  refine (H1.out).mono ?_
  rintro e v1 ⟨rfl, b1⟩
  go_wp2_with fail
  refine (H2.out _ b1).mono ?_
  rintro e v2 ⟨rfl, b2⟩
  have b2 := chain b1 b2
  go_wp2_with fail
  refine (H3.out _ b2).mono ?_
  rintro e v3 ⟨rfl, b3⟩
  have b3 := chain b2 b3
  go_wp2_with fail
  refine (H4.out _).mono ?_
  rintro e u ⟨rfl, rfl⟩
  go_wp2_with fail
  refine (H5.out _).mono ?_
  rintro e v4 ⟨rfl, b4⟩
  have b4 := chain b3 b4
  go_wp2_with fail
  refine (H6.out _ b4).mono ?_
  rintro e v5 ⟨rfl, b5⟩
  have b5 := chain b4 b5
  go_wp2_with fail
  refine (H7.out _ b5).mono ?_
  rintro e v6 ⟨rfl, b6⟩
  have b6 := chain b5 b6
  go_wp2_with fail
  go_ret
  exact ⟨rfl, b6⟩

set_option maxHeartbeats 2000000 in
set_option maxRecDepth 100000 in
theorem parts_walk (s : ByteArray) (hs : s.size ≤ maxLen) (w : World) (hT : ColTabs w) :
    Calls Try.prog 4 #[.string s] w fun e w' => e = .returned (.bool true) ∧ Below w.heap.size w w' := by
  have H2 := hide (fun w' (b : Below w.heap.size w w') => colWakes_any w' (hT.below b))
  have H4 := hide (fun w' => refSimple_any s w' hs)
  cases hc : simpleL s.data.toList with
  | false =>
    have H1 := hide (colParts_no s w hs hc hT)
    rw [hc] at H4
    clear hc hs hT
    go_enter Try.func4, Try.ntmps4
    go_wp2_with fail
    refine (H1.out).mono ?_
    rintro e v1 ⟨rfl, b1⟩
    go_wp2_with fail
    refine (H2.out _ b1).mono ?_
    rintro e v2 ⟨rfl, b2⟩
    have b2 := chain b1 b2
    go_wp2_with fail
    refine (H4.out _).mono ?_
    rintro e u ⟨rfl, rfl⟩
    go_wp2_with fail
    go_ret
    exact ⟨rfl, b2⟩
  | true =>
    have H1 := hide (colParts_yes s w hs hc hT)
    have ⟨h7, _, hx⟩ := simple_at.1 hc
    have P1 := hide (fun w' => refPair_1 s w' h7 (hx 1 (by decide) (by decide)) (hx 2 (by decide) (by decide)))
    have P3 := hide (fun w' => refPair_3 s w' h7 (hx 3 (by decide) (by decide)) (hx 4 (by decide) (by decide)))
    have P5 := hide (fun w' => refPair_5 s w' h7 (hx 5 (by decide) (by decide)) (hx 6 (by decide) (by decide)))
    have H5 := hide (fun w' (b : Below w.heap.size w w') => colShow_any (pairAt s.data.toList 1) (pairAt s.data.toList 3) (pairAt s.data.toList 5) w' (hT.below b))
    have H6 := hide (fun w' (b : Below w.heap.size w w') => colClean_any s w' hs (hT.below b))
    rw [parts_col hc] at H5
    rw [hc] at H4
    clear hc hs hT h7 hx
    generalize txt (cleanL s.data.toList) = t at *
    generalize ((pairAt s.data.toList 1).toNat : Int) = x at *
    generalize ((pairAt s.data.toList 3).toNat : Int) = y at *
    generalize ((pairAt s.data.toList 5).toNat : Int) = z at *
    go_enter Try.func4, Try.ntmps4
    go_wp2_with fail
    refine (H1.out).mono ?_
    rintro e v1 ⟨rfl, b1⟩
    go_wp2_with fail
    refine (H2.out _ b1).mono ?_
    rintro e v2 ⟨rfl, b2⟩
    have b2 := chain b1 b2
    go_wp2_with fail
    refine (H4.out _).mono ?_
    rintro e u ⟨rfl, rfl⟩
    go_wp2_with fail
    refine (P1.out _).mono ?_
    rintro e v3 ⟨rfl, b3⟩
    have b3 := chain b2 b3
    go_wp2_with fail
    refine (P3.out _).mono ?_
    rintro e v4 ⟨rfl, b4⟩
    have b4 := chain b3 b4
    go_wp2_with fail
    refine (P5.out _).mono ?_
    rintro e v5 ⟨rfl, b5⟩
    have b5 := chain b4 b5
    go_wp2_with fail
    refine (H5.out _ b5).mono ?_
    rintro e v6 ⟨rfl, b6⟩
    have b6 := chain b5 b6
    go_wp2_with fail
    refine (H6.out _ b6).mono ?_
    rintro e v7 ⟨rfl, b7⟩
    have b7 := chain b6 b7
    go_wp2_with fail
    go_ret
    exact ⟨rfl, b7⟩

set_option maxHeartbeats 2000000 in
set_option maxRecDepth 100000 in
theorem shows_walk (r g b : UInt8) (w : World) (hT : ColTabs w) :
    Calls Try.prog 5 #[.int .u8 (r.toNat : Int), .int .u8 (g.toNat : Int), .int .u8 (b.toNat : Int)] w fun e w' => e = .returned (.bool true) ∧ Below w.heap.size w w' := by
  have H1 := hide (colShow_any r g b w hT)
  have H2 := hide (fun w' (b : Below w.heap.size w w') => colWakes_any w' (hT.below b))
  have H3 := hide (fun w' (q : Below w.heap.size w w') => colParts_yes (txt (colL r g b)) w' (small_len (small_col r g b)) (by rw [txt_data]; exact col_simple r g b) (hT.below q))
  have H4 := hide (fun w' => refColour_any r g b w')
  have ⟨e1, e2, e3⟩ := col_parts r g b
  rw [txt_data, e1, e2, e3] at H3
  clear hT e1 e2 e3
  generalize txt (colL r g b) = t at *
  generalize (r.toNat : Int) = x at *
  generalize (g.toNat : Int) = y at *
  generalize (b.toNat : Int) = z at *
  go_enter Try.func5, Try.ntmps5
  go_wp2_with fail
  refine (H1.out).mono ?_
  rintro e v1 ⟨rfl, b1⟩
  go_wp2_with fail
  refine (H3.out _ b1).mono ?_
  rintro e v2 ⟨rfl, b2⟩
  have b2 := chain b1 b2
  go_wp2_with fail
  refine (H2.out _ b2).mono ?_
  rintro e v3 ⟨rfl, b3⟩
  have b3 := chain b2 b3
  go_wp2_with fail
  refine (H4.out _).mono ?_
  rintro e v4 ⟨rfl, b4⟩
  have b4 := chain b3 b4
  go_wp2_with fail
  go_ret
  exact ⟨rfl, b4⟩

end Go.Proofs.Ytlpgcapeladfnaa
