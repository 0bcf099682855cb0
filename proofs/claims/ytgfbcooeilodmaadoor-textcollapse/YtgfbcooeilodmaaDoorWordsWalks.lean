/- The document's Words and Collapse answer by functions of lists of bytes; they change nothing that was there. Condition: texts of at most 2^38 bytes. -/
import Derived.Test.YtgfbcooeilodmaaDoorCollapseWalks
import Derived.Test.YtgfbcooeilodmaaDoorWords
namespace Go.Proofs.YtgfbcooeilodmaaDoor
open Go.RowKit

theorem textTypes : TextTypes Tryd.prog 37 9 := ⟨Tryd.underlying37, Tryd.underlying9, by kernel_rfl⟩
theorem byteTypes : ByteTypes Tryd.prog 30 5 9 := ⟨Tryd.underlying30, Tryd.underlying5, Tryd.underlying9, by kernel_rfl⟩

set_option maxHeartbeats 2000000 in
set_option maxRecDepth 100000 in
theorem words_any (s : ByteArray) (w : World) (hs : s.size ≤ 274877906944) :
    Calls Tryd.prog 23 #[.string s] w fun e w' => ∃ v, e = .returned v ∧ OwnsT 9 w.heap.size w' v (wordsG [] s.data.toList) ∧ Below w.heap.size w w' := by
  go_enter Tryd.func23, Tryd.ntmps23
  go_wp2_with fail
  go_loopw [3, 4, 5] (fun v f i wr => ∃ (k : Nat) (q : Int) (done : List (List UInt8)), k ≤ s.size + 1 ∧ i = .int .i64 k ∧ f = .int .i64 q ∧ WS s k q done ∧ OwnsT 9 w.heap.size wr v done ∧ Below w.heap.size w wr) (fun _ _ i _ => s.size + 1 - (intOf i).toNat)
  case atStart => exact ⟨0, -1, [], Nat.zero_le _, rfl, rfl, ws_zero s, OwnsT.nil _ _ _, Below.refl _ _⟩
  case round =>
    obtain ⟨k, q, done, hk, rfl, rfl, hw, hown, hb⟩ := hrel
    have hlen := ws_len hw
    have hsz := hb.size
    by_cases hle : k ≤ s.size
    · by_cases hlt : k < s.size
      · cases hbl : isBl s[k] with
        | false =>
          rcases ws_cases hw with rfl | ⟨j, rfl⟩
          · have HW := hide (ws_begin hw hlt hbl)
            clear hw
            go_wp2_with fail
            refine (refBlank_any s[k] _).mono ?_
            rintro e w1 ⟨rfl, rfl⟩
            go_wp2_with fail
            go_roundw
            case rel => exact ⟨k + 1, k, done, by omega, by go_num, rfl, HW.out, hown, hb⟩
            case measure => simp [intOf]; omega
          · have HW := hide (ws_more hw hlt hbl)
            have hj := (ws_in hw).1
            clear hw
            go_wp2_with fail
            refine (refBlank_any s[k] _).mono ?_
            rintro e w1 ⟨rfl, rfl⟩
            go_wp2_with fail
            go_roundw
            case rel => exact ⟨k + 1, j, done, by omega, by go_num, rfl, HW.out, hown, hb⟩
            case measure => simp [intOf]; omega
        | true =>
          rcases ws_cases hw with rfl | ⟨j, rfl⟩
          · have HW := hide (ws_skip hw hlt hbl)
            clear hw
            go_wp2_with fail
            refine (refBlank_any s[k] _).mono ?_
            rintro e w1 ⟨rfl, rfl⟩
            go_wp2_with fail
            go_roundw
            case rel => exact ⟨k + 1, -1, done, by omega, by go_num, rfl, HW.out, hown, hb⟩
            case measure => simp [intOf]; omega
          · have HW := hide (ws_push hw hlt hbl)
            have hj := (ws_in hw).1
            have HX := hide (sub_txt s j k)
            clear hw
            go_wp2_with fail
            refine (refBlank_any s[k] _).mono ?_
            rintro e w1 ⟨rfl, rfl⟩
            go_wp2_with (at_builtin; refine wpList_append_item textTypes _ _ rfl _ _ rfl w.heap.size _ _ (sub s j k) HX.out rfl hown rfl (by omega) (by omega) ?_; intro v' w' hown' hb')
            go_roundw
            case rel => exact ⟨k + 1, -1, done ++ [sub s j k], by omega, by go_num, rfl, HW.out, hown', hb.trans hb'⟩
            case measure => simp [intOf]; omega
      · obtain rfl : k = s.size := by omega
        have hbl : True := trivial
        rcases ws_cases hw with rfl | ⟨j, rfl⟩
        · have HW := hide (ws_last hw)
          clear hw
          go_wp2_with fail
          go_roundw
          case rel => exact ⟨s.size + 1, -1, done, by omega, by go_num, rfl, HW.out, hown, hb⟩
          case measure => simp [intOf]
        · have HW := hide (ws_final hw)
          have hj := (ws_in hw).1
          have HX := hide (sub_txt s j s.size)
          clear hw
          go_wp2_with (at_builtin; refine wpList_append_item textTypes wr _ rfl _ _ rfl w.heap.size _ _ (sub s j s.size) HX.out rfl hown rfl (by omega) (by omega) ?_; intro v' w' hown' hb')
          go_roundw
          case rel => exact ⟨s.size + 1, -1, done ++ [sub s j s.size], by omega, by go_num, rfl, HW.out, hown', hb.trans hb'⟩
          case measure => simp [intOf]
    · have HE := hide (ws_end hw hle)
      have hi : ¬ (k : Int) ≤ (s.size : Int) := by omega
      go_wp2_with fail
      go_ret
      exact ⟨_, rfl, by rw [← HE.out]; exact hown, hb⟩

set_option maxHeartbeats 2000000 in
set_option maxRecDepth 100000 in
theorem refCollapse_any (s : ByteArray) (w : World) (hs : s.size ≤ 274877906944) :
    Calls Tryd.prog 14 #[.string s] w fun e w' => e = .returned (.string (collapseS s)) ∧ Below w.heap.size w w' := by
  have hW := fun w => words_any s w hs
  have hcnt := wordsG_count s.data.toList []
  have hjl := joinW_take_le s.data.toList
  have hwl := word_le s.data.toList
  have hj : joinW (wordsG [] s.data.toList) = collapseL s.data.toList := join_words _
  unfold collapseS
  rw [← hj]
  clear hj
  have hsl : s.data.toList.length = s.size := by simp
  rw [hsl] at hcnt hjl hwl
  generalize wordsG [] s.data.toList = ws at *
  have HW := hide hW
  have HJ := hide hjl
  have HL := hide hwl
  clear hW hjl hwl hsl
  go_enter Tryd.func14, Tryd.ntmps14
  go_wp2_with fail
  refine (HW.out _).mono ?_
  rintro e w1 ⟨v, rfl, hv, b1⟩
  have hform : (v = .slice none 0 0 ∧ ws = []) ∨ ∃ g cap, v = .slice (some ⟨g, 0, none⟩) ws.length cap ∧ g < w1.heap.size ∧ ∀ i (h : i < ws.length), w1.cell? ⟨g, i, none⟩ = some (.string (txt ws[i])) := by
    rcases hv.2 with ⟨h1, h2⟩ | ⟨g, cap, cur, h1, h2, h3, h4⟩
    · exact .inl ⟨h1, List.eq_nil_of_length_eq_zero h2⟩
    · refine .inr ⟨g, cap, h1, ?_, fun i h => ?_⟩
      · rcases Nat.lt_or_ge g w1.heap.size with h' | h'
        · exact h'
        · simp [Array.getElem?_eq_none h'] at h3
      · subst h1
        rw [World.ownsRow.cellAt hv i (by omega)]
        simp [cellT, h]
  clear hv
  rcases hform with ⟨rfl, rfl⟩ | ⟨g, cap, rfl, hg, hcells⟩
  · go_wp2_with fail
    go_loop [4, 5] (fun o i => o = .slice none 0 0 ∧ i = .int .i64 0) (fun _ _ => 0)
    case atStart => exact ⟨rfl, rfl⟩
    case round =>
      obtain ⟨rfl, rfl⟩ := hrel
      have hend := (OwnsB.nil 5 w1.heap.size w1).text byteTypes
      go_wp2_with fail
      go_ret
      exact ⟨rfl, b1⟩
  · have HC := hide hcells
    clear hcells
    go_wp2_with fail
    go_loopw [4, 5] (fun o i wr => ∃ k : Nat, k ≤ ws.length ∧ i = .int .i64 k ∧ OwnsB 5 w1.heap.size wr o (joinW (ws.take k)) ∧ Below w1.heap.size w1 wr) (fun _ i _ => ws.length - (intOf i).toNat)
    case atStart => exact ⟨0, Nat.zero_le _, rfl, OwnsB.nil _ _ _, Below.refl _ _⟩
    case round =>
      obtain ⟨k, hk, rfl, hown, hb⟩ := hrel
      have hsz := hb.size
      have hl1 := HJ.out k
      by_cases hlt : k < ws.length
      · have hl2 := HL.out k hlt
        have HT := hide (joinW_take ws k hlt)
        have hc : wr.cell? ⟨g, k, none⟩ = some (.string (txt ws[k])) := (hb.cell (p := ⟨g, k, none⟩) hg).trans (HC.out k hlt)
        have hts : (txt ws[k]).size ≤ 2 * s.size := by rw [txt_size]; exact hl2
        have HD : Hid ((txt ws[k]).data.toList = ws[k]) := txt_data _
        generalize txt ws[k] = tk at *
        by_cases h0 : k = 0
        · subst h0
          rw [if_pos rfl, List.append_nil] at HT
          go_wp2_with (at_builtin; refine wpList_append_text byteTypes wr rfl _ _ rfl w1.heap.size _ _ tk rfl hown rfl (by omega) (by omega) ?_; intro v2 w2 hown2 hb2)
          go_roundw
          case rel => exact ⟨0 + 1, by omega, by go_num, by rw [HT.out, ← HD.out]; exact hown2, hb.trans hb2⟩
          case measure => simp [intOf]; omega
        · rw [if_neg h0] at HT
          have h0i : (0 : Int) < (k : Int) := by omega
          have tok : True := trivial
          go_wp2_with (first | (at_builtin; have _t := tok; refine wpList_append_byte byteTypes wr _ rfl _ _ rfl w1.heap.size _ _ 32 rfl rfl hown rfl (by omega) (by omega) ?_; intro v1 w3 hown1 hb3; clear tok; have hc3 : w3.cell? ⟨g, k, none⟩ = some (.string tk) := (hb3.cell (p := ⟨g, k, none⟩) hg).trans hc; have hsz3 := hb3.size; have hl3 : (joinW (ws.take k) ++ [32]).length ≤ 2 * s.size + 1 := by (rw [List.length_append]; simp; exact hl1)) | (at_builtin; refine wpList_append_text byteTypes w3 rfl _ _ rfl w1.heap.size _ _ tk rfl hown1 rfl (by omega) (by omega) ?_; intro v2 w4 hown2 hb4))
          go_roundw
          case rel => exact ⟨k + 1, by omega, by go_num, by rw [HT.out, ← HD.out]; exact hown2, hb.trans (hb3.trans hb4)⟩
          case measure => simp [intOf]; omega
      · obtain rfl : k = ws.length := by omega
        rw [List.take_length] at hown
        have hend := hown.text byteTypes
        go_wp2_with fail
        go_ret
        exact ⟨rfl, chain b1 hb⟩

end Go.Proofs.YtgfbcooeilodmaaDoor
