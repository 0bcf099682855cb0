/- The document's Encode answers by encL; it changes nothing that was there. Condition: texts of at most 2^40 bytes. -/
import Derived.Test.YtcaoamccnibihaaDoorRefSets
import Derived.Test.YtcaoamccnibihaaDoorRefDigits
namespace Go.Proofs.YtcaoamccnibihaaDoor
open Go.RowKit

theorem byteTypes : ByteTypes Tryd.prog 38 5 9 := ⟨Tryd.underlying38, Tryd.underlying5, Tryd.underlying9, by kernel_rfl⟩
theorem refL_take (set : Int) (s : ByteArray) (k : Nat) (h : k < s.size) : encL set (s.data.toList.take (k + 1)) = encL set (s.data.toList.take k) ++ encB set s[k] := by
  rw [byteAt_take s k h, encL_append, ← byteAt_eq s k h]
  show _ ++ (encB set s[k] ++ []) = _
  rw [List.append_nil]
theorem refL_take_len (set : Int) (s : ByteArray) (k : Nat) : (encL set (s.data.toList.take k)).length ≤ 3 * k := by
  have := encL_len set (s.data.toList.take k)
  have := List.length_take_le k s.data.toList
  omega

set_option maxHeartbeats 400000 in
theorem refEncode_any (s : ByteArray) (set : Int) (w : World) (hset : 0 ≤ set ∧ set ≤ 7) (hs : s.size ≤ 1099511627776) :
    Calls Tryd.prog 13 #[.string s, .int .i64 set] w fun r w' => r = .returned (.tuple #[.string (encS set s), .int .i64 0]) ∧ Below w.heap.size w w' := by
  obtain ⟨hs0, hs7⟩ := hset
  go_enter Tryd.func13, Tryd.ntmps13
  go_wp2_with fail
  go_loopw [6, 7] (fun v i wr => ∃ k : Nat, k ≤ s.size ∧ i = .int .i64 k ∧ OwnsB 5 w.heap.size wr v (encL set (s.data.toList.take k)) ∧ Below w.heap.size w wr) (fun _ i _ => s.size - (intOf i).toNat)
  case atStart => exact ⟨0, Nat.zero_le _, rfl, OwnsB.nil _ _ _, Below.refl _ _⟩
  case round =>
    obtain ⟨k, hk, rfl, hown, hb⟩ := hrel
    by_cases hlt : k < s.size
    · have hle := refL_take_len set s k
      have HT := hide (refL_take set s k hlt)
      have hsz := hb.size
      have hE := refEscapes_any set s[k] wr
      cases g : escB set s[k] with
      | true =>
        rw [g] at hE
        have HE := hide hE
        have HG := hide (encB_yes g)
        clear hE g
        go_wp2_with fail
        refine HE.out.mono ?_
        rintro e w0 ⟨rfl, hw⟩
        obtain rfl : wr = w0 := hw.symm
        clear hw
        go_wp2_with (at_builtin; refine wpList_append_byte byteTypes wr _ rfl _ _ rfl w.heap.size _ _ 37 rfl rfl hown rfl (by omega) (by omega) ?_; intro v1 w1 hown1 hb1)
        have hsz1 := hb1.size
        refine (refDigits_any s[k] w1).mono ?_
        rintro e w2 ⟨rfl, hb2⟩
        have hsz2 := hb2.size
        have hown2 := hown1.below hb2
        go_wp2_with (at_builtin; refine wpList_append_text byteTypes w2 rfl _ _ rfl w.heap.size _ _ (txt [hexD (s[k].toNat / 16), hexD (s[k].toNat % 16)]) rfl hown2 rfl (by simp [txt_size]; omega) (by omega) ?_; intro v3 w3 hown3 hb3)
        go_roundw
        case rel => exact ⟨k + 1, by omega, by go_num, by rw [HT.out, HG.out]; simpa [txt_data] using hown3, ((hb.trans hb1).trans (hb2.mono (by omega))).trans hb3⟩
        case measure => simp [intOf]; omega
      | false =>
        rw [g] at hE
        have HE := hide hE
        have HG := hide (encB_not g)
        clear hE g
        go_wp2_with fail
        refine HE.out.mono ?_
        rintro e w0 ⟨rfl, hw⟩
        obtain rfl : wr = w0 := hw.symm
        clear hw
        go_wp2_with (at_builtin; refine wpList_append_byte byteTypes wr _ rfl _ _ rfl w.heap.size _ _ s[k] rfl rfl hown rfl (by omega) (by omega) ?_; intro v1 w1 hown1 hb1)
        go_roundw
        case rel => exact ⟨k + 1, by omega, by go_num, by rw [HT.out, HG.out]; exact hown1, hb.trans hb1⟩
        case measure => simp [intOf]; omega
    · have e : k = s.size := by omega
      subst e
      have ht : s.data.toList.take s.size = s.data.toList := List.take_of_length_le (by simp)
      rw [ht] at hown
      have hend := hown.text byteTypes
      go_wp2
      go_ret2
      exact ⟨rfl, hb⟩

set_option maxHeartbeats 400000 in
theorem refEncode_none (s : ByteArray) (set : Int) (w : World) (hset : ¬ (0 ≤ set ∧ set ≤ 7)) :
    Calls Tryd.prog 13 #[.string s, .int .i64 set] w fun r w' => r = .returned (.tuple #[.string ⟨#[]⟩, .int .i64 3]) ∧ w' = w := by
  rcases (show set < 0 ∨ 7 < set by omega) with h | h
  · clear hset
    go_enter Tryd.func13, Tryd.ntmps13
    go_wp2_with fail
    go_ret2
    exact ⟨rfl, rfl⟩
  · clear hset
    go_enter Tryd.func13, Tryd.ntmps13
    go_wp2_with fail
    all_goals first
      | (exfalso; omega)
      | (go_ret2; exact ⟨rfl, rfl⟩)

end Go.Proofs.YtcaoamccnibihaaDoor
