/- The document's Form and Unform answer by functions of lists of bytes; they change nothing that was there. Condition: texts of at most 2^40 bytes. -/
import Derived.Test.YtcaoamccnibihaaDoorRefDecWalks
namespace Go.Proofs.YtcaoamccnibihaaDoor
open Go.RowKit

theorem formL_take (s : ByteArray) (k : Nat) (h : k < s.size) : formL (s.data.toList.take (k + 1)) = formL (s.data.toList.take k) ++ formB s[k] := by
  rw [byteAt_take s k h, formL_append, ← byteAt_eq s k h]
  show _ ++ (formB s[k] ++ []) = _
  rw [List.append_nil]
theorem formL_take_len (s : ByteArray) (k : Nat) : (formL (s.data.toList.take k)).length ≤ 3 * k := by
  have := formL_len (s.data.toList.take k)
  have := List.length_take_le k s.data.toList
  omega
theorem one_list (s : ByteArray) (k : Nat) (h : k < s.size) : (s.extract k (k + 1)).data.toList = [s[k]] := by
  have : (s.extract k (k + 1)).data.toList = (s.data.toList.drop k).take (k + 1 - k) := by simp
  rw [this, drop1 s k h, Nat.add_sub_cancel_left]; rfl
theorem enc_one (set : Int) (s : ByteArray) (k : Nat) (h : k < s.size) : encS set (s.extract k (k + 1)) = txt (encB set s[k]) := by
  unfold encS; rw [one_list s k h]
  show txt (encB set s[k] ++ []) = _
  rw [List.append_nil]
theorem one_size (s : ByteArray) (k : Nat) (h : k < s.size) : (s.extract k (k + 1)).size = 1 := by
  rw [ByteArray.size_extract]; omega
theorem unplus_take (s : ByteArray) (k : Nat) (h : k < s.size) : unplus (s.data.toList.take (k + 1)) = unplus (s.data.toList.take k) ++ [if s[k] = 43 then 32 else s[k]] := by
  rw [byteAt_take s k h, unplus_append, ← byteAt_eq s k h]; rfl
theorem unplus_len (l : List UInt8) : (unplus l).length = l.length := by simp [unplus]

set_option maxHeartbeats 400000 in
theorem refForm_any (s : ByteArray) (w : World) (hs : s.size ≤ 1099511627776) :
    Calls Tryd.prog 18 #[.string s] w fun r w' => r = .returned (.string (formS s)) ∧ Below w.heap.size w w' := by
  go_enter Tryd.func18, Tryd.ntmps18
  go_wp2_with fail
  go_loopw [3, 4] (fun v i wr => ∃ k : Nat, k ≤ s.size ∧ i = .int .i64 k ∧ OwnsB 5 w.heap.size wr v (formL (s.data.toList.take k)) ∧ Below w.heap.size w wr) (fun _ i _ => s.size - (intOf i).toNat)
  case atStart => exact ⟨0, Nat.zero_le _, rfl, OwnsB.nil _ _ _, Below.refl _ _⟩
  case round =>
    obtain ⟨k, hk, rfl, hown, hb⟩ := hrel
    by_cases hlt : k < s.size
    · have hle := formL_take_len s k
      have HT := hide (formL_take s k hlt)
      have hsz := hb.size
      have hz := one_size s k hlt
      have hE := fun w => refEncode_any (s.extract k (k + 1)) 7 w (by decide) (by omega)
      rw [enc_one 7 s k hlt] at hE
      have HE := hide hE
      have hi1 : (k : Int) + 1 ≤ (s.size : Int) := by omega
      have hl3 := encB_len 7 s[k]
      clear hE hz
      by_cases h32 : (s[k].toNat : Int) = 32
      · have q : ((s[k].toNat : Int) == 32) = true := by simpa using h32
        have h0 : s[k] = 32 := UInt8.toNat_inj.1 (by show _ = 32; omega)
        have HG : Hid (formB s[k] = [43]) := by rw [h0]; rfl
        clear h32 h0
        go_wp2_with fail
        refine (HE.out _).mono ?_
        rintro e w1 ⟨rfl, b1⟩
        have hown1 := hown.below b1
        have hsz1 := b1.size
        go_wp2_with (at_builtin; refine wpList_append_text byteTypes w1 rfl _ _ rfl w.heap.size _ _ (⟨#[43]⟩ : ByteArray) rfl hown1 rfl (by show _ + 1 ≤ _; omega) (by omega) ?_; intro v2 w2 hown2 hb2)
        go_roundw
        case rel => exact ⟨k + 1, by omega, by go_num, by rw [HT.out, HG.out]; exact hown2, (hb.trans (b1.mono (by omega))).trans hb2⟩
        case measure => simp [intOf]; omega
      · have q : ((s[k].toNat : Int) == 32) = false := by simpa using h32
        have HG : Hid (formB s[k] = encB 7 s[k]) := by unfold formB; rw [if_neg (fun e => h32 (by rw [e]; rfl))]; exact rfl
        clear h32
        go_wp2_with fail
        refine (HE.out _).mono ?_
        rintro e w1 ⟨rfl, b1⟩
        have hown1 := hown.below b1
        have hsz1 := b1.size
        go_wp2_with (at_builtin; refine wpList_append_text byteTypes w1 rfl _ _ rfl w.heap.size _ _ (txt (encB 7 s[k])) rfl hown1 rfl (by rw [txt_size]; omega) (by omega) ?_; intro v2 w2 hown2 hb2)
        go_roundw
        case rel => exact ⟨k + 1, by omega, by go_num, by rw [HT.out, HG.out]; exact hown2, (hb.trans (b1.mono (by omega))).trans hb2⟩
        case measure => simp [intOf]; omega
    · have e : k = s.size := by omega
      subst e
      have ht : s.data.toList.take s.size = s.data.toList := List.take_of_length_le (by simp)
      rw [ht] at hown
      have hend := hown.text byteTypes
      go_wp2
      go_ret
      exact ⟨rfl, hb⟩

set_option maxHeartbeats 400000 in
theorem turned_any (s : ByteArray) (w : World) (hs : s.size ≤ 1099511627776) :
    Calls Tryd.prog 33 #[.string s, .int .u8 43, .int .u8 32] w fun r w' => r = .returned (.string (txt (unplus s.data.toList))) ∧ Below w.heap.size w w' := by
  go_enter Tryd.func33, Tryd.ntmps33
  go_wp2_with fail
  go_loopw [7, 8] (fun v i wr => ∃ k : Nat, k ≤ s.size ∧ i = .int .i64 k ∧ OwnsB 5 w.heap.size wr v (unplus (s.data.toList.take k)) ∧ Below w.heap.size w wr) (fun _ i _ => s.size - (intOf i).toNat)
  case atStart => exact ⟨0, Nat.zero_le _, rfl, OwnsB.nil _ _ _, Below.refl _ _⟩
  case round =>
    obtain ⟨k, hk, rfl, hown, hb⟩ := hrel
    by_cases hlt : k < s.size
    · have hle : (unplus (s.data.toList.take k)).length ≤ k := by rw [unplus_len]; exact List.length_take_le _ _
      have HT := hide (unplus_take s k hlt)
      have hsz := hb.size
      by_cases h43 : (s[k].toNat : Int) = 43
      · have q : ((s[k].toNat : Int) == 43) = true := by simpa using h43
        have h0 : s[k] = 43 := UInt8.toNat_inj.1 (by show _ = 43; omega)
        have HG : Hid ((if s[k] = 43 then (32 : UInt8) else s[k]) = 32) := by rw [if_pos h0]; exact rfl
        clear h43 h0
        go_wp2_with (at_builtin; refine wpList_append_byte byteTypes wr _ rfl _ _ rfl w.heap.size _ _ 32 rfl rfl hown rfl (by omega) (by omega) ?_; intro v1 w1 hown1 hb1)
        go_roundw
        case rel => exact ⟨k + 1, by omega, by go_num, by rw [HT.out, HG.out]; exact hown1, hb.trans hb1⟩
        case measure => simp [intOf]; omega
      · have q : ((s[k].toNat : Int) == 43) = false := by simpa using h43
        have HG : Hid ((if s[k] = 43 then (32 : UInt8) else s[k]) = s[k]) := by rw [if_neg (fun e => h43 (by rw [e]; rfl))]; exact rfl
        clear h43
        go_wp2_with (at_builtin; refine wpList_append_byte byteTypes wr _ rfl _ _ rfl w.heap.size _ _ s[k] rfl rfl hown rfl (by omega) (by omega) ?_; intro v1 w1 hown1 hb1)
        go_roundw
        case rel => exact ⟨k + 1, by omega, by go_num, by rw [HT.out, HG.out]; exact hown1, hb.trans hb1⟩
        case measure => simp [intOf]; omega
    · have e : k = s.size := by omega
      subst e
      have ht : s.data.toList.take s.size = s.data.toList := List.take_of_length_le (by simp)
      rw [ht] at hown
      have hend := hown.text byteTypes
      go_wp2
      go_ret
      exact ⟨rfl, hb⟩

set_option maxHeartbeats 400000 in
theorem refUnform_any (s : ByteArray) (w : World) (hs : s.size ≤ 1099511627776) :
    Calls Tryd.prog 20 #[.string s] w fun r w' => r = .returned (.string (unformS s)) ∧ Below w.heap.size w w' := by
  have hC := fun w => refDecode_any (txt (unplus s.data.toList)) w (by rw [txt_size, unplus_len]; simp; omega)
  have HC := hide hC
  clear hC
  go_enter Tryd.func20, Tryd.ntmps20
  go_wp2_with fail
  refine (turned_any s w hs).mono ?_
  rintro e w1 ⟨rfl, b1⟩
  go_wp2_with fail
  refine (HC.out _).mono ?_
  rintro e w2 ⟨rfl, b2⟩
  go_wp2_with fail
  go_ret
  exact ⟨rfl, chain b1 b2⟩

end Go.Proofs.YtcaoamccnibihaaDoor
