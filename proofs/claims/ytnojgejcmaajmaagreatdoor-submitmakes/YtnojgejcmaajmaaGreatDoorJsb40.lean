/- The document's Escapes answers by escB, for every set and byte. The document's Encode answers by encL; it changes nothing that was there. The document's Form and Unform answer by functions of lists of bytes. The document's Encode of layer 19. The document's Of of layer 21. -/
import Derived.Test.YtnojgejcmaajmaaGreatDoorJsb38
import Derived.Test.YtnojgejcmaajmaaGreatDoorJsb41

namespace Go.Proofs.YtnojgejcmaajmaaGreatDoor
open Go.RowKit
theorem noctl {c : UInt8} (h : 32 ≤ c.toNat) (g : c.toNat ≤ 126) (b : Bool) : (decide ((c.toNat : Int) < 32) || decide (126 < (c.toNat : Int)) || b) = b := by
  rw [decide_eq_false (by omega), decide_eq_false (by omega)]; rfl
set_option maxRecDepth 100000 in
set_option maxHeartbeats 1000000 in
theorem refEscapes_0 (c : UInt8) (w : World) :
    Calls Tryz.prog 202 #[.int .i64 0, .int .u8 (c.toNat : Int)] w fun e w' => e = .returned (.bool (escB 0 c)) ∧ w' = w := by
  rcases (show c.toNat < 32 ∨ 126 < c.toNat ∨ (32 ≤ c.toNat ∧ c.toNat ≤ 126) by omega) with h | h | ⟨h, g⟩
  · rw [escB_ctl (by decide) (.inl h)]
    go_enter Tryz.func202, Tryz.ntmps202
    go_wp2
    all_goals (go_ret; exact ⟨ret_bool (by first | rfl | (simp; omega)), rfl⟩)
  · rw [escB_ctl (by decide) (.inr h)]
    go_enter Tryz.func202, Tryz.ntmps202
    go_wp2
    all_goals (go_ret; exact ⟨ret_bool (by first | rfl | (simp; omega)), rfl⟩)
  · have HE := hide (escB_sign (set := 0) (c := c) (by decide) (by omega))
    go_enter Tryz.func202, Tryz.ntmps202
    go_wp2
    all_goals (go_ret; exact ⟨ret_bool (by rw [HE.out]; first | rfl | (simp [signsOf, hasB]; omega)), rfl⟩)
set_option maxRecDepth 100000 in
set_option maxHeartbeats 1000000 in
theorem refEscapes_1 (c : UInt8) (w : World) :
    Calls Tryz.prog 202 #[.int .i64 1, .int .u8 (c.toNat : Int)] w fun e w' => e = .returned (.bool (escB 1 c)) ∧ w' = w := by
  rcases (show c.toNat < 32 ∨ 126 < c.toNat ∨ (32 ≤ c.toNat ∧ c.toNat ≤ 126) by omega) with h | h | ⟨h, g⟩
  · rw [escB_ctl (by decide) (.inl h)]
    go_enter Tryz.func202, Tryz.ntmps202
    go_wp2
    all_goals (go_ret; exact ⟨ret_bool (by first | rfl | (simp; omega)), rfl⟩)
  · rw [escB_ctl (by decide) (.inr h)]
    go_enter Tryz.func202, Tryz.ntmps202
    go_wp2
    all_goals (go_ret; exact ⟨ret_bool (by first | rfl | (simp; omega)), rfl⟩)
  · have HE := hide (escB_sign (set := 1) (c := c) (by decide) (by omega))
    go_enter Tryz.func202, Tryz.ntmps202
    go_wp2_with fail
    refine (refIn_any c _ _ ?hsz).mono ?_
    case hsz => decide
    rintro e w1 ⟨rfl, rfl⟩
    go_wp2_with fail
    all_goals (go_ret; exact ⟨ret_bool ((noctl h g _).trans HE.out.symm), rfl⟩)
set_option maxRecDepth 100000 in
set_option maxHeartbeats 1000000 in
theorem refEscapes_2 (c : UInt8) (w : World) :
    Calls Tryz.prog 202 #[.int .i64 2, .int .u8 (c.toNat : Int)] w fun e w' => e = .returned (.bool (escB 2 c)) ∧ w' = w := by
  rcases (show c.toNat < 32 ∨ 126 < c.toNat ∨ (32 ≤ c.toNat ∧ c.toNat ≤ 126) by omega) with h | h | ⟨h, g⟩
  · rw [escB_ctl (by decide) (.inl h)]
    go_enter Tryz.func202, Tryz.ntmps202
    go_wp2
    all_goals (go_ret; exact ⟨ret_bool (by first | rfl | (simp; omega)), rfl⟩)
  · rw [escB_ctl (by decide) (.inr h)]
    go_enter Tryz.func202, Tryz.ntmps202
    go_wp2
    all_goals (go_ret; exact ⟨ret_bool (by first | rfl | (simp; omega)), rfl⟩)
  · have HE := hide (escB_sign (set := 2) (c := c) (by decide) (by omega))
    go_enter Tryz.func202, Tryz.ntmps202
    go_wp2_with fail
    refine (refIn_any c _ _ ?hsz).mono ?_
    case hsz => decide
    rintro e w1 ⟨rfl, rfl⟩
    go_wp2_with fail
    all_goals (go_ret; exact ⟨ret_bool ((noctl h g _).trans HE.out.symm), rfl⟩)
set_option maxRecDepth 100000 in
set_option maxHeartbeats 1000000 in
theorem refEscapes_3 (c : UInt8) (w : World) :
    Calls Tryz.prog 202 #[.int .i64 3, .int .u8 (c.toNat : Int)] w fun e w' => e = .returned (.bool (escB 3 c)) ∧ w' = w := by
  rcases (show c.toNat < 32 ∨ 126 < c.toNat ∨ (32 ≤ c.toNat ∧ c.toNat ≤ 126) by omega) with h | h | ⟨h, g⟩
  · rw [escB_ctl (by decide) (.inl h)]
    go_enter Tryz.func202, Tryz.ntmps202
    go_wp2
    all_goals (go_ret; exact ⟨ret_bool (by first | rfl | (simp; omega)), rfl⟩)
  · rw [escB_ctl (by decide) (.inr h)]
    go_enter Tryz.func202, Tryz.ntmps202
    go_wp2
    all_goals (go_ret; exact ⟨ret_bool (by first | rfl | (simp; omega)), rfl⟩)
  · have HE := hide (escB_sign (set := 3) (c := c) (by decide) (by omega))
    go_enter Tryz.func202, Tryz.ntmps202
    go_wp2_with fail
    refine (refIn_any c _ _ ?hsz).mono ?_
    case hsz => decide
    rintro e w1 ⟨rfl, rfl⟩
    go_wp2_with fail
    all_goals (go_ret; exact ⟨ret_bool ((noctl h g _).trans HE.out.symm), rfl⟩)
set_option maxRecDepth 100000 in
set_option maxHeartbeats 1000000 in
theorem refEscapes_4 (c : UInt8) (w : World) :
    Calls Tryz.prog 202 #[.int .i64 4, .int .u8 (c.toNat : Int)] w fun e w' => e = .returned (.bool (escB 4 c)) ∧ w' = w := by
  rcases (show c.toNat < 32 ∨ 126 < c.toNat ∨ (32 ≤ c.toNat ∧ c.toNat ≤ 126) by omega) with h | h | ⟨h, g⟩
  · rw [escB_ctl (by decide) (.inl h)]
    go_enter Tryz.func202, Tryz.ntmps202
    go_wp2
    all_goals (go_ret; exact ⟨ret_bool (by first | rfl | (simp; omega)), rfl⟩)
  · rw [escB_ctl (by decide) (.inr h)]
    go_enter Tryz.func202, Tryz.ntmps202
    go_wp2
    all_goals (go_ret; exact ⟨ret_bool (by first | rfl | (simp; omega)), rfl⟩)
  · have HE := hide (escB_sign (set := 4) (c := c) (by decide) (by omega))
    go_enter Tryz.func202, Tryz.ntmps202
    go_wp2_with fail
    refine (refIn_any c _ _ ?hsz).mono ?_
    case hsz => decide
    rintro e w1 ⟨rfl, rfl⟩
    go_wp2_with fail
    all_goals (go_ret; exact ⟨ret_bool ((noctl h g _).trans HE.out.symm), rfl⟩)
set_option maxRecDepth 100000 in
set_option maxHeartbeats 1000000 in
theorem refEscapes_5 (c : UInt8) (w : World) :
    Calls Tryz.prog 202 #[.int .i64 5, .int .u8 (c.toNat : Int)] w fun e w' => e = .returned (.bool (escB 5 c)) ∧ w' = w := by
  rcases (show c.toNat < 32 ∨ 126 < c.toNat ∨ (32 ≤ c.toNat ∧ c.toNat ≤ 126) by omega) with h | h | ⟨h, g⟩
  · rw [escB_ctl (by decide) (.inl h)]
    go_enter Tryz.func202, Tryz.ntmps202
    go_wp2
    all_goals (go_ret; exact ⟨ret_bool (by first | rfl | (simp; omega)), rfl⟩)
  · rw [escB_ctl (by decide) (.inr h)]
    go_enter Tryz.func202, Tryz.ntmps202
    go_wp2
    all_goals (go_ret; exact ⟨ret_bool (by first | rfl | (simp; omega)), rfl⟩)
  · have HE := hide (escB_sign (set := 5) (c := c) (by decide) (by omega))
    go_enter Tryz.func202, Tryz.ntmps202
    go_wp2_with fail
    refine (refIn_any c _ _ ?hsz).mono ?_
    case hsz => decide
    rintro e w1 ⟨rfl, rfl⟩
    go_wp2_with fail
    all_goals (go_ret; exact ⟨ret_bool ((noctl h g _).trans HE.out.symm), rfl⟩)
set_option maxRecDepth 100000 in
set_option maxHeartbeats 1000000 in
theorem refEscapes_6 (c : UInt8) (w : World) :
    Calls Tryz.prog 202 #[.int .i64 6, .int .u8 (c.toNat : Int)] w fun e w' => e = .returned (.bool (escB 6 c)) ∧ w' = w := by
  rcases (show c.toNat < 32 ∨ 126 < c.toNat ∨ (32 ≤ c.toNat ∧ c.toNat ≤ 126) by omega) with h | h | ⟨h, g⟩
  · rw [escB_ctl (by decide) (.inl h)]
    go_enter Tryz.func202, Tryz.ntmps202
    go_wp2
    all_goals (go_ret; exact ⟨ret_bool (by first | rfl | (simp; omega)), rfl⟩)
  · rw [escB_ctl (by decide) (.inr h)]
    go_enter Tryz.func202, Tryz.ntmps202
    go_wp2
    all_goals (go_ret; exact ⟨ret_bool (by first | rfl | (simp; omega)), rfl⟩)
  · have HE := hide (escB_sign (set := 6) (c := c) (by decide) (by omega))
    go_enter Tryz.func202, Tryz.ntmps202
    go_wp2_with fail
    refine (refIn_any c _ _ ?hsz).mono ?_
    case hsz => decide
    rintro e w1 ⟨rfl, rfl⟩
    go_wp2_with fail
    all_goals (go_ret; exact ⟨ret_bool ((noctl h g _).trans HE.out.symm), rfl⟩)
set_option maxRecDepth 100000 in
set_option maxHeartbeats 1000000 in
theorem refEscapes_7 (c : UInt8) (w : World) :
    Calls Tryz.prog 202 #[.int .i64 7, .int .u8 (c.toNat : Int)] w fun e w' => e = .returned (.bool (escB 7 c)) ∧ w' = w := by
  rw [escB_form_all]
  have hP := fun w => refPlain_any c w
  cases h : plainB c with
  | true =>
    rw [h] at hP
    have HP := hide hP
    clear hP h
    go_enter Tryz.func202, Tryz.ntmps202
    go_wp2_with fail
    refine (HP.out _).mono ?_
    rintro e w1 ⟨rfl, rfl⟩
    go_wp2_with fail
    go_ret
    exact ⟨rfl, rfl⟩
  | false =>
    rw [h] at hP
    have HP := hide hP
    clear hP h
    go_enter Tryz.func202, Tryz.ntmps202
    go_wp2_with fail
    refine (HP.out _).mono ?_
    rintro e w1 ⟨rfl, rfl⟩
    go_wp2_with fail
    refine (refIn_any c _ _ ?hsz).mono ?_
    case hsz => decide
    rintro e w1 ⟨rfl, rfl⟩
    go_wp2_with fail
    go_ret
    exact ⟨rfl, rfl⟩
set_option maxRecDepth 100000 in
set_option maxHeartbeats 1000000 in
theorem refEscapes_any (set : Int) (c : UInt8) (w : World) :
    Calls Tryz.prog 202 #[.int .i64 set, .int .u8 (c.toNat : Int)] w fun e w' => e = .returned (.bool (escB set c)) ∧ w' = w := by
  rcases (show set = 0 ∨ set = 1 ∨ set = 2 ∨ set = 3 ∨ set = 4 ∨ set = 5 ∨ set = 6 ∨ set = 7 ∨ set < 0 ∨ 7 < set by omega) with rfl | rfl | rfl | rfl | rfl | rfl | rfl | rfl | h | h
  · exact refEscapes_0 c w
  · exact refEscapes_1 c w
  · exact refEscapes_2 c w
  · exact refEscapes_3 c w
  · exact refEscapes_4 c w
  · exact refEscapes_5 c w
  · exact refEscapes_6 c w
  · exact refEscapes_7 c w
  · rw [escB_no c (by omega)]
    go_enter Tryz.func202, Tryz.ntmps202
    go_wp2
    go_ret
    exact ⟨rfl, rfl⟩
  · rw [escB_no c (by omega)]
    go_enter Tryz.func202, Tryz.ntmps202
    go_wp2
    go_ret
    exact ⟨rfl, rfl⟩
end Go.Proofs.YtnojgejcmaajmaaGreatDoor

namespace Go.Proofs.YtnojgejcmaajmaaGreatDoor
open Go.RowKit
set_option maxRecDepth 100000
theorem refL_take (set : Int) (s : ByteArray) (k : Nat) (h : k < s.size) : encL set (s.data.toList.take (k + 1)) = encL set (s.data.toList.take k) ++ encB set s[k] := by
  rw [byteAt_take s k h, encL_append, ← byteAt_eq s k h]
  show _ ++ (encB set s[k] ++ []) = _
  rw [List.append_nil]
theorem refL_take_len (set : Int) (s : ByteArray) (k : Nat) : (encL set (s.data.toList.take k)).length ≤ 3 * k := by
  have := encL_len set (s.data.toList.take k)
  have := List.length_take_le k s.data.toList
  omega
set_option maxHeartbeats 400000 in
theorem refEncode_any (s : ByteArray) (set : Int) (w : World) (hset : 0 ≤ set ∧ set ≤ 7) (hs : s.size ≤ 1099511627776) :
    Calls Tryz.prog 152 #[.string s, .int .i64 set] w fun r w' => r = .returned (.tuple #[.string (encS set s), .int .i64 0]) ∧ Below w.heap.size w w' := by
  obtain ⟨hs0, hs7⟩ := hset
  go_enter Tryz.func152, Tryz.ntmps152
  go_wp2_with fail
  go_loopw [6, 7] (fun v i wr => ∃ k : Nat, k ≤ s.size ∧ i = .int .i64 k ∧ OwnsB 5 w.heap.size wr v (encL set (s.data.toList.take k)) ∧ Below w.heap.size w wr) (fun _ i _ => s.size - (intOf i).toNat)
  case atStart => exact ⟨0, Nat.zero_le _, rfl, OwnsB.nil _ _ _, Below.refl _ _⟩
  case round =>
    obtain ⟨k, hk, rfl, hown, hb⟩ := hrel
    by_cases hlt : k < s.size
    · have hle := refL_take_len set s k
      have HT := hide (refL_take set s k hlt)
      have hsz := hb.size
      have hE := refEscapes_any set s[k] wr
      cases g : escB set s[k] with
      | true =>
        rw [g] at hE
        have HE := hide hE
        have HG := hide (encB_yes g)
        clear hE g
        go_wp2_with fail
        refine HE.out.mono ?_
        rintro e w0 ⟨rfl, hw⟩
        obtain rfl : wr = w0 := hw.symm
        clear hw
        go_wp2_with (at_builtin; refine wpList_append_byte byteTypes wr _ rfl _ _ rfl w.heap.size _ _ 37 rfl rfl hown rfl (by omega) (by omega) ?_; intro v1 w1 hown1 hb1)
        have hsz1 := hb1.size
        refine (refHexD_any s[k] w1).mono ?_
        rintro e w2 ⟨rfl, hb2⟩
        have hsz2 := hb2.size
        have hown2 := hown1.below hb2
        go_wp2_with (at_builtin; refine wpList_append_text byteTypes w2 rfl _ _ rfl w.heap.size _ _ (txt [hexD (s[k].toNat / 16), hexD (s[k].toNat % 16)]) rfl hown2 rfl (by simp [txt_size]; omega) (by omega) ?_; intro v3 w3 hown3 hb3)
        go_roundw
        case rel => exact ⟨k + 1, by omega, by go_num, by rw [HT.out, HG.out]; simpa [txt_data] using hown3, ((hb.trans hb1).trans (hb2.mono (by omega))).trans hb3⟩
        case measure => simp [intOf]; omega
      | false =>
        rw [g] at hE
        have HE := hide hE
        have HG := hide (encB_not g)
        clear hE g
        go_wp2_with fail
        refine HE.out.mono ?_
        rintro e w0 ⟨rfl, hw⟩
        obtain rfl : wr = w0 := hw.symm
        clear hw
        go_wp2_with (at_builtin; refine wpList_append_byte byteTypes wr _ rfl _ _ rfl w.heap.size _ _ s[k] rfl rfl hown rfl (by omega) (by omega) ?_; intro v1 w1 hown1 hb1)
        go_roundw
        case rel => exact ⟨k + 1, by omega, by go_num, by rw [HT.out, HG.out]; exact hown1, hb.trans hb1⟩
        case measure => simp [intOf]; omega
    · have e : k = s.size := by omega
      subst e
      have ht : s.data.toList.take s.size = s.data.toList := List.take_of_length_le (by simp)
      rw [ht] at hown
      have hend := hown.text byteTypes
      go_wp2
      go_ret2
      exact ⟨rfl, hb⟩
end Go.Proofs.YtnojgejcmaajmaaGreatDoor

namespace Go.Proofs.YtnojgejcmaajmaaGreatDoor
open Go.RowKit
set_option maxRecDepth 100000
theorem formL_take (s : ByteArray) (k : Nat) (h : k < s.size) : formL (s.data.toList.take (k + 1)) = formL (s.data.toList.take k) ++ formB s[k] := by
  rw [byteAt_take s k h, formL_append, ← byteAt_eq s k h]
  show _ ++ (formB s[k] ++ []) = _
  rw [List.append_nil]
theorem formL_take_len (s : ByteArray) (k : Nat) : (formL (s.data.toList.take k)).length ≤ 3 * k := by
  have := formL_len (s.data.toList.take k)
  have := List.length_take_le k s.data.toList
  omega
theorem one_list (s : ByteArray) (k : Nat) (h : k < s.size) : (s.extract k (k + 1)).data.toList = [s[k]] := by
  have : (s.extract k (k + 1)).data.toList = (s.data.toList.drop k).take (k + 1 - k) := by simp
  rw [this, drop1 s k h, Nat.add_sub_cancel_left]; rfl
theorem enc_one (set : Int) (s : ByteArray) (k : Nat) (h : k < s.size) : encS set (s.extract k (k + 1)) = txt (encB set s[k]) := by
  unfold encS; rw [one_list s k h]
  show txt (encB set s[k] ++ []) = _
  rw [List.append_nil]
theorem one_size (s : ByteArray) (k : Nat) (h : k < s.size) : (s.extract k (k + 1)).size = 1 := by
  rw [ByteArray.size_extract]; omega
set_option maxHeartbeats 400000 in
theorem refForm_any_RefFormWalks (s : ByteArray) (w : World) (hs : s.size ≤ 1099511627776) :
    Calls Tryz.prog 90 #[.string s] w fun r w' => r = .returned (.string (formS s)) ∧ Below w.heap.size w w' := by
  go_enter Tryz.func90, Tryz.ntmps90
  go_wp2_with fail
  go_loopw [3, 4] (fun v i wr => ∃ k : Nat, k ≤ s.size ∧ i = .int .i64 k ∧ OwnsB 5 w.heap.size wr v (formL (s.data.toList.take k)) ∧ Below w.heap.size w wr) (fun _ i _ => s.size - (intOf i).toNat)
  case atStart => exact ⟨0, Nat.zero_le _, rfl, OwnsB.nil _ _ _, Below.refl _ _⟩
  case round =>
    obtain ⟨k, hk, rfl, hown, hb⟩ := hrel
    by_cases hlt : k < s.size
    · have hle := formL_take_len s k
      have HT := hide (formL_take s k hlt)
      have hsz := hb.size
      have hz := one_size s k hlt
      have hE := fun w => refEncode_any (s.extract k (k + 1)) 7 w (by decide) (by omega)
      rw [enc_one 7 s k hlt] at hE
      have HE := hide hE
      have hi1 : (k : Int) + 1 ≤ (s.size : Int) := by omega
      have hl3 := encB_len 7 s[k]
      clear hE hz
      by_cases h32 : (s[k].toNat : Int) = 32
      · have q : ((s[k].toNat : Int) == 32) = true := by simpa using h32
        have h0 : s[k] = 32 := UInt8.toNat_inj.1 (by show _ = 32; omega)
        have HG : Hid (formB s[k] = [43]) := by rw [h0]; rfl
        clear h32 h0
        go_wp2_with fail
        refine (HE.out _).mono ?_
        rintro e w1 ⟨rfl, b1⟩
        have hown1 := hown.below b1
        have hsz1 := b1.size
        go_wp2_with (at_builtin; refine wpList_append_text byteTypes w1 rfl _ _ rfl w.heap.size _ _ (⟨#[43]⟩ : ByteArray) rfl hown1 rfl (by show _ + 1 ≤ _; omega) (by omega) ?_; intro v2 w2 hown2 hb2)
        go_roundw
        case rel => exact ⟨k + 1, by omega, by go_num, by rw [HT.out, HG.out]; exact hown2, (hb.trans (b1.mono (by omega))).trans hb2⟩
        case measure => simp [intOf]; omega
      · have q : ((s[k].toNat : Int) == 32) = false := by simpa using h32
        have HG : Hid (formB s[k] = encB 7 s[k]) := by unfold formB; rw [if_neg (fun e => h32 (by rw [e]; rfl))]; exact rfl
        clear h32
        go_wp2_with fail
        refine (HE.out _).mono ?_
        rintro e w1 ⟨rfl, b1⟩
        have hown1 := hown.below b1
        have hsz1 := b1.size
        go_wp2_with (at_builtin; refine wpList_append_text byteTypes w1 rfl _ _ rfl w.heap.size _ _ (txt (encB 7 s[k])) rfl hown1 rfl (by rw [txt_size]; omega) (by omega) ?_; intro v2 w2 hown2 hb2)
        go_roundw
        case rel => exact ⟨k + 1, by omega, by go_num, by rw [HT.out, HG.out]; exact hown2, (hb.trans (b1.mono (by omega))).trans hb2⟩
        case measure => simp [intOf]; omega
    · have e : k = s.size := by omega
      subst e
      have ht : s.data.toList.take s.size = s.data.toList := List.take_of_length_le (by simp)
      rw [ht] at hown
      have hend := hown.text byteTypes
      go_wp2
      go_ret
      exact ⟨rfl, hb⟩
end Go.Proofs.YtnojgejcmaajmaaGreatDoor

namespace Go.Proofs.YtnojgejcmaajmaaGreatDoor
open Go.RowKit
set_option maxRecDepth 100000
set_option maxHeartbeats 8000000 in
theorem refEncode19_any (n : Nat) (v : Value) (l : List En) (w : World) (hv : FilesV w v l) (hn : n ≤ 1000000) (hl : EnsOK n l) :
    Calls Tryz.prog 38 #[v] w fun e w' => e = .returned (.string (urlS l)) ∧ Below w.heap.size w w' := by
  have HP := hide (refPlain19_any n v l w hv (by omega) hl)
  have PS := hide (plain_sizes hl)
  have PN : Hid ((plainU l).length ≤ 200) := by show _ ≤ _; unfold plainU; rw [List.length_map]; exact hl.len
  have PT := hide (fun k => encT_len PS.out PN.out k)
  have EE : Hid (txt (encT (plainU l) (plainU l).length) = urlS l) := by show _ = _; unfold encT; rw [List.take_length]; rfl
  obtain ⟨pl, cl, rfl⟩ : ∃ p c, v = .slice p l.length c := by obtain ⟨p, c, e, _⟩ := hv; exact ⟨p, c, e⟩
  have p200 := PN.out
  generalize plainU l = p at *
  generalize urlS l = RES at *
  clear hv hl PN
  go_enter Tryz.func38, Tryz.ntmps38
  go_wp2_with fail
  refine HP.out.mono ?_
  rintro e wp ⟨vp, rfl, op, bp⟩
  have PF := hide op.files
  obtain ⟨q, cq, rfl⟩ := op.form
  have BP := hide bp
  clear op bp HP
  go_wp2_with fail
  go_loopw [3, 5] (fun ov iv wr => ∃ k : Nat, k ≤ p.length ∧ iv = .int .i64 k ∧ OwnsB 5 wp.heap.size wr ov (encT p k) ∧ Hid (Below wp.heap.size wp wr)) (fun _ iv _ => p.length - (intOf iv).toNat)
  case atStart => exact ⟨0, Nat.zero_le _, rfl, OwnsB.nil _ _ _, Below.refl _ _⟩
  case round =>
    rename World => wr
    obtain ⟨k, hk, rfl, OW, BW⟩ := hrel
    by_cases g : k < p.length
    · have k1 : (k : Int) < (p.length : Int) := by omega
      have k0 : (0 : Int) ≤ (k : Int) := by omega
      obtain ⟨q', c', eq, hq⟩ := PF.out
      cases eq
      obtain ⟨b, o, rfl, hc⟩ : ∃ b o, q = some ⟨b, o, none⟩ ∧ ∀ i (h : i < p.length), EnAt wp b (o + i * 5) p[i] := by
        rcases hq with t | t
        · rw [t] at g; simp at g
        · exact t
      have EA := hide (hc k g)
      have sz := PS.out _ (List.getElem_mem g)
      have L0 := PT.out k
      have s0 := formS_len p[k].name
      have s1 := formS_len p[k].val
      have H0 := hide (fun W => refForm_any_RefFormWalks p[k].name W (by omega))
      have H1 := hide (fun W => refForm_any_RefFormWalks p[k].val W (by omega))
      have sw := BW.out.size
      by_cases kz : k = 0
      · have EX : Hid (encT p (k + 1) = (([] ++ (formS p[k].name).data.toList) ++ [(61 : UInt8)]) ++ (formS p[k].val).data.toList) := by
          show _ = _
          subst kz
          exact encT_first g
        have OE : encT p k = [] := by rw [kz]; rfl
        rw [OE] at OW
        have d0 : decide (0 < (k : Int)) = false := decide_eq_false (by omega)
        have d1 : ¬ 0 < k := by omega
        clear hc hq PS PT PF EE L0 kz OE
        obtain ⟨sz0, sz1⟩ := sz
        generalize formS p[k].name = f0 at *
        generalize formS p[k].val = f1 at *
        have sf0 : f0.size ≤ 6000000 := by omega
        have sf1 : f1.size ≤ 6000000 := by omega
        clear s0 s1 sz0 sz1
        have WA := hide BW.out
        have oz := OW
        have a0 := (EA.out.below WA.out).c0
        go_wp2_with fail
        refine (H0.out _).mono ?_
        rintro e w2 ⟨rfl, b2⟩
        have o2 := OwnsB.below oz b2
        have W2 := hide (chain WA.out b2)
        have m2 := W2.out.size
        clear b2 H0
        go_wp2_with (first | (at_builtin; refine wpList_append_text byteTypes w2 rfl _ _ rfl wp.heap.size _ [] f0 rfl o2 rfl (by simp only [List.length_nil]; omega) (by omega) ?_; intro v3 w3 o3 b3; have W3 : Hid (Below wp.heap.size wp w3) := W2.out.trans b3; have m3 := W3.out.size) | (at_builtin; refine wpList_append_byte byteTypes w3 _ rfl _ _ rfl wp.heap.size _ ([] ++ f0.data.toList) (61 : UInt8) rfl rfl o3 rfl (by simp only [List.length_append, List.length_nil, Array.length_toList, ByteArray.size_data]; omega) (by omega) ?_; intro v4 w4 o4 b4; have W4 : Hid (Below wp.heap.size wp w4) := W3.out.trans b4; have a1 := (EA.out.below W4.out).c1))
        refine (H1.out _).mono ?_
        rintro e w5 ⟨rfl, b5⟩
        have o5 := OwnsB.below o4 b5
        have W5 := hide (chain W4.out b5)
        have m5 := W5.out.size
        clear b5 H1
        go_wp2_with (at_builtin; refine wpList_append_text byteTypes w5 rfl _ _ rfl wp.heap.size _ (([] ++ f0.data.toList) ++ [61]) f1 rfl o5 rfl (by simp only [List.length_append, List.length_cons, List.length_nil, Array.length_toList, ByteArray.size_data]; omega) (by omega) ?_; intro v6 w6 o6 b6)
        have W6 : Hid (Below wp.heap.size wp w6) := W5.out.trans b6
        rw [← EX.out] at o6
        go_roundw
        case rel => exact ⟨k + 1, by omega, by go_num, o6, W6⟩
        case measure => simp [intOf]; omega
      · have EX : Hid (encT p (k + 1) = (((encT p k ++ [(38 : UInt8)]) ++ (formS p[k].name).data.toList) ++ [(61 : UInt8)]) ++ (formS p[k].val).data.toList) := encT_next g (by omega)
        clear hc hq PS PT PF EE
        obtain ⟨sz0, sz1⟩ := sz
        generalize encT p k = C at *
        generalize formS p[k].name = f0 at *
        generalize formS p[k].val = f1 at *
        have sf0 : f0.size ≤ 6000000 := by omega
        have sf1 : f1.size ≤ 6000000 := by omega
        have LC : C.length ≤ 4000000000 := by omega
        clear s0 s1 sz0 sz1 L0
        have d0 : decide (0 < (k : Int)) = true := decide_eq_true (by omega)
        have a0 := (EA.out.below BW.out).c0
        have sw := BW.out.size
        go_wp2_with (at_builtin; refine wpList_append_byte byteTypes wr _ rfl _ _ rfl wp.heap.size _ C (38 : UInt8) rfl rfl OW rfl (by omega) (by omega) ?_; intro vz wz oz bz; have WA : Hid (Below wp.heap.size wp wz) := BW.out.trans bz; have a0z := (EA.out.below WA.out).c0)
        refine (H0.out _).mono ?_
        rintro e w2 ⟨rfl, b2⟩
        have o2 := OwnsB.below oz b2
        have W2 := hide (chain WA.out b2)
        have m2 := W2.out.size
        clear b2 H0
        go_wp2_with (first | (at_builtin; refine wpList_append_text byteTypes w2 rfl _ _ rfl wp.heap.size _ (C ++ [38]) f0 rfl o2 rfl (by simp only [List.length_append, List.length_cons, List.length_nil]; omega) (by omega) ?_; intro v3 w3 o3 b3; have W3 : Hid (Below wp.heap.size wp w3) := W2.out.trans b3; have m3 := W3.out.size) | (at_builtin; refine wpList_append_byte byteTypes w3 _ rfl _ _ rfl wp.heap.size _ ((C ++ [38]) ++ f0.data.toList) (61 : UInt8) rfl rfl o3 rfl (by simp only [List.length_append, List.length_cons, List.length_nil, Array.length_toList, ByteArray.size_data]; omega) (by omega) ?_; intro v4 w4 o4 b4; have W4 : Hid (Below wp.heap.size wp w4) := W3.out.trans b4; have a1 := (EA.out.below W4.out).c1))
        refine (H1.out _).mono ?_
        rintro e w5 ⟨rfl, b5⟩
        have o5 := OwnsB.below o4 b5
        have W5 := hide (chain W4.out b5)
        have m5 := W5.out.size
        clear b5 H1
        go_wp2_with (at_builtin; refine wpList_append_text byteTypes w5 rfl _ _ rfl wp.heap.size _ (((C ++ [38]) ++ f0.data.toList) ++ [61]) f1 rfl o5 rfl (by simp only [List.length_append, List.length_cons, List.length_nil, Array.length_toList, ByteArray.size_data]; omega) (by omega) ?_; intro v6 w6 o6 b6)
        have W6 : Hid (Below wp.heap.size wp w6) := W5.out.trans b6
        rw [← EX.out] at o6
        go_roundw
        case rel => exact ⟨k + 1, by omega, by go_num, o6, W6⟩
        case measure => simp [intOf]; omega
    · obtain rfl : k = p.length := by omega
      have hend := OW.text byteTypes
      rw [EE.out] at hend
      clear PF PS PT EE
      go_wp2_with fail
      go_ret
      exact ⟨rfl, chain BP.out BW.out⟩
end Go.Proofs.YtnojgejcmaajmaaGreatDoor

namespace Go.Proofs.YtnojgejcmaajmaaGreatDoor
open Go.RowKit
set_option maxRecDepth 100000
theorem ret_bod {a b c d : ByteArray} {e f : Int} (h1 : a = b) (h2 : c = d) (h3 : e = f) : Ending.returned (.agg #[.string a, .string c, .int .i64 e]) = .returned (.agg #[.string b, .string d, .int .i64 f]) := by rw [h1, h2, h3]
set_option maxHeartbeats 8000000 in
theorem refOf21_any (n : Nat) (kind : Int) (v : Value) (l : List En) (b : ByteArray) (w : World) (hv : FilesV w v l) (hn : n ≤ 1000000) (hl : EnsOK n l) (hb : b.size ≤ 1000) :
    Calls Tryz.prog 43 #[.int .i64 kind, v, .string b] w fun e w' => e = .returned (.agg #[.string (bodT kind l b), .string (bodY kind l b), .int .i64 (bodE kind l b)]) ∧ Below w.heap.size w w' := by
  have H1 := hide (fun W (hb' : Below w.heap.size w W) => refEncode19_any n v l W (hv.below hb') hn hl)
  have H2 := hide (fun W (hb' : Below w.heap.size w W) => refEncode20_any n v l b W (hv.below hb') hn hl hb)
  have H3 := hide (fun W (hb' : Below w.heap.size w W) => refEncode21_any n v l W (hv.below hb') hn hl)
  obtain ⟨p, c, rfl⟩ := files_formP hv
  have KR := hide (Bk.new w [.string ⟨#[]⟩, .string ⟨#[]⟩, .int .i64 0] 73)
  have B0 : Hid (Below w.heap.size w (w.alloc (.cells #[.string ⟨#[]⟩, .string ⟨#[]⟩, .int .i64 0] 73))) := (Below.refl _ w).alloc (Nat.le_refl _) _
  clear hv hl
  by_cases h1 : kind = 1
  · have E1 : Hid (bodT kind l b = urlS l) := by show _ = _; unfold bodT; rw [if_pos h1]
    have E2 : Hid (bodY kind l b = uY) := by show _ = _; unfold bodY; rw [if_pos h1]
    have E3 : Hid (bodE kind l b = 0) := by show _ = _; unfold bodE; rw [if_pos h1]
    have q1 : (kind == 1) = true := by rw [h1]; rfl
    clear H2 H3 h1
    generalize urlS l = us at *
    rw [show uY = ⟨#[97, 112, 112, 108, 105, 99, 97, 116, 105, 111, 110, 47, 120, 45, 119, 119, 119, 45, 102, 111, 114, 109, 45, 117, 114, 108, 101, 110, 99, 111, 100, 101, 100]⟩ from rfl] at E2
    go_enter Tryz.func43, Tryz.ntmps43
    go_wp2_with fail
    refine (H1.out _ B0.out).mono ?_
    rintro e w1 ⟨rfl, b1⟩
    have K1 := hide (KR.out.below b1)
    have B1 := hide (chain B0.out b1)
    have r0 := K1.out.cell 0 rfl
    have s0 := K1.out.free 0
    have r1 := K1.out.cell 1 rfl
    have s1 := K1.out.free 1
    have r2 := K1.out.cell 2 rfl
    have s2 := K1.out.free 2
    go_wp2_with fail
    refine bodyPost_ret (v := .agg #[.string us, .string ⟨#[97, 112, 112, 108, 105, 99, 97, 116, 105, 111, 110, 47, 120, 45, 119, 119, 119, 45, 102, 111, 114, 109, 45, 117, 114, 108, 101, 110, 99, 111, 100, 101, 100]⟩, .int .i64 0]) (by simp [results, go_sem, r0, r1, r2]) rfl ?_
    exact ⟨ret_bod E1.out.symm E2.out.symm E3.out.symm, (((B1.out.setCell (p := ⟨w.heap.size, 0, none⟩) (Nat.le_refl _) _).setCell (p := ⟨w.heap.size, 1, none⟩) (Nat.le_refl _) _).setCell (p := ⟨w.heap.size, 2, none⟩) (Nat.le_refl _) _)⟩
  · by_cases h2 : kind = 2
    · cases cl : clrL l (bL b) with
      | true =>
        have E1 : Hid (bodT kind l b = encT20 l b) := by show _ = _; unfold bodT; rw [if_neg h1, if_pos h2]
        have E2 : Hid (bodY kind l b = mY ++ b) := by show _ = _; unfold bodY; rw [if_neg h1, if_pos h2, cl]; rfl
        have E3 : Hid (bodE kind l b = 0) := by show _ = _; unfold bodE encE20; rw [if_neg h1, if_pos h2, cl]; rfl
        rw [show encE20 l b = 0 by unfold encE20; rw [cl]; rfl] at H2
        have q1 : (kind == 1) = false := beq_eq_false_iff_ne.2 h1
        have q2 : (kind == 2) = true := by rw [h2]; rfl
        clear H1 H3 h1 h2 cl
        generalize encT20 l b = us at *
        rw [show mY = ⟨#[109, 117, 108, 116, 105, 112, 97, 114, 116, 47, 102, 111, 114, 109, 45, 100, 97, 116, 97, 59, 32, 98, 111, 117, 110, 100, 97, 114, 121, 61]⟩ from rfl] at E2
        go_enter Tryz.func43, Tryz.ntmps43
        go_wp2_with fail
        refine (H2.out _ B0.out).mono ?_
        rintro e w1 ⟨rfl, b1⟩
        have K1 := hide (KR.out.below b1)
        have B1 := hide (chain B0.out b1)
        have r0 := K1.out.cell 0 rfl
        have s0 := K1.out.free 0
        have r1 := K1.out.cell 1 rfl
        have s1 := K1.out.free 1
        have r2 := K1.out.cell 2 rfl
        have s2 := K1.out.free 2
        go_wp2_with fail
        refine bodyPost_ret (v := .agg #[.string us, .string (⟨#[109, 117, 108, 116, 105, 112, 97, 114, 116, 47, 102, 111, 114, 109, 45, 100, 97, 116, 97, 59, 32, 98, 111, 117, 110, 100, 97, 114, 121, 61]⟩ ++ b), .int .i64 0]) (by simp [results, go_sem, r0, r1, r2]) rfl ?_
        exact ⟨ret_bod E1.out.symm E2.out.symm E3.out.symm, (((B1.out.setCell (p := ⟨w.heap.size, 0, none⟩) (Nat.le_refl _) _).setCell (p := ⟨w.heap.size, 1, none⟩) (Nat.le_refl _) _).setCell (p := ⟨w.heap.size, 2, none⟩) (Nat.le_refl _) _)⟩
      | false =>
        have E1 : Hid (bodT kind l b = ⟨#[]⟩) := by show _ = _; unfold bodT encT20; rw [if_neg h1, if_pos h2, cl]; rfl
        have E2 : Hid (bodY kind l b = ⟨#[]⟩) := by show _ = _; unfold bodY; rw [if_neg h1, if_pos h2, cl]; rfl
        have E3 : Hid (bodE kind l b = 10) := by show _ = _; unfold bodE encE20; rw [if_neg h1, if_pos h2, cl]; rfl
        rw [show encE20 l b = 10 by unfold encE20; rw [cl]; rfl] at H2
        have q1 : (kind == 1) = false := beq_eq_false_iff_ne.2 h1
        have q2 : (kind == 2) = true := by rw [h2]; rfl
        clear H1 H3 h1 h2 cl
        generalize encT20 l b = us at *
        go_enter Tryz.func43, Tryz.ntmps43
        go_wp2_with fail
        refine (H2.out _ B0.out).mono ?_
        rintro e w1 ⟨rfl, b1⟩
        have K1 := hide (KR.out.below b1)
        have B1 := hide (chain B0.out b1)
        have r0 := K1.out.cell 0 rfl
        have s0 := K1.out.free 0
        have r1 := K1.out.cell 1 rfl
        have s1 := K1.out.free 1
        have r2 := K1.out.cell 2 rfl
        have s2 := K1.out.free 2
        go_wp2_with fail
        refine bodyPost_ret (v := .agg #[.string ⟨#[]⟩, .string ⟨#[]⟩, .int .i64 10]) (by simp [results, go_sem, r0, r1, r2]) rfl ?_
        exact ⟨ret_bod E1.out.symm E2.out.symm E3.out.symm, (((B1.out.setCell (p := ⟨w.heap.size, 0, none⟩) (Nat.le_refl _) _).setCell (p := ⟨w.heap.size, 1, none⟩) (Nat.le_refl _) _).setCell (p := ⟨w.heap.size, 2, none⟩) (Nat.le_refl _) _)⟩
    · by_cases h3 : kind = 3
      · have E1 : Hid (bodT kind l b = txt (encN l)) := by show _ = _; unfold bodT; rw [if_neg h1, if_neg h2, if_pos h3]
        have E2 : Hid (bodY kind l b = tY) := by show _ = _; unfold bodY; rw [if_neg h1, if_neg h2, if_pos h3]
        have E3 : Hid (bodE kind l b = 0) := by show _ = _; unfold bodE; rw [if_neg h1, if_neg h2, if_pos h3]
        have q1 : (kind == 1) = false := beq_eq_false_iff_ne.2 h1
        have q2 : (kind == 2) = false := beq_eq_false_iff_ne.2 h2
        have q3 : (kind == 3) = true := by rw [h3]; rfl
        clear H1 H2 h1 h2 h3
        generalize txt (encN l) = us at *
        rw [show tY = ⟨#[116, 101, 120, 116, 47, 112, 108, 97, 105, 110]⟩ from rfl] at E2
        go_enter Tryz.func43, Tryz.ntmps43
        go_wp2_with fail
        refine (H3.out _ B0.out).mono ?_
        rintro e w1 ⟨rfl, b1⟩
        have K1 := hide (KR.out.below b1)
        have B1 := hide (chain B0.out b1)
        have r0 := K1.out.cell 0 rfl
        have s0 := K1.out.free 0
        have r1 := K1.out.cell 1 rfl
        have s1 := K1.out.free 1
        have r2 := K1.out.cell 2 rfl
        have s2 := K1.out.free 2
        go_wp2_with fail
        refine bodyPost_ret (v := .agg #[.string us, .string ⟨#[116, 101, 120, 116, 47, 112, 108, 97, 105, 110]⟩, .int .i64 0]) (by simp [results, go_sem, r0, r1, r2]) rfl ?_
        exact ⟨ret_bod E1.out.symm E2.out.symm E3.out.symm, (((B1.out.setCell (p := ⟨w.heap.size, 0, none⟩) (Nat.le_refl _) _).setCell (p := ⟨w.heap.size, 1, none⟩) (Nat.le_refl _) _).setCell (p := ⟨w.heap.size, 2, none⟩) (Nat.le_refl _) _)⟩
      · have E1 : Hid (bodT kind l b = ⟨#[]⟩) := by show _ = _; unfold bodT; rw [if_neg h1, if_neg h2, if_neg h3]
        have E2 : Hid (bodY kind l b = ⟨#[]⟩) := by show _ = _; unfold bodY; rw [if_neg h1, if_neg h2, if_neg h3]
        have E3 : Hid (bodE kind l b = 3) := by show _ = _; unfold bodE; rw [if_neg h1, if_neg h2, if_neg h3]
        have q1 : (kind == 1) = false := beq_eq_false_iff_ne.2 h1
        have q2 : (kind == 2) = false := beq_eq_false_iff_ne.2 h2
        have q3 : (kind == 3) = false := beq_eq_false_iff_ne.2 h3
        clear H1 H2 H3 h1 h2 h3
        go_enter Tryz.func43, Tryz.ntmps43
        have r0 := KR.out.cell 0 rfl
        have s0 := KR.out.free 0
        have r1 := KR.out.cell 1 rfl
        have s1 := KR.out.free 1
        have r2 := KR.out.cell 2 rfl
        have s2 := KR.out.free 2
        go_wp2_with fail
        refine bodyPost_ret (v := .agg #[.string ⟨#[]⟩, .string ⟨#[]⟩, .int .i64 3]) (by simp [results, go_sem]) rfl ?_
        exact ⟨ret_bod E1.out.symm E2.out.symm E3.out.symm, (Below.refl _ w).alloc (Nat.le_refl _) _⟩

end Go.Proofs.YtnojgejcmaajmaaGreatDoor
