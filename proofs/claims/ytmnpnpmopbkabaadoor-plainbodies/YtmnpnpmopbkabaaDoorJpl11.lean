/- The document's Escapes answers by escB, for every set and byte. The document's Encode answers by encL; it changes nothing that was there. -/
import Derived.Test.YtmnpnpmopbkabaaDoorJpl12

namespace Go.Proofs.YtmnpnpmopbkabaaDoor
open Go.RowKit
theorem noctl {c : UInt8} (h : 32 ≤ c.toNat) (g : c.toNat ≤ 126) (b : Bool) : (decide ((c.toNat : Int) < 32) || decide (126 < (c.toNat : Int)) || b) = b := by
  rw [decide_eq_false (by omega), decide_eq_false (by omega)]; rfl
set_option maxRecDepth 100000 in
set_option maxHeartbeats 1000000 in
theorem refEscapes_0 (c : UInt8) (w : World) :
    Calls Tryd.prog 55 #[.int .i64 0, .int .u8 (c.toNat : Int)] w fun e w' => e = .returned (.bool (escB 0 c)) ∧ w' = w := by
  rcases (show c.toNat < 32 ∨ 126 < c.toNat ∨ (32 ≤ c.toNat ∧ c.toNat ≤ 126) by omega) with h | h | ⟨h, g⟩
  · rw [escB_ctl (by decide) (.inl h)]
    go_enter Tryd.func55, Tryd.ntmps55
    go_wp2
    all_goals (go_ret; exact ⟨ret_bool (by first | rfl | (simp; omega)), rfl⟩)
  · rw [escB_ctl (by decide) (.inr h)]
    go_enter Tryd.func55, Tryd.ntmps55
    go_wp2
    all_goals (go_ret; exact ⟨ret_bool (by first | rfl | (simp; omega)), rfl⟩)
  · have HE := hide (escB_sign (set := 0) (c := c) (by decide) (by omega))
    go_enter Tryd.func55, Tryd.ntmps55
    go_wp2
    all_goals (go_ret; exact ⟨ret_bool (by rw [HE.out]; first | rfl | (simp [signsOf, hasB]; omega)), rfl⟩)
set_option maxRecDepth 100000 in
set_option maxHeartbeats 1000000 in
theorem refEscapes_1 (c : UInt8) (w : World) :
    Calls Tryd.prog 55 #[.int .i64 1, .int .u8 (c.toNat : Int)] w fun e w' => e = .returned (.bool (escB 1 c)) ∧ w' = w := by
  rcases (show c.toNat < 32 ∨ 126 < c.toNat ∨ (32 ≤ c.toNat ∧ c.toNat ≤ 126) by omega) with h | h | ⟨h, g⟩
  · rw [escB_ctl (by decide) (.inl h)]
    go_enter Tryd.func55, Tryd.ntmps55
    go_wp2
    all_goals (go_ret; exact ⟨ret_bool (by first | rfl | (simp; omega)), rfl⟩)
  · rw [escB_ctl (by decide) (.inr h)]
    go_enter Tryd.func55, Tryd.ntmps55
    go_wp2
    all_goals (go_ret; exact ⟨ret_bool (by first | rfl | (simp; omega)), rfl⟩)
  · have HE := hide (escB_sign (set := 1) (c := c) (by decide) (by omega))
    go_enter Tryd.func55, Tryd.ntmps55
    go_wp2_with fail
    refine (refIn_any c _ _ ?hsz).mono ?_
    case hsz => decide
    rintro e w1 ⟨rfl, rfl⟩
    go_wp2_with fail
    all_goals (go_ret; exact ⟨ret_bool ((noctl h g _).trans HE.out.symm), rfl⟩)
set_option maxRecDepth 100000 in
set_option maxHeartbeats 1000000 in
theorem refEscapes_2 (c : UInt8) (w : World) :
    Calls Tryd.prog 55 #[.int .i64 2, .int .u8 (c.toNat : Int)] w fun e w' => e = .returned (.bool (escB 2 c)) ∧ w' = w := by
  rcases (show c.toNat < 32 ∨ 126 < c.toNat ∨ (32 ≤ c.toNat ∧ c.toNat ≤ 126) by omega) with h | h | ⟨h, g⟩
  · rw [escB_ctl (by decide) (.inl h)]
    go_enter Tryd.func55, Tryd.ntmps55
    go_wp2
    all_goals (go_ret; exact ⟨ret_bool (by first | rfl | (simp; omega)), rfl⟩)
  · rw [escB_ctl (by decide) (.inr h)]
    go_enter Tryd.func55, Tryd.ntmps55
    go_wp2
    all_goals (go_ret; exact ⟨ret_bool (by first | rfl | (simp; omega)), rfl⟩)
  · have HE := hide (escB_sign (set := 2) (c := c) (by decide) (by omega))
    go_enter Tryd.func55, Tryd.ntmps55
    go_wp2_with fail
    refine (refIn_any c _ _ ?hsz).mono ?_
    case hsz => decide
    rintro e w1 ⟨rfl, rfl⟩
    go_wp2_with fail
    all_goals (go_ret; exact ⟨ret_bool ((noctl h g _).trans HE.out.symm), rfl⟩)
set_option maxRecDepth 100000 in
set_option maxHeartbeats 1000000 in
theorem refEscapes_3 (c : UInt8) (w : World) :
    Calls Tryd.prog 55 #[.int .i64 3, .int .u8 (c.toNat : Int)] w fun e w' => e = .returned (.bool (escB 3 c)) ∧ w' = w := by
  rcases (show c.toNat < 32 ∨ 126 < c.toNat ∨ (32 ≤ c.toNat ∧ c.toNat ≤ 126) by omega) with h | h | ⟨h, g⟩
  · rw [escB_ctl (by decide) (.inl h)]
    go_enter Tryd.func55, Tryd.ntmps55
    go_wp2
    all_goals (go_ret; exact ⟨ret_bool (by first | rfl | (simp; omega)), rfl⟩)
  · rw [escB_ctl (by decide) (.inr h)]
    go_enter Tryd.func55, Tryd.ntmps55
    go_wp2
    all_goals (go_ret; exact ⟨ret_bool (by first | rfl | (simp; omega)), rfl⟩)
  · have HE := hide (escB_sign (set := 3) (c := c) (by decide) (by omega))
    go_enter Tryd.func55, Tryd.ntmps55
    go_wp2_with fail
    refine (refIn_any c _ _ ?hsz).mono ?_
    case hsz => decide
    rintro e w1 ⟨rfl, rfl⟩
    go_wp2_with fail
    all_goals (go_ret; exact ⟨ret_bool ((noctl h g _).trans HE.out.symm), rfl⟩)
set_option maxRecDepth 100000 in
set_option maxHeartbeats 1000000 in
theorem refEscapes_4 (c : UInt8) (w : World) :
    Calls Tryd.prog 55 #[.int .i64 4, .int .u8 (c.toNat : Int)] w fun e w' => e = .returned (.bool (escB 4 c)) ∧ w' = w := by
  rcases (show c.toNat < 32 ∨ 126 < c.toNat ∨ (32 ≤ c.toNat ∧ c.toNat ≤ 126) by omega) with h | h | ⟨h, g⟩
  · rw [escB_ctl (by decide) (.inl h)]
    go_enter Tryd.func55, Tryd.ntmps55
    go_wp2
    all_goals (go_ret; exact ⟨ret_bool (by first | rfl | (simp; omega)), rfl⟩)
  · rw [escB_ctl (by decide) (.inr h)]
    go_enter Tryd.func55, Tryd.ntmps55
    go_wp2
    all_goals (go_ret; exact ⟨ret_bool (by first | rfl | (simp; omega)), rfl⟩)
  · have HE := hide (escB_sign (set := 4) (c := c) (by decide) (by omega))
    go_enter Tryd.func55, Tryd.ntmps55
    go_wp2_with fail
    refine (refIn_any c _ _ ?hsz).mono ?_
    case hsz => decide
    rintro e w1 ⟨rfl, rfl⟩
    go_wp2_with fail
    all_goals (go_ret; exact ⟨ret_bool ((noctl h g _).trans HE.out.symm), rfl⟩)
set_option maxRecDepth 100000 in
set_option maxHeartbeats 1000000 in
theorem refEscapes_5 (c : UInt8) (w : World) :
    Calls Tryd.prog 55 #[.int .i64 5, .int .u8 (c.toNat : Int)] w fun e w' => e = .returned (.bool (escB 5 c)) ∧ w' = w := by
  rcases (show c.toNat < 32 ∨ 126 < c.toNat ∨ (32 ≤ c.toNat ∧ c.toNat ≤ 126) by omega) with h | h | ⟨h, g⟩
  · rw [escB_ctl (by decide) (.inl h)]
    go_enter Tryd.func55, Tryd.ntmps55
    go_wp2
    all_goals (go_ret; exact ⟨ret_bool (by first | rfl | (simp; omega)), rfl⟩)
  · rw [escB_ctl (by decide) (.inr h)]
    go_enter Tryd.func55, Tryd.ntmps55
    go_wp2
    all_goals (go_ret; exact ⟨ret_bool (by first | rfl | (simp; omega)), rfl⟩)
  · have HE := hide (escB_sign (set := 5) (c := c) (by decide) (by omega))
    go_enter Tryd.func55, Tryd.ntmps55
    go_wp2_with fail
    refine (refIn_any c _ _ ?hsz).mono ?_
    case hsz => decide
    rintro e w1 ⟨rfl, rfl⟩
    go_wp2_with fail
    all_goals (go_ret; exact ⟨ret_bool ((noctl h g _).trans HE.out.symm), rfl⟩)
set_option maxRecDepth 100000 in
set_option maxHeartbeats 1000000 in
theorem refEscapes_6 (c : UInt8) (w : World) :
    Calls Tryd.prog 55 #[.int .i64 6, .int .u8 (c.toNat : Int)] w fun e w' => e = .returned (.bool (escB 6 c)) ∧ w' = w := by
  rcases (show c.toNat < 32 ∨ 126 < c.toNat ∨ (32 ≤ c.toNat ∧ c.toNat ≤ 126) by omega) with h | h | ⟨h, g⟩
  · rw [escB_ctl (by decide) (.inl h)]
    go_enter Tryd.func55, Tryd.ntmps55
    go_wp2
    all_goals (go_ret; exact ⟨ret_bool (by first | rfl | (simp; omega)), rfl⟩)
  · rw [escB_ctl (by decide) (.inr h)]
    go_enter Tryd.func55, Tryd.ntmps55
    go_wp2
    all_goals (go_ret; exact ⟨ret_bool (by first | rfl | (simp; omega)), rfl⟩)
  · have HE := hide (escB_sign (set := 6) (c := c) (by decide) (by omega))
    go_enter Tryd.func55, Tryd.ntmps55
    go_wp2_with fail
    refine (refIn_any c _ _ ?hsz).mono ?_
    case hsz => decide
    rintro e w1 ⟨rfl, rfl⟩
    go_wp2_with fail
    all_goals (go_ret; exact ⟨ret_bool ((noctl h g _).trans HE.out.symm), rfl⟩)
set_option maxRecDepth 100000 in
set_option maxHeartbeats 1000000 in
theorem refEscapes_7 (c : UInt8) (w : World) :
    Calls Tryd.prog 55 #[.int .i64 7, .int .u8 (c.toNat : Int)] w fun e w' => e = .returned (.bool (escB 7 c)) ∧ w' = w := by
  rw [escB_form_all]
  have hP := fun w => refPlain_any c w
  cases h : plainB c with
  | true =>
    rw [h] at hP
    have HP := hide hP
    clear hP h
    go_enter Tryd.func55, Tryd.ntmps55
    go_wp2_with fail
    refine (HP.out _).mono ?_
    rintro e w1 ⟨rfl, rfl⟩
    go_wp2_with fail
    go_ret
    exact ⟨rfl, rfl⟩
  | false =>
    rw [h] at hP
    have HP := hide hP
    clear hP h
    go_enter Tryd.func55, Tryd.ntmps55
    go_wp2_with fail
    refine (HP.out _).mono ?_
    rintro e w1 ⟨rfl, rfl⟩
    go_wp2_with fail
    refine (refIn_any c _ _ ?hsz).mono ?_
    case hsz => decide
    rintro e w1 ⟨rfl, rfl⟩
    go_wp2_with fail
    go_ret
    exact ⟨rfl, rfl⟩
set_option maxRecDepth 100000 in
set_option maxHeartbeats 1000000 in
theorem refEscapes_any (set : Int) (c : UInt8) (w : World) :
    Calls Tryd.prog 55 #[.int .i64 set, .int .u8 (c.toNat : Int)] w fun e w' => e = .returned (.bool (escB set c)) ∧ w' = w := by
  rcases (show set = 0 ∨ set = 1 ∨ set = 2 ∨ set = 3 ∨ set = 4 ∨ set = 5 ∨ set = 6 ∨ set = 7 ∨ set < 0 ∨ 7 < set by omega) with rfl | rfl | rfl | rfl | rfl | rfl | rfl | rfl | h | h
  · exact refEscapes_0 c w
  · exact refEscapes_1 c w
  · exact refEscapes_2 c w
  · exact refEscapes_3 c w
  · exact refEscapes_4 c w
  · exact refEscapes_5 c w
  · exact refEscapes_6 c w
  · exact refEscapes_7 c w
  · rw [escB_no c (by omega)]
    go_enter Tryd.func55, Tryd.ntmps55
    go_wp2
    go_ret
    exact ⟨rfl, rfl⟩
  · rw [escB_no c (by omega)]
    go_enter Tryd.func55, Tryd.ntmps55
    go_wp2
    go_ret
    exact ⟨rfl, rfl⟩
end Go.Proofs.YtmnpnpmopbkabaaDoor

namespace Go.Proofs.YtmnpnpmopbkabaaDoor
open Go.RowKit
theorem byteTypes : ByteTypes Tryd.prog 41 5 9 := ⟨Tryd.underlying41, Tryd.underlying5, Tryd.underlying9, by kernel_rfl⟩
theorem refL_take (set : Int) (s : ByteArray) (k : Nat) (h : k < s.size) : encL set (s.data.toList.take (k + 1)) = encL set (s.data.toList.take k) ++ encB set s[k] := by
  rw [byteAt_take s k h, encL_append, ← byteAt_eq s k h]
  show _ ++ (encB set s[k] ++ []) = _
  rw [List.append_nil]
theorem refL_take_len (set : Int) (s : ByteArray) (k : Nat) : (encL set (s.data.toList.take k)).length ≤ 3 * k := by
  have := encL_len set (s.data.toList.take k)
  have := List.length_take_le k s.data.toList
  omega
set_option maxHeartbeats 400000 in
theorem refEncode_any (s : ByteArray) (set : Int) (w : World) (hset : 0 ≤ set ∧ set ≤ 7) (hs : s.size ≤ 1099511627776) :
    Calls Tryd.prog 39 #[.string s, .int .i64 set] w fun r w' => r = .returned (.tuple #[.string (encS set s), .int .i64 0]) ∧ Below w.heap.size w w' := by
  obtain ⟨hs0, hs7⟩ := hset
  go_enter Tryd.func39, Tryd.ntmps39
  go_wp2_with fail
  go_loopw [6, 7] (fun v i wr => ∃ k : Nat, k ≤ s.size ∧ i = .int .i64 k ∧ OwnsB 5 w.heap.size wr v (encL set (s.data.toList.take k)) ∧ Below w.heap.size w wr) (fun _ i _ => s.size - (intOf i).toNat)
  case atStart => exact ⟨0, Nat.zero_le _, rfl, OwnsB.nil _ _ _, Below.refl _ _⟩
  case round =>
    obtain ⟨k, hk, rfl, hown, hb⟩ := hrel
    by_cases hlt : k < s.size
    · have hle := refL_take_len set s k
      have HT := hide (refL_take set s k hlt)
      have hsz := hb.size
      have hE := refEscapes_any set s[k] wr
      cases g : escB set s[k] with
      | true =>
        rw [g] at hE
        have HE := hide hE
        have HG := hide (encB_yes g)
        clear hE g
        go_wp2_with fail
        refine HE.out.mono ?_
        rintro e w0 ⟨rfl, hw⟩
        obtain rfl : wr = w0 := hw.symm
        clear hw
        go_wp2_with (at_builtin; refine wpList_append_byte byteTypes wr _ rfl _ _ rfl w.heap.size _ _ 37 rfl rfl hown rfl (by omega) (by omega) ?_; intro v1 w1 hown1 hb1)
        have hsz1 := hb1.size
        refine (refHexD_any s[k] w1).mono ?_
        rintro e w2 ⟨rfl, hb2⟩
        have hsz2 := hb2.size
        have hown2 := hown1.below hb2
        go_wp2_with (at_builtin; refine wpList_append_text byteTypes w2 rfl _ _ rfl w.heap.size _ _ (txt [hexD (s[k].toNat / 16), hexD (s[k].toNat % 16)]) rfl hown2 rfl (by simp [txt_size]; omega) (by omega) ?_; intro v3 w3 hown3 hb3)
        go_roundw
        case rel => exact ⟨k + 1, by omega, by go_num, by rw [HT.out, HG.out]; simpa [txt_data] using hown3, ((hb.trans hb1).trans (hb2.mono (by omega))).trans hb3⟩
        case measure => simp [intOf]; omega
      | false =>
        rw [g] at hE
        have HE := hide hE
        have HG := hide (encB_not g)
        clear hE g
        go_wp2_with fail
        refine HE.out.mono ?_
        rintro e w0 ⟨rfl, hw⟩
        obtain rfl : wr = w0 := hw.symm
        clear hw
        go_wp2_with (at_builtin; refine wpList_append_byte byteTypes wr _ rfl _ _ rfl w.heap.size _ _ s[k] rfl rfl hown rfl (by omega) (by omega) ?_; intro v1 w1 hown1 hb1)
        go_roundw
        case rel => exact ⟨k + 1, by omega, by go_num, by rw [HT.out, HG.out]; exact hown1, hb.trans hb1⟩
        case measure => simp [intOf]; omega
    · have e : k = s.size := by omega
      subst e
      have ht : s.data.toList.take s.size = s.data.toList := List.take_of_length_le (by simp)
      rw [ht] at hown
      have hend := hown.text byteTypes
      go_wp2
      go_ret2
      exact ⟨rfl, hb⟩

end Go.Proofs.YtmnpnpmopbkabaaDoor
