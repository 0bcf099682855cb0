/- The document's Escapes answers by escB, for every set and byte; it changes nothing. No condition. -/
import Derived.Test.YtcaoamccnibihaaDoorRows
import Derived.Test.YtcaoamccnibihaaDoorLow
import Derived.Test.YtcaoamccnibihaaDoorEsc
namespace Go.Proofs.YtcaoamccnibihaaDoor
open Go.RowKit

theorem take_none {s : ByteArray} {k : Nat} {c : UInt8} (h : (s.data.toList.take k).contains c = false) (hk : k < s.size) (hc : s[k] ≠ c) : (s.data.toList.take (k + 1)).contains c = false := by
  rw [byteAt_take s k hk, ← byteAt_eq s k hk]
  have : (c == s[k]) = false := by simpa using fun e => hc e.symm
  simp at h this ⊢
  exact ⟨h, this⟩
theorem at_contains {s : ByteArray} {k : Nat} {c : UInt8} (hk : k < s.size) (hc : s[k] = c) : hasB s.data.toList c = true := by
  unfold hasB
  have : s.data.toList[k]'(by simpa using hk) = c := hc
  rw [List.contains_iff_mem]; exact this ▸ List.getElem_mem _
theorem noctl {c : UInt8} (h : 32 ≤ c.toNat) (g : c.toNat ≤ 126) (b : Bool) : (decide ((c.toNat : Int) < 32) || decide (126 < (c.toNat : Int)) || b) = b := by
  rw [decide_eq_false (by omega), decide_eq_false (by omega)]; rfl
theorem nat_eq {a b : UInt8} (h : (a.toNat : Int) = (b.toNat : Int)) : a = b := UInt8.toNat_inj.1 (by omega)

set_option maxHeartbeats 400000 in
theorem refIn_any (c : UInt8) (s : ByteArray) (w : World) (hs : s.size ≤ maxLen) :
    Calls Tryd.prog 16 #[.int .u8 (c.toNat : Int), .string s] w fun e w' => e = .returned (.bool (hasB s.data.toList c)) ∧ w' = w := by
  unfold maxLen at hs
  go_enter Tryd.func16, Tryd.ntmps16
  go_wp2
  go_loop [5] (fun i => ∃ k : Nat, k ≤ s.size ∧ i = .int .i64 k ∧ (s.data.toList.take k).contains c = false) (fun i => s.size - (intOf i).toNat)
  case atStart => exact ⟨0, Nat.zero_le _, rfl, rfl⟩
  case round =>
    obtain ⟨k, hk, rfl, hn⟩ := hrel
    have HN := hide hn
    clear hn
    by_cases hlt : k < s.size
    · by_cases he : (s[k].toNat : Int) = (c.toNat : Int)
      · have HC := hide (at_contains hlt (nat_eq he))
        have q : ((s[k].toNat : Int) == (c.toNat : Int)) = true := by simpa using he
        clear he
        go_wp2
        go_ret
        exact ⟨ret_bool HC.out.symm, rfl⟩
      · have HC := hide (take_none HN.out hlt (fun e => he (by rw [e])))
        have q : ((s[k].toNat : Int) == (c.toNat : Int)) = false := by simpa using he
        clear he
        go_wp2
        go_round
        case rel => exact ⟨k + 1, by omega, by go_num, HC.out⟩
        case measure => simp [intOf]; omega
    · have HC : Hid (hasB s.data.toList c = false) := by
        unfold hasB
        have := HN.out
        rw [List.take_of_length_le (by simp; omega)] at this; exact this
      go_wp2
      go_ret
      exact ⟨ret_bool HC.out.symm, rfl⟩

set_option maxHeartbeats 400000 in
theorem refPlain_any (c : UInt8) (w : World) :
    Calls Tryd.prog 24 #[.int .u8 (c.toNat : Int)] w fun e w' => e = .returned (.bool (plainB c)) ∧ w' = w := by
  unfold plainB
  rcases (show (c.toNat < 48) ∨ (48 ≤ c.toNat ∧ c.toNat ≤ 57) ∨ (57 < c.toNat ∧ c.toNat < 65) ∨ (65 ≤ c.toNat ∧ c.toNat ≤ 90) ∨ (90 < c.toNat ∧ c.toNat < 97) ∨ (97 ≤ c.toNat ∧ c.toNat ≤ 122) ∨ (122 < c.toNat) by omega) with h | ⟨h, g⟩ | ⟨h, g⟩ | ⟨h, g⟩ | ⟨h, g⟩ | ⟨h, g⟩ | h
  · rw [decide_eq_false (by omega)]
    go_enter Tryd.func24, Tryd.ntmps24
    go_wp2
    go_ret
    exact ⟨ret_bool (by first | rfl | (simp; omega)), rfl⟩
  · rw [decide_eq_true (by omega)]
    go_enter Tryd.func24, Tryd.ntmps24
    go_wp2
    go_ret
    exact ⟨ret_bool (by first | rfl | (simp; omega)), rfl⟩
  · rw [decide_eq_false (by omega)]
    go_enter Tryd.func24, Tryd.ntmps24
    go_wp2
    go_ret
    exact ⟨ret_bool (by first | rfl | (simp; omega)), rfl⟩
  · rw [decide_eq_true (by omega)]
    go_enter Tryd.func24, Tryd.ntmps24
    go_wp2
    go_ret
    exact ⟨ret_bool (by first | rfl | (simp; omega)), rfl⟩
  · rw [decide_eq_false (by omega)]
    go_enter Tryd.func24, Tryd.ntmps24
    go_wp2
    go_ret
    exact ⟨ret_bool (by first | rfl | (simp; omega)), rfl⟩
  · rw [decide_eq_true (by omega)]
    go_enter Tryd.func24, Tryd.ntmps24
    go_wp2
    go_ret
    exact ⟨ret_bool (by first | rfl | (simp; omega)), rfl⟩
  · rw [decide_eq_false (by omega)]
    go_enter Tryd.func24, Tryd.ntmps24
    go_wp2
    go_ret
    exact ⟨ret_bool (by first | rfl | (simp; omega)), rfl⟩

set_option maxRecDepth 100000 in
set_option maxHeartbeats 1000000 in
theorem refEscapes_0 (c : UInt8) (w : World) :
    Calls Tryd.prog 10 #[.int .i64 0, .int .u8 (c.toNat : Int)] w fun e w' => e = .returned (.bool (escB 0 c)) ∧ w' = w := by
  rcases (show c.toNat < 32 ∨ 126 < c.toNat ∨ (32 ≤ c.toNat ∧ c.toNat ≤ 126) by omega) with h | h | ⟨h, g⟩
  · rw [escB_ctl (by decide) (.inl h)]
    go_enter Tryd.func10, Tryd.ntmps10
    go_wp2
    all_goals (go_ret; exact ⟨ret_bool (by first | rfl | (simp; omega)), rfl⟩)
  · rw [escB_ctl (by decide) (.inr h)]
    go_enter Tryd.func10, Tryd.ntmps10
    go_wp2
    all_goals (go_ret; exact ⟨ret_bool (by first | rfl | (simp; omega)), rfl⟩)
  · have HE := hide (escB_sign (set := 0) (c := c) (by decide) (by omega))
    go_enter Tryd.func10, Tryd.ntmps10
    go_wp2
    all_goals (go_ret; exact ⟨ret_bool (by rw [HE.out]; first | rfl | (simp [signsOf, hasB]; omega)), rfl⟩)

set_option maxRecDepth 100000 in
set_option maxHeartbeats 1000000 in
theorem refEscapes_1 (c : UInt8) (w : World) :
    Calls Tryd.prog 10 #[.int .i64 1, .int .u8 (c.toNat : Int)] w fun e w' => e = .returned (.bool (escB 1 c)) ∧ w' = w := by
  rcases (show c.toNat < 32 ∨ 126 < c.toNat ∨ (32 ≤ c.toNat ∧ c.toNat ≤ 126) by omega) with h | h | ⟨h, g⟩
  · rw [escB_ctl (by decide) (.inl h)]
    go_enter Tryd.func10, Tryd.ntmps10
    go_wp2
    all_goals (go_ret; exact ⟨ret_bool (by first | rfl | (simp; omega)), rfl⟩)
  · rw [escB_ctl (by decide) (.inr h)]
    go_enter Tryd.func10, Tryd.ntmps10
    go_wp2
    all_goals (go_ret; exact ⟨ret_bool (by first | rfl | (simp; omega)), rfl⟩)
  · have HE := hide (escB_sign (set := 1) (c := c) (by decide) (by omega))
    go_enter Tryd.func10, Tryd.ntmps10
    go_wp2_with fail
    refine (refIn_any c _ _ ?hsz).mono ?_
    case hsz => decide
    rintro e w1 ⟨rfl, rfl⟩
    go_wp2_with fail
    all_goals (go_ret; exact ⟨ret_bool ((noctl h g _).trans HE.out.symm), rfl⟩)

set_option maxRecDepth 100000 in
set_option maxHeartbeats 1000000 in
theorem refEscapes_2 (c : UInt8) (w : World) :
    Calls Tryd.prog 10 #[.int .i64 2, .int .u8 (c.toNat : Int)] w fun e w' => e = .returned (.bool (escB 2 c)) ∧ w' = w := by
  rcases (show c.toNat < 32 ∨ 126 < c.toNat ∨ (32 ≤ c.toNat ∧ c.toNat ≤ 126) by omega) with h | h | ⟨h, g⟩
  · rw [escB_ctl (by decide) (.inl h)]
    go_enter Tryd.func10, Tryd.ntmps10
    go_wp2
    all_goals (go_ret; exact ⟨ret_bool (by first | rfl | (simp; omega)), rfl⟩)
  · rw [escB_ctl (by decide) (.inr h)]
    go_enter Tryd.func10, Tryd.ntmps10
    go_wp2
    all_goals (go_ret; exact ⟨ret_bool (by first | rfl | (simp; omega)), rfl⟩)
  · have HE := hide (escB_sign (set := 2) (c := c) (by decide) (by omega))
    go_enter Tryd.func10, Tryd.ntmps10
    go_wp2_with fail
    refine (refIn_any c _ _ ?hsz).mono ?_
    case hsz => decide
    rintro e w1 ⟨rfl, rfl⟩
    go_wp2_with fail
    all_goals (go_ret; exact ⟨ret_bool ((noctl h g _).trans HE.out.symm), rfl⟩)

set_option maxRecDepth 100000 in
set_option maxHeartbeats 1000000 in
theorem refEscapes_3 (c : UInt8) (w : World) :
    Calls Tryd.prog 10 #[.int .i64 3, .int .u8 (c.toNat : Int)] w fun e w' => e = .returned (.bool (escB 3 c)) ∧ w' = w := by
  rcases (show c.toNat < 32 ∨ 126 < c.toNat ∨ (32 ≤ c.toNat ∧ c.toNat ≤ 126) by omega) with h | h | ⟨h, g⟩
  · rw [escB_ctl (by decide) (.inl h)]
    go_enter Tryd.func10, Tryd.ntmps10
    go_wp2
    all_goals (go_ret; exact ⟨ret_bool (by first | rfl | (simp; omega)), rfl⟩)
  · rw [escB_ctl (by decide) (.inr h)]
    go_enter Tryd.func10, Tryd.ntmps10
    go_wp2
    all_goals (go_ret; exact ⟨ret_bool (by first | rfl | (simp; omega)), rfl⟩)
  · have HE := hide (escB_sign (set := 3) (c := c) (by decide) (by omega))
    go_enter Tryd.func10, Tryd.ntmps10
    go_wp2_with fail
    refine (refIn_any c _ _ ?hsz).mono ?_
    case hsz => decide
    rintro e w1 ⟨rfl, rfl⟩
    go_wp2_with fail
    all_goals (go_ret; exact ⟨ret_bool ((noctl h g _).trans HE.out.symm), rfl⟩)

set_option maxRecDepth 100000 in
set_option maxHeartbeats 1000000 in
theorem refEscapes_4 (c : UInt8) (w : World) :
    Calls Tryd.prog 10 #[.int .i64 4, .int .u8 (c.toNat : Int)] w fun e w' => e = .returned (.bool (escB 4 c)) ∧ w' = w := by
  rcases (show c.toNat < 32 ∨ 126 < c.toNat ∨ (32 ≤ c.toNat ∧ c.toNat ≤ 126) by omega) with h | h | ⟨h, g⟩
  · rw [escB_ctl (by decide) (.inl h)]
    go_enter Tryd.func10, Tryd.ntmps10
    go_wp2
    all_goals (go_ret; exact ⟨ret_bool (by first | rfl | (simp; omega)), rfl⟩)
  · rw [escB_ctl (by decide) (.inr h)]
    go_enter Tryd.func10, Tryd.ntmps10
    go_wp2
    all_goals (go_ret; exact ⟨ret_bool (by first | rfl | (simp; omega)), rfl⟩)
  · have HE := hide (escB_sign (set := 4) (c := c) (by decide) (by omega))
    go_enter Tryd.func10, Tryd.ntmps10
    go_wp2_with fail
    refine (refIn_any c _ _ ?hsz).mono ?_
    case hsz => decide
    rintro e w1 ⟨rfl, rfl⟩
    go_wp2_with fail
    all_goals (go_ret; exact ⟨ret_bool ((noctl h g _).trans HE.out.symm), rfl⟩)

set_option maxRecDepth 100000 in
set_option maxHeartbeats 1000000 in
theorem refEscapes_5 (c : UInt8) (w : World) :
    Calls Tryd.prog 10 #[.int .i64 5, .int .u8 (c.toNat : Int)] w fun e w' => e = .returned (.bool (escB 5 c)) ∧ w' = w := by
  rcases (show c.toNat < 32 ∨ 126 < c.toNat ∨ (32 ≤ c.toNat ∧ c.toNat ≤ 126) by omega) with h | h | ⟨h, g⟩
  · rw [escB_ctl (by decide) (.inl h)]
    go_enter Tryd.func10, Tryd.ntmps10
    go_wp2
    all_goals (go_ret; exact ⟨ret_bool (by first | rfl | (simp; omega)), rfl⟩)
  · rw [escB_ctl (by decide) (.inr h)]
    go_enter Tryd.func10, Tryd.ntmps10
    go_wp2
    all_goals (go_ret; exact ⟨ret_bool (by first | rfl | (simp; omega)), rfl⟩)
  · have HE := hide (escB_sign (set := 5) (c := c) (by decide) (by omega))
    go_enter Tryd.func10, Tryd.ntmps10
    go_wp2_with fail
    refine (refIn_any c _ _ ?hsz).mono ?_
    case hsz => decide
    rintro e w1 ⟨rfl, rfl⟩
    go_wp2_with fail
    all_goals (go_ret; exact ⟨ret_bool ((noctl h g _).trans HE.out.symm), rfl⟩)

set_option maxRecDepth 100000 in
set_option maxHeartbeats 1000000 in
theorem refEscapes_6 (c : UInt8) (w : World) :
    Calls Tryd.prog 10 #[.int .i64 6, .int .u8 (c.toNat : Int)] w fun e w' => e = .returned (.bool (escB 6 c)) ∧ w' = w := by
  rcases (show c.toNat < 32 ∨ 126 < c.toNat ∨ (32 ≤ c.toNat ∧ c.toNat ≤ 126) by omega) with h | h | ⟨h, g⟩
  · rw [escB_ctl (by decide) (.inl h)]
    go_enter Tryd.func10, Tryd.ntmps10
    go_wp2
    all_goals (go_ret; exact ⟨ret_bool (by first | rfl | (simp; omega)), rfl⟩)
  · rw [escB_ctl (by decide) (.inr h)]
    go_enter Tryd.func10, Tryd.ntmps10
    go_wp2
    all_goals (go_ret; exact ⟨ret_bool (by first | rfl | (simp; omega)), rfl⟩)
  · have HE := hide (escB_sign (set := 6) (c := c) (by decide) (by omega))
    go_enter Tryd.func10, Tryd.ntmps10
    go_wp2_with fail
    refine (refIn_any c _ _ ?hsz).mono ?_
    case hsz => decide
    rintro e w1 ⟨rfl, rfl⟩
    go_wp2_with fail
    all_goals (go_ret; exact ⟨ret_bool ((noctl h g _).trans HE.out.symm), rfl⟩)

set_option maxRecDepth 100000 in
set_option maxHeartbeats 1000000 in
theorem refEscapes_7 (c : UInt8) (w : World) :
    Calls Tryd.prog 10 #[.int .i64 7, .int .u8 (c.toNat : Int)] w fun e w' => e = .returned (.bool (escB 7 c)) ∧ w' = w := by
  rw [escB_form_all]
  have hP := fun w => refPlain_any c w
  cases h : plainB c with
  | true =>
    rw [h] at hP
    have HP := hide hP
    clear hP h
    go_enter Tryd.func10, Tryd.ntmps10
    go_wp2_with fail
    refine (HP.out _).mono ?_
    rintro e w1 ⟨rfl, rfl⟩
    go_wp2_with fail
    go_ret
    exact ⟨rfl, rfl⟩
  | false =>
    rw [h] at hP
    have HP := hide hP
    clear hP h
    go_enter Tryd.func10, Tryd.ntmps10
    go_wp2_with fail
    refine (HP.out _).mono ?_
    rintro e w1 ⟨rfl, rfl⟩
    go_wp2_with fail
    refine (refIn_any c _ _ ?hsz).mono ?_
    case hsz => decide
    rintro e w1 ⟨rfl, rfl⟩
    go_wp2_with fail
    go_ret
    exact ⟨rfl, rfl⟩

set_option maxRecDepth 100000 in
set_option maxHeartbeats 1000000 in
theorem refEscapes_any (set : Int) (c : UInt8) (w : World) :
    Calls Tryd.prog 10 #[.int .i64 set, .int .u8 (c.toNat : Int)] w fun e w' => e = .returned (.bool (escB set c)) ∧ w' = w := by
  rcases (show set = 0 ∨ set = 1 ∨ set = 2 ∨ set = 3 ∨ set = 4 ∨ set = 5 ∨ set = 6 ∨ set = 7 ∨ set < 0 ∨ 7 < set by omega) with rfl | rfl | rfl | rfl | rfl | rfl | rfl | rfl | h | h
  · exact refEscapes_0 c w
  · exact refEscapes_1 c w
  · exact refEscapes_2 c w
  · exact refEscapes_3 c w
  · exact refEscapes_4 c w
  · exact refEscapes_5 c w
  · exact refEscapes_6 c w
  · exact refEscapes_7 c w
  · rw [escB_no c (by omega)]
    go_enter Tryd.func10, Tryd.ntmps10
    go_wp2
    go_ret
    exact ⟨rfl, rfl⟩
  · rw [escB_no c (by omega)]
    go_enter Tryd.func10, Tryd.ntmps10
    go_wp2
    go_ret
    exact ⟨rfl, rfl⟩

end Go.Proofs.YtcaoamccnibihaaDoor
