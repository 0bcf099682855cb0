/- The document's first, last, Digits, Value, Scheme of layer 8: they answer by the functions of 'Link'; what lay in the world lies there still. Condition: texts of at most 2^20 bytes. -/
import Derived.Test.YtkllknfgojjphaaDoorRows
import Derived.Test.YtkllknfgojjphaaDoorLink
import Derived.Test.YtkllknfgojjphaaDoorSetRef
import Derived.Test.YtkllknfgojjphaaDoorLowWalks
namespace Go.Proofs.YtkllknfgojjphaaDoor
open Go.RowKit

theorem at_list (s : ByteArray) (k : Nat) (h : k < s.size) : s.data.toList[k]'(by simpa using h) = s[k] := by simp; rfl
theorem list_at {s : ByteArray} {k : Nat} (hk : k < s.size) : s.data.toList = s.data.toList.take k ++ s[k] :: s.data.toList.drop (k + 1) := by
  have h := (List.take_append_drop k s.data.toList).symm
  rw [List.drop_eq_getElem_cons (by simpa using hk), at_list s k hk] at h
  exact h
theorem take_free {s : ByteArray} {c : UInt8} {k : Nat} (h : ∀ j (_ : j < s.size), j < k → ¬ s[j] = c) : c ∉ s.data.toList.take k := by
  intro m
  obtain ⟨j, hj, e⟩ := List.getElem_of_mem m
  rw [List.length_take] at hj
  have hs : j < s.size := by have : s.data.toList.length = s.size := by simp
                             omega
  rw [List.getElem_take, at_list s j hs] at e
  exact h j hs (by omega) e
theorem drop_free {s : ByteArray} {c : UInt8} {k : Nat} (h : ∀ j (_ : j < s.size), k ≤ j → ¬ s[j] = c) : c ∉ s.data.toList.drop k := by
  intro m
  obtain ⟨j, hj, e⟩ := List.getElem_of_mem m
  rw [List.length_drop] at hj
  have hs : k + j < s.size := by have : s.data.toList.length = s.size := by simp
                                 omega
  rw [List.getElem_drop, at_list s (k + j) hs] at e
  exact h (k + j) hs (by omega) e
theorem len_take {s : ByteArray} {k : Nat} (hk : k ≤ s.size) : (s.data.toList.take k).length = k := by
  have : s.data.toList.length = s.size := by simp
  rw [List.length_take]; omega
theorem first_hit {s : ByteArray} {c : UInt8} {k : Nat} (hk : k < s.size) (h : ∀ j (_ : j < s.size), j < k → ¬ s[j] = c) (e : s[k] = c) : firstL c s.data.toList = k := by
  rw [list_at hk, e, first_app _ (take_free h)]
  exact len_take (by omega)
theorem first_end {s : ByteArray} {c : UInt8} (h : ∀ j (_ : j < s.size), ¬ s[j] = c) : firstL c s.data.toList = s.size := by
  have hl : s.data.toList.length = s.size := by simp
  have := take_free (s := s) (c := c) (k := s.size) (fun j hj _ => h j hj)
  rw [List.take_of_length_le (by omega)] at this
  rw [first_no this, hl]
theorem last_hit {s : ByteArray} {c : UInt8} {k : Nat} (hk : k < s.size) (h : ∀ j (_ : j < s.size), k + 1 ≤ j → ¬ s[j] = c) (e : s[k] = c) : lastL c s.data.toList = k := by
  rw [list_at hk, e, last_app _ (drop_free h), len_take (by omega)]
theorem last_end {s : ByteArray} {c : UInt8} (h : ∀ j (_ : j < s.size), 0 ≤ j → ¬ s[j] = c) : lastL c s.data.toList = -1 := by
  have := drop_free (s := s) (c := c) (k := 0) h
  exact last_no this
theorem ne_int {a c : UInt8} (h : ¬ a = c) : ((a.toNat : Int) == (c.toNat : Int)) = false := by
  rw [beq_eq_false_iff_ne]
  exact fun e => h (UInt8.toNat_inj.1 (by omega))

set_option maxHeartbeats 1000000 in
set_option maxRecDepth 100000 in
theorem refFirst_any (s : ByteArray) (c : UInt8) (w : World) (hs : s.size ≤ 1048576) :
    Calls Tryd.prog 42 #[.string s, .int .u8 (c.toNat : Int)] w fun e w' => e = .returned (.int .i64 (firstL c s.data.toList : Nat)) ∧ w' = w := by
  have HIT := hide (fun k hk h e => first_hit (s := s) (c := c) (k := k) hk h e)
  have END := hide (fun h => first_end (s := s) (c := c) h)
  go_enter Tryd.func42, Tryd.ntmps42
  go_wp2_with fail
  go_loop [5] (fun i => ∃ k : Nat, k ≤ s.size ∧ i = .int .i64 k ∧ Hid (∀ j (_ : j < s.size), j < k → ¬ s[j] = c)) (fun i => s.size - (intOf i).toNat)
  case atStart => exact ⟨0, Nat.zero_le _, rfl, fun j _ h => by omega⟩
  case round =>
    obtain ⟨k, hk, rfl, hd⟩ := hrel
    by_cases hlt : k < s.size
    · have i1 : (k : Int) < (s.size : Int) := by omega
      by_cases hc : s[k] = c
      · have E := hide (HIT.out k hlt hd.out hc)
        have i3 : ((s[k].toNat : Int) == (c.toNat : Int)) = true := by rw [hc]; simp
        clear hd hc HIT END
        go_wp2_with fail
        go_ret
        exact ⟨ret_int (by rw [E.out]), rfl⟩
      · have i3 := ne_int hc
        have hd' : Hid (∀ j (_ : j < s.size), j < k + 1 → ¬ s[j] = c) := by
          intro j hj hjk
          rcases Nat.lt_or_ge j k with q | q
          · exact hd.out j hj q
          · obtain rfl : j = k := by omega
            exact hc
        clear hd hc HIT END
        go_wp2_with fail
        go_round
        case rel => exact ⟨k + 1, by omega, by go_num, hd'⟩
        case measure => simp [intOf]; omega
    · obtain rfl : k = s.size := by omega
      have E := hide (END.out (fun j hj => hd.out j hj hj))
      clear hd HIT END
      go_wp2_with fail
      go_ret
      exact ⟨ret_int (by rw [E.out]), rfl⟩

set_option maxHeartbeats 1000000 in
set_option maxRecDepth 100000 in
theorem refLast_any (s : ByteArray) (c : UInt8) (w : World) (hs : s.size ≤ 1048576) :
    Calls Tryd.prog 58 #[.string s, .int .u8 (c.toNat : Int)] w fun e w' => e = .returned (.int .i64 (lastL c s.data.toList)) ∧ w' = w := by
  have HIT := hide (fun k hk h e => last_hit (s := s) (c := c) (k := k) hk h e)
  have END := hide (fun h => last_end (s := s) (c := c) h)
  go_enter Tryd.func58, Tryd.ntmps58
  go_wp2_with fail
  go_loop [5] (fun i => ∃ k : Nat, k ≤ s.size ∧ i = .int .i64 ((k : Int) - 1) ∧ Hid (∀ j (_ : j < s.size), k ≤ j → ¬ s[j] = c)) (fun i => (intOf i + 1).toNat)
  case atStart => exact ⟨s.size, Nat.le_refl _, rfl, fun j h1 h2 => by omega⟩
  case round =>
    obtain ⟨k, hk, rfl, hd⟩ := hrel
    cases k with
    | zero =>
      have E := hide (END.out hd.out)
      clear hd HIT END
      go_wp2_with fail
      go_ret
      exact ⟨ret_int E.out.symm, rfl⟩
    | succ m =>
      rw [show ((m + 1 : Nat) : Int) - 1 = (m : Int) by omega]
      have hlt : m < s.size := by omega
      by_cases hc : s[m] = c
      · have E := hide (HIT.out m hlt hd.out hc)
        have i3 : ((s[m].toNat : Int) == (c.toNat : Int)) = true := by rw [hc]; simp
        clear hd hc HIT END
        go_wp2_with fail
        go_ret
        exact ⟨ret_int E.out.symm, rfl⟩
      · have i3 := ne_int hc
        have hd' : Hid (∀ j (_ : j < s.size), m ≤ j → ¬ s[j] = c) := by
          intro j hj hjk
          rcases Nat.lt_or_ge m j with q | q
          · exact hd.out j hj q
          · obtain rfl : j = m := by omega
            exact hc
        clear hd hc HIT END
        go_wp2_with fail
        go_round
        case rel => exact ⟨m, by omega, by go_num, hd'⟩
        case measure => simp [intOf]

theorem dig_ne {l : List UInt8} {c : UInt8} (m : c ∈ l) (h : isDg c = false) : digitsL l = false := by
  unfold digitsL
  rw [List.all_eq_false.2 ⟨c, m, by rw [h]; simp⟩, Bool.and_false]
theorem mem_at {s : ByteArray} {k : Nat} (hk : k < s.size) : s[k] ∈ s.data.toList := by
  rw [← at_list s k hk]; exact List.getElem_mem _
theorem dig_all {s : ByteArray} (h : ∀ j (_ : j < s.size), isDg s[j] = true) : digitsL s.data.toList = decide (0 < s.size) := by
  have hl : s.data.toList.length = s.size := by simp
  have : s.data.toList.all isDg = true := by
    rw [List.all_eq_true]
    intro c m
    obtain ⟨j, hj, e⟩ := List.getElem_of_mem m
    rw [← e, at_list s j (by omega)]
    exact h j (by omega)
  unfold digitsL
  rw [this, Bool.and_true]
  cases g : s.data.toList with
  | nil => rw [g] at hl; rw [decide_eq_false (by simp at hl; omega)]; rfl
  | cons => rw [g] at hl; rw [decide_eq_true (by simp at hl; omega)]; rfl
set_option maxHeartbeats 1000000 in
set_option maxRecDepth 100000 in
theorem refDigs_any (s : ByteArray) (w : World) (hs : s.size ≤ 1048576) :
    Calls Tryd.prog 33 #[.string s] w fun e w' => e = .returned (.bool (digitsL s.data.toList)) ∧ w' = w := by
  have BAD := hide (fun k hk h => dig_ne (mem_at (s := s) (k := k) hk) h)
  have ALL := hide (fun h => dig_all (s := s) h)
  go_enter Tryd.func33, Tryd.ntmps33
  go_wp2_with fail
  go_loop [3] (fun i => ∃ k : Nat, k ≤ s.size ∧ i = .int .i64 k ∧ Hid (∀ j (_ : j < s.size), j < k → isDg s[j] = true)) (fun i => s.size - (intOf i).toNat)
  case atStart => exact ⟨0, Nat.zero_le _, rfl, fun j _ h => by omega⟩
  case round =>
    obtain ⟨k, hk, rfl, hd⟩ := hrel
    by_cases hlt : k < s.size
    · have i1 : (k : Int) < (s.size : Int) := by omega
      have ii := isDg_iff s[k]
      rcases (show (s[k].toNat : Int) < 48 ∨ (48 ≤ (s[k].toNat : Int) ∧ (s[k].toNat : Int) ≤ 57) ∨ (48 ≤ (s[k].toNat : Int) ∧ 57 < (s[k].toNat : Int)) by omega) with h1 | ⟨h1, h2⟩ | ⟨h1, h2⟩
      · have E := hide (BAD.out k hlt (by cases g : isDg s[k] with
          | false => rfl
          | true => exact absurd (ii.1 g) (by omega)))
        clear hd BAD ALL ii
        go_wp2_with fail
        go_ret
        exact ⟨ret_bool E.out.symm, rfl⟩
      · have hd' : Hid (∀ j (_ : j < s.size), j < k + 1 → isDg s[j] = true) := by
          intro j hj hjk
          rcases Nat.lt_or_ge j k with q | q
          · exact hd.out j hj q
          · obtain rfl : j = k := by omega
            exact ii.2 (by omega)
        clear hd BAD ALL ii
        go_wp2_with fail
        go_round
        case rel => exact ⟨k + 1, by omega, by go_num, hd'⟩
        case measure => simp [intOf]; omega
      · have E := hide (BAD.out k hlt (by cases g : isDg s[k] with
          | false => rfl
          | true => exact absurd (ii.1 g) (by omega)))
        clear hd BAD ALL ii
        go_wp2_with fail
        go_ret
        exact ⟨ret_bool E.out.symm, rfl⟩
    · obtain rfl : k = s.size := by omega
      have E := hide (ALL.out (fun j hj => hd.out j hj hj))
      have E2 : Hid (decide (0 < s.size) = digitsL s.data.toList) := by
        show _ = _
        rw [E.out]
      clear hd BAD ALL E
      go_wp2_with fail
      go_ret
      exact ⟨ret_bool E2.out, rfl⟩

theorem val_bd (l : List UInt8) : ∀ n, n ≤ 10000255 → l.foldl valStep n ≤ 10000255 := by
  induction l with
  | nil => exact fun n h => h
  | cons x l ih =>
    intro n h
    refine ih _ ?_
    unfold valStep
    have := x.toNat_lt
    split <;> omega
theorem val_take {s : ByteArray} {k : Nat} (hk : k < s.size) : valueL (s.data.toList.take (k + 1)) = valStep (valueL (s.data.toList.take k)) s[k] := by
  unfold valueL
  rw [byteAt_take s k hk, List.foldl_append, byteAt_eq s k hk]
  rfl
set_option maxHeartbeats 1000000 in
set_option maxRecDepth 100000 in
theorem refValue_any (s : ByteArray) (w : World) (hs : s.size ≤ 1048576) (hd : s.data.toList.all isDg = true) :
    Calls Tryd.prog 34 #[.string s] w fun e w' => e = .returned (.int .i64 (valueL s.data.toList : Nat)) ∧ w' = w := by
  have DG := hide (fun k (hk : k < s.size) => (isDg_iff s[k]).1 (List.all_eq_true.1 hd _ (mem_at hk)))
  have BD := hide (fun k => val_bd (s.data.toList.take k) 0 (by omega))
  have TK := hide (fun k hk => val_take (s := s) (k := k) hk)
  clear hd
  go_enter Tryd.func34, Tryd.ntmps34
  go_wp2_with fail
  go_loop [3, 4] (fun n i => ∃ k : Nat, k ≤ s.size ∧ i = .int .i64 k ∧ n = .int .i64 (valueL (s.data.toList.take k) : Nat)) (fun _ i => s.size - (intOf i).toNat)
  case atStart => exact ⟨0, Nat.zero_le _, rfl, rfl⟩
  case round =>
    obtain ⟨k, hk, rfl, rfl⟩ := hrel
    by_cases hlt : k < s.size
    · have i1 : (k : Int) < (s.size : Int) := by omega
      have ⟨d1, d2⟩ := DG.out k hlt
      have e := TK.out k hlt
      have hb := BD.out k
      unfold valStep at e
      change valueL (s.data.toList.take k) ≤ 10000255 at hb
      by_cases hv : valueL (s.data.toList.take k) < 1000000
      · rw [if_pos hv] at e
        have RD : Hid (∀ x : Int, x = 10 * (valueL (s.data.toList.take k) : Int) + ((s[k].toNat : Int) - 48) → Value.int IntKind.i64 x = .int .i64 (valueL (s.data.toList.take (k + 1)) : Nat)) := fun x hx => by
          rw [hx, e]; congr 1; omega
        have dd1 : 48 ≤ (s[k].toNat : Int) := by omega
        have dd2 : (s[k].toNat : Int) ≤ 57 := by omega
        have vv : (valueL (s.data.toList.take k) : Int) < 1000000 := by omega
        have v0 : 0 ≤ (valueL (s.data.toList.take k) : Int) := by omega
        clear e hb hv d1 d2 DG BD TK
        generalize (valueL (s.data.toList.take k) : Int) = v at *
        go_wp2_with fail
        go_round
        case rel => exact ⟨k + 1, by omega, by go_num, RD.out _ (by first | rfl | omega)⟩
        case measure => simp [intOf]; omega
      · rw [if_neg hv] at e
        have RD : Hid (Value.int IntKind.i64 (valueL (s.data.toList.take k) : Int) = .int .i64 (valueL (s.data.toList.take (k + 1)) : Nat)) := by
          show _ = _
          rw [e]
        have vv : ¬ (valueL (s.data.toList.take k) : Int) < 1000000 := by omega
        clear e hb hv d1 d2 DG BD TK
        generalize (valueL (s.data.toList.take k) : Int) = v at *
        go_wp2_with fail
        go_round
        case rel => exact ⟨k + 1, by omega, by go_num, RD.out⟩
        case measure => simp [intOf]; omega
    · obtain rfl : k = s.size := by omega
      have E : Hid (valueL (s.data.toList.take s.size) = valueL s.data.toList) := by
        show _ = _
        rw [List.take_of_length_le (by simp)]
      clear DG BD TK
      go_wp2_with fail
      go_ret
      exact ⟨ret_int (by rw [E.out]), rfl⟩

end Go.Proofs.YtkllknfgojjphaaDoor
