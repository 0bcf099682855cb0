/- The document's day and clock: they answer by dateT and clockT; nothing is changed (draws aside). Condition: texts as long as the law asks. -/
import Derived.Test.YtekcbkicfoaheaaGreatDoorMomR2
import Derived.Test.YtekcbkicfoaheaaGreatDoorDayNumR
namespace Go.Proofs.YtekcbkicfoaheaaGreatDoor
open Go.RowKit

/-- A number and whether there is one. -/
def outB : Option Int → Int × Bool
  | none => (0, false)
  | some n => (n, true)
theorem ret_outB {o : Option Int} {a : Int} {b : Bool} (h : outB o = (a, b)) : Ending.returned (.tuple #[.int .i64 a, .bool b]) = .returned (.tuple #[.int .i64 (outB o).1, .bool (outB o).2]) := by rw [h]
theorem list_size (s : ByteArray) : s.data.toList.length = s.size := by simp
theorem drop_end {s : ByteArray} {k : Nat} (h : s.size ≤ k) : s.data.toList.drop k = [] := List.drop_of_length_le (by simpa using h)
theorem drop_b {s : ByteArray} {k : Nat} (hk : k < s.size) : s.data.toList.drop k = byteAt s k :: s.data.toList.drop (k + 1) := by rw [drop_one hk, byteAt_eq s k hk]
theorem rest_lead (s : ByteArray) : s.data.toList.dropWhile isDg = s.data.toList.drop (lead s) := (drop_lead _).symm
theorem yearP_no {s : ByteArray} (h : yrV (s.data.toList.takeWhile isDg) = none) : yearP s = (0, 0) := by unfold yearP; rw [h]
theorem yearP_yes {s : ByteArray} {y : Int} (h : yrV (s.data.toList.takeWhile isDg) = some y) : yearP s = (y, (lead s : Int)) ∧ 4 ≤ lead s := by
  refine ⟨by unfold yearP; rw [h], ?_⟩
  unfold yrV at h
  split at h
  · rename_i g; exact g.1
  · cases h
theorem date_none {s : ByteArray} (h : yrV (s.data.toList.takeWhile isDg) = none) : dateT s.data.toList = none := by unfold dateT; rw [h]; rfl
theorem date_some_y {s : ByteArray} {y : Int} (h : yrV (s.data.toList.takeWhile isDg) = some y) : dateT s.data.toList = dateTail y (s.data.toList.drop (lead s)) := by
  unfold dateT; rw [h, rest_lead]; rfl
theorem dateTail_len {y : Int} : ∀ {l : List UInt8}, l.length ≠ 6 → dateTail y l = none
  | [], _ => rfl
  | [_], _ => rfl
  | [_, _], _ => rfl
  | [_, _, _], _ => rfl
  | [_, _, _, _], _ => rfl
  | [_, _, _, _, _], _ => rfl
  | [_, _, _, _, _, _], h => absurd rfl h
  | _ :: _ :: _ :: _ :: _ :: _ :: _ :: _, _ => rfl
theorem drop_len (s : ByteArray) (k : Nat) : (s.data.toList.drop k).length = s.size - k := by rw [List.length_drop, list_size]
theorem date_long {s : ByteArray} {y : Int} (h : yrV (s.data.toList.takeWhile isDg) = some y) (hs : s.size ≠ lead s + 6) : dateT s.data.toList = none := by
  have := lead_le s
  rw [date_some_y h, dateTail_len (by rw [drop_len]; omega)]
theorem date_six {s : ByteArray} {y : Int} (h : yrV (s.data.toList.takeWhile isDg) = some y) (hs : s.size = lead s + 6) :
    dateT s.data.toList = if byteAt s (lead s) = 45 ∧ byteAt s (lead s + 3) = 45 then numD y (twoAt s (lead s + 1)) (twoAt s (lead s + 4)) else none := by
  rw [date_some_y h, drop_b (by omega), drop_b (by omega), drop_b (by omega), drop_b (by omega), drop_b (by omega), drop_b (by omega), drop_end (by omega), dateTail_eq, twoAt_in (by omega), twoAt_in (by omega)]
theorem at_is {s : ByteArray} {k : Nat} {c : UInt8} (h : k < s.size) : atV s k c = decide (byteAt s k = c) := by
  unfold atV
  by_cases e : byteAt s k = c
  · rw [decide_eq_true ⟨h, e⟩, decide_eq_true e]
  · rw [decide_eq_false (fun x => e x.2), decide_eq_false e]
theorem twoAt_bounds (s : ByteArray) (k : Nat) : -1 ≤ twoAt s k ∧ twoAt s k ≤ 99 := by
  unfold twoAt
  split
  · rename_i h
    have := dg_lt (dig_some h.1).2
    have := dg_lt (dig_some h.2).2
    omega
  · omega

set_option maxHeartbeats 1000000 in
theorem day_any (s : ByteArray) (w : World) (hs : s.size ≤ 100000) :
    Calls Tryz.prog 43 #[.string s] w fun e w' => e = .returned (.tuple #[.int .i64 (outB ((dateT s.data.toList).map (· * 86400000))).1, .bool (outB ((dateT s.data.toList).map (· * 86400000))).2]) ∧ ∃ q, w' = w.drewN q := by
  have hY := fun w => year_any s w hs
  cases hy : yrV (s.data.toList.takeWhile isDg) with
  | none =>
    rw [yearP_no hy] at hY
    have E : Hid (outB ((dateT s.data.toList).map (· * 86400000)) = (0, false)) := by show _ = _; rw [date_none hy]; rfl
    have HY := hide hY
    clear hY hy
    go_enter Tryz.func43, Tryz.ntmps43
    go_wp2_with fail
    refine (HY.out _).mono ?_
    rintro e u1 ⟨rfl, rfl⟩
    go_wp2_with fail
    go_ret2
    exact ⟨ret_outB E.out, 0, rfl⟩
  | some y =>
    have ⟨e1, n4⟩ := yearP_yes hy
    have hle := lead_le s
    have yb := year_of hy
    rw [e1] at hY
    have hA := fun w => at1_any s (lead s) 45 w hs (by omega)
    have hB := fun w => at1_any s (lead s + 3) 45 w hs (by omega)
    have hC := fun w => two_any s (lead s + 1) w hs (by omega)
    have hD := fun w => two_any s (lead s + 4) w hs (by omega)
    rw [show ((lead s + 3 : Nat) : Int) = (lead s : Int) + 3 by omega] at hB
    rw [show ((lead s + 1 : Nat) : Int) = (lead s : Int) + 1 by omega] at hC
    rw [show ((lead s + 4 : Nat) : Int) = (lead s : Int) + 4 by omega] at hD
    by_cases hz : s.size = lead s + 6
    · rw [at_is (by omega)] at hA
      rw [at_is (by omega)] at hB
      have hx := date_six hy hz
      have bm := twoAt_bounds s (lead s + 1)
      have bd := twoAt_bounds s (lead s + 4)
      generalize twoAt s (lead s + 1) = m at *
      generalize twoAt s (lead s + 4) = d at *
      have z1 : ((lead s : Int) == 0) = false := beq_no (by omega)
      have z2 : ((s.size : Int) != (lead s : Int) + 6) = false := by
        rw [bne, beq_yes (by omega)]; rfl
      have HY := hide hY
      clear hY hy e1 n4 hle
      by_cases h1 : byteAt s (lead s) = 45
      · rw [decide_eq_true h1] at hA
        by_cases h2 : byteAt s (lead s + 3) = 45
        · rw [decide_eq_true h2] at hB
          rw [if_pos ⟨h1, h2⟩] at hx
          unfold numD at hx
          by_cases h3 : 1 ≤ d ∧ d ≤ LenV y m
          · rw [if_pos h3] at hx
            have hd := day_is h3.1 h3.2
            generalize newV y + aheadI y m + (d - 1) = k at *
            have bk := hd.bounds
            have hN := fun w => refNumber_in k y m d w hd
            have E : Hid (outB ((dateT s.data.toList).map (· * 86400000)) = (k * 86400000, true)) := by show _ = _; rw [hx]; rfl
            have HA := hide hA
            have HB := hide hB
            have HC := hide hC
            have HD := hide hD
            have HN := hide hN
            clear hA hB hC hD hN hx hd h1 h2 h3
            go_enter Tryz.func43, Tryz.ntmps43
            go_wp2_with fail
            refine (HY.out _).mono ?_
            rintro e u1 ⟨rfl, rfl⟩
            go_wp2_with fail
            refine (HA.out _).mono ?_
            rintro e u1 ⟨rfl, rfl⟩
            go_wp2_with fail
            refine (HB.out _).mono ?_
            rintro e u1 ⟨rfl, rfl⟩
            go_wp2_with fail
            refine (HC.out _).mono ?_
            rintro e u2 ⟨rfl, q2, rfl⟩
            go_wp2_with fail
            refine (HD.out _).mono ?_
            rintro e u3 ⟨rfl, q3, rfl⟩
            go_wp2_with fail
            refine (HN.out _).mono ?_
            rintro e u1 ⟨rfl, rfl⟩
            go_wp2_with fail
            go_ret2
            exact ⟨ret_outB E.out, _, rfl⟩
          · rw [if_neg h3] at hx
            have hN := fun w => refNumber_out y m d w (by omega) (by omega) (by omega) (by omega) h3
            have E : Hid (outB ((dateT s.data.toList).map (· * 86400000)) = (0, false)) := by show _ = _; rw [hx]; rfl
            have HA := hide hA
            have HB := hide hB
            have HC := hide hC
            have HD := hide hD
            have HN := hide hN
            clear hA hB hC hD hN hx h1 h2 h3
            go_enter Tryz.func43, Tryz.ntmps43
            go_wp2_with fail
            refine (HY.out _).mono ?_
            rintro e u1 ⟨rfl, rfl⟩
            go_wp2_with fail
            refine (HA.out _).mono ?_
            rintro e u1 ⟨rfl, rfl⟩
            go_wp2_with fail
            refine (HB.out _).mono ?_
            rintro e u1 ⟨rfl, rfl⟩
            go_wp2_with fail
            refine (HC.out _).mono ?_
            rintro e u2 ⟨rfl, q2, rfl⟩
            go_wp2_with fail
            refine (HD.out _).mono ?_
            rintro e u3 ⟨rfl, q3, rfl⟩
            go_wp2_with fail
            refine (HN.out _).mono ?_
            rintro e u1 ⟨rfl, rfl⟩
            go_wp2_with fail
            go_ret2
            exact ⟨ret_outB E.out, _, rfl⟩
        · rw [decide_eq_false h2] at hB
          rw [if_neg (fun x => h2 x.2)] at hx
          have E : Hid (outB ((dateT s.data.toList).map (· * 86400000)) = (0, false)) := by show _ = _; rw [hx]; rfl
          have HA := hide hA
          have HB := hide hB
          clear hA hB hC hD hx h1 h2
          go_enter Tryz.func43, Tryz.ntmps43
          go_wp2_with fail
          refine (HY.out _).mono ?_
          rintro e u1 ⟨rfl, rfl⟩
          go_wp2_with fail
          refine (HA.out _).mono ?_
          rintro e u1 ⟨rfl, rfl⟩
          go_wp2_with fail
          refine (HB.out _).mono ?_
          rintro e u1 ⟨rfl, rfl⟩
          go_wp2_with fail
          go_ret2
          exact ⟨ret_outB E.out, 0, rfl⟩
      · rw [decide_eq_false h1] at hA
        rw [if_neg (fun x => h1 x.1)] at hx
        have E : Hid (outB ((dateT s.data.toList).map (· * 86400000)) = (0, false)) := by show _ = _; rw [hx]; rfl
        have HA := hide hA
        clear hA hB hC hD hx h1
        go_enter Tryz.func43, Tryz.ntmps43
        go_wp2_with fail
        refine (HY.out _).mono ?_
        rintro e u1 ⟨rfl, rfl⟩
        go_wp2_with fail
        refine (HA.out _).mono ?_
        rintro e u1 ⟨rfl, rfl⟩
        go_wp2_with fail
        go_ret2
        exact ⟨ret_outB E.out, 0, rfl⟩
    · have E : Hid (outB ((dateT s.data.toList).map (· * 86400000)) = (0, false)) := by show _ = _; rw [date_long hy hz]; rfl
      have z1 : ((lead s : Int) == 0) = false := beq_no (by omega)
      have z2 : ((s.size : Int) != (lead s : Int) + 6) = true := by
        rw [bne, beq_no (by omega)]; rfl
      have HY := hide hY
      clear hY hy e1 n4 hz hA hB hC hD
      go_enter Tryz.func43, Tryz.ntmps43
      go_wp2_with fail
      refine (HY.out _).mono ?_
      rintro e u1 ⟨rfl, rfl⟩
      go_wp2_with fail
      go_ret2
      exact ⟨ret_outB E.out, 0, rfl⟩

end Go.Proofs.YtekcbkicfoaheaaGreatDoor
