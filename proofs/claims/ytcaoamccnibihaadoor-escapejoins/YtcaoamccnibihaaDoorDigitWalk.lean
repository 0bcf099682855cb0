/- The program's digit answers by hexV; it changes nothing. Condition: the table of digits reads as the program's text lays it. -/
import Derived.Test.YtcaoamccnibihaaDoorTables
namespace Go.Proofs.YtcaoamccnibihaaDoor
open Go.RowKit

/-- The number of a digit that is no small letter; -1: it is none. -/
def upV (x : Int) : Int := if 48 ≤ x ∧ x ≤ 57 then x - 48 else if 65 ≤ x ∧ x ≤ 70 then x - 55 else -1
def dig (k : Nat) : Int := ((hexD k).toNat : Int)
def NotTo (x : Int) (k : Nat) : Prop := ∀ j, j < k → dig j ≠ x
theorem dig_eq (k : Nat) (hk : k < 16) : dig k = if k < 10 then (48 : Int) + k else 55 + k := by
  have : ∀ n : Fin 16, dig n.val = if n.val < 10 then (48 : Int) + n.val else 55 + n.val := by decide
  exact this ⟨k, hk⟩
theorem notTo_succ {x : Int} {k : Nat} (h : NotTo x k) (he : dig k ≠ x) : NotTo x (k + 1) := by
  intro j hj
  rcases Nat.lt_or_ge j k with h' | h'
  · exact h j h'
  · obtain rfl : j = k := by omega
    exact he
theorem upV_hit {x : Int} {k : Nat} (hk : k < 16) (he : dig k = x) : upV x = k := by
  rw [dig_eq k hk] at he
  unfold upV
  by_cases h : k < 10
  · rw [if_pos h] at he; rw [if_pos (by omega)]; omega
  · rw [if_neg h] at he; rw [if_neg (by omega), if_pos (by omega)]; omega
theorem upV_none {x : Int} (h : NotTo x 16) : upV x = -1 := by
  unfold upV
  by_cases h1 : 48 ≤ x ∧ x ≤ 57
  · exfalso
    refine h (x - 48).toNat (by omega) ?_
    rw [dig_eq _ (by omega), if_pos (by omega)]; omega
  · by_cases h2 : 65 ≤ x ∧ x ≤ 70
    · exfalso
      refine h (x - 55).toNat (by omega) ?_
      rw [dig_eq _ (by omega), if_neg (by omega)]; omega
    · rw [if_neg h1, if_neg h2]
theorem hexV_low {c : UInt8} (h : 97 ≤ c.toNat ∧ c.toNat ≤ 102) : hexV c = upV ((c.toNat : Int) - 32) := by
  unfold hexV upV
  rw [if_neg (by omega), if_neg (by omega), if_pos h, if_neg (by omega), if_pos (by omega)]; omega
theorem hexV_up {c : UInt8} (h : ¬ (97 ≤ c.toNat ∧ c.toNat ≤ 102)) : hexV c = upV (c.toNat : Int) := by
  unfold hexV upV
  by_cases h1 : 48 ≤ c.toNat ∧ c.toNat ≤ 57
  · rw [if_pos h1, if_pos (show (48 : Int) ≤ c.toNat ∧ (c.toNat : Int) ≤ 57 by omega)]
  · rw [if_neg h1, if_neg (show ¬ ((48 : Int) ≤ c.toNat ∧ (c.toNat : Int) ≤ 57) by omega)]
    by_cases h2 : 65 ≤ c.toNat ∧ c.toNat ≤ 70
    · rw [if_pos h2, if_pos (show (65 : Int) ≤ c.toNat ∧ (c.toNat : Int) ≤ 70 by omega)]
    · rw [if_neg h2, if_neg h, if_neg (show ¬ ((65 : Int) ≤ c.toNat ∧ (c.toNat : Int) ≤ 70) by omega)]
/-- What digit answers of a number: the number, and whether there is one. -/
def dNum (v : Int) : Int := if v < 0 then 0 else v
def dOk (v : Int) : Bool := decide (0 ≤ v)
theorem dNum_yes {v : Int} (h : 0 ≤ v) : dNum v = v := by unfold dNum; rw [if_neg (by omega)]
theorem dOk_yes {v : Int} (h : 0 ≤ v) : dOk v = true := decide_eq_true h
theorem dOk_no {v : Int} (h : ¬ 0 ≤ v) : dOk v = false := decide_eq_false h
theorem ret_digit {x : Int} {k : Nat} (h : upV x = k) {y : Int} (hy : y = (k : Int)) : Ending.returned (.tuple #[.int .u8 y, .bool true]) = .returned (.tuple #[.int .u8 (dNum (upV x)), .bool (dOk (upV x))]) := by
  rw [h, hy, dNum_yes (by omega), dOk_yes (by omega)]
theorem ret_nodigit {x : Int} (h : upV x = -1) : Ending.returned (.tuple #[.int .u8 0, .bool false]) = .returned (.tuple #[.int .u8 (dNum (upV x)), .bool (dOk (upV x))]) := by
  rw [h]; rfl
theorem index_digs (k : Nat) (hk : k < 16) (w : World) :
    (Instr.index 53 (.agg #[.int .u8 48, .int .u8 49, .int .u8 50, .int .u8 51, .int .u8 52, .int .u8 53, .int .u8 54, .int .u8 55, .int .u8 56, .int .u8 57, .int .u8 65, .int .u8 66, .int .u8 67, .int .u8 68, .int .u8 69, .int .u8 70]) (.int .i64 k)).run Tryd.prog w = .ok (.int .u8 (dig k)) w := by
  match k, hk with
  | 0, _ => rfl
  | 1, _ => rfl
  | 2, _ => rfl
  | 3, _ => rfl
  | 4, _ => rfl
  | 5, _ => rfl
  | 6, _ => rfl
  | 7, _ => rfl
  | 8, _ => rfl
  | 9, _ => rfl
  | 10, _ => rfl
  | 11, _ => rfl
  | 12, _ => rfl
  | 13, _ => rfl
  | 14, _ => rfl
  | 15, _ => rfl
  | k + 16, h => exact absurd h (by omega)

set_option maxHeartbeats 1000000 in
theorem digit_low (c : UInt8) (w : World) (hT : Digs w) (hc : 97 ≤ c.toNat ∧ c.toNat ≤ 102) :
    Calls Tryd.prog 37 #[.int .u8 (c.toNat : Int)] w fun e w' => e = .returned (.tuple #[.int .u8 (dNum (upV ((c.toNat : Int) - 32))), .bool (dOk (upV ((c.toNat : Int) - 32)))]) ∧ w' = w := by
  have d0 : w.cell? ⟨1, 0, none⟩ = some (.int .u8 48) := hT 0 (by decide)
  have d1 : w.cell? ⟨1, 1, none⟩ = some (.int .u8 49) := hT 1 (by decide)
  have d2 : w.cell? ⟨1, 2, none⟩ = some (.int .u8 50) := hT 2 (by decide)
  have d3 : w.cell? ⟨1, 3, none⟩ = some (.int .u8 51) := hT 3 (by decide)
  have d4 : w.cell? ⟨1, 4, none⟩ = some (.int .u8 52) := hT 4 (by decide)
  have d5 : w.cell? ⟨1, 5, none⟩ = some (.int .u8 53) := hT 5 (by decide)
  have d6 : w.cell? ⟨1, 6, none⟩ = some (.int .u8 54) := hT 6 (by decide)
  have d7 : w.cell? ⟨1, 7, none⟩ = some (.int .u8 55) := hT 7 (by decide)
  have d8 : w.cell? ⟨1, 8, none⟩ = some (.int .u8 56) := hT 8 (by decide)
  have d9 : w.cell? ⟨1, 9, none⟩ = some (.int .u8 57) := hT 9 (by decide)
  have d10 : w.cell? ⟨1, 10, none⟩ = some (.int .u8 65) := hT 10 (by decide)
  have d11 : w.cell? ⟨1, 11, none⟩ = some (.int .u8 66) := hT 11 (by decide)
  have d12 : w.cell? ⟨1, 12, none⟩ = some (.int .u8 67) := hT 12 (by decide)
  have d13 : w.cell? ⟨1, 13, none⟩ = some (.int .u8 68) := hT 13 (by decide)
  have d14 : w.cell? ⟨1, 14, none⟩ = some (.int .u8 69) := hT 14 (by decide)
  have d15 : w.cell? ⟨1, 15, none⟩ = some (.int .u8 70) := hT 15 (by decide)
  clear hT
  obtain ⟨hc1, hc2⟩ := hc
  go_enter Tryd.func37, Tryd.ntmps37
  go_wp2_with fail
  go_loop [15] (fun i => ∃ k : Nat, k ≤ 16 ∧ i = .int .i64 k ∧ NotTo ((c.toNat : Int) - 32) k) (fun i => 16 - (intOf i).toNat)
  case atStart => exact ⟨0, Nat.zero_le _, rfl, fun j hj => absurd hj (Nat.not_lt_zero _)⟩
  case round =>
    obtain ⟨k, hk, rfl, hn⟩ := hrel
    have HN := hide hn
    clear hn
    by_cases hlt : k < 16
    · have hix := index_digs k hlt w
      by_cases he : dig k = (c.toNat : Int) - 32
      · have q : (dig k == (c.toNat : Int) - 32) = true := by simpa using he
        have HV := hide (upV_hit hlt he)
        clear he
        go_wp2
        go_ret2
        exact ⟨ret_digit HV.out rfl, rfl⟩
      · have q : (dig k == (c.toNat : Int) - 32) = false := by simpa using he
        have HV := hide (notTo_succ HN.out he)
        clear he
        go_wp2
        go_round
        case rel => exact ⟨k + 1, by omega, by go_num, HV.out⟩
        case measure => simp [intOf]; omega
    · have e : k = 16 := by omega
      subst e
      have HV := hide (upV_none HN.out)
      go_wp2
      go_ret2
      exact ⟨ret_nodigit HV.out, rfl⟩

set_option maxHeartbeats 1000000 in
theorem digit_up (c : UInt8) (w : World) (hT : Digs w) (hc : c.toNat < 97 ∨ 102 < c.toNat) :
    Calls Tryd.prog 37 #[.int .u8 (c.toNat : Int)] w fun e w' => e = .returned (.tuple #[.int .u8 (dNum (upV ((c.toNat : Int)))), .bool (dOk (upV ((c.toNat : Int))))]) ∧ w' = w := by
  have d0 : w.cell? ⟨1, 0, none⟩ = some (.int .u8 48) := hT 0 (by decide)
  have d1 : w.cell? ⟨1, 1, none⟩ = some (.int .u8 49) := hT 1 (by decide)
  have d2 : w.cell? ⟨1, 2, none⟩ = some (.int .u8 50) := hT 2 (by decide)
  have d3 : w.cell? ⟨1, 3, none⟩ = some (.int .u8 51) := hT 3 (by decide)
  have d4 : w.cell? ⟨1, 4, none⟩ = some (.int .u8 52) := hT 4 (by decide)
  have d5 : w.cell? ⟨1, 5, none⟩ = some (.int .u8 53) := hT 5 (by decide)
  have d6 : w.cell? ⟨1, 6, none⟩ = some (.int .u8 54) := hT 6 (by decide)
  have d7 : w.cell? ⟨1, 7, none⟩ = some (.int .u8 55) := hT 7 (by decide)
  have d8 : w.cell? ⟨1, 8, none⟩ = some (.int .u8 56) := hT 8 (by decide)
  have d9 : w.cell? ⟨1, 9, none⟩ = some (.int .u8 57) := hT 9 (by decide)
  have d10 : w.cell? ⟨1, 10, none⟩ = some (.int .u8 65) := hT 10 (by decide)
  have d11 : w.cell? ⟨1, 11, none⟩ = some (.int .u8 66) := hT 11 (by decide)
  have d12 : w.cell? ⟨1, 12, none⟩ = some (.int .u8 67) := hT 12 (by decide)
  have d13 : w.cell? ⟨1, 13, none⟩ = some (.int .u8 68) := hT 13 (by decide)
  have d14 : w.cell? ⟨1, 14, none⟩ = some (.int .u8 69) := hT 14 (by decide)
  have d15 : w.cell? ⟨1, 15, none⟩ = some (.int .u8 70) := hT 15 (by decide)
  clear hT
  rcases hc with hc | hc
  · go_enter Tryd.func37, Tryd.ntmps37
    go_wp2_with fail
    go_loop [15] (fun i => ∃ k : Nat, k ≤ 16 ∧ i = .int .i64 k ∧ NotTo ((c.toNat : Int)) k) (fun i => 16 - (intOf i).toNat)
    case atStart => exact ⟨0, Nat.zero_le _, rfl, fun j hj => absurd hj (Nat.not_lt_zero _)⟩
    case round =>
      obtain ⟨k, hk, rfl, hn⟩ := hrel
      have HN := hide hn
      clear hn
      by_cases hlt : k < 16
      · have hix := index_digs k hlt w
        by_cases he : dig k = (c.toNat : Int)
        · have q : (dig k == (c.toNat : Int)) = true := by simpa using he
          have HV := hide (upV_hit hlt he)
          clear he
          go_wp2
          go_ret2
          exact ⟨ret_digit HV.out rfl, rfl⟩
        · have q : (dig k == (c.toNat : Int)) = false := by simpa using he
          have HV := hide (notTo_succ HN.out he)
          clear he
          go_wp2
          go_round
          case rel => exact ⟨k + 1, by omega, by go_num, HV.out⟩
          case measure => simp [intOf]; omega
      · have e : k = 16 := by omega
        subst e
        have HV := hide (upV_none HN.out)
        go_wp2
        go_ret2
        exact ⟨ret_nodigit HV.out, rfl⟩
  · go_enter Tryd.func37, Tryd.ntmps37
    go_wp2_with fail
    go_loop [15] (fun i => ∃ k : Nat, k ≤ 16 ∧ i = .int .i64 k ∧ NotTo ((c.toNat : Int)) k) (fun i => 16 - (intOf i).toNat)
    case atStart => exact ⟨0, Nat.zero_le _, rfl, fun j hj => absurd hj (Nat.not_lt_zero _)⟩
    case round =>
      obtain ⟨k, hk, rfl, hn⟩ := hrel
      have HN := hide hn
      clear hn
      by_cases hlt : k < 16
      · have hix := index_digs k hlt w
        by_cases he : dig k = (c.toNat : Int)
        · have q : (dig k == (c.toNat : Int)) = true := by simpa using he
          have HV := hide (upV_hit hlt he)
          clear he
          go_wp2
          go_ret2
          exact ⟨ret_digit HV.out rfl, rfl⟩
        · have q : (dig k == (c.toNat : Int)) = false := by simpa using he
          have HV := hide (notTo_succ HN.out he)
          clear he
          go_wp2
          go_round
          case rel => exact ⟨k + 1, by omega, by go_num, HV.out⟩
          case measure => simp [intOf]; omega
      · have e : k = 16 := by omega
        subst e
        have HV := hide (upV_none HN.out)
        go_wp2
        go_ret2
        exact ⟨ret_nodigit HV.out, rfl⟩

theorem digit_any (c : UInt8) (w : World) (hT : Digs w) :
    Calls Tryd.prog 37 #[.int .u8 (c.toNat : Int)] w fun e w' => e = .returned (.tuple #[.int .u8 (dNum (hexV c)), .bool (dOk (hexV c))]) ∧ w' = w := by
  by_cases h : 97 ≤ c.toNat ∧ c.toNat ≤ 102
  · rw [hexV_low h]; exact digit_low c w hT h
  · rw [hexV_up h]; exact digit_up c w hT (by omega)

end Go.Proofs.YtcaoamccnibihaaDoor
