/- The program's digit answers by hexV; it changes nothing. The program's Decode answers by decL; it changes nothing that was there. The program's Form and Unform answer by functions of lists of bytes. The program's quote, unquote and part of layer 20. The document's Told of layer 20. -/
import Derived.Test.YtnojgejcmaajmaaGreatDoorJsb28
import Derived.Test.YtnojgejcmaajmaaGreatDoorJsb46

namespace Go.Proofs.YtnojgejcmaajmaaGreatDoor
open Go.RowKit
set_option maxRecDepth 100000
/-- The number of a digit that is no small letter; -1: it is none. -/
def upV (x : Int) : Int := if 48 ≤ x ∧ x ≤ 57 then x - 48 else if 65 ≤ x ∧ x ≤ 70 then x - 55 else -1
def dig (k : Nat) : Int := ((hexD k).toNat : Int)
def NotTo (x : Int) (k : Nat) : Prop := ∀ j, j < k → dig j ≠ x
theorem dig_eq (k : Nat) (hk : k < 16) : dig k = if k < 10 then (48 : Int) + k else 55 + k := by
  have : ∀ n : Fin 16, dig n.val = if n.val < 10 then (48 : Int) + n.val else 55 + n.val := by decide
  exact this ⟨k, hk⟩
theorem notTo_succ {x : Int} {k : Nat} (h : NotTo x k) (he : dig k ≠ x) : NotTo x (k + 1) := by
  intro j hj
  rcases Nat.lt_or_ge j k with h' | h'
  · exact h j h'
  · obtain rfl : j = k := by omega
    exact he
theorem upV_hit {x : Int} {k : Nat} (hk : k < 16) (he : dig k = x) : upV x = k := by
  rw [dig_eq k hk] at he
  unfold upV
  by_cases h : k < 10
  · rw [if_pos h] at he; rw [if_pos (by omega)]; omega
  · rw [if_neg h] at he; rw [if_neg (by omega), if_pos (by omega)]; omega
theorem upV_none {x : Int} (h : NotTo x 16) : upV x = -1 := by
  unfold upV
  by_cases h1 : 48 ≤ x ∧ x ≤ 57
  · exfalso
    refine h (x - 48).toNat (by omega) ?_
    rw [dig_eq _ (by omega), if_pos (by omega)]; omega
  · by_cases h2 : 65 ≤ x ∧ x ≤ 70
    · exfalso
      refine h (x - 55).toNat (by omega) ?_
      rw [dig_eq _ (by omega), if_neg (by omega)]; omega
    · rw [if_neg h1, if_neg h2]
theorem hexV_low {c : UInt8} (h : 97 ≤ c.toNat ∧ c.toNat ≤ 102) : hexV c = upV ((c.toNat : Int) - 32) := by
  unfold hexV upV
  rw [if_neg (by omega), if_neg (by omega), if_pos h, if_neg (by omega), if_pos (by omega)]; omega
theorem hexV_up {c : UInt8} (h : ¬ (97 ≤ c.toNat ∧ c.toNat ≤ 102)) : hexV c = upV (c.toNat : Int) := by
  unfold hexV upV
  by_cases h1 : 48 ≤ c.toNat ∧ c.toNat ≤ 57
  · rw [if_pos h1, if_pos (show (48 : Int) ≤ c.toNat ∧ (c.toNat : Int) ≤ 57 by omega)]
  · rw [if_neg h1, if_neg (show ¬ ((48 : Int) ≤ c.toNat ∧ (c.toNat : Int) ≤ 57) by omega)]
    by_cases h2 : 65 ≤ c.toNat ∧ c.toNat ≤ 70
    · rw [if_pos h2, if_pos (show (65 : Int) ≤ c.toNat ∧ (c.toNat : Int) ≤ 70 by omega)]
    · rw [if_neg h2, if_neg h, if_neg (show ¬ ((65 : Int) ≤ c.toNat ∧ (c.toNat : Int) ≤ 70) by omega)]
/-- What digit answers of a number: the number, and whether there is one. -/
def dNum (v : Int) : Int := if v < 0 then 0 else v
def dOk (v : Int) : Bool := decide (0 ≤ v)
theorem dNum_yes {v : Int} (h : 0 ≤ v) : dNum v = v := by unfold dNum; rw [if_neg (by omega)]
theorem dOk_yes {v : Int} (h : 0 ≤ v) : dOk v = true := decide_eq_true h
theorem dOk_no {v : Int} (h : ¬ 0 ≤ v) : dOk v = false := decide_eq_false h
theorem ret_digit {x : Int} {k : Nat} (h : upV x = k) {y : Int} (hy : y = (k : Int)) : Ending.returned (.tuple #[.int .u8 y, .bool true]) = .returned (.tuple #[.int .u8 (dNum (upV x)), .bool (dOk (upV x))]) := by
  rw [h, hy, dNum_yes (by omega), dOk_yes (by omega)]
theorem ret_nodigit {x : Int} (h : upV x = -1) : Ending.returned (.tuple #[.int .u8 0, .bool false]) = .returned (.tuple #[.int .u8 (dNum (upV x)), .bool (dOk (upV x))]) := by
  rw [h]; rfl
theorem index_digs (k : Nat) (hk : k < 16) (w : World) :
    (Instr.index 181 (.agg #[.int .u8 48, .int .u8 49, .int .u8 50, .int .u8 51, .int .u8 52, .int .u8 53, .int .u8 54, .int .u8 55, .int .u8 56, .int .u8 57, .int .u8 65, .int .u8 66, .int .u8 67, .int .u8 68, .int .u8 69, .int .u8 70]) (.int .i64 k)).run Tryz.prog w = .ok (.int .u8 (dig k)) w := by
  match k, hk with
  | 0, _ => rfl
  | 1, _ => rfl
  | 2, _ => rfl
  | 3, _ => rfl
  | 4, _ => rfl
  | 5, _ => rfl
  | 6, _ => rfl
  | 7, _ => rfl
  | 8, _ => rfl
  | 9, _ => rfl
  | 10, _ => rfl
  | 11, _ => rfl
  | 12, _ => rfl
  | 13, _ => rfl
  | 14, _ => rfl
  | 15, _ => rfl
  | k + 16, h => exact absurd h (by omega)
set_option maxHeartbeats 1000000 in
theorem digit_low (c : UInt8) (w : World) (hT : Digs w) (hc : 97 ≤ c.toNat ∧ c.toNat ≤ 102) :
    Calls Tryz.prog 213 #[.int .u8 (c.toNat : Int)] w fun e w' => e = .returned (.tuple #[.int .u8 (dNum (upV ((c.toNat : Int) - 32))), .bool (dOk (upV ((c.toNat : Int) - 32)))]) ∧ w' = w := by
  have d0 : w.cell? ⟨5, 0, none⟩ = some (.int .u8 48) := hT 0 (by decide)
  have d1 : w.cell? ⟨5, 1, none⟩ = some (.int .u8 49) := hT 1 (by decide)
  have d2 : w.cell? ⟨5, 2, none⟩ = some (.int .u8 50) := hT 2 (by decide)
  have d3 : w.cell? ⟨5, 3, none⟩ = some (.int .u8 51) := hT 3 (by decide)
  have d4 : w.cell? ⟨5, 4, none⟩ = some (.int .u8 52) := hT 4 (by decide)
  have d5 : w.cell? ⟨5, 5, none⟩ = some (.int .u8 53) := hT 5 (by decide)
  have d6 : w.cell? ⟨5, 6, none⟩ = some (.int .u8 54) := hT 6 (by decide)
  have d7 : w.cell? ⟨5, 7, none⟩ = some (.int .u8 55) := hT 7 (by decide)
  have d8 : w.cell? ⟨5, 8, none⟩ = some (.int .u8 56) := hT 8 (by decide)
  have d9 : w.cell? ⟨5, 9, none⟩ = some (.int .u8 57) := hT 9 (by decide)
  have d10 : w.cell? ⟨5, 10, none⟩ = some (.int .u8 65) := hT 10 (by decide)
  have d11 : w.cell? ⟨5, 11, none⟩ = some (.int .u8 66) := hT 11 (by decide)
  have d12 : w.cell? ⟨5, 12, none⟩ = some (.int .u8 67) := hT 12 (by decide)
  have d13 : w.cell? ⟨5, 13, none⟩ = some (.int .u8 68) := hT 13 (by decide)
  have d14 : w.cell? ⟨5, 14, none⟩ = some (.int .u8 69) := hT 14 (by decide)
  have d15 : w.cell? ⟨5, 15, none⟩ = some (.int .u8 70) := hT 15 (by decide)
  clear hT
  obtain ⟨hc1, hc2⟩ := hc
  go_enter Tryz.func213, Tryz.ntmps213
  go_wp2_with fail
  go_loop [15] (fun i => ∃ k : Nat, k ≤ 16 ∧ i = .int .i64 k ∧ NotTo ((c.toNat : Int) - 32) k) (fun i => 16 - (intOf i).toNat)
  case atStart => exact ⟨0, Nat.zero_le _, rfl, fun j hj => absurd hj (Nat.not_lt_zero _)⟩
  case round =>
    obtain ⟨k, hk, rfl, hn⟩ := hrel
    have HN := hide hn
    clear hn
    by_cases hlt : k < 16
    · have hix := index_digs k hlt w
      by_cases he : dig k = (c.toNat : Int) - 32
      · have q : (dig k == (c.toNat : Int) - 32) = true := by simpa using he
        have HV := hide (upV_hit hlt he)
        clear he
        go_wp2
        go_ret2
        exact ⟨ret_digit HV.out rfl, rfl⟩
      · have q : (dig k == (c.toNat : Int) - 32) = false := by simpa using he
        have HV := hide (notTo_succ HN.out he)
        clear he
        go_wp2
        go_round
        case rel => exact ⟨k + 1, by omega, by go_num, HV.out⟩
        case measure => simp [intOf]; omega
    · have e : k = 16 := by omega
      subst e
      have HV := hide (upV_none HN.out)
      go_wp2
      go_ret2
      exact ⟨ret_nodigit HV.out, rfl⟩
set_option maxHeartbeats 1000000 in
theorem digit_up (c : UInt8) (w : World) (hT : Digs w) (hc : c.toNat < 97 ∨ 102 < c.toNat) :
    Calls Tryz.prog 213 #[.int .u8 (c.toNat : Int)] w fun e w' => e = .returned (.tuple #[.int .u8 (dNum (upV ((c.toNat : Int)))), .bool (dOk (upV ((c.toNat : Int))))]) ∧ w' = w := by
  have d0 : w.cell? ⟨5, 0, none⟩ = some (.int .u8 48) := hT 0 (by decide)
  have d1 : w.cell? ⟨5, 1, none⟩ = some (.int .u8 49) := hT 1 (by decide)
  have d2 : w.cell? ⟨5, 2, none⟩ = some (.int .u8 50) := hT 2 (by decide)
  have d3 : w.cell? ⟨5, 3, none⟩ = some (.int .u8 51) := hT 3 (by decide)
  have d4 : w.cell? ⟨5, 4, none⟩ = some (.int .u8 52) := hT 4 (by decide)
  have d5 : w.cell? ⟨5, 5, none⟩ = some (.int .u8 53) := hT 5 (by decide)
  have d6 : w.cell? ⟨5, 6, none⟩ = some (.int .u8 54) := hT 6 (by decide)
  have d7 : w.cell? ⟨5, 7, none⟩ = some (.int .u8 55) := hT 7 (by decide)
  have d8 : w.cell? ⟨5, 8, none⟩ = some (.int .u8 56) := hT 8 (by decide)
  have d9 : w.cell? ⟨5, 9, none⟩ = some (.int .u8 57) := hT 9 (by decide)
  have d10 : w.cell? ⟨5, 10, none⟩ = some (.int .u8 65) := hT 10 (by decide)
  have d11 : w.cell? ⟨5, 11, none⟩ = some (.int .u8 66) := hT 11 (by decide)
  have d12 : w.cell? ⟨5, 12, none⟩ = some (.int .u8 67) := hT 12 (by decide)
  have d13 : w.cell? ⟨5, 13, none⟩ = some (.int .u8 68) := hT 13 (by decide)
  have d14 : w.cell? ⟨5, 14, none⟩ = some (.int .u8 69) := hT 14 (by decide)
  have d15 : w.cell? ⟨5, 15, none⟩ = some (.int .u8 70) := hT 15 (by decide)
  clear hT
  rcases hc with hc | hc
  · go_enter Tryz.func213, Tryz.ntmps213
    go_wp2_with fail
    go_loop [15] (fun i => ∃ k : Nat, k ≤ 16 ∧ i = .int .i64 k ∧ NotTo ((c.toNat : Int)) k) (fun i => 16 - (intOf i).toNat)
    case atStart => exact ⟨0, Nat.zero_le _, rfl, fun j hj => absurd hj (Nat.not_lt_zero _)⟩
    case round =>
      obtain ⟨k, hk, rfl, hn⟩ := hrel
      have HN := hide hn
      clear hn
      by_cases hlt : k < 16
      · have hix := index_digs k hlt w
        by_cases he : dig k = (c.toNat : Int)
        · have q : (dig k == (c.toNat : Int)) = true := by simpa using he
          have HV := hide (upV_hit hlt he)
          clear he
          go_wp2
          go_ret2
          exact ⟨ret_digit HV.out rfl, rfl⟩
        · have q : (dig k == (c.toNat : Int)) = false := by simpa using he
          have HV := hide (notTo_succ HN.out he)
          clear he
          go_wp2
          go_round
          case rel => exact ⟨k + 1, by omega, by go_num, HV.out⟩
          case measure => simp [intOf]; omega
      · have e : k = 16 := by omega
        subst e
        have HV := hide (upV_none HN.out)
        go_wp2
        go_ret2
        exact ⟨ret_nodigit HV.out, rfl⟩
  · go_enter Tryz.func213, Tryz.ntmps213
    go_wp2_with fail
    go_loop [15] (fun i => ∃ k : Nat, k ≤ 16 ∧ i = .int .i64 k ∧ NotTo ((c.toNat : Int)) k) (fun i => 16 - (intOf i).toNat)
    case atStart => exact ⟨0, Nat.zero_le _, rfl, fun j hj => absurd hj (Nat.not_lt_zero _)⟩
    case round =>
      obtain ⟨k, hk, rfl, hn⟩ := hrel
      have HN := hide hn
      clear hn
      by_cases hlt : k < 16
      · have hix := index_digs k hlt w
        by_cases he : dig k = (c.toNat : Int)
        · have q : (dig k == (c.toNat : Int)) = true := by simpa using he
          have HV := hide (upV_hit hlt he)
          clear he
          go_wp2
          go_ret2
          exact ⟨ret_digit HV.out rfl, rfl⟩
        · have q : (dig k == (c.toNat : Int)) = false := by simpa using he
          have HV := hide (notTo_succ HN.out he)
          clear he
          go_wp2
          go_round
          case rel => exact ⟨k + 1, by omega, by go_num, HV.out⟩
          case measure => simp [intOf]; omega
      · have e : k = 16 := by omega
        subst e
        have HV := hide (upV_none HN.out)
        go_wp2
        go_ret2
        exact ⟨ret_nodigit HV.out, rfl⟩
theorem digit_any (c : UInt8) (w : World) (hT : Digs w) :
    Calls Tryz.prog 213 #[.int .u8 (c.toNat : Int)] w fun e w' => e = .returned (.tuple #[.int .u8 (dNum (hexV c)), .bool (dOk (hexV c))]) ∧ w' = w := by
  by_cases h : 97 ≤ c.toNat ∧ c.toNat ≤ 102
  · rw [hexV_low h]; exact digit_low c w hT h
  · rw [hexV_up h]; exact digit_up c w hT (by omega)
end Go.Proofs.YtnojgejcmaajmaaGreatDoor

namespace Go.Proofs.YtnojgejcmaajmaaGreatDoor
open Go.RowKit
set_option maxRecDepth 100000
def eNum : Option UInt8 → Int
  | some v => (v.toNat : Int)
  | none => 0
def eOk : Option UInt8 → Bool
  | some _ => true
  | none => false
theorem or_two : ∀ a b : Fin 16, bits .or .u8 ((a.val : Int) * 16) b.val = (a.val : Int) * 16 + b.val := by decide +kernel
theorem list3 (t : ByteArray) (h : 3 ≤ t.size) : t.data.toList = t[0] :: t[1] :: t[2] :: t.data.toList.drop 3 := by
  have hl : t.data.toList.length = t.size := by simp
  rw [← List.drop_zero (l := t.data.toList), List.drop_eq_getElem_cons (by omega), List.drop_eq_getElem_cons (i := 0 + 1) (by omega), List.drop_eq_getElem_cons (i := 0 + 1 + 1) (by omega)]
  rfl
theorem ret_none {t : ByteArray} (h : headE t.data.toList = none) : Ending.returned (.tuple #[.int .u8 0, .bool false]) = .returned (.tuple #[.int .u8 (eNum (headE t.data.toList)), .bool (eOk (headE t.data.toList))]) := by
  rw [h]; rfl
theorem ret_some {t : ByteArray} {v : UInt8} (h : headE t.data.toList = some v) {y : Int} (hy : y = (v.toNat : Int)) : Ending.returned (.tuple #[.int .u8 y, .bool true]) = .returned (.tuple #[.int .u8 (eNum (headE t.data.toList)), .bool (eOk (headE t.data.toList))]) := by
  rw [h, hy]; rfl
set_option maxHeartbeats 1000000 in
theorem escaped_any (t : ByteArray) (w : World) (hT : Digs w) :
    Calls Tryz.prog 162 #[.string t] w fun e w' => e = .returned (.tuple #[.int .u8 (eNum (headE t.data.toList)), .bool (eOk (headE t.data.toList))]) ∧ w' = w := by
  have HT := hide hT
  clear hT
  by_cases h3 : 3 ≤ t.size
  · have hi3 : (3 : Int) ≤ (t.size : Int) := by omega
    have hl := list3 t h3
    by_cases h37 : (t[0].toNat : Int) = 37
    · have q : ((t[0].toNat : Int) != 37) = false := by simpa using h37
      have h0 : t[0] = 37 := UInt8.toNat_inj.1 (by show _ = 37; omega)
      have hx := fun w hT => digit_any t[1] w hT
      have hy := fun w hT => digit_any t[2] w hT
      have gx := hexV_lt t[1]
      have gy := hexV_lt t[2]
      by_cases ha : 0 ≤ hexV t[1]
      · obtain ⟨a, ea⟩ : ∃ a : Nat, hexV t[1] = a := ⟨(hexV t[1]).toNat, by omega⟩
        have ha16 : a < 16 := by omega
        by_cases hb : 0 ≤ hexV t[2]
        · obtain ⟨b, eb⟩ : ∃ b : Nat, hexV t[2] = b := ⟨(hexV t[2]).toNat, by omega⟩
          have hb16 : b < 16 := by omega
          have HE : Hid (headE t.data.toList = some (two t[1] t[2])) := by
            rw [hl, h0]; exact headE_yes _ ha hb
          have HV := hide ((or_two ⟨a, ha16⟩ ⟨b, hb16⟩).trans (two_num ea eb ha16 hb16).symm)
          rw [ea, dNum_yes (by omega), dOk_yes (by omega)] at hx
          rw [eb, dNum_yes (by omega), dOk_yes (by omega)] at hy
          have HX := hide hx
          have HY := hide hy
          clear hx hy ea eb h37 h0 ha hb hl gx gy
          go_enter Tryz.func162, Tryz.ntmps162
          go_wp2_with fail
          refine (HX.out _ HT.out).mono ?_
          rintro e w1 ⟨rfl, rfl⟩
          go_wp2_with fail
          refine (HY.out _ HT.out).mono ?_
          rintro e w1 ⟨rfl, rfl⟩
          go_wp2_with fail
          go_ret2
          exact ⟨ret_some HE.out HV.out, rfl⟩
        · have HE : Hid (headE t.data.toList = none) := by
            rw [hl]; exact headE_noB _ hb
          rw [ea, dNum_yes (by omega), dOk_yes (by omega)] at hx
          rw [dOk_no hb] at hy
          have HX := hide hx
          have HY := hide hy
          clear hx hy ea h37 h0 ha hb hl gx gy
          go_enter Tryz.func162, Tryz.ntmps162
          go_wp2_with fail
          refine (HX.out _ HT.out).mono ?_
          rintro e w1 ⟨rfl, rfl⟩
          go_wp2_with fail
          refine (HY.out _ HT.out).mono ?_
          rintro e w1 ⟨rfl, rfl⟩
          go_wp2_with fail
          go_ret2
          exact ⟨ret_none HE.out, rfl⟩
      · have HE : Hid (headE t.data.toList = none) := by
          rw [hl]; exact headE_noA _ ha
        rw [dOk_no ha] at hx
        have HX := hide hx
        have HY := hide hy
        clear hx hy h37 h0 ha hl gx gy
        go_enter Tryz.func162, Tryz.ntmps162
        go_wp2_with fail
        refine (HX.out _ HT.out).mono ?_
        rintro e w1 ⟨rfl, rfl⟩
        go_wp2_with fail
        refine (HY.out _ HT.out).mono ?_
        rintro e w1 ⟨rfl, rfl⟩
        go_wp2_with fail
        go_ret2
        exact ⟨ret_none HE.out, rfl⟩
    · have q : ((t[0].toNat : Int) != 37) = true := by simpa using h37
      have HE : Hid (headE t.data.toList = none) := by
        rw [hl]; exact headE_ne _ (fun e => h37 (by rw [e]; rfl))
      clear h37 hl
      go_enter Tryz.func162, Tryz.ntmps162
      go_wp2_with fail
      go_ret2
      exact ⟨ret_none HE.out, rfl⟩
  · have hi3 : (t.size : Int) < 3 := by omega
    have HE : Hid (headE t.data.toList = none) := headE_short (by simp; omega)
    go_enter Tryz.func162, Tryz.ntmps162
    go_wp2_with fail
    go_ret2
    exact ⟨ret_none HE.out, rfl⟩
set_option maxHeartbeats 1000000 in
theorem decode_any (s : ByteArray) (w : World) (hs : s.size ≤ 1099511627776) (hD : Digs w) :
    Calls Tryz.prog 97 #[.string s] w fun r w' => r = .returned (.string (decS s)) ∧ Below w.heap.size w w' := by
  have HD := hide hD
  clear hD
  go_enter Tryz.func97, Tryz.ntmps97
  go_wp2_with fail
  refine (grow_fresh s.size w (by omega)).mono ?_
  rintro r w1 ⟨rfl, h1, b1⟩
  go_wp2_with fail
  go_loopw [4, 13] (fun nx i wr => ∃ (k n : Nat) (l : List UInt8), k ≤ s.size ∧ i = .int .i64 k ∧ nx = .int .i64 n ∧ DecAt s k n l ∧ HoldsB w.heap.size w.heap.size l wr ∧ Below w.heap.size w wr) (fun _ i _ => s.size - (intOf i).toNat)
  case atStart => exact ⟨0, 0, [], Nat.zero_le _, rfl, rfl, decAt_start s, h1, b1⟩
  case round =>
    obtain ⟨k, n, l, hk, rfl, rfl, hd, hh, hb⟩ := hrel
    have hle := decAt_len hd
    have hn := hd.1
    have HK := hide hd
    clear hd
    by_cases hlt : k < s.size
    · have hsz := hb.size
      by_cases hkn : k < n
      · have HN := hide (decAt_skip HK.out hkn)
        go_wp2_with fail
        go_roundw
        case rel => exact ⟨k + 1, n, l, by omega, by go_num, rfl, HN.out, hh, hb⟩
        case measure => simp [intOf]; omega
      · have hE := escaped_any (s.extract k s.size) wr (HD.out.below hb)
        rw [tail_list] at hE
        cases g : headE (s.data.toList.drop k) with
        | some v =>
          rw [g] at hE
          have HE := hide hE
          have HN := hide (decAt_hit HK.out (by omega) g)
          clear hE g
          go_wp2_with fail
          refine HE.out.mono ?_
          rintro e w0 ⟨rfl, hw⟩
          obtain rfl : wr = w0 := hw.symm
          clear hw
          go_wp2_with fail
          refine (writeByte _ _ _ v _ hh (by omega) hb.size).mono ?_
          rintro r w2 ⟨rfl, h2, b2⟩
          go_wp2_with fail
          go_roundw
          case rel => exact ⟨k + 1, k + 3, _, by omega, by go_num, by go_num, HN.out, h2, hb.trans b2⟩
          case measure => simp [intOf]; omega
        | none =>
          rw [g] at hE
          have HE := hide hE
          have HN := hide (decAt_miss HK.out (by omega) hlt g)
          clear hE g
          go_wp2_with fail
          refine HE.out.mono ?_
          rintro e w0 ⟨rfl, hw⟩
          obtain rfl : wr = w0 := hw.symm
          clear hw
          go_wp2_with fail
          refine (writeByte _ _ _ s[k] _ hh (by omega) hb.size).mono ?_
          rintro r w2 ⟨rfl, h2, b2⟩
          go_wp2_with fail
          go_roundw
          case rel => exact ⟨k + 1, n, _, by omega, by go_num, rfl, HN.out, h2, hb.trans b2⟩
          case measure => simp [intOf]; omega
    · have HN := hide (decAt_end HK.out (by omega))
      go_wp2_with fail
      refine (builderText _ _ _ _ hh hb.size).mono ?_
      rintro r w2 ⟨rfl, b2⟩
      go_wp2_with fail
      go_ret
      exact ⟨ret_str (congrArg txt HN.out), hb.trans b2⟩
end Go.Proofs.YtnojgejcmaajmaaGreatDoor

namespace Go.Proofs.YtnojgejcmaajmaaGreatDoor
open Go.Shelf Go.RowKit
set_option maxRecDepth 100000
theorem plus_text (s : ByteArray) : txt (repA (⟨#[43]⟩ : ByteArray).data.toList (⟨#[32]⟩ : ByteArray).data.toList s.data.toList) = txt (unplus s.data.toList) := congrArg txt (rep_plus s.data.toList)
set_option maxHeartbeats 400000 in
theorem unform_any (s : ByteArray) (w : World) (hs : s.size ≤ 1073741824) (hD : Digs w) (hM : SomeMax w) :
    Calls Tryz.prog 45 #[.string s] w fun r w' => r = .returned (.string (unformS s)) ∧ Below w.heap.size w w' := by
  have hR := fun w hM => replaceAll_any s ⟨#[43]⟩ ⟨#[32]⟩ w (by omega) hM (by decide) (by decide) (by decide)
  rw [plus_text] at hR
  have hC := fun w hD => decode_any (txt (unplus s.data.toList)) w (by rw [txt_size]; simp [unplus]; omega) hD
  have HC := hide hC
  have HR := hide hR
  have HM := hide hM
  have HD := hide hD
  clear hC hR hM hD
  go_enter Tryz.func45, Tryz.ntmps45
  go_wp2_with fail
  refine (HR.out _ HM.out).mono ?_
  rintro e w1 ⟨rfl, b1⟩
  go_wp2_with fail
  refine (HC.out _ (HD.out.below b1)).mono ?_
  rintro e w2 ⟨rfl, b2⟩
  go_wp2_with fail
  go_ret
  exact ⟨rfl, chain b1 b2⟩
end Go.Proofs.YtnojgejcmaajmaaGreatDoor

namespace Go.Proofs.YtnojgejcmaajmaaGreatDoor
open Go.RowKit
set_option maxRecDepth 100000
def uS : Nat → List UInt8 → List UInt8
  | 0, l => l
  | 1, l => R1 l
  | 2, l => R2 (R1 l)
  | _, l => R3 (R2 (R1 l))
theorem rep3_len (a b v : UInt8) : ∀ (n : Nat) (l : List UInt8), l.length ≤ n → (repA [37, a, b] [v] l).length ≤ l.length
  | 0, l, h => by
    have : l = [] := List.eq_nil_of_length_eq_zero (by omega)
    subst this
    rw [repA_nil (by simp)]; simp
  | n + 1, [], _ => by rw [repA_nil (by simp)]; simp
  | n + 1, c :: r, h => by
    have h : r.length ≤ n := by simpa using h
    cases p : [37, a, b].isPrefixOf (c :: r) with
    | true =>
      obtain ⟨z, rfl, rfl⟩ := pre3 p
      have ih := rep3_len a b v n z (by simp only [List.length_cons] at h; omega)
      rw [rep3_hit]
      simp only [List.length_cons]
      omega
    | false =>
      have ih := rep3_len a b v n r h
      rw [rep3_miss p]
      simp only [List.length_cons]
      omega
theorem uS_len (k : Nat) (l : List UInt8) : (uS k l).length ≤ l.length := by
  have h1 := rep3_len 48 65 10 l.length l (Nat.le_refl _)
  have h2 := rep3_len 48 68 13 (R1 l).length (R1 l) (Nat.le_refl _)
  have h3 := rep3_len 50 50 34 (R2 (R1 l)).length (R2 (R1 l)) (Nat.le_refl _)
  match k with
  | 0 => show l.length ≤ _; omega
  | 1 => show (R1 l).length ≤ _; exact h1
  | 2 => show (R2 (R1 l)).length ≤ _; unfold R1 R2 at *; omega
  | _ + 3 => show (R3 (R2 (R1 l))).length ≤ _; unfold R1 R2 R3 at *; omega
theorem unL_le (l : List UInt8) : (unL l).length ≤ l.length := unL_len l.length l
set_option maxHeartbeats 8000000 in
theorem unquote_any (s : ByteArray) (w : World) (hs : s.size ≤ 1073741824) (hT : PtTabs w) :
    Calls Tryz.prog 168 #[.string s] w fun e w' => e = .returned (.string (txt (unL (bL s)))) ∧ Below w.heap.size w w' := by
  have EQ : Hid (uS 3 (bL s) = unL (bL s)) := rep_un _
  have LU := unL_le (bL s)
  have LB := len_bL s
  have HC := hide (fun W => clone_any (txt (unL (bL s))) W (by show (unL (bL s)).length ≤ _; omega))
  have HT := hide hT
  have E0 : s = txt (uS 0 (bL s)) := (txt_is s).symm
  generalize unL (bL s) = RES at *
  generalize bL s = p at *
  have pz : p.length ≤ 1073741824 := by omega
  clear LU LB hs
  subst E0
  have B1 : Hid (Below w.heap.size w w) := Below.refl _ w
  have b1 := Below.refl w.heap.size w
  have T1 := hT.below b1
  have c0 := T1.sg.c0
  have c1 := T1.sg.c1
  have c2 := T1.sg.c2
  have c3 := T1.sg.c3
  have c4 := T1.sg.c4
  have c5 := T1.sg.c5
  clear T1 b1 hT
  go_enter Tryz.func168, Tryz.ntmps168
  go_wp2_with fail
  go_loopw [0, 6] (fun sv iv wr => ∃ k : Nat, k ≤ 3 ∧ iv = .int .i64 k ∧ sv = .string (txt (uS k p)) ∧ Hid (Below w.heap.size w wr)) (fun _ iv _ => 3 - (intOf iv).toNat)
  case atStart => exact ⟨0, by omega, rfl, rfl, B1⟩
  case round =>
    rename World => wr
    obtain ⟨k, hk, rfl, rfl, BW⟩ := hrel
    clear B1 c0 c1 c2 c3 c4 c5
    rcases (by omega : k = 0 ∨ k = 1 ∨ k = 2 ∨ k = 3) with rfl | rfl | rfl | rfl
    · have HR := hide (fun W (hb : Below w.heap.size w W) => replaceP_any (uS 0 p) [37, 48, 65] [10] W (by have := uS_len 0 p; omega) (HT.out.mx.below hb) (by decide) (by decide) (by decide))
      have EN : Hid (repA [37, 48, 65] [10] (uS 0 p) = uS 1 p) := rfl
      rw [EN.out] at HR
      have AL : Below wr.heap.size wr (wr.alloc (.cells #[.string ⟨#[10]⟩, .string ⟨#[37, 48, 65]⟩] 176)) := (Below.refl _ wr).alloc (Nat.le_refl _) _
      have B2 := hide (chain BW.out AL)
      clear AL EN
      have ix := fun w => sgIx0 (.string ⟨#[10]⟩) (.string ⟨#[37, 48, 65]⟩) (.string ⟨#[13]⟩) (.string ⟨#[37, 48, 68]⟩) (.string ⟨#[34]⟩) (.string ⟨#[37, 50, 50]⟩) w
      obtain ⟨p1, hp1⟩ : ∃ p1, p1 = uS 1 p := ⟨_, rfl⟩
      rw [← hp1] at HR
      have HP1 := hide hp1
      clear hp1
      generalize hp0 : uS 0 p = p0 at HR ⊢
      clear hp0
      go_wp2_with fail
      refine (HR.out _ B2.out).mono ?_
      rintro e w3 ⟨rfl, b3⟩
      have B3 := hide (chain B2.out b3)
      clear b3 HR B2 BW
      go_wp2_with fail
      go_roundw
      case rel => exact ⟨1, by omega, rfl, by rw [HP1.out], B3⟩
      case measure => decide
    · have HR := hide (fun W (hb : Below w.heap.size w W) => replaceP_any (uS 1 p) [37, 48, 68] [13] W (by have := uS_len 1 p; omega) (HT.out.mx.below hb) (by decide) (by decide) (by decide))
      have EN : Hid (repA [37, 48, 68] [13] (uS 1 p) = uS 2 p) := rfl
      rw [EN.out] at HR
      have AL : Below wr.heap.size wr (wr.alloc (.cells #[.string ⟨#[13]⟩, .string ⟨#[37, 48, 68]⟩] 176)) := (Below.refl _ wr).alloc (Nat.le_refl _) _
      have B2 := hide (chain BW.out AL)
      clear AL EN
      have ix := fun w => sgIx1 (.string ⟨#[10]⟩) (.string ⟨#[37, 48, 65]⟩) (.string ⟨#[13]⟩) (.string ⟨#[37, 48, 68]⟩) (.string ⟨#[34]⟩) (.string ⟨#[37, 50, 50]⟩) w
      obtain ⟨p1, hp1⟩ : ∃ p1, p1 = uS 2 p := ⟨_, rfl⟩
      rw [← hp1] at HR
      have HP1 := hide hp1
      clear hp1
      generalize hp0 : uS 1 p = p0 at HR ⊢
      clear hp0
      go_wp2_with fail
      refine (HR.out _ B2.out).mono ?_
      rintro e w3 ⟨rfl, b3⟩
      have B3 := hide (chain B2.out b3)
      clear b3 HR B2 BW
      go_wp2_with fail
      go_roundw
      case rel => exact ⟨2, by omega, rfl, by rw [HP1.out], B3⟩
      case measure => decide
    · have HR := hide (fun W (hb : Below w.heap.size w W) => replaceP_any (uS 2 p) [37, 50, 50] [34] W (by have := uS_len 2 p; omega) (HT.out.mx.below hb) (by decide) (by decide) (by decide))
      have EN : Hid (repA [37, 50, 50] [34] (uS 2 p) = uS 3 p) := rfl
      rw [EN.out] at HR
      have AL : Below wr.heap.size wr (wr.alloc (.cells #[.string ⟨#[34]⟩, .string ⟨#[37, 50, 50]⟩] 176)) := (Below.refl _ wr).alloc (Nat.le_refl _) _
      have B2 := hide (chain BW.out AL)
      clear AL EN
      have ix := fun w => sgIx2 (.string ⟨#[10]⟩) (.string ⟨#[37, 48, 65]⟩) (.string ⟨#[13]⟩) (.string ⟨#[37, 48, 68]⟩) (.string ⟨#[34]⟩) (.string ⟨#[37, 50, 50]⟩) w
      obtain ⟨p1, hp1⟩ : ∃ p1, p1 = uS 3 p := ⟨_, rfl⟩
      rw [← hp1] at HR
      have HP1 := hide hp1
      clear hp1
      generalize hp0 : uS 2 p = p0 at HR ⊢
      clear hp0
      go_wp2_with fail
      refine (HR.out _ B2.out).mono ?_
      rintro e w3 ⟨rfl, b3⟩
      have B3 := hide (chain B2.out b3)
      clear b3 HR B2 BW
      go_wp2_with fail
      go_roundw
      case rel => exact ⟨3, by omega, rfl, by rw [HP1.out], B3⟩
      case measure => decide
    · rw [EQ.out]
      clear EQ HT
      go_wp2_with fail
      refine (HC.out _).mono ?_
      rintro e w3 ⟨rfl, b3⟩
      go_wp2_with fail
      go_ret
      exact ⟨rfl, chain BW.out b3⟩
end Go.Proofs.YtnojgejcmaajmaaGreatDoor

namespace Go.Proofs.YtnojgejcmaajmaaGreatDoor
open Go.RowKit
set_option maxRecDepth 100000
theorem told_take (l : List En) {k : Nat} (h : k < l.length) : (l.take (k + 1)).map toldE = (l.take k).map toldE ++ [toldE l[k]] := by
  rw [List.take_succ_eq_append_getElem h, List.map_append]; rfl
theorem told_len (l : List En) (k : Nat) (h : k ≤ l.length) : ((l.take k).map toldE).length = k := by rw [List.length_map, List.length_take]; omega
set_option maxHeartbeats 8000000 in
theorem refTold_any (n : Nat) (v : Value) (l : List En) (w : World) (hv : FilesV w v l) (hn : n ≤ 1000000) (hl : EnsOK n l) :
    Calls Tryz.prog 15 #[v] w fun e w' => ∃ v', e = .returned v' ∧ OwnR w.heap.size w' v' (l.map toldE) ∧ Below w.heap.size w w' := by
  have FV := hide hv
  have HZ := hide (ens_z hl hn)
  have l200 := hl.len
  obtain ⟨p, c, rfl⟩ := files_formP hv
  clear hv hl
  go_enter Tryz.func15, Tryz.ntmps15
  go_wp2_with fail
  go_loopw [3, 4] (fun ov iv wr => ∃ (k : Nat) (q : Option Addr) (cp : Nat), k ≤ l.length ∧ iv = .int .i64 k ∧ ov = .slice q k cp ∧ Hid (OwnR w.heap.size wr (.slice q k cp) ((l.take k).map toldE)) ∧ Hid (Below w.heap.size w wr)) (fun _ iv _ => l.length - (intOf iv).toNat)
  case atStart => exact ⟨0, none, 0, Nat.zero_le _, rfl, rfl, OwnR.nil _ _, Below.refl _ _⟩
  case round =>
    rename World => wr
    obtain ⟨k, q, cp, hk, rfl, rfl, OW, BW⟩ := hrel
    by_cases g : k < l.length
    · have k1 : (k : Int) < (l.length : Int) := by omega
      have k0 : (0 : Int) ≤ (k : Int) := by omega
      obtain ⟨b, o, rfl, EA0⟩ := en_of (FV.out.below BW.out) g
      have EA := hide EA0
      obtain ⟨z0, z1, z2, z3⟩ := HZ.out _ (List.getElem_mem g)
      have TK := hide (told_take l g)
      have PL := hide (told_len l k hk)
      have HN := hide (fun W => refName_any_PrtR1 l[k].name W (by omega))
      have ns := name_size (s := l[k].name)
      have HU := hide (fun W => refUnname_any (txt (nameL (bL l[k].name))) W (by omega))
      have HP := hide (fun W => refPairs_any l[k].val W (by omega))
      have HN2 := hide (fun W => refName_any_PrtR1 l[k].fname W (by omega))
      have ns2 := name_size (s := l[k].fname)
      have HU2 := hide (fun W => refUnname_any (txt (nameL (bL l[k].fname))) W (by omega))
      have HT := hide (fun W => refTypeP_any l[k].typ W (by omega))
      have ET : Hid (toldE l[k] = ⟨txt (unL (bL (txt (nameL (bL l[k].name))))), if l[k].file = true then l[k].val else pairsS l[k].val, l[k].file, if l[k].file = true then txt (unL (bL (txt (nameL (bL l[k].fname))))) else ⟨#[]⟩, if l[k].file = true then txt (typeL (bL l[k].typ)) else ⟨#[]⟩⟩) := by
        show _ = _
        unfold toldE valP
        cases l[k].file <;> rfl
      have a0 := EA.out.c0
      have a1 := EA.out.c1
      clear EA0 z0 z1 z2 z3 ns ns2 HZ
      generalize toldE l[k] = te at *
      generalize txt (unL (bL (txt (nameL (bL l[k].name))))) = u0 at *
      generalize txt (nameL (bL l[k].name)) = m0 at *
      generalize txt (unL (bL (txt (nameL (bL l[k].fname))))) = u2 at *
      generalize txt (nameL (bL l[k].fname)) = m2 at *
      generalize txt (typeL (bL l[k].typ)) = u4 at *
      generalize pairsS l[k].val = p1 at *
      generalize hek : l[k] = ek at *
      clear hek
      have BC : Hid (Below wr.heap.size wr wr.drew) := ⟨rfl, rfl, rfl, Nat.le_refl _, fun _ _ => rfl⟩
      go_upto_region 5 with fail
      go_cut [5] (fun sv wx => ∃ E : Nat, sv = .pointer (some ⟨E, 0, none⟩) ∧ Hid (Bk wx E [.string u0, .string p1, .bool false, .string ⟨#[]⟩, .string ⟨#[]⟩] 76) ∧ Hid (wr.heap.size ≤ E) ∧ Hid (Below wr.heap.size wr wx))
      case first =>
        refine wp_region_held_drew (S := fun X : World => X.cell? ⟨b, o + k * 5, none⟩ = some (.string ek.name) ∧ X.cell? ⟨b, o + k * 5 + 1, none⟩ = some (.string ek.val)) (by kernel_rfl) ?_ (fun hHeld => ?_)
        · exact ⟨a0, a1⟩
        refine wpAnyH_take (i := 0) (oi := { dst := some 12, op := Op.move (Operand.tmp 0), type := 29, pos := "ref.go:231", after := #[], guard := none }) (v := ?_) rfl (by kernel_rfl) (by kernel_rfl) (by kernel_rfl) (fun _ _ _ h => h) (Or.inl ⟨by rfl, ?_⟩) (by assumption) ?_
        rotate_left
        · (intro w hSw; (try dsimp only at hSw); first | (go_simp; done) | (go_simp; with_reducible rfl))
        simp only [Act.put, List.setIfInBounds_toArray, List.set_cons_zero, List.set_cons_succ]
        refine wpAnyH_take (i := 1) (oi := { dst := some 13, op := Op.move (Operand.tmp 4), type := 3, pos := "ref.go:231", after := #[], guard := none }) (v := ?_) rfl (by kernel_rfl) (by kernel_rfl) (by kernel_rfl) (fun _ _ _ h => h) (Or.inl ⟨by rfl, ?_⟩) (by assumption) ?_
        rotate_left
        · (intro w hSw; (try dsimp only at hSw); first | (go_simp; done) | (go_simp; with_reducible rfl))
        simp only [Act.put, List.setIfInBounds_toArray, List.set_cons_zero, List.set_cons_succ]
        refine wpAnyH_take (i := 2) (oi := { dst := some 14, op := Op.indexAddr 29 (Operand.tmp 12) (Operand.tmp 13), type := 0, pos := "ref.go:231", after := #[{ on := 0, ground := Ground.data }, { on := 1, ground := Ground.data }], guard := none }) (v := ?_) rfl (by kernel_rfl) (by kernel_rfl) (by kernel_rfl) (fun _ _ _ h => h) (Or.inl ⟨by rfl, ?_⟩) (by assumption) ?_
        rotate_left
        · (intro w hSw; (try dsimp only at hSw); first | (go_simp; done) | (go_simp; with_reducible rfl))
        simp only [Act.put, List.setIfInBounds_toArray, List.set_cons_zero, List.set_cons_succ]
        refine wpAnyH_take (i := 3) (oi := { dst := some 15, op := Op.fieldAddr 76 (Operand.tmp 14) 0, type := 0, pos := "ref.go:231", after := #[{ on := 2, ground := Ground.data }], guard := none }) (v := ?_) rfl (by kernel_rfl) (by kernel_rfl) (by kernel_rfl) (fun _ _ _ h => h) (Or.inl ⟨by rfl, ?_⟩) (by assumption) ?_
        rotate_left
        · (intro w hSw; (try dsimp only at hSw); first | (go_simp; done) | (go_simp; with_reducible rfl))
        simp only [Act.put, List.setIfInBounds_toArray, List.set_cons_zero, List.set_cons_succ]
        refine wpAnyH_take (i := 4) (oi := { dst := some 16, op := Op.load 9 (Operand.tmp 15), type := 9, pos := "ref.go:231", after := #[{ on := 3, ground := Ground.data }], guard := none }) (v := ?_) rfl (by kernel_rfl) (by kernel_rfl) (by kernel_rfl) (fun _ _ _ h => h) (Or.inl ⟨by rfl, ?_⟩) (by assumption) ?_
        rotate_left
        · (intro w hSw; (try dsimp only at hSw); first | (go_simp; done) | (go_simp; with_reducible rfl))
        simp only [Act.put, List.setIfInBounds_toArray, List.set_cons_zero, List.set_cons_succ]
        refine wpAnyH_take (i := 7) (oi := { dst := some 19, op := Op.move (Operand.tmp 0), type := 29, pos := "ref.go:231", after := #[], guard := none }) (v := ?_) rfl (by kernel_rfl) (by kernel_rfl) (by kernel_rfl) (fun _ _ _ h => h) (Or.inl ⟨by rfl, ?_⟩) (by assumption) ?_
        rotate_left
        · (intro w hSw; (try dsimp only at hSw); first | (go_simp; done) | (go_simp; with_reducible rfl))
        simp only [Act.put, List.setIfInBounds_toArray, List.set_cons_zero, List.set_cons_succ]
        refine wpAnyH_take (i := 8) (oi := { dst := some 20, op := Op.move (Operand.tmp 4), type := 3, pos := "ref.go:231", after := #[], guard := none }) (v := ?_) rfl (by kernel_rfl) (by kernel_rfl) (by kernel_rfl) (fun _ _ _ h => h) (Or.inl ⟨by rfl, ?_⟩) (by assumption) ?_
        rotate_left
        · (intro w hSw; (try dsimp only at hSw); first | (go_simp; done) | (go_simp; with_reducible rfl))
        simp only [Act.put, List.setIfInBounds_toArray, List.set_cons_zero, List.set_cons_succ]
        refine wpAnyH_take (i := 9) (oi := { dst := some 21, op := Op.indexAddr 29 (Operand.tmp 19) (Operand.tmp 20), type := 0, pos := "ref.go:231", after := #[{ on := 7, ground := Ground.data }, { on := 8, ground := Ground.data }], guard := none }) (v := ?_) rfl (by kernel_rfl) (by kernel_rfl) (by kernel_rfl) (fun _ _ _ h => h) (Or.inl ⟨by rfl, ?_⟩) (by assumption) ?_
        rotate_left
        · (intro w hSw; (try dsimp only at hSw); first | (go_simp; done) | (go_simp; with_reducible rfl))
        simp only [Act.put, List.setIfInBounds_toArray, List.set_cons_zero, List.set_cons_succ]
        refine wpAnyH_take (i := 10) (oi := { dst := some 22, op := Op.fieldAddr 76 (Operand.tmp 21) 1, type := 0, pos := "ref.go:231", after := #[{ on := 9, ground := Ground.data }], guard := none }) (v := ?_) rfl (by kernel_rfl) (by kernel_rfl) (by kernel_rfl) (fun _ _ _ h => h) (Or.inl ⟨by rfl, ?_⟩) (by assumption) ?_
        rotate_left
        · (intro w hSw; (try dsimp only at hSw); first | (go_simp; done) | (go_simp; with_reducible rfl))
        simp only [Act.put, List.setIfInBounds_toArray, List.set_cons_zero, List.set_cons_succ]
        refine wpAnyH_take (i := 11) (oi := { dst := some 23, op := Op.load 9 (Operand.tmp 22), type := 9, pos := "ref.go:231", after := #[{ on := 10, ground := Ground.data }], guard := none }) (v := ?_) rfl (by kernel_rfl) (by kernel_rfl) (by kernel_rfl) (fun _ _ _ h => h) (Or.inl ⟨by rfl, ?_⟩) (by assumption) ?_
        rotate_left
        · (intro w hSw; (try dsimp only at hSw); first | (go_simp; done) | (go_simp; with_reducible rfl))
        simp only [Act.put, List.setIfInBounds_toArray, List.set_cons_zero, List.set_cons_succ]
        refine wpAnyH_ready (rs := [5, 14]) (by kernel_rfl) (by simp) ?_
        refine AllReadyH.cons (i := 5) (o := { dst := some 17, op := Op.call { callee := Callee.value (Operand.func 55), args := #[Operand.tmp 16], argTypes := #[9] }, type := 9, pos := "ref.go:231", after := #[{ on := 4, ground := Ground.data }], guard := none }) rfl (fun K hK => ?_) (AllReadyH.cons (i := 14) (o := { dst := some 5, op := Op.alloc 76, type := 0, pos := "ref.go:231", after := #[], guard := none }) rfl (fun K hK => ?_) AllReadyH.nil)
        · go_simp
          refine (HN.out _).mono ?_
          rintro e wa ⟨rfl, bx⟩
          replace BC := hide (chain BC.out bx)
          try replace KE := hide (KE.out.below bx)
          clear bx
          go_wp2_with fail
          refine hK.out _ _ ?_ (fun hHeld => ?_)
          · exact ⟨(EA.out.below BC.out).c0, (EA.out.below BC.out).c1⟩
          clear hK K
          refine wpAnyH_ready (rs := [6, 14]) (by kernel_rfl) (by simp) ?_
          refine AllReadyH.cons (i := 6) (o := { dst := some 18, op := Op.call { callee := Callee.value (Operand.func 54), args := #[Operand.tmp 17], argTypes := #[9] }, type := 9, pos := "ref.go:231", after := #[{ on := 5, ground := Ground.data }, { on := 5, ground := Ground.chain }], guard := none }) rfl (fun K hK => ?_) (AllReadyH.cons (i := 14) (o := { dst := some 5, op := Op.alloc 76, type := 0, pos := "ref.go:231", after := #[], guard := none }) rfl (fun K hK => ?_) AllReadyH.nil)
          · go_simp
            refine (HU.out _).mono ?_
            rintro e wb ⟨rfl, bx⟩
            replace BC := hide (chain BC.out bx)
            try replace KE := hide (KE.out.below bx)
            clear bx
            go_wp2_with fail
            refine hK.out _ _ ?_ (fun hHeld => ?_)
            · exact ⟨(EA.out.below BC.out).c0, (EA.out.below BC.out).c1⟩
            clear hK K
            refine wpAnyH_ready (rs := [12, 14]) (by kernel_rfl) (by simp) ?_
            refine AllReadyH.cons (i := 12) (o := { dst := some 24, op := Op.call { callee := Callee.value (Operand.func 46), args := #[Operand.tmp 23], argTypes := #[9] }, type := 9, pos := "ref.go:231", after := #[{ on := 11, ground := Ground.data }, { on := 6, ground := Ground.chain }], guard := none }) rfl (fun K hK => ?_) (AllReadyH.cons (i := 14) (o := { dst := some 5, op := Op.alloc 76, type := 0, pos := "ref.go:231", after := #[], guard := none }) rfl (fun K hK => ?_) AllReadyH.nil)
            · go_simp
              refine (HP.out _).mono ?_
              rintro e wc ⟨rfl, bx⟩
              replace BC := hide (chain BC.out bx)
              try replace KE := hide (KE.out.below bx)
              clear bx
              go_wp2_with fail
              refine hK.out _ _ ?_ (fun hHeld => ?_)
              · exact ⟨(EA.out.below BC.out).c0, (EA.out.below BC.out).c1⟩
              clear hK K
              refine wpAnyH_take (i := 13) (oi := { dst := some 25, op := Op.build 76 #[(0, Operand.tmp 18), (1, Operand.tmp 24)], type := 76, pos := "ref.go:231", after := #[{ on := 6, ground := Ground.data }, { on := 12, ground := Ground.data }], guard := none }) (v := ?_) rfl (by kernel_rfl) (by kernel_rfl) (by kernel_rfl) (fun _ _ _ h => h) (Or.inl ⟨by rfl, ?_⟩) (by assumption) ?_
              rotate_left
              · (intro w hSw; (try dsimp only at hSw); first | (go_simp; done) | (go_simp; with_reducible rfl))
              simp only [Act.put, List.setIfInBounds_toArray, List.set_cons_zero, List.set_cons_succ]
              refine wpAnyH_ready (rs := [14]) (by kernel_rfl) (by simp) ?_
              refine AllReadyH.cons (i := 14) (o := { dst := some 5, op := Op.alloc 76, type := 0, pos := "ref.go:231", after := #[], guard := none }) rfl (fun K hK => ?_) AllReadyH.nil
              go_simp
              have KE := hide (Bk.new wc [.string ⟨#[]⟩, .string ⟨#[]⟩, .bool false, .string ⟨#[]⟩, .string ⟨#[]⟩] 76)
              have AZ : Below wc.heap.size wc (wc.alloc (.cells #[.string ⟨#[]⟩, .string ⟨#[]⟩, .bool false, .string ⟨#[]⟩, .string ⟨#[]⟩] 76)) := (Below.refl _ _).alloc (Nat.le_refl _) _
              have GE := hide BC.out.size
              replace BC := hide (chain BC.out AZ)
              clear AZ
              generalize wc.alloc (.cells #[.string ⟨#[]⟩, .string ⟨#[]⟩, .bool false, .string ⟨#[]⟩, .string ⟨#[]⟩] 76) = wz at *
              generalize wc.heap.size = E at *
              refine hK.out _ _ ?_ (fun hHeld => ?_)
              · exact ⟨(EA.out.below BC.out).c0, (EA.out.below BC.out).c1⟩
              clear hK K
              have g0 := KE.out.cell 0 rfl
              have f0 := KE.out.free 0
              have g1 := KE.out.cell 1 rfl
              have f1 := KE.out.free 1
              have g2 := KE.out.cell 2 rfl
              have f2 := KE.out.free 2
              have g3 := KE.out.cell 3 rfl
              have f3 := KE.out.free 3
              have g4 := KE.out.cell 4 rfl
              have f4 := KE.out.free 4
              have K5 := hide (((((KE.out.set 0 (.string u0)).set 1 (.string p1)).set 2 (.bool false)).set 3 (.string ⟨#[]⟩)).set 4 (.string ⟨#[]⟩))
              have B5 := hide (low5 BC.out GE.out (.string u0) (.string p1) (.bool false) (.string ⟨#[]⟩) (.string ⟨#[]⟩))
              refine wpAnyH_ready (rs := [15]) (by kernel_rfl) (by simp) ?_
              refine AllReadyH.cons (i := 15) (o := { dst := none, op := Op.store 76 (Operand.tmp 5) (Operand.tmp 25), type := 0, pos := "ref.go:231", after := #[{ on := 14, ground := Ground.data }, { on := 13, ground := Ground.data }, { on := 12, ground := Ground.chain }, { on := 0, ground := Ground.phase }, { on := 1, ground := Ground.phase }, { on := 2, ground := Ground.phase }, { on := 3, ground := Ground.phase }, { on := 4, ground := Ground.phase }, { on := 5, ground := Ground.phase }, { on := 6, ground := Ground.phase }, { on := 7, ground := Ground.phase }, { on := 8, ground := Ground.phase }, { on := 9, ground := Ground.phase }, { on := 10, ground := Ground.phase }, { on := 11, ground := Ground.phase }, { on := 12, ground := Ground.phase }, { on := 13, ground := Ground.phase }, { on := 14, ground := Ground.phase }], guard := none }) rfl (fun K hK => ?_) AllReadyH.nil
              go_simp
              refine hK.out _ _ ?_ (fun hHeld => ?_)
              · exact ⟨(EA.out.below B5.out).c0, (EA.out.below B5.out).c1⟩
              clear hK K
              refine wpAnyH_done (by kernel_rfl) ?_ _
              go_wp2_with fail
              go_meet
              case rel => exact ⟨_, rfl, K5, GE, B5⟩
            · go_simp
              have KE := hide (Bk.new wb [.string ⟨#[]⟩, .string ⟨#[]⟩, .bool false, .string ⟨#[]⟩, .string ⟨#[]⟩] 76)
              have AZ : Below wb.heap.size wb (wb.alloc (.cells #[.string ⟨#[]⟩, .string ⟨#[]⟩, .bool false, .string ⟨#[]⟩, .string ⟨#[]⟩] 76)) := (Below.refl _ _).alloc (Nat.le_refl _) _
              have GE := hide BC.out.size
              replace BC := hide (chain BC.out AZ)
              clear AZ
              generalize wb.alloc (.cells #[.string ⟨#[]⟩, .string ⟨#[]⟩, .bool false, .string ⟨#[]⟩, .string ⟨#[]⟩] 76) = wz at *
              generalize wb.heap.size = E at *
              refine hK.out _ _ ?_ (fun hHeld => ?_)
              · exact ⟨(EA.out.below BC.out).c0, (EA.out.below BC.out).c1⟩
              clear hK K
              refine wpAnyH_ready (rs := [12]) (by kernel_rfl) (by simp) ?_
              refine AllReadyH.cons (i := 12) (o := { dst := some 24, op := Op.call { callee := Callee.value (Operand.func 46), args := #[Operand.tmp 23], argTypes := #[9] }, type := 9, pos := "ref.go:231", after := #[{ on := 11, ground := Ground.data }, { on := 6, ground := Ground.chain }], guard := none }) rfl (fun K hK => ?_) AllReadyH.nil
              go_simp
              refine (HP.out _).mono ?_
              rintro e wc ⟨rfl, bx⟩
              replace BC := hide (chain BC.out bx)
              try replace KE := hide (KE.out.below bx)
              clear bx
              go_wp2_with fail
              refine hK.out _ _ ?_ (fun hHeld => ?_)
              · exact ⟨(EA.out.below BC.out).c0, (EA.out.below BC.out).c1⟩
              clear hK K
              refine wpAnyH_take (i := 13) (oi := { dst := some 25, op := Op.build 76 #[(0, Operand.tmp 18), (1, Operand.tmp 24)], type := 76, pos := "ref.go:231", after := #[{ on := 6, ground := Ground.data }, { on := 12, ground := Ground.data }], guard := none }) (v := ?_) rfl (by kernel_rfl) (by kernel_rfl) (by kernel_rfl) (fun _ _ _ h => h) (Or.inl ⟨by rfl, ?_⟩) (by assumption) ?_
              rotate_left
              · (intro w hSw; (try dsimp only at hSw); first | (go_simp; done) | (go_simp; with_reducible rfl))
              simp only [Act.put, List.setIfInBounds_toArray, List.set_cons_zero, List.set_cons_succ]
              have g0 := KE.out.cell 0 rfl
              have f0 := KE.out.free 0
              have g1 := KE.out.cell 1 rfl
              have f1 := KE.out.free 1
              have g2 := KE.out.cell 2 rfl
              have f2 := KE.out.free 2
              have g3 := KE.out.cell 3 rfl
              have f3 := KE.out.free 3
              have g4 := KE.out.cell 4 rfl
              have f4 := KE.out.free 4
              have K5 := hide (((((KE.out.set 0 (.string u0)).set 1 (.string p1)).set 2 (.bool false)).set 3 (.string ⟨#[]⟩)).set 4 (.string ⟨#[]⟩))
              have B5 := hide (low5 BC.out GE.out (.string u0) (.string p1) (.bool false) (.string ⟨#[]⟩) (.string ⟨#[]⟩))
              refine wpAnyH_ready (rs := [15]) (by kernel_rfl) (by simp) ?_
              refine AllReadyH.cons (i := 15) (o := { dst := none, op := Op.store 76 (Operand.tmp 5) (Operand.tmp 25), type := 0, pos := "ref.go:231", after := #[{ on := 14, ground := Ground.data }, { on := 13, ground := Ground.data }, { on := 12, ground := Ground.chain }, { on := 0, ground := Ground.phase }, { on := 1, ground := Ground.phase }, { on := 2, ground := Ground.phase }, { on := 3, ground := Ground.phase }, { on := 4, ground := Ground.phase }, { on := 5, ground := Ground.phase }, { on := 6, ground := Ground.phase }, { on := 7, ground := Ground.phase }, { on := 8, ground := Ground.phase }, { on := 9, ground := Ground.phase }, { on := 10, ground := Ground.phase }, { on := 11, ground := Ground.phase }, { on := 12, ground := Ground.phase }, { on := 13, ground := Ground.phase }, { on := 14, ground := Ground.phase }], guard := none }) rfl (fun K hK => ?_) AllReadyH.nil
              go_simp
              refine hK.out _ _ ?_ (fun hHeld => ?_)
              · exact ⟨(EA.out.below B5.out).c0, (EA.out.below B5.out).c1⟩
              clear hK K
              refine wpAnyH_done (by kernel_rfl) ?_ _
              go_wp2_with fail
              go_meet
              case rel => exact ⟨_, rfl, K5, GE, B5⟩
          · go_simp
            have KE := hide (Bk.new wa [.string ⟨#[]⟩, .string ⟨#[]⟩, .bool false, .string ⟨#[]⟩, .string ⟨#[]⟩] 76)
            have AZ : Below wa.heap.size wa (wa.alloc (.cells #[.string ⟨#[]⟩, .string ⟨#[]⟩, .bool false, .string ⟨#[]⟩, .string ⟨#[]⟩] 76)) := (Below.refl _ _).alloc (Nat.le_refl _) _
            have GE := hide BC.out.size
            replace BC := hide (chain BC.out AZ)
            clear AZ
            generalize wa.alloc (.cells #[.string ⟨#[]⟩, .string ⟨#[]⟩, .bool false, .string ⟨#[]⟩, .string ⟨#[]⟩] 76) = wz at *
            generalize wa.heap.size = E at *
            refine hK.out _ _ ?_ (fun hHeld => ?_)
            · exact ⟨(EA.out.below BC.out).c0, (EA.out.below BC.out).c1⟩
            clear hK K
            refine wpAnyH_ready (rs := [6]) (by kernel_rfl) (by simp) ?_
            refine AllReadyH.cons (i := 6) (o := { dst := some 18, op := Op.call { callee := Callee.value (Operand.func 54), args := #[Operand.tmp 17], argTypes := #[9] }, type := 9, pos := "ref.go:231", after := #[{ on := 5, ground := Ground.data }, { on := 5, ground := Ground.chain }], guard := none }) rfl (fun K hK => ?_) AllReadyH.nil
            go_simp
            refine (HU.out _).mono ?_
            rintro e wb ⟨rfl, bx⟩
            replace BC := hide (chain BC.out bx)
            try replace KE := hide (KE.out.below bx)
            clear bx
            go_wp2_with fail
            refine hK.out _ _ ?_ (fun hHeld => ?_)
            · exact ⟨(EA.out.below BC.out).c0, (EA.out.below BC.out).c1⟩
            clear hK K
            refine wpAnyH_ready (rs := [12]) (by kernel_rfl) (by simp) ?_
            refine AllReadyH.cons (i := 12) (o := { dst := some 24, op := Op.call { callee := Callee.value (Operand.func 46), args := #[Operand.tmp 23], argTypes := #[9] }, type := 9, pos := "ref.go:231", after := #[{ on := 11, ground := Ground.data }, { on := 6, ground := Ground.chain }], guard := none }) rfl (fun K hK => ?_) AllReadyH.nil
            go_simp
            refine (HP.out _).mono ?_
            rintro e wc ⟨rfl, bx⟩
            replace BC := hide (chain BC.out bx)
            try replace KE := hide (KE.out.below bx)
            clear bx
            go_wp2_with fail
            refine hK.out _ _ ?_ (fun hHeld => ?_)
            · exact ⟨(EA.out.below BC.out).c0, (EA.out.below BC.out).c1⟩
            clear hK K
            refine wpAnyH_take (i := 13) (oi := { dst := some 25, op := Op.build 76 #[(0, Operand.tmp 18), (1, Operand.tmp 24)], type := 76, pos := "ref.go:231", after := #[{ on := 6, ground := Ground.data }, { on := 12, ground := Ground.data }], guard := none }) (v := ?_) rfl (by kernel_rfl) (by kernel_rfl) (by kernel_rfl) (fun _ _ _ h => h) (Or.inl ⟨by rfl, ?_⟩) (by assumption) ?_
            rotate_left
            · (intro w hSw; (try dsimp only at hSw); first | (go_simp; done) | (go_simp; with_reducible rfl))
            simp only [Act.put, List.setIfInBounds_toArray, List.set_cons_zero, List.set_cons_succ]
            have g0 := KE.out.cell 0 rfl
            have f0 := KE.out.free 0
            have g1 := KE.out.cell 1 rfl
            have f1 := KE.out.free 1
            have g2 := KE.out.cell 2 rfl
            have f2 := KE.out.free 2
            have g3 := KE.out.cell 3 rfl
            have f3 := KE.out.free 3
            have g4 := KE.out.cell 4 rfl
            have f4 := KE.out.free 4
            have K5 := hide (((((KE.out.set 0 (.string u0)).set 1 (.string p1)).set 2 (.bool false)).set 3 (.string ⟨#[]⟩)).set 4 (.string ⟨#[]⟩))
            have B5 := hide (low5 BC.out GE.out (.string u0) (.string p1) (.bool false) (.string ⟨#[]⟩) (.string ⟨#[]⟩))
            refine wpAnyH_ready (rs := [15]) (by kernel_rfl) (by simp) ?_
            refine AllReadyH.cons (i := 15) (o := { dst := none, op := Op.store 76 (Operand.tmp 5) (Operand.tmp 25), type := 0, pos := "ref.go:231", after := #[{ on := 14, ground := Ground.data }, { on := 13, ground := Ground.data }, { on := 12, ground := Ground.chain }, { on := 0, ground := Ground.phase }, { on := 1, ground := Ground.phase }, { on := 2, ground := Ground.phase }, { on := 3, ground := Ground.phase }, { on := 4, ground := Ground.phase }, { on := 5, ground := Ground.phase }, { on := 6, ground := Ground.phase }, { on := 7, ground := Ground.phase }, { on := 8, ground := Ground.phase }, { on := 9, ground := Ground.phase }, { on := 10, ground := Ground.phase }, { on := 11, ground := Ground.phase }, { on := 12, ground := Ground.phase }, { on := 13, ground := Ground.phase }, { on := 14, ground := Ground.phase }], guard := none }) rfl (fun K hK => ?_) AllReadyH.nil
            go_simp
            refine hK.out _ _ ?_ (fun hHeld => ?_)
            · exact ⟨(EA.out.below B5.out).c0, (EA.out.below B5.out).c1⟩
            clear hK K
            refine wpAnyH_done (by kernel_rfl) ?_ _
            go_wp2_with fail
            go_meet
            case rel => exact ⟨_, rfl, K5, GE, B5⟩
        · go_simp
          have KE := hide (Bk.new wr [.string ⟨#[]⟩, .string ⟨#[]⟩, .bool false, .string ⟨#[]⟩, .string ⟨#[]⟩] 76).drewC
          have GE : Hid (wr.heap.size ≤ wr.heap.size) := Nat.le_refl _
          replace BC : Hid (Below wr.heap.size wr (wr.alloc (.cells #[.string ⟨#[]⟩, .string ⟨#[]⟩, .bool false, .string ⟨#[]⟩, .string ⟨#[]⟩] 76)).drew) := belDC ((Below.refl _ wr).alloc (Nat.le_refl _) _)
          generalize (wr.alloc (.cells #[.string ⟨#[]⟩, .string ⟨#[]⟩, .bool false, .string ⟨#[]⟩, .string ⟨#[]⟩] 76)).drew = wz at *
          refine hK.out _ _ ?_ (fun hHeld => ?_)
          · exact ⟨(EA.out.below BC.out).c0, (EA.out.below BC.out).c1⟩
          clear hK K
          refine wpAnyH_ready (rs := [5]) (by kernel_rfl) (by simp) ?_
          refine AllReadyH.cons (i := 5) (o := { dst := some 17, op := Op.call { callee := Callee.value (Operand.func 55), args := #[Operand.tmp 16], argTypes := #[9] }, type := 9, pos := "ref.go:231", after := #[{ on := 4, ground := Ground.data }], guard := none }) rfl (fun K hK => ?_) AllReadyH.nil
          go_simp
          refine (HN.out _).mono ?_
          rintro e wa ⟨rfl, bx⟩
          replace BC := hide (chain BC.out bx)
          try replace KE := hide (KE.out.below bx)
          clear bx
          go_wp2_with fail
          refine hK.out _ _ ?_ (fun hHeld => ?_)
          · exact ⟨(EA.out.below BC.out).c0, (EA.out.below BC.out).c1⟩
          clear hK K
          refine wpAnyH_ready (rs := [6]) (by kernel_rfl) (by simp) ?_
          refine AllReadyH.cons (i := 6) (o := { dst := some 18, op := Op.call { callee := Callee.value (Operand.func 54), args := #[Operand.tmp 17], argTypes := #[9] }, type := 9, pos := "ref.go:231", after := #[{ on := 5, ground := Ground.data }, { on := 5, ground := Ground.chain }], guard := none }) rfl (fun K hK => ?_) AllReadyH.nil
          go_simp
          refine (HU.out _).mono ?_
          rintro e wb ⟨rfl, bx⟩
          replace BC := hide (chain BC.out bx)
          try replace KE := hide (KE.out.below bx)
          clear bx
          go_wp2_with fail
          refine hK.out _ _ ?_ (fun hHeld => ?_)
          · exact ⟨(EA.out.below BC.out).c0, (EA.out.below BC.out).c1⟩
          clear hK K
          refine wpAnyH_ready (rs := [12]) (by kernel_rfl) (by simp) ?_
          refine AllReadyH.cons (i := 12) (o := { dst := some 24, op := Op.call { callee := Callee.value (Operand.func 46), args := #[Operand.tmp 23], argTypes := #[9] }, type := 9, pos := "ref.go:231", after := #[{ on := 11, ground := Ground.data }, { on := 6, ground := Ground.chain }], guard := none }) rfl (fun K hK => ?_) AllReadyH.nil
          go_simp
          refine (HP.out _).mono ?_
          rintro e wc ⟨rfl, bx⟩
          replace BC := hide (chain BC.out bx)
          try replace KE := hide (KE.out.below bx)
          clear bx
          go_wp2_with fail
          refine hK.out _ _ ?_ (fun hHeld => ?_)
          · exact ⟨(EA.out.below BC.out).c0, (EA.out.below BC.out).c1⟩
          clear hK K
          refine wpAnyH_take (i := 13) (oi := { dst := some 25, op := Op.build 76 #[(0, Operand.tmp 18), (1, Operand.tmp 24)], type := 76, pos := "ref.go:231", after := #[{ on := 6, ground := Ground.data }, { on := 12, ground := Ground.data }], guard := none }) (v := ?_) rfl (by kernel_rfl) (by kernel_rfl) (by kernel_rfl) (fun _ _ _ h => h) (Or.inl ⟨by rfl, ?_⟩) (by assumption) ?_
          rotate_left
          · (intro w hSw; (try dsimp only at hSw); first | (go_simp; done) | (go_simp; with_reducible rfl))
          simp only [Act.put, List.setIfInBounds_toArray, List.set_cons_zero, List.set_cons_succ]
          have g0 := KE.out.cell 0 rfl
          have f0 := KE.out.free 0
          have g1 := KE.out.cell 1 rfl
          have f1 := KE.out.free 1
          have g2 := KE.out.cell 2 rfl
          have f2 := KE.out.free 2
          have g3 := KE.out.cell 3 rfl
          have f3 := KE.out.free 3
          have g4 := KE.out.cell 4 rfl
          have f4 := KE.out.free 4
          have K5 := hide (((((KE.out.set 0 (.string u0)).set 1 (.string p1)).set 2 (.bool false)).set 3 (.string ⟨#[]⟩)).set 4 (.string ⟨#[]⟩))
          have B5 := hide (low5 BC.out GE.out (.string u0) (.string p1) (.bool false) (.string ⟨#[]⟩) (.string ⟨#[]⟩))
          refine wpAnyH_ready (rs := [15]) (by kernel_rfl) (by simp) ?_
          refine AllReadyH.cons (i := 15) (o := { dst := none, op := Op.store 76 (Operand.tmp 5) (Operand.tmp 25), type := 0, pos := "ref.go:231", after := #[{ on := 14, ground := Ground.data }, { on := 13, ground := Ground.data }, { on := 12, ground := Ground.chain }, { on := 0, ground := Ground.phase }, { on := 1, ground := Ground.phase }, { on := 2, ground := Ground.phase }, { on := 3, ground := Ground.phase }, { on := 4, ground := Ground.phase }, { on := 5, ground := Ground.phase }, { on := 6, ground := Ground.phase }, { on := 7, ground := Ground.phase }, { on := 8, ground := Ground.phase }, { on := 9, ground := Ground.phase }, { on := 10, ground := Ground.phase }, { on := 11, ground := Ground.phase }, { on := 12, ground := Ground.phase }, { on := 13, ground := Ground.phase }, { on := 14, ground := Ground.phase }], guard := none }) rfl (fun K hK => ?_) AllReadyH.nil
          go_simp
          refine hK.out _ _ ?_ (fun hHeld => ?_)
          · exact ⟨(EA.out.below B5.out).c0, (EA.out.below B5.out).c1⟩
          clear hK K
          refine wpAnyH_done (by kernel_rfl) ?_ _
          go_wp2_with fail
          go_meet
          case rel => exact ⟨_, rfl, K5, GE, B5⟩
      case rest =>
        obtain ⟨E, rfl, KE, GE, BX⟩ := hcut
        have EX := hide (EA.out.below BX.out)
        have OX := hide (OW.out.below BX.out)
        have c2 := EX.out.c2
        clear BC HN HU HP a0 a1
        cases fb : ek.file with
        | false =>
          rw [fb] at c2
          rw [fb, if_neg (by decide), if_neg (by decide), if_neg (by decide)] at ET
          clear fb HN2 HU2 HT
          have z0 := KE.out.cell 0 rfl
          have z1 := KE.out.cell 1 rfl
          have z2 := KE.out.cell 2 rfl
          have z3 := KE.out.cell 3 rfl
          have z4 := KE.out.cell 4 rfl
          have AL : Hid (Below wc.heap.size wc (wc.alloc (.cells #[.string u0, .string p1, .bool false, .string ⟨#[]⟩, .string ⟨#[]⟩] 76))) := (Below.refl _ _).alloc (Nat.le_refl _) _
          have F1 := hide (files_one wc ⟨u0, p1, false, ⟨#[]⟩, ⟨#[]⟩⟩)
          have O8 := hide (OX.out.below AL.out)
          have B8 := hide (chain (chain BW.out BX.out) AL.out)
          have SZ8 := hide B8.out.size
          have l72 : (((l.take k).map toldE).length + 1) * 72 ≤ 140737488355328 := by rw [PL.out]; omega
          go_wp2_with (at_builtin; refine wpList_append_en rfl _ _ rfl w.heap.size _ ((l.take k).map toldE) rfl O8.out _ [⟨u0, p1, false, ⟨#[]⟩, ⟨#[]⟩⟩] rfl F1.out l72 SZ8.out ?_; intro q8 c8 w8 o8 b8)
          have O9 : Hid (OwnR w.heap.size w8 (.slice q8 (k + 1) c8) ((l.take (k + 1)).map toldE)) := by
            show OwnR _ _ _ _
            rw [TK.out, ET.out]
            have := o8
            rw [PL.out] at this
            exact this
          have B9 := hide (B8.out.trans b8)
          clear PL o8 b8
          go_roundw
          case rel => exact ⟨k + 1, q8, c8, by omega, by go_num, rfl, O9, B9⟩
          case measure => simp [intOf]; omega
        | true =>
          rw [fb] at c2
          rw [fb, if_pos rfl, if_pos rfl, if_pos rfl] at ET
          clear fb
          have c1 := EX.out.c1
          have c3 := EX.out.c3
          have lb : b < wr.heap.size := World.block_lt_of_cell? _ _ EA.out.c0
          have ge := GE.out
          have ne1 : ¬ E = b := by omega
          have ne2 : ¬ b = E := by omega
          have e2 := KE.out.cell 2 rfl
          have f2 := KE.out.free 2
          have e1 := KE.out.cell 1 rfl
          have f1 := KE.out.free 1
          have ltE := KE.out.lt
          have K5 : Hid (Bk ((wc.setCell ⟨E, 2, none⟩ (.bool true)).setCell ⟨E, 1, none⟩ (.string ek.val)) E [.string u0, .string ek.val, .bool true, .string ⟨#[]⟩, .string ⟨#[]⟩] 76) := (KE.out.set 2 _).set 1 _
          have B5 : Hid (Below wr.heap.size wr ((wc.setCell ⟨E, 2, none⟩ (.bool true)).setCell ⟨E, 1, none⟩ (.string ek.val))) := (BX.out.setCell (p := ⟨E, 2, none⟩) ge _).setCell (p := ⟨E, 1, none⟩) ge _
          have d3 := (EA.out.below B5.out).c3
          go_wp2_with fail
          refine (HN2.out _).mono ?_
          rintro e w6 ⟨rfl, b6⟩
          have K6 := hide (K5.out.below b6)
          have B6 := hide (chain B5.out b6)
          clear b6 K5 B5 KE BX c1 c2 c3 d3 e1 e2 f1 f2 HN2
          go_wp2_with fail
          refine (HU2.out _).mono ?_
          rintro e w7 ⟨rfl, b7⟩
          have K7 := hide (K6.out.below b7)
          have B7 := hide (chain B6.out b7)
          have EX7 := hide (EA.out.below B7.out)
          clear b7 K6 B6 HU2
          have lt7 := K7.out.lt
          have e3 := K7.out.cell 3 rfl
          have f3 := K7.out.free 3
          have c4 := EX7.out.c4
          have K9 : Hid (Bk ((w7.setCell ⟨E, 3, none⟩ (.string u2)).setCell ⟨E, 4, none⟩ (.string u4)) E [.string u0, .string ek.val, .bool true, .string u2, .string u4] 76) := (K7.out.set 3 _).set 4 _
          have B9x : Hid (Below wr.heap.size wr ((w7.setCell ⟨E, 3, none⟩ (.string u2)).setCell ⟨E, 4, none⟩ (.string u4))) := (B7.out.setCell (p := ⟨E, 3, none⟩) ge _).setCell (p := ⟨E, 4, none⟩) ge _
          have O9x := hide (OW.out.below B9x.out)
          have K8 : Hid (Bk (w7.setCell ⟨E, 3, none⟩ (.string u2)) E [.string u0, .string ek.val, .bool true, .string u2, .string ⟨#[]⟩] 76) := K7.out.set 3 _
          have e4 := K8.out.cell 4 rfl
          have f4 := K8.out.free 4
          clear OX EX
          go_wp2_with fail
          refine (HT.out _).mono ?_
          rintro e w8 ⟨rfl, hu⟩
          obtain rfl : _ = w8 := hu.symm
          have z0 := K9.out.cell 0 rfl
          have z1 := K9.out.cell 1 rfl
          have z2 := K9.out.cell 2 rfl
          have z3 := K9.out.cell 3 rfl
          have z4 := K9.out.cell 4 rfl
          have AL : Hid (Below ((w7.setCell ⟨E, 3, none⟩ (.string u2)).setCell ⟨E, 4, none⟩ (.string u4)).heap.size ((w7.setCell ⟨E, 3, none⟩ (.string u2)).setCell ⟨E, 4, none⟩ (.string u4)) (((w7.setCell ⟨E, 3, none⟩ (.string u2)).setCell ⟨E, 4, none⟩ (.string u4)).alloc (.cells #[.string u0, .string ek.val, .bool true, .string u2, .string u4] 76))) := (Below.refl _ _).alloc (Nat.le_refl _) _
          have F1 := hide (files_one ((w7.setCell ⟨E, 3, none⟩ (.string u2)).setCell ⟨E, 4, none⟩ (.string u4)) ⟨u0, ek.val, true, u2, u4⟩)
          rw [World.size_setCell, World.size_setCell] at F1
          have O8 := hide (O9x.out.below AL.out)
          have B8 := hide (chain (chain BW.out B9x.out) AL.out)
          have SZ8 := hide B8.out.size
          have l72 : (((l.take k).map toldE).length + 1) * 72 ≤ 140737488355328 := by rw [PL.out]; omega
          go_wp2_with (at_builtin; refine wpList_append_en rfl _ _ rfl w.heap.size _ ((l.take k).map toldE) rfl O8.out _ [⟨u0, ek.val, true, u2, u4⟩] rfl F1.out l72 SZ8.out ?_; intro q8 c8 w8 o8 b8)
          have O9 : Hid (OwnR w.heap.size w8 (.slice q8 (k + 1) c8) ((l.take (k + 1)).map toldE)) := by
            show OwnR _ _ _ _
            rw [TK.out, ET.out]
            have := o8
            rw [PL.out] at this
            exact this
          have B9 := hide (B8.out.trans b8)
          clear PL o8 b8
          go_roundw
          case rel => exact ⟨k + 1, q8, c8, by omega, by go_num, rfl, O9, B9⟩
          case measure => simp [intOf]; omega
    · obtain rfl : k = l.length := by omega
      rw [List.take_length] at OW
      clear FV HZ
      go_wp2_with fail
      go_ret
      exact ⟨_, rfl, OW.out, BW.out⟩

end Go.Proofs.YtnojgejcmaajmaaGreatDoor
