/- The program's digit answers by hexV; it changes nothing. The program's Decode answers by decL; it changes nothing that was there. The program's Form and Unform answer by functions of lists of bytes. The program's Decode of layer 19. -/
import Derived.Test.YtfedeiipinamjaaDoorJur8
import Derived.Test.YtfedeiipinamjaaDoorJur13
import Derived.Test.YtfedeiipinamjaaDoorJur29

namespace Go.Proofs.YtfedeiipinamjaaDoor
open Go.RowKit
/-- The number of a digit that is no small letter; -1: it is none. -/
def upV (x : Int) : Int := if 48 ≤ x ∧ x ≤ 57 then x - 48 else if 65 ≤ x ∧ x ≤ 70 then x - 55 else -1
def dig (k : Nat) : Int := ((hexD k).toNat : Int)
def NotTo (x : Int) (k : Nat) : Prop := ∀ j, j < k → dig j ≠ x
theorem dig_eq (k : Nat) (hk : k < 16) : dig k = if k < 10 then (48 : Int) + k else 55 + k := by
  have : ∀ n : Fin 16, dig n.val = if n.val < 10 then (48 : Int) + n.val else 55 + n.val := by decide
  exact this ⟨k, hk⟩
theorem notTo_succ {x : Int} {k : Nat} (h : NotTo x k) (he : dig k ≠ x) : NotTo x (k + 1) := by
  intro j hj
  rcases Nat.lt_or_ge j k with h' | h'
  · exact h j h'
  · obtain rfl : j = k := by omega
    exact he
theorem upV_hit {x : Int} {k : Nat} (hk : k < 16) (he : dig k = x) : upV x = k := by
  rw [dig_eq k hk] at he
  unfold upV
  by_cases h : k < 10
  · rw [if_pos h] at he; rw [if_pos (by omega)]; omega
  · rw [if_neg h] at he; rw [if_neg (by omega), if_pos (by omega)]; omega
theorem upV_none {x : Int} (h : NotTo x 16) : upV x = -1 := by
  unfold upV
  by_cases h1 : 48 ≤ x ∧ x ≤ 57
  · exfalso
    refine h (x - 48).toNat (by omega) ?_
    rw [dig_eq _ (by omega), if_pos (by omega)]; omega
  · by_cases h2 : 65 ≤ x ∧ x ≤ 70
    · exfalso
      refine h (x - 55).toNat (by omega) ?_
      rw [dig_eq _ (by omega), if_neg (by omega)]; omega
    · rw [if_neg h1, if_neg h2]
theorem hexV_low {c : UInt8} (h : 97 ≤ c.toNat ∧ c.toNat ≤ 102) : hexV c = upV ((c.toNat : Int) - 32) := by
  unfold hexV upV
  rw [if_neg (by omega), if_neg (by omega), if_pos h, if_neg (by omega), if_pos (by omega)]; omega
theorem hexV_up {c : UInt8} (h : ¬ (97 ≤ c.toNat ∧ c.toNat ≤ 102)) : hexV c = upV (c.toNat : Int) := by
  unfold hexV upV
  by_cases h1 : 48 ≤ c.toNat ∧ c.toNat ≤ 57
  · rw [if_pos h1, if_pos (show (48 : Int) ≤ c.toNat ∧ (c.toNat : Int) ≤ 57 by omega)]
  · rw [if_neg h1, if_neg (show ¬ ((48 : Int) ≤ c.toNat ∧ (c.toNat : Int) ≤ 57) by omega)]
    by_cases h2 : 65 ≤ c.toNat ∧ c.toNat ≤ 70
    · rw [if_pos h2, if_pos (show (65 : Int) ≤ c.toNat ∧ (c.toNat : Int) ≤ 70 by omega)]
    · rw [if_neg h2, if_neg h, if_neg (show ¬ ((65 : Int) ≤ c.toNat ∧ (c.toNat : Int) ≤ 70) by omega)]
/-- What digit answers of a number: the number, and whether there is one. -/
def dNum (v : Int) : Int := if v < 0 then 0 else v
def dOk (v : Int) : Bool := decide (0 ≤ v)
theorem dNum_yes {v : Int} (h : 0 ≤ v) : dNum v = v := by unfold dNum; rw [if_neg (by omega)]
theorem dOk_yes {v : Int} (h : 0 ≤ v) : dOk v = true := decide_eq_true h
theorem dOk_no {v : Int} (h : ¬ 0 ≤ v) : dOk v = false := decide_eq_false h
theorem ret_digit {x : Int} {k : Nat} (h : upV x = k) {y : Int} (hy : y = (k : Int)) : Ending.returned (.tuple #[.int .u8 y, .bool true]) = .returned (.tuple #[.int .u8 (dNum (upV x)), .bool (dOk (upV x))]) := by
  rw [h, hy, dNum_yes (by omega), dOk_yes (by omega)]
theorem ret_nodigit {x : Int} (h : upV x = -1) : Ending.returned (.tuple #[.int .u8 0, .bool false]) = .returned (.tuple #[.int .u8 (dNum (upV x)), .bool (dOk (upV x))]) := by
  rw [h]; rfl
theorem index_digs (k : Nat) (hk : k < 16) (w : World) :
    (Instr.index 71 (.agg #[.int .u8 48, .int .u8 49, .int .u8 50, .int .u8 51, .int .u8 52, .int .u8 53, .int .u8 54, .int .u8 55, .int .u8 56, .int .u8 57, .int .u8 65, .int .u8 66, .int .u8 67, .int .u8 68, .int .u8 69, .int .u8 70]) (.int .i64 k)).run Tryd.prog w = .ok (.int .u8 (dig k)) w := by
  match k, hk with
  | 0, _ => rfl
  | 1, _ => rfl
  | 2, _ => rfl
  | 3, _ => rfl
  | 4, _ => rfl
  | 5, _ => rfl
  | 6, _ => rfl
  | 7, _ => rfl
  | 8, _ => rfl
  | 9, _ => rfl
  | 10, _ => rfl
  | 11, _ => rfl
  | 12, _ => rfl
  | 13, _ => rfl
  | 14, _ => rfl
  | 15, _ => rfl
  | k + 16, h => exact absurd h (by omega)
set_option maxHeartbeats 1000000 in
theorem digit_low (c : UInt8) (w : World) (hT : Digs w) (hc : 97 ≤ c.toNat ∧ c.toNat ≤ 102) :
    Calls Tryd.prog 61 #[.int .u8 (c.toNat : Int)] w fun e w' => e = .returned (.tuple #[.int .u8 (dNum (upV ((c.toNat : Int) - 32))), .bool (dOk (upV ((c.toNat : Int) - 32)))]) ∧ w' = w := by
  have d0 : w.cell? ⟨1, 0, none⟩ = some (.int .u8 48) := hT 0 (by decide)
  have d1 : w.cell? ⟨1, 1, none⟩ = some (.int .u8 49) := hT 1 (by decide)
  have d2 : w.cell? ⟨1, 2, none⟩ = some (.int .u8 50) := hT 2 (by decide)
  have d3 : w.cell? ⟨1, 3, none⟩ = some (.int .u8 51) := hT 3 (by decide)
  have d4 : w.cell? ⟨1, 4, none⟩ = some (.int .u8 52) := hT 4 (by decide)
  have d5 : w.cell? ⟨1, 5, none⟩ = some (.int .u8 53) := hT 5 (by decide)
  have d6 : w.cell? ⟨1, 6, none⟩ = some (.int .u8 54) := hT 6 (by decide)
  have d7 : w.cell? ⟨1, 7, none⟩ = some (.int .u8 55) := hT 7 (by decide)
  have d8 : w.cell? ⟨1, 8, none⟩ = some (.int .u8 56) := hT 8 (by decide)
  have d9 : w.cell? ⟨1, 9, none⟩ = some (.int .u8 57) := hT 9 (by decide)
  have d10 : w.cell? ⟨1, 10, none⟩ = some (.int .u8 65) := hT 10 (by decide)
  have d11 : w.cell? ⟨1, 11, none⟩ = some (.int .u8 66) := hT 11 (by decide)
  have d12 : w.cell? ⟨1, 12, none⟩ = some (.int .u8 67) := hT 12 (by decide)
  have d13 : w.cell? ⟨1, 13, none⟩ = some (.int .u8 68) := hT 13 (by decide)
  have d14 : w.cell? ⟨1, 14, none⟩ = some (.int .u8 69) := hT 14 (by decide)
  have d15 : w.cell? ⟨1, 15, none⟩ = some (.int .u8 70) := hT 15 (by decide)
  clear hT
  obtain ⟨hc1, hc2⟩ := hc
  go_enter Tryd.func61, Tryd.ntmps61
  go_wp2_with fail
  go_loop [15] (fun i => ∃ k : Nat, k ≤ 16 ∧ i = .int .i64 k ∧ NotTo ((c.toNat : Int) - 32) k) (fun i => 16 - (intOf i).toNat)
  case atStart => exact ⟨0, Nat.zero_le _, rfl, fun j hj => absurd hj (Nat.not_lt_zero _)⟩
  case round =>
    obtain ⟨k, hk, rfl, hn⟩ := hrel
    have HN := hide hn
    clear hn
    by_cases hlt : k < 16
    · have hix := index_digs k hlt w
      by_cases he : dig k = (c.toNat : Int) - 32
      · have q : (dig k == (c.toNat : Int) - 32) = true := by simpa using he
        have HV := hide (upV_hit hlt he)
        clear he
        go_wp2
        go_ret2
        exact ⟨ret_digit HV.out rfl, rfl⟩
      · have q : (dig k == (c.toNat : Int) - 32) = false := by simpa using he
        have HV := hide (notTo_succ HN.out he)
        clear he
        go_wp2
        go_round
        case rel => exact ⟨k + 1, by omega, by go_num, HV.out⟩
        case measure => simp [intOf]; omega
    · have e : k = 16 := by omega
      subst e
      have HV := hide (upV_none HN.out)
      go_wp2
      go_ret2
      exact ⟨ret_nodigit HV.out, rfl⟩
set_option maxHeartbeats 1000000 in
theorem digit_up (c : UInt8) (w : World) (hT : Digs w) (hc : c.toNat < 97 ∨ 102 < c.toNat) :
    Calls Tryd.prog 61 #[.int .u8 (c.toNat : Int)] w fun e w' => e = .returned (.tuple #[.int .u8 (dNum (upV ((c.toNat : Int)))), .bool (dOk (upV ((c.toNat : Int))))]) ∧ w' = w := by
  have d0 : w.cell? ⟨1, 0, none⟩ = some (.int .u8 48) := hT 0 (by decide)
  have d1 : w.cell? ⟨1, 1, none⟩ = some (.int .u8 49) := hT 1 (by decide)
  have d2 : w.cell? ⟨1, 2, none⟩ = some (.int .u8 50) := hT 2 (by decide)
  have d3 : w.cell? ⟨1, 3, none⟩ = some (.int .u8 51) := hT 3 (by decide)
  have d4 : w.cell? ⟨1, 4, none⟩ = some (.int .u8 52) := hT 4 (by decide)
  have d5 : w.cell? ⟨1, 5, none⟩ = some (.int .u8 53) := hT 5 (by decide)
  have d6 : w.cell? ⟨1, 6, none⟩ = some (.int .u8 54) := hT 6 (by decide)
  have d7 : w.cell? ⟨1, 7, none⟩ = some (.int .u8 55) := hT 7 (by decide)
  have d8 : w.cell? ⟨1, 8, none⟩ = some (.int .u8 56) := hT 8 (by decide)
  have d9 : w.cell? ⟨1, 9, none⟩ = some (.int .u8 57) := hT 9 (by decide)
  have d10 : w.cell? ⟨1, 10, none⟩ = some (.int .u8 65) := hT 10 (by decide)
  have d11 : w.cell? ⟨1, 11, none⟩ = some (.int .u8 66) := hT 11 (by decide)
  have d12 : w.cell? ⟨1, 12, none⟩ = some (.int .u8 67) := hT 12 (by decide)
  have d13 : w.cell? ⟨1, 13, none⟩ = some (.int .u8 68) := hT 13 (by decide)
  have d14 : w.cell? ⟨1, 14, none⟩ = some (.int .u8 69) := hT 14 (by decide)
  have d15 : w.cell? ⟨1, 15, none⟩ = some (.int .u8 70) := hT 15 (by decide)
  clear hT
  rcases hc with hc | hc
  · go_enter Tryd.func61, Tryd.ntmps61
    go_wp2_with fail
    go_loop [15] (fun i => ∃ k : Nat, k ≤ 16 ∧ i = .int .i64 k ∧ NotTo ((c.toNat : Int)) k) (fun i => 16 - (intOf i).toNat)
    case atStart => exact ⟨0, Nat.zero_le _, rfl, fun j hj => absurd hj (Nat.not_lt_zero _)⟩
    case round =>
      obtain ⟨k, hk, rfl, hn⟩ := hrel
      have HN := hide hn
      clear hn
      by_cases hlt : k < 16
      · have hix := index_digs k hlt w
        by_cases he : dig k = (c.toNat : Int)
        · have q : (dig k == (c.toNat : Int)) = true := by simpa using he
          have HV := hide (upV_hit hlt he)
          clear he
          go_wp2
          go_ret2
          exact ⟨ret_digit HV.out rfl, rfl⟩
        · have q : (dig k == (c.toNat : Int)) = false := by simpa using he
          have HV := hide (notTo_succ HN.out he)
          clear he
          go_wp2
          go_round
          case rel => exact ⟨k + 1, by omega, by go_num, HV.out⟩
          case measure => simp [intOf]; omega
      · have e : k = 16 := by omega
        subst e
        have HV := hide (upV_none HN.out)
        go_wp2
        go_ret2
        exact ⟨ret_nodigit HV.out, rfl⟩
  · go_enter Tryd.func61, Tryd.ntmps61
    go_wp2_with fail
    go_loop [15] (fun i => ∃ k : Nat, k ≤ 16 ∧ i = .int .i64 k ∧ NotTo ((c.toNat : Int)) k) (fun i => 16 - (intOf i).toNat)
    case atStart => exact ⟨0, Nat.zero_le _, rfl, fun j hj => absurd hj (Nat.not_lt_zero _)⟩
    case round =>
      obtain ⟨k, hk, rfl, hn⟩ := hrel
      have HN := hide hn
      clear hn
      by_cases hlt : k < 16
      · have hix := index_digs k hlt w
        by_cases he : dig k = (c.toNat : Int)
        · have q : (dig k == (c.toNat : Int)) = true := by simpa using he
          have HV := hide (upV_hit hlt he)
          clear he
          go_wp2
          go_ret2
          exact ⟨ret_digit HV.out rfl, rfl⟩
        · have q : (dig k == (c.toNat : Int)) = false := by simpa using he
          have HV := hide (notTo_succ HN.out he)
          clear he
          go_wp2
          go_round
          case rel => exact ⟨k + 1, by omega, by go_num, HV.out⟩
          case measure => simp [intOf]; omega
      · have e : k = 16 := by omega
        subst e
        have HV := hide (upV_none HN.out)
        go_wp2
        go_ret2
        exact ⟨ret_nodigit HV.out, rfl⟩
theorem digit_any (c : UInt8) (w : World) (hT : Digs w) :
    Calls Tryd.prog 61 #[.int .u8 (c.toNat : Int)] w fun e w' => e = .returned (.tuple #[.int .u8 (dNum (hexV c)), .bool (dOk (hexV c))]) ∧ w' = w := by
  by_cases h : 97 ≤ c.toNat ∧ c.toNat ≤ 102
  · rw [hexV_low h]; exact digit_low c w hT h
  · rw [hexV_up h]; exact digit_up c w hT (by omega)
end Go.Proofs.YtfedeiipinamjaaDoor

namespace Go.Proofs.YtfedeiipinamjaaDoor
open Go.RowKit
def eNum : Option UInt8 → Int
  | some v => (v.toNat : Int)
  | none => 0
def eOk : Option UInt8 → Bool
  | some _ => true
  | none => false
theorem or_two : ∀ a b : Fin 16, bits .or .u8 ((a.val : Int) * 16) b.val = (a.val : Int) * 16 + b.val := by decide +kernel
theorem list3 (t : ByteArray) (h : 3 ≤ t.size) : t.data.toList = t[0] :: t[1] :: t[2] :: t.data.toList.drop 3 := by
  have hl : t.data.toList.length = t.size := by simp
  rw [← List.drop_zero (l := t.data.toList), List.drop_eq_getElem_cons (by omega), List.drop_eq_getElem_cons (i := 0 + 1) (by omega), List.drop_eq_getElem_cons (i := 0 + 1 + 1) (by omega)]
  rfl
theorem ret_none {t : ByteArray} (h : headE t.data.toList = none) : Ending.returned (.tuple #[.int .u8 0, .bool false]) = .returned (.tuple #[.int .u8 (eNum (headE t.data.toList)), .bool (eOk (headE t.data.toList))]) := by
  rw [h]; rfl
theorem ret_some {t : ByteArray} {v : UInt8} (h : headE t.data.toList = some v) {y : Int} (hy : y = (v.toNat : Int)) : Ending.returned (.tuple #[.int .u8 y, .bool true]) = .returned (.tuple #[.int .u8 (eNum (headE t.data.toList)), .bool (eOk (headE t.data.toList))]) := by
  rw [h, hy]; rfl
set_option maxHeartbeats 1000000 in
theorem escaped_any (t : ByteArray) (w : World) (hT : Digs w) :
    Calls Tryd.prog 47 #[.string t] w fun e w' => e = .returned (.tuple #[.int .u8 (eNum (headE t.data.toList)), .bool (eOk (headE t.data.toList))]) ∧ w' = w := by
  have HT := hide hT
  clear hT
  by_cases h3 : 3 ≤ t.size
  · have hi3 : (3 : Int) ≤ (t.size : Int) := by omega
    have hl := list3 t h3
    by_cases h37 : (t[0].toNat : Int) = 37
    · have q : ((t[0].toNat : Int) != 37) = false := by simpa using h37
      have h0 : t[0] = 37 := UInt8.toNat_inj.1 (by show _ = 37; omega)
      have hx := fun w hT => digit_any t[1] w hT
      have hy := fun w hT => digit_any t[2] w hT
      have gx := hexV_lt t[1]
      have gy := hexV_lt t[2]
      by_cases ha : 0 ≤ hexV t[1]
      · obtain ⟨a, ea⟩ : ∃ a : Nat, hexV t[1] = a := ⟨(hexV t[1]).toNat, by omega⟩
        have ha16 : a < 16 := by omega
        by_cases hb : 0 ≤ hexV t[2]
        · obtain ⟨b, eb⟩ : ∃ b : Nat, hexV t[2] = b := ⟨(hexV t[2]).toNat, by omega⟩
          have hb16 : b < 16 := by omega
          have HE : Hid (headE t.data.toList = some (two t[1] t[2])) := by
            rw [hl, h0]; exact headE_yes _ ha hb
          have HV := hide ((or_two ⟨a, ha16⟩ ⟨b, hb16⟩).trans (two_num ea eb ha16 hb16).symm)
          rw [ea, dNum_yes (by omega), dOk_yes (by omega)] at hx
          rw [eb, dNum_yes (by omega), dOk_yes (by omega)] at hy
          have HX := hide hx
          have HY := hide hy
          clear hx hy ea eb h37 h0 ha hb hl gx gy
          go_enter Tryd.func47, Tryd.ntmps47
          go_wp2_with fail
          refine (HX.out _ HT.out).mono ?_
          rintro e w1 ⟨rfl, rfl⟩
          go_wp2_with fail
          refine (HY.out _ HT.out).mono ?_
          rintro e w1 ⟨rfl, rfl⟩
          go_wp2_with fail
          go_ret2
          exact ⟨ret_some HE.out HV.out, rfl⟩
        · have HE : Hid (headE t.data.toList = none) := by
            rw [hl]; exact headE_noB _ hb
          rw [ea, dNum_yes (by omega), dOk_yes (by omega)] at hx
          rw [dOk_no hb] at hy
          have HX := hide hx
          have HY := hide hy
          clear hx hy ea h37 h0 ha hb hl gx gy
          go_enter Tryd.func47, Tryd.ntmps47
          go_wp2_with fail
          refine (HX.out _ HT.out).mono ?_
          rintro e w1 ⟨rfl, rfl⟩
          go_wp2_with fail
          refine (HY.out _ HT.out).mono ?_
          rintro e w1 ⟨rfl, rfl⟩
          go_wp2_with fail
          go_ret2
          exact ⟨ret_none HE.out, rfl⟩
      · have HE : Hid (headE t.data.toList = none) := by
          rw [hl]; exact headE_noA _ ha
        rw [dOk_no ha] at hx
        have HX := hide hx
        have HY := hide hy
        clear hx hy h37 h0 ha hl gx gy
        go_enter Tryd.func47, Tryd.ntmps47
        go_wp2_with fail
        refine (HX.out _ HT.out).mono ?_
        rintro e w1 ⟨rfl, rfl⟩
        go_wp2_with fail
        refine (HY.out _ HT.out).mono ?_
        rintro e w1 ⟨rfl, rfl⟩
        go_wp2_with fail
        go_ret2
        exact ⟨ret_none HE.out, rfl⟩
    · have q : ((t[0].toNat : Int) != 37) = true := by simpa using h37
      have HE : Hid (headE t.data.toList = none) := by
        rw [hl]; exact headE_ne _ (fun e => h37 (by rw [e]; rfl))
      clear h37 hl
      go_enter Tryd.func47, Tryd.ntmps47
      go_wp2_with fail
      go_ret2
      exact ⟨ret_none HE.out, rfl⟩
  · have hi3 : (t.size : Int) < 3 := by omega
    have HE : Hid (headE t.data.toList = none) := headE_short (by simp; omega)
    go_enter Tryd.func47, Tryd.ntmps47
    go_wp2_with fail
    go_ret2
    exact ⟨ret_none HE.out, rfl⟩
set_option maxHeartbeats 1000000 in
theorem decode_any (s : ByteArray) (w : World) (hs : s.size ≤ 1099511627776) (hD : Digs w) :
    Calls Tryd.prog 35 #[.string s] w fun r w' => r = .returned (.string (decS s)) ∧ Below w.heap.size w w' := by
  have HD := hide hD
  clear hD
  go_enter Tryd.func35, Tryd.ntmps35
  go_wp2_with fail
  refine (grow_fresh s.size w (by omega)).mono ?_
  rintro r w1 ⟨rfl, h1, b1⟩
  go_wp2_with fail
  go_loopw [4, 13] (fun nx i wr => ∃ (k n : Nat) (l : List UInt8), k ≤ s.size ∧ i = .int .i64 k ∧ nx = .int .i64 n ∧ DecAt s k n l ∧ HoldsB w.heap.size w.heap.size l wr ∧ Below w.heap.size w wr) (fun _ i _ => s.size - (intOf i).toNat)
  case atStart => exact ⟨0, 0, [], Nat.zero_le _, rfl, rfl, decAt_start s, h1, b1⟩
  case round =>
    obtain ⟨k, n, l, hk, rfl, rfl, hd, hh, hb⟩ := hrel
    have hle := decAt_len hd
    have hn := hd.1
    have HK := hide hd
    clear hd
    by_cases hlt : k < s.size
    · have hsz := hb.size
      by_cases hkn : k < n
      · have HN := hide (decAt_skip HK.out hkn)
        go_wp2_with fail
        go_roundw
        case rel => exact ⟨k + 1, n, l, by omega, by go_num, rfl, HN.out, hh, hb⟩
        case measure => simp [intOf]; omega
      · have hE := escaped_any (s.extract k s.size) wr (HD.out.below hb)
        rw [tail_list] at hE
        cases g : headE (s.data.toList.drop k) with
        | some v =>
          rw [g] at hE
          have HE := hide hE
          have HN := hide (decAt_hit HK.out (by omega) g)
          clear hE g
          go_wp2_with fail
          refine HE.out.mono ?_
          rintro e w0 ⟨rfl, hw⟩
          obtain rfl : wr = w0 := hw.symm
          clear hw
          go_wp2_with fail
          refine (writeByte _ _ _ v _ hh (by omega) hb.size).mono ?_
          rintro r w2 ⟨rfl, h2, b2⟩
          go_wp2_with fail
          go_roundw
          case rel => exact ⟨k + 1, k + 3, _, by omega, by go_num, by go_num, HN.out, h2, hb.trans b2⟩
          case measure => simp [intOf]; omega
        | none =>
          rw [g] at hE
          have HE := hide hE
          have HN := hide (decAt_miss HK.out (by omega) hlt g)
          clear hE g
          go_wp2_with fail
          refine HE.out.mono ?_
          rintro e w0 ⟨rfl, hw⟩
          obtain rfl : wr = w0 := hw.symm
          clear hw
          go_wp2_with fail
          refine (writeByte _ _ _ s[k] _ hh (by omega) hb.size).mono ?_
          rintro r w2 ⟨rfl, h2, b2⟩
          go_wp2_with fail
          go_roundw
          case rel => exact ⟨k + 1, n, _, by omega, by go_num, rfl, HN.out, h2, hb.trans b2⟩
          case measure => simp [intOf]; omega
    · have HN := hide (decAt_end HK.out (by omega))
      go_wp2_with fail
      refine (builderText _ _ _ _ hh hb.size).mono ?_
      rintro r w2 ⟨rfl, b2⟩
      go_wp2_with fail
      go_ret
      exact ⟨ret_str (congrArg txt HN.out), hb.trans b2⟩
end Go.Proofs.YtfedeiipinamjaaDoor

namespace Go.Proofs.YtfedeiipinamjaaDoor
open Go.Shelf Go.RowKit
theorem plus_text (s : ByteArray) : txt (repA (⟨#[43]⟩ : ByteArray).data.toList (⟨#[32]⟩ : ByteArray).data.toList s.data.toList) = txt (unplus s.data.toList) := congrArg txt (rep_plus s.data.toList)
set_option maxHeartbeats 400000 in
theorem unform_any (s : ByteArray) (w : World) (hs : s.size ≤ 1073741824) (hD : Digs w) (hM : SomeMax w) :
    Calls Tryd.prog 25 #[.string s] w fun r w' => r = .returned (.string (unformS s)) ∧ Below w.heap.size w w' := by
  have hR := fun w hM => replaceAll_any s ⟨#[43]⟩ ⟨#[32]⟩ w (by omega) hM (by decide) (by decide) (by decide)
  rw [plus_text] at hR
  have hC := fun w hD => decode_any (txt (unplus s.data.toList)) w (by rw [txt_size]; simp [unplus]; omega) hD
  have HC := hide hC
  have HR := hide hR
  have HM := hide hM
  have HD := hide hD
  clear hC hR hM hD
  go_enter Tryd.func25, Tryd.ntmps25
  go_wp2_with fail
  refine (HR.out _ HM.out).mono ?_
  rintro e w1 ⟨rfl, b1⟩
  go_wp2_with fail
  refine (HC.out _ (HD.out.below b1)).mono ?_
  rintro e w2 ⟨rfl, b2⟩
  go_wp2_with fail
  go_ret
  exact ⟨rfl, chain b1 b2⟩
end Go.Proofs.YtfedeiipinamjaaDoor

namespace Go.Proofs.YtfedeiipinamjaaDoor
open Go.RowKit
set_option maxRecDepth 100000
def sizeV : Value → Nat
  | .string s => s.size
  | _ => 0
theorem txt_noneU (l : List UInt8) : (txt l).toList = [] ↔ l = [] := by rw [ByteArray.toList_eq]; exact Iff.rfl
theorem txt_someU {l : List UInt8} (h : l ≠ []) : (txt l).toList.isEmpty = false := by
  cases g : (txt l).toList.isEmpty with
  | false => rfl
  | true => exact absurd ((txt_noneU l).1 (List.isEmpty_iff.1 g)) h
theorem unform_txtU (p : List UInt8) (w : World) (hs : p.length ≤ 1073741824) (hT : UrTabs w) :
    Calls Tryd.prog 25 #[.string (txt p)] w fun r w' => r = .returned (.string (txt (unf p))) ∧ Below w.heap.size w w' := unform_any (txt p) w hs hT.2.1 hT.2.2
set_option maxHeartbeats 8000000 in
theorem urDecodeO_any (s : ByteArray) (w : World) (hs : s.size ≤ 16777216) (hT : UrTabs w) :
    Calls Tryd.prog 15 #[.string s] w fun e w' => ∃ v', e = .returned v' ∧ OwnR w.heap.size w' v' (decU s.data.toList) ∧ Below w.heap.size w w' := by
  obtain ⟨l, rfl⟩ : ∃ l, s = txt l := ⟨s.data.toList, rfl⟩
  have hs : l.length ≤ 16777216 := hs
  show Calls _ _ _ _ fun e w' => ∃ v', e = .returned v' ∧ OwnR w.heap.size w' v' (decU l) ∧ Below w.heap.size w w'
  have TT := hide hT
  clear hT
  go_enter Tryd.func15, Tryd.ntmps15
  go_wp2_with fail
  go_loopw [0, 3] (fun sv ov wr => ∃ (r : List UInt8) (L : List En) (q : Option Addr) (cp : Nat), sv = .string (txt r) ∧ ov = .slice q L.length cp ∧ L.length + r.length ≤ 16777216 ∧ Hid (L ++ decU r = decU l) ∧ Hid (OwnR w.heap.size wr (.slice q L.length cp) L) ∧ Hid (Below w.heap.size w wr)) (fun sv _ _ => sizeV sv)
  case atStart => exact ⟨l, [], none, 0, rfl, rfl, by simpa using hs, rfl, OwnR.nil _ _, Below.refl _ _⟩
  case round =>
    rename World => wr
    obtain ⟨r, L, q, cp, rfl, rfl, hn, HE, OW, BW⟩ := hrel
    by_cases z : r = []
    · subst z
      have n1 := (txt_noneU []).2 rfl
      have E2 : Hid (L = decU l) := by
        have := HE.out
        rw [show decU [] = [] from rfl, List.append_nil] at this
        exact this
      clear HE TT
      go_wp2_with fail
      go_ret
      exact ⟨_, rfl, by rw [← E2.out]; exact OW.out, BW.out⟩
    · have n1 : ¬ (txt r).toList = [] := fun h => z ((txt_noneU r).1 h)
      have n2 := txt_someU z
      have HC := hide (cutW_any 38 r wr (by omega) (TT.out.2.2.below BW.out))
      have DC := hide (decU_cut r)
      have LT := tlW_len 38 r
      have LH := hdW_len 38 r
      have r1 : 1 ≤ r.length := by
        cases r with
        | nil => exact absurd rfl z
        | cons => simp
      have MS : sizeV (.string (txt r)) = r.length := rfl
      generalize hdW 38 r = hd at *
      generalize tlW 38 r = tl at *
      generalize hasB r 38 = hb at *
      go_wp2_with fail
      refine HC.out.mono ?_
      rintro e w1 ⟨rfl, b1⟩
      have BW1 := hide (chain BW.out b1)
      have OW1 := hide (OW.out.below b1)
      clear b1 HC BW OW n1 n2
      by_cases y : hd = []
      · subst y
        have n1 := (txt_noneU []).2 rfl
        have E2 : Hid (L ++ decU tl = decU l) := by
          have := HE.out
          rw [DC.out, show oneU [] = [] from rfl, List.nil_append] at this
          exact this
        clear HE DC TT
        go_wp2_with fail
        go_roundw
        case rel => exact ⟨tl, L, q, cp, rfl, rfl, by omega, E2, OW1, BW1⟩
        case measure => show tl.length < r.length; omega
      · have n1 : ¬ (txt hd).toList = [] := fun h => y ((txt_noneU hd).1 h)
        have n2 := txt_someU y
        have HC2 := hide (fun W (hb : Below w.heap.size w W) => cutW_any 61 hd W (by omega) (TT.out.2.2.below hb))
        have DE := hide (decE_cut hd)
        have L1 := hdW_len 61 hd
        have L2 := tlW_len 61 hd
        have E2 : Hid ((L ++ [decE hd]) ++ decU tl = decU l) := by
          have := HE.out
          rw [DC.out, oneU_some y, ← List.append_assoc] at this
          exact this
        have HU := hide (fun W (hb : Below w.heap.size w W) => unform_txtU (hdW 61 hd) W (by omega) (TT.out.below hb))
        have HV := hide (fun W (hb : Below w.heap.size w W) => unform_txtU (tlW 61 hd) W (by omega) (TT.out.below hb))
        clear HE DC
        generalize decE hd = de at *
        generalize hdW 61 hd = a0 at *
        generalize tlW 61 hd = a1 at *
        generalize hasB hd 61 = hb2 at *
        generalize txt (unf a0) = u0 at *
        generalize txt (unf a1) = u1 at *
        go_wp2_with fail
        refine (HC2.out _ BW1.out).mono ?_
        rintro e w2 ⟨rfl, b2⟩
        have BW2 := hide (chain BW1.out b2)
        have OW2 := hide (OW1.out.below b2)
        clear b2 HC2 BW1 OW1 n1 n2
        go_wp2_with fail
        refine (HU.out _ BW2.out).mono ?_
        rintro e w3 ⟨rfl, b3⟩
        have BW3 := hide (chain BW2.out b3)
        have OW3 := hide (OW2.out.below b3)
        clear b3 HU BW2 OW2
        go_wp2_with fail
        refine (HV.out _ BW3.out).mono ?_
        rintro e w4 ⟨rfl, b4⟩
        have BW4 := hide (chain BW3.out b4)
        have OW4 := hide (OW3.out.below b4)
        clear b4 HV BW3 OW3
        have F1 := hide (files_one w4 ⟨u0, u1, false, ⟨#[]⟩, ⟨#[]⟩⟩)
        have AL : Hid (Below w4.heap.size w4 (w4.alloc (.cells #[.string u0, .string u1, .bool false, .string ⟨#[]⟩, .string ⟨#[]⟩] 31))) := (Below.refl _ w4).alloc (Nat.le_refl _) _
        have B5 := hide (chain BW4.out AL.out)
        have O5 := hide (OW4.out.below AL.out)
        have SZ := hide (Nat.le_trans BW4.out.size AL.out.size)
        clear AL BW4 OW4
        go_wp2_with (at_builtin; refine wpList_append_en rfl _ _ rfl w.heap.size _ L rfl O5.out _ [⟨u0, u1, false, ⟨#[]⟩, ⟨#[]⟩⟩] rfl F1.out (by show (L.length + 1) * 72 ≤ _; omega) SZ.out ?_; intro q8 c8 w8 o8 b8)
        have O8 : Hid (OwnR w.heap.size w8 (.slice q8 (L ++ [de]).length c8) (L ++ [de])) := by
          show OwnR _ _ _ _
          rw [DE.out, List.length_append]
          exact o8
        have B8 := hide (B5.out.trans b8)
        have LN : Hid (L.length + 1 = (L ++ [de]).length) := by show _ = _; simp
        clear o8 b8 F1 B5 O5 SZ DE
        go_roundw
        case rel => exact ⟨tl, L ++ [de], q8, c8, rfl, by rw [← LN.out], by rw [← LN.out]; omega, E2, O8, B8⟩
        case measure => show tl.length < r.length; omega
theorem urDecode_any (s : ByteArray) (w : World) (hs : s.size ≤ 16777216) (hT : UrTabs w) :
    Calls Tryd.prog 15 #[.string s] w fun e w' => ∃ v', e = .returned v' ∧ FilesV w' v' (decU s.data.toList) ∧ Below w.heap.size w w' := by
  refine (urDecodeO_any s w hs hT).mono ?_
  rintro e w' ⟨v', rfl, h1, h2⟩
  exact ⟨v', rfl, h1.files, h2⟩

end Go.Proofs.YtfedeiipinamjaaDoor
