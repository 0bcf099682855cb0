/- The document's clock answers by clockT; nothing is changed (draws aside). The document's Parse answers by momV; nothing is changed (draws aside). -/
import Derived.Test.YtfjfkkbgkjmghaaGreatDoorJct7

namespace Go.Proofs.YtfjfkkbgkjmghaaGreatDoor
open Go.RowKit
set_option maxRecDepth 100000
theorem clock_short {s : ByteArray} (h : s.size < 5) : clockT s.data.toList = none := by
  have hl := list_size s
  generalize s.data.toList = l at hl
  match l, hl with
  | [], _ => rfl
  | [_], _ => rfl
  | [_, _], _ => rfl
  | [_, _, _], _ => rfl
  | [_, _, _, _], _ => rfl
  | _ :: _ :: _ :: _ :: _ :: _, hl => simp at hl; omega
theorem drop_0 (s : ByteArray) : s.data.toList.drop 0 = s.data.toList := rfl
theorem clock_five {s : ByteArray} (h : 5 ≤ s.size) :
    clockT s.data.toList = if byteAt s 2 = 58 ∧ 0 ≤ twoAt s 0 ∧ twoAt s 0 ≤ 23 ∧ 0 ≤ twoAt s 3 ∧ twoAt s 3 ≤ 59 then secT (twoAt s 0 * 3600000 + twoAt s 3 * 60000) (s.data.toList.drop 5) else none := by
  have e : s.data.toList.drop 0 = byteAt s 0 :: byteAt s 1 :: byteAt s 2 :: byteAt s 3 :: byteAt s 4 :: s.data.toList.drop 5 := by
    rw [drop_b (by omega), drop_b (by omega), drop_b (by omega), drop_b (by omega), drop_b (by omega)]
  rw [drop_0] at e
  rw [congrArg clockT e, clockT_eq, twoAt_in (by omega), twoAt_in (by omega)]
theorem sec_none {s : ByteArray} {n : Int} (h : s.size = 5) : secT n (s.data.toList.drop 5) = some n := by rw [drop_end (by omega)]; rfl
theorem twoAt_end {s : ByteArray} {k : Nat} (h : s.size ≤ k + 1) : twoAt s k = -1 := by
  unfold twoAt
  rw [if_neg]
  intro x
  have := (dig_some x.2).1
  omega
theorem sec_more {s : ByteArray} {n : Int} (h : 5 < s.size) : secT n (s.data.toList.drop 5) = if byteAt s 5 = 58 ∧ 0 ≤ twoAt s 6 ∧ twoAt s 6 ≤ 59 then fracT (n + twoAt s 6 * 1000) (s.data.toList.drop 8) else none := by
  by_cases h8 : 8 ≤ s.size
  · rw [drop_b (by omega), drop_b (by omega), drop_b (by omega), secT_eq, twoAt_in (by omega)]
  · rw [twoAt_end (by omega), if_neg (by omega)]
    rcases (show s.size = 6 ∨ s.size = 7 by omega) with e | e
    · rw [drop_b (by omega), drop_end (by omega)]; rfl
    · rw [drop_b (by omega), drop_b (by omega), drop_end (by omega)]; rfl
theorem frac_none {s : ByteArray} {n : Int} (h : s.size = 8) : fracT n (s.data.toList.drop 8) = some n := by rw [drop_end (by omega)]; rfl
theorem frac_more {s : ByteArray} {n : Int} (h : 8 < s.size) : fracT n (s.data.toList.drop 8) = if byteAt s 8 = 46 ∧ 10 ≤ s.size ∧ s.size ≤ 12 ∧ (s.data.toList.drop 9).all isDg = true then some (n + fracOf 3 (s.data.toList.drop 9)) else none := by
  rw [drop_b (by omega), fracT_eq, drop_len]
  by_cases g : byteAt s 8 = 46 ∧ 10 ≤ s.size ∧ s.size ≤ 12 ∧ (s.data.toList.drop 9).all isDg = true
  · rw [if_pos g, if_pos ⟨g.1, by omega, by omega, g.2.2.2⟩]
  · rw [if_neg g, if_neg (fun x => g ⟨x.1, by omega, by omega, x.2.2.2⟩)]
/-- What a place behind the point is worth, in thousandths. -/
def unitV : Nat → Int
  | 0 => 100
  | 1 => 10
  | 2 => 1
  | _ => 0
theorem unit_next (j : Nat) : unitV (j + 1) = unitV j / 10 := by
  match j with
  | 0 => rfl
  | 1 => rfl
  | 2 => rfl
  | j + 3 => rfl
theorem unit_bounds (j : Nat) : 0 ≤ unitV j ∧ unitV j ≤ 100 := by
  match j with
  | 0 => decide
  | 1 => decide
  | 2 => decide
  | j + 3 => exact ⟨by show (0 : Int) ≤ 0; omega, by show (0 : Int) ≤ 100; omega⟩
theorem frac3_snoc (c : UInt8) : ∀ l : List UInt8, l.length ≤ 2 → ((fracOf 3 (l ++ [c]) : Nat) : Int) = (fracOf 3 l : Nat) + (dg c : Int) * unitV l.length
  | [], _ => by simp [fracOf, unitV]
  | [a], _ => by simp [fracOf, unitV]
  | [a, b], _ => by simp [fracOf, unitV]; omega
  | _ :: _ :: _ :: _, h => by simp at h
/-- Where the reading of thousandths stands. -/
structure FrAt (s : ByteArray) (base : Int) (k : Nat) (n u : Int) : Prop where
  un : u = unitV (k - 9)
  is : n = base + (fracOf 3 ((s.data.toList.drop 9).take (k - 9)) : Nat)
  dg : ∀ c ∈ (s.data.toList.drop 9).take (k - 9), isDg c = true
theorem frAt_start (s : ByteArray) (base : Int) : FrAt s base 9 base 100 := ⟨rfl, by show base = base + ((0 : Nat) : Int); omega, fun c hc => by simp at hc⟩
theorem frAt_next {s : ByteArray} {base : Int} {k : Nat} {n u : Int} (h : FrAt s base k n u) (h9 : 9 ≤ k) (hk : k < s.size) (h12 : k < 12) (hd : isDg s[k] = true) : FrAt s base (k + 1) (n + ((s[k].toNat : Int) - 48) * u) (u / 10) := by
  have e : (s.data.toList.drop 9).take (k + 1 - 9) = (s.data.toList.drop 9).take (k - 9) ++ [s[k]] := by
    rw [show k + 1 - 9 = (k - 9) + 1 by omega, List.take_add_one]
    congr 1
    rw [List.getElem?_drop, show 9 + (k - 9) = k by omega, List.getElem?_eq_getElem (by simpa using hk)]
    simp; rfl
  have hb := (isDg_iff _).1 hd
  have hv : ((Go.Proofs.YtfjfkkbgkjmghaaGreatDoor.dg s[k] : Nat) : Int) = (s[k].toNat : Int) - 48 := by unfold Go.Proofs.YtfjfkkbgkjmghaaGreatDoor.dg; omega
  have hl : ((s.data.toList.drop 9).take (k - 9)).length = k - 9 := by rw [List.length_take, drop_len]; omega
  refine ⟨by rw [h.un, show k + 1 - 9 = (k - 9) + 1 by omega, unit_next], ?_, ?_⟩
  · rw [e, frac3_snoc _ _ (by omega), hl, ← h.un, hv, h.is]; omega
  · intro c hc
    rw [e] at hc
    rcases List.mem_append.1 hc with x | x
    · exact h.dg c x
    · simp at x; subst x; exact hd
theorem frAt_bounds {s : ByteArray} {base : Int} {k : Nat} {n u : Int} (h : FrAt s base k n u) : base ≤ n ∧ n < base + 1000 ∧ 0 ≤ u ∧ u ≤ 100 := by
  have a := fracOf_lt 3 _ h.dg
  have b := unit_bounds (k - 9)
  have c := h.is; have d := h.un
  omega
theorem frAt_end {s : ByteArray} {base : Int} {n u : Int} (h : FrAt s base s.size n u) : (s.data.toList.drop 9).all isDg = true ∧ n = base + (fracOf 3 (s.data.toList.drop 9) : Nat) := by
  have e : (s.data.toList.drop 9).take (s.size - 9) = s.data.toList.drop 9 := List.take_of_length_le (by rw [drop_len]; omega)
  have a := h.is; have b := h.dg
  rw [e] at a b
  exact ⟨List.all_eq_true.2 b, a⟩
theorem fr_bad {s : ByteArray} {k : Nat} (h9 : 9 ≤ k) (hk : k < s.size) (hd : isDg s[k] = false) : (s.data.toList.drop 9).all isDg = false := by
  rw [List.all_eq_false]
  refine ⟨s[k], ?_, by rw [hd]; decide⟩
  have : s[k] ∈ s.data.toList.drop k := by rw [drop_one hk]; exact List.mem_cons_self ..
  have e : s.data.toList.drop k = (s.data.toList.drop 9).drop (k - 9) := by rw [List.drop_drop, show 9 + (k - 9) = k by omega]
  rw [e] at this
  exact List.mem_of_mem_drop this
set_option maxHeartbeats 1000000 in
theorem clock_any (s : ByteArray) (w : World) (hs : s.size ≤ 100000) :
    Calls Tryz.prog 131 #[.string s] w fun e w' => e = .returned (.tuple #[.int .i64 (outB (clockT s.data.toList)).1, .bool (outB (clockT s.data.toList)).2]) ∧ ∃ q, w' = w.drewN q := by
  by_cases h5 : s.size < 5
  · have E : Hid (outB (clockT s.data.toList) = (0, false)) := by show _ = _; rw [clock_short h5]; rfl
    go_enter Tryz.func131, Tryz.ntmps131
    go_wp2_with fail
    go_ret2
    exact ⟨ret_outB E.out, 0, rfl⟩
  have h5' : 5 ≤ s.size := by omega
  have hc := clock_five h5'
  have hA := fun w => at1_any s 2 58 w hs (by decide)
  rw [at_is (by omega)] at hA
  have hH := fun w => two_any s 0 w hs (by decide)
  have hM := fun w => two_any s 3 w hs (by decide)
  have bH := twoAt_bounds s 0
  have bM := twoAt_bounds s 3
  generalize twoAt s 0 = H at *
  generalize twoAt s 3 = M at *
  have HH := hide hH
  have HM := hide hM
  clear hH hM h5
  by_cases h2 : ¬ byteAt s 2 = 58
  · rw [decide_eq_false h2] at hA
    rw [if_neg (fun x => h2 x.1)] at hc
    have E : Hid (outB (clockT s.data.toList) = (0, false)) := by show _ = _; rw [hc]; rfl
    have HA := hide hA
    clear hA hc h2
    go_enter Tryz.func131, Tryz.ntmps131
    go_wp2_with fail
    refine (HA.out _).mono ?_
    rintro e u1 ⟨rfl, rfl⟩
    go_wp2_with fail
    go_ret2
    exact ⟨ret_outB E.out, 0, rfl⟩
  have h2 := Decidable.not_not.1 h2
  rw [decide_eq_true h2] at hA
  have HA := hide hA
  clear hA
  have pre := hide h2
  clear h2
  by_cases g : H < 0
  · rw [if_neg (by omega)] at hc
    have E : Hid (outB (clockT s.data.toList) = (0, false)) := by show _ = _; rw [hc]; rfl
    clear hc
    go_enter Tryz.func131, Tryz.ntmps131
    go_wp2_with fail
    refine (HA.out _).mono ?_
    rintro e u1 ⟨rfl, rfl⟩
    go_wp2_with fail
    refine (HH.out _).mono ?_
    rintro e u2 ⟨rfl, q2, rfl⟩
    go_wp2_with fail
    refine (HM.out _).mono ?_
    rintro e u3 ⟨rfl, q3, rfl⟩
    go_wp2_with fail
    go_ret2
    exact ⟨ret_outB E.out, _, rfl⟩
  have g1 : 0 ≤ H := by omega
  clear g
  by_cases g : 23 < H
  · rw [if_neg (by omega)] at hc
    have E : Hid (outB (clockT s.data.toList) = (0, false)) := by show _ = _; rw [hc]; rfl
    clear hc
    go_enter Tryz.func131, Tryz.ntmps131
    go_wp2_with fail
    refine (HA.out _).mono ?_
    rintro e u1 ⟨rfl, rfl⟩
    go_wp2_with fail
    refine (HH.out _).mono ?_
    rintro e u2 ⟨rfl, q2, rfl⟩
    go_wp2_with fail
    refine (HM.out _).mono ?_
    rintro e u3 ⟨rfl, q3, rfl⟩
    go_wp2_with fail
    go_ret2
    exact ⟨ret_outB E.out, _, rfl⟩
  have g2 : H ≤ 23 := by omega
  clear g
  by_cases g : M < 0
  · rw [if_neg (by omega)] at hc
    have E : Hid (outB (clockT s.data.toList) = (0, false)) := by show _ = _; rw [hc]; rfl
    clear hc
    go_enter Tryz.func131, Tryz.ntmps131
    go_wp2_with fail
    refine (HA.out _).mono ?_
    rintro e u1 ⟨rfl, rfl⟩
    go_wp2_with fail
    refine (HH.out _).mono ?_
    rintro e u2 ⟨rfl, q2, rfl⟩
    go_wp2_with fail
    refine (HM.out _).mono ?_
    rintro e u3 ⟨rfl, q3, rfl⟩
    go_wp2_with fail
    go_ret2
    exact ⟨ret_outB E.out, _, rfl⟩
  have g3 : 0 ≤ M := by omega
  clear g
  by_cases g : 59 < M
  · rw [if_neg (by omega)] at hc
    have E : Hid (outB (clockT s.data.toList) = (0, false)) := by show _ = _; rw [hc]; rfl
    clear hc
    go_enter Tryz.func131, Tryz.ntmps131
    go_wp2_with fail
    refine (HA.out _).mono ?_
    rintro e u1 ⟨rfl, rfl⟩
    go_wp2_with fail
    refine (HH.out _).mono ?_
    rintro e u2 ⟨rfl, q2, rfl⟩
    go_wp2_with fail
    refine (HM.out _).mono ?_
    rintro e u3 ⟨rfl, q3, rfl⟩
    go_wp2_with fail
    go_ret2
    exact ⟨ret_outB E.out, _, rfl⟩
  have g4 : M ≤ 59 := by omega
  clear g
  rw [if_pos ⟨pre.out, g1, g2, g3, g4⟩] at hc
  by_cases z5 : s.size = 5
  · rw [sec_none z5] at hc
    have E : Hid (outB (clockT s.data.toList) = (H * 3600000 + M * 60000, true)) := by show _ = _; rw [hc]; rfl
    have zz : ((s.size : Int) == 5) = true := beq_yes (by omega)
    clear hc z5
    go_enter Tryz.func131, Tryz.ntmps131
    go_wp2_with fail
    refine (HA.out _).mono ?_
    rintro e u1 ⟨rfl, rfl⟩
    go_wp2_with fail
    refine (HH.out _).mono ?_
    rintro e u2 ⟨rfl, q2, rfl⟩
    go_wp2_with fail
    refine (HM.out _).mono ?_
    rintro e u3 ⟨rfl, q3, rfl⟩
    go_wp2_with fail
    go_ret2
    exact ⟨ret_outB E.out, _, rfl⟩
  rw [sec_more (by omega)] at hc
  have zz : ((s.size : Int) == 5) = false := beq_no (by omega)
  have hB := fun w => at1_any s 5 58 w hs (by decide)
  rw [at_is (by omega)] at hB
  have hS := fun w => two_any s 6 w hs (by decide)
  have bS := twoAt_bounds s 6
  have hS8 : 0 ≤ twoAt s 6 → 8 ≤ s.size := fun h => by
    rcases Nat.lt_or_ge s.size 8 with g | g
    · rw [twoAt_end (by omega)] at h; omega
    · exact g
  generalize twoAt s 6 = S at *
  have HS := hide hS
  clear hS
  by_cases h2 : ¬ byteAt s 5 = 58
  · rw [decide_eq_false h2] at hB
    rw [if_neg (fun x => h2 x.1)] at hc
    have E : Hid (outB (clockT s.data.toList) = (0, false)) := by show _ = _; rw [hc]; rfl
    have HB := hide hB
    clear hB hc h2 hS8
    go_enter Tryz.func131, Tryz.ntmps131
    go_wp2_with fail
    refine (HA.out _).mono ?_
    rintro e u1 ⟨rfl, rfl⟩
    go_wp2_with fail
    refine (HH.out _).mono ?_
    rintro e u2 ⟨rfl, q2, rfl⟩
    go_wp2_with fail
    refine (HM.out _).mono ?_
    rintro e u3 ⟨rfl, q3, rfl⟩
    go_wp2_with fail
    refine (HS.out _).mono ?_
    rintro e u4 ⟨rfl, q4, rfl⟩
    go_wp2_with fail
    refine (HB.out _).mono ?_
    rintro e u1 ⟨rfl, rfl⟩
    go_wp2_with fail
    go_ret2
    exact ⟨ret_outB E.out, _, rfl⟩
  have h2 := Decidable.not_not.1 h2
  rw [decide_eq_true h2] at hB
  have HB := hide hB
  clear hB
  have pre2 := hide h2
  clear h2
  by_cases g : S < 0
  · rw [if_neg (by omega)] at hc
    have E : Hid (outB (clockT s.data.toList) = (0, false)) := by show _ = _; rw [hc]; rfl
    clear hc hS8
    go_enter Tryz.func131, Tryz.ntmps131
    go_wp2_with fail
    refine (HA.out _).mono ?_
    rintro e u1 ⟨rfl, rfl⟩
    go_wp2_with fail
    refine (HH.out _).mono ?_
    rintro e u2 ⟨rfl, q2, rfl⟩
    go_wp2_with fail
    refine (HM.out _).mono ?_
    rintro e u3 ⟨rfl, q3, rfl⟩
    go_wp2_with fail
    refine (HS.out _).mono ?_
    rintro e u4 ⟨rfl, q4, rfl⟩
    go_wp2_with fail
    refine (HB.out _).mono ?_
    rintro e u1 ⟨rfl, rfl⟩
    go_wp2_with fail
    go_ret2
    exact ⟨ret_outB E.out, _, rfl⟩
  have g5 : 0 ≤ S := by omega
  clear g
  by_cases g : 59 < S
  · rw [if_neg (by omega)] at hc
    have E : Hid (outB (clockT s.data.toList) = (0, false)) := by show _ = _; rw [hc]; rfl
    clear hc hS8
    go_enter Tryz.func131, Tryz.ntmps131
    go_wp2_with fail
    refine (HA.out _).mono ?_
    rintro e u1 ⟨rfl, rfl⟩
    go_wp2_with fail
    refine (HH.out _).mono ?_
    rintro e u2 ⟨rfl, q2, rfl⟩
    go_wp2_with fail
    refine (HM.out _).mono ?_
    rintro e u3 ⟨rfl, q3, rfl⟩
    go_wp2_with fail
    refine (HS.out _).mono ?_
    rintro e u4 ⟨rfl, q4, rfl⟩
    go_wp2_with fail
    refine (HB.out _).mono ?_
    rintro e u1 ⟨rfl, rfl⟩
    go_wp2_with fail
    go_ret2
    exact ⟨ret_outB E.out, _, rfl⟩
  have g6 : S ≤ 59 := by omega
  clear g
  rw [if_pos ⟨pre2.out, g5, g6⟩] at hc
  have h8 := hS8 g5
  clear hS8
  by_cases z8 : s.size = 8
  · rw [frac_none z8] at hc
    have E : Hid (outB (clockT s.data.toList) = (H * 3600000 + M * 60000 + S * 1000, true)) := by show _ = _; rw [hc]; rfl
    have zy : ((s.size : Int) == 8) = true := beq_yes (by omega)
    clear hc z8
    go_enter Tryz.func131, Tryz.ntmps131
    go_wp2_with fail
    refine (HA.out _).mono ?_
    rintro e u1 ⟨rfl, rfl⟩
    go_wp2_with fail
    refine (HH.out _).mono ?_
    rintro e u2 ⟨rfl, q2, rfl⟩
    go_wp2_with fail
    refine (HM.out _).mono ?_
    rintro e u3 ⟨rfl, q3, rfl⟩
    go_wp2_with fail
    refine (HS.out _).mono ?_
    rintro e u4 ⟨rfl, q4, rfl⟩
    go_wp2_with fail
    refine (HB.out _).mono ?_
    rintro e u1 ⟨rfl, rfl⟩
    go_wp2_with fail
    go_ret2
    exact ⟨ret_outB E.out, _, rfl⟩
  rw [frac_more (by omega)] at hc
  have zy : ((s.size : Int) == 8) = false := beq_no (by omega)
  have hP := fun w => at1_any s 8 46 w hs (by decide)
  rw [at_is (by omega)] at hP
  by_cases h2 : ¬ byteAt s 8 = 46
  · rw [decide_eq_false h2] at hP
    rw [if_neg (fun x => h2 x.1)] at hc
    have E : Hid (outB (clockT s.data.toList) = (0, false)) := by show _ = _; rw [hc]; rfl
    have HP := hide hP
    clear hP hc h2
    go_enter Tryz.func131, Tryz.ntmps131
    go_wp2_with fail
    refine (HA.out _).mono ?_
    rintro e u1 ⟨rfl, rfl⟩
    go_wp2_with fail
    refine (HH.out _).mono ?_
    rintro e u2 ⟨rfl, q2, rfl⟩
    go_wp2_with fail
    refine (HM.out _).mono ?_
    rintro e u3 ⟨rfl, q3, rfl⟩
    go_wp2_with fail
    refine (HS.out _).mono ?_
    rintro e u4 ⟨rfl, q4, rfl⟩
    go_wp2_with fail
    refine (HB.out _).mono ?_
    rintro e u1 ⟨rfl, rfl⟩
    go_wp2_with fail
    refine (HP.out _).mono ?_
    rintro e u1 ⟨rfl, rfl⟩
    go_wp2_with fail
    go_ret2
    exact ⟨ret_outB E.out, _, rfl⟩
  have h2 := Decidable.not_not.1 h2
  rw [decide_eq_true h2] at hP
  have HP := hide hP
  clear hP
  have pre3 := hide h2
  clear h2
  by_cases g : s.size < 10
  · rw [if_neg (by omega)] at hc
    have E : Hid (outB (clockT s.data.toList) = (0, false)) := by show _ = _; rw [hc]; rfl
    clear hc
    go_enter Tryz.func131, Tryz.ntmps131
    go_wp2_with fail
    refine (HA.out _).mono ?_
    rintro e u1 ⟨rfl, rfl⟩
    go_wp2_with fail
    refine (HH.out _).mono ?_
    rintro e u2 ⟨rfl, q2, rfl⟩
    go_wp2_with fail
    refine (HM.out _).mono ?_
    rintro e u3 ⟨rfl, q3, rfl⟩
    go_wp2_with fail
    refine (HS.out _).mono ?_
    rintro e u4 ⟨rfl, q4, rfl⟩
    go_wp2_with fail
    refine (HB.out _).mono ?_
    rintro e u1 ⟨rfl, rfl⟩
    go_wp2_with fail
    refine (HP.out _).mono ?_
    rintro e u1 ⟨rfl, rfl⟩
    go_wp2_with fail
    go_ret2
    exact ⟨ret_outB E.out, _, rfl⟩
  have g7 : 10 ≤ s.size := by omega
  clear g
  by_cases g : 12 < s.size
  · rw [if_neg (by omega)] at hc
    have E : Hid (outB (clockT s.data.toList) = (0, false)) := by show _ = _; rw [hc]; rfl
    clear hc
    go_enter Tryz.func131, Tryz.ntmps131
    go_wp2_with fail
    refine (HA.out _).mono ?_
    rintro e u1 ⟨rfl, rfl⟩
    go_wp2_with fail
    refine (HH.out _).mono ?_
    rintro e u2 ⟨rfl, q2, rfl⟩
    go_wp2_with fail
    refine (HM.out _).mono ?_
    rintro e u3 ⟨rfl, q3, rfl⟩
    go_wp2_with fail
    refine (HS.out _).mono ?_
    rintro e u4 ⟨rfl, q4, rfl⟩
    go_wp2_with fail
    refine (HB.out _).mono ?_
    rintro e u1 ⟨rfl, rfl⟩
    go_wp2_with fail
    refine (HP.out _).mono ?_
    rintro e u1 ⟨rfl, rfl⟩
    go_wp2_with fail
    go_ret2
    exact ⟨ret_outB E.out, _, rfl⟩
  have g8 : s.size ≤ 12 := by omega
  clear g
  have HC := hide hc
  have b1 : 0 ≤ H * 3600000 + M * 60000 + S * 1000 := by omega
  have b2 : H * 3600000 + M * 60000 + S * 1000 ≤ 86399000 := by omega
  clear hc
  go_enter Tryz.func131, Tryz.ntmps131
  go_wp2_with fail
  refine (HA.out _).mono ?_
  rintro e u1 ⟨rfl, rfl⟩
  go_wp2_with fail
  refine (HH.out _).mono ?_
  rintro e u2 ⟨rfl, q2, rfl⟩
  go_wp2_with fail
  refine (HM.out _).mono ?_
  rintro e u3 ⟨rfl, q3, rfl⟩
  go_wp2_with fail
  refine (HS.out _).mono ?_
  rintro e u4 ⟨rfl, q4, rfl⟩
  go_wp2_with fail
  refine (HB.out _).mono ?_
  rintro e u1 ⟨rfl, rfl⟩
  go_wp2_with fail
  refine (HP.out _).mono ?_
  rintro e u1 ⟨rfl, rfl⟩
  go_wp2_with fail
  go_loop [6, 8, 9] (fun a b c => ∃ (k : Nat) (n u : Int), a = .int .i64 n ∧ b = .int .i64 u ∧ c = .int .i64 k ∧ 9 ≤ k ∧ k ≤ s.size ∧ Hid (FrAt s (H * 3600000 + M * 60000 + S * 1000) k n u)) (fun _ _ c => s.size - (intOf c).toNat)
  case atStart => exact ⟨9, _, 100, rfl, rfl, rfl, by omega, by omega, hide (frAt_start s _)⟩
  case round =>
    obtain ⟨k, n, u, rfl, rfl, rfl, k1, k2, hF⟩ := hrel
    have ⟨c1, c2, c3, c4⟩ := frAt_bounds hF.out
    by_cases hk : k < s.size
    · have hD := fun w => digit_any s k w hs (by omega)
      rw [dig_in hk] at hD
      cases hd : isDg s[k] with
      | true =>
        rw [hd] at hD
        have hb := (isDg_iff _).1 hd
        have hb1 : 48 ≤ (s[k].toNat : Int) := by omega
        have hb2 : (s[k].toNat : Int) ≤ 57 := by omega
        have p1 : 0 ≤ ((s[k].toNat : Int) - 48) * u := Int.mul_nonneg (by omega) (by omega)
        have p2 : ((s[k].toNat : Int) - 48) * u ≤ 9 * 100 := Int.mul_le_mul (by omega) (by omega) (by omega) (by omega)
        have hN := hide (frAt_next hF.out k1 hk (by omega) hd)
        have HD := hide hD
        clear hd hD hb hF
        go_wp2_with fail
        refine (HD.out _).mono ?_
        rintro e u1 ⟨rfl, rfl⟩
        go_wp2_with fail
        go_round
        case rel => exact ⟨k + 1, _, _, rfl, rfl, by go_num, by omega, by omega, hN⟩
        case measure => simp [intOf]; omega
      | false =>
        rw [hd] at hD
        have hb := fr_bad k1 hk hd
        have E : Hid (outB (clockT s.data.toList) = (0, false)) := by
          show _ = _
          rw [HC.out, if_neg (fun x => by rw [hb] at x; exact absurd x.2.2.2 (by decide))]; rfl
        have HD := hide hD
        clear hd hD hb hF
        go_wp2_with fail
        refine (HD.out _).mono ?_
        rintro e u1 ⟨rfl, rfl⟩
        go_wp2_with fail
        go_ret2
        exact ⟨ret_outB E.out, _, rfl⟩
    · obtain rfl : k = s.size := by omega
      have ⟨e1, e2⟩ := frAt_end hF.out
      have E : Hid (outB (clockT s.data.toList) = (n, true)) := by
        show _ = _
        rw [HC.out, if_pos ⟨pre3.out, g7, g8, e1⟩, ← e2]; rfl
      clear e1 e2 hF
      go_wp2_with fail
      go_ret2
      exact ⟨ret_outB E.out, _, rfl⟩
end Go.Proofs.YtfjfkkbgkjmghaaGreatDoor

namespace Go.Proofs.YtfjfkkbgkjmghaaGreatDoor
open Go.RowKit
set_option maxRecDepth 100000
/-- A number and whether it is one, for what a text tells. -/
def Parsed (o : Option Int) (n : Int) (b : Bool) : Prop := (b = true ∧ o = some n) ∨ (b = false ∧ o = none)
theorem parsed_outB (o : Option Int) : Parsed o (outB o).1 (outB o).2 := by
  cases o with
  | none => exact .inr ⟨rfl, rfl⟩
  | some n => exact .inl ⟨rfl, rfl⟩
/-- What the call of parse answers. -/
def ParseIs (kind : Int) (s : ByteArray) (n : Int) (b : Bool) : Prop := ∀ w, Calls Tryz.prog 93 #[.int .i64 kind, .string s] w fun e w' => e = .returned (.tuple #[.int .i64 n, .bool b]) ∧ ∃ q, w' = w.drewN q
set_option maxHeartbeats 1000000 in
theorem parse_1 (s : ByteArray) (hs : s.size ≤ 100000) : ∃ n b, Parsed (momT 1 s.data.toList) n b ∧ ParseIs 1 s n b := by
  refine ⟨_, _, parsed_outB _, fun w => ?_⟩
  have hD := fun w => day_any s w hs
  have hY := fun w => year_any s w hs
  have E : Hid (momT 1 s.data.toList = (dateT s.data.toList).map (· * 86400000)) := rfl
  rw [E.out]
  generalize (dateT s.data.toList).map (· * 86400000) = o at *
  have HD := hide hD
  have HY := hide hY
  clear hD hY E
  go_enter Tryz.func93, Tryz.ntmps93
  go_wp2_with fail
  refine (HY.out _).mono ?_
  rintro e u1 ⟨rfl, rfl⟩
  go_wp2_with fail
  refine (HD.out _).mono ?_
  rintro e u2 ⟨rfl, q2, rfl⟩
  go_wp2_with fail
  go_ret2
  exact ⟨rfl, _, rfl⟩
set_option maxHeartbeats 1000000 in
theorem parse_4 (s : ByteArray) (hs : s.size ≤ 100000) : ∃ n b, Parsed (momT 4 s.data.toList) n b ∧ ParseIs 4 s n b := by
  refine ⟨_, _, parsed_outB _, fun w => ?_⟩
  have hD := fun w => clock_any s w hs
  have hY := fun w => year_any s w hs
  have E : Hid (momT 4 s.data.toList = clockT s.data.toList) := rfl
  rw [E.out]
  generalize clockT s.data.toList = o at *
  have HD := hide hD
  have HY := hide hY
  clear hD hY E
  go_enter Tryz.func93, Tryz.ntmps93
  go_wp2_with fail
  refine (HY.out _).mono ?_
  rintro e u1 ⟨rfl, rfl⟩
  go_wp2_with fail
  refine (HD.out _).mono ?_
  rintro e u2 ⟨rfl, q2, rfl⟩
  go_wp2_with fail
  go_ret2
  exact ⟨rfl, _, rfl⟩
theorem month_none {s : ByteArray} (h : yrV (s.data.toList.takeWhile isDg) = none) : monthT s.data.toList = none := by unfold monthT; rw [h]; rfl
theorem month_some_y {s : ByteArray} {y : Int} (h : yrV (s.data.toList.takeWhile isDg) = some y) : monthT s.data.toList = monthTail y (s.data.toList.drop (lead s)) := by
  unfold monthT; rw [h, rest_lead]; rfl
theorem monthTail_len {y : Int} : ∀ {l : List UInt8}, l.length ≠ 3 → monthTail y l = none
  | [], _ => rfl
  | [_], _ => rfl
  | [_, _], _ => rfl
  | [_, _, _], h => absurd rfl h
  | _ :: _ :: _ :: _ :: _, _ => rfl
theorem month_long {s : ByteArray} {y : Int} (h : yrV (s.data.toList.takeWhile isDg) = some y) (hs : s.size ≠ lead s + 3) : monthT s.data.toList = none := by
  have := lead_le s
  rw [month_some_y h, monthTail_len (by rw [drop_len]; omega)]
theorem month_three {s : ByteArray} {y : Int} (h : yrV (s.data.toList.takeWhile isDg) = some y) (hs : s.size = lead s + 3) :
    monthT s.data.toList = if byteAt s (lead s) = 45 ∧ 1 ≤ twoAt s (lead s + 1) ∧ twoAt s (lead s + 1) ≤ 12 then some ((y - 1970) * 12 + twoAt s (lead s + 1) - 1) else none := by
  rw [month_some_y h, drop_b (by omega), drop_b (by omega), drop_b (by omega), drop_end (by omega), monthTail_eq, twoAt_in (by omega)]
theorem week_none {s : ByteArray} (h : yrV (s.data.toList.takeWhile isDg) = none) : weekT s.data.toList = none := by unfold weekT; rw [h]; rfl
theorem week_some_y {s : ByteArray} {y : Int} (h : yrV (s.data.toList.takeWhile isDg) = some y) : weekT s.data.toList = weekTail y (s.data.toList.drop (lead s)) := by
  unfold weekT; rw [h, rest_lead]; rfl
theorem weekTail_len {y : Int} : ∀ {l : List UInt8}, l.length ≠ 4 → weekTail y l = none
  | [], _ => rfl
  | [_], _ => rfl
  | [_, _], _ => rfl
  | [_, _, _], _ => rfl
  | [_, _, _, _], h => absurd rfl h
  | _ :: _ :: _ :: _ :: _ :: _, _ => rfl
theorem week_long {s : ByteArray} {y : Int} (h : yrV (s.data.toList.takeWhile isDg) = some y) (hs : s.size ≠ lead s + 4) : weekT s.data.toList = none := by
  have := lead_le s
  rw [week_some_y h, weekTail_len (by rw [drop_len]; omega)]
theorem week_four {s : ByteArray} {y : Int} (h : yrV (s.data.toList.takeWhile isDg) = some y) (hs : s.size = lead s + 4) :
    weekT s.data.toList = if byteAt s (lead s) = 45 ∧ byteAt s (lead s + 1) = 87 ∧ 1 ≤ twoAt s (lead s + 2) ∧ twoAt s (lead s + 2) ≤ WeeksV y then some (firstV y + 7 * (twoAt s (lead s + 2) - 1)) else none := by
  rw [week_some_y h, drop_b (by omega), drop_b (by omega), drop_b (by omega), drop_b (by omega), drop_end (by omega), weekTail_eq, twoAt_in (by omega)]
theorem atW_is {s : ByteArray} {k : Nat} (h : k + 1 < s.size) : atW s k = decide (byteAt s k = 45 ∧ byteAt s (k + 1) = 87) := by
  unfold atW
  by_cases e : byteAt s k = 45 ∧ byteAt s (k + 1) = 87
  · rw [decide_eq_true ⟨h, e⟩, decide_eq_true e]
  · rw [decide_eq_false (fun x => e x.2), decide_eq_false e]
theorem ret_par {a c : Int} {b : Bool} (h : a = c) : Ending.returned (.tuple #[.int .i64 a, .bool b]) = .returned (.tuple #[.int .i64 c, .bool b]) := by rw [h]
set_option maxHeartbeats 4000000 in
theorem parse_2 (s : ByteArray) (hs : s.size ≤ 100000) : ∃ n b, Parsed (momT 2 s.data.toList) n b ∧ ParseIs 2 s n b := by
  have E : momT 2 s.data.toList = monthT s.data.toList := rfl
  rw [E]
  clear E
  have hY := fun w => year_any s w hs
  cases hy : yrV (s.data.toList.takeWhile isDg) with
  | none =>
    rw [yearP_no hy] at hY
    simp only at hY
    have hC := fun w => two_any s 1 w hs (by decide)
    have bm := twoAt_bounds s 1
    generalize twoAt s 1 = m at *
    refine ⟨m - 23641, false, .inr ⟨rfl, month_none hy⟩, fun w => ?_⟩
    have HY := hide hY
    have HC := hide hC
    clear hY hy hC
    go_enter Tryz.func93, Tryz.ntmps93
    go_wp2_with fail
    refine (HY.out _).mono ?_
    rintro e u1 ⟨rfl, rfl⟩
    go_wp2_with fail
    refine (HC.out _).mono ?_
    rintro e u2 ⟨rfl, q2, rfl⟩
    go_wp2_with fail
    go_ret2
    exact ⟨ret_par (by omega), _, rfl⟩
  | some y =>
    have ⟨e1, n4⟩ := yearP_yes hy
    have hle := lead_le s
    have yb := year_of hy
    rw [e1] at hY
    simp only at hY
    have hA := fun w => at1_any s (lead s) 45 w hs (by omega)
    have hC := fun w => two_any s (lead s + 1) w hs (by omega)
    rw [show ((lead s + 1 : Nat) : Int) = (lead s : Int) + 1 by omega] at hC
    have bm := twoAt_bounds s (lead s + 1)
    by_cases hz : s.size = lead s + 3
    · rw [at_is (by omega)] at hA
      have hx := month_three hy hz
      generalize twoAt s (lead s + 1) = m at *
      have z2 : ((s.size : Int) == (lead s : Int) + 3) = true := beq_yes (by omega)
      have n5 : 0 < (lead s : Int) := by omega
      have HY := hide hY
      have HC := hide hC
      clear hY hy e1 hC
      by_cases h1 : byteAt s (lead s) = 45
      · rw [decide_eq_true h1] at hA
        have HA := hide hA
        clear hA
        rcases (show m < 1 ∨ (1 ≤ m ∧ 12 < m) ∨ (1 ≤ m ∧ m ≤ 12) by omega) with g | ⟨g, g'⟩ | ⟨g, g'⟩
        · rw [if_neg (by omega)] at hx
          refine ⟨(y - 1970) * 12 + m - 1, false, .inr ⟨rfl, hx⟩, fun w => ?_⟩
          clear hx h1
          go_enter Tryz.func93, Tryz.ntmps93
          go_wp2_with fail
          refine (HY.out _).mono ?_
          rintro e u1 ⟨rfl, rfl⟩
          go_wp2_with fail
          refine (HC.out _).mono ?_
          rintro e u2 ⟨rfl, q2, rfl⟩
          go_wp2_with fail
          refine (HA.out _).mono ?_
          rintro e u1 ⟨rfl, rfl⟩
          go_wp2_with fail
          go_ret2
          exact ⟨rfl, _, rfl⟩
        · rw [if_neg (by omega)] at hx
          refine ⟨(y - 1970) * 12 + m - 1, false, .inr ⟨rfl, hx⟩, fun w => ?_⟩
          have g2 : decide (m ≤ 12) = false := decide_eq_false (by omega)
          clear hx h1
          go_enter Tryz.func93, Tryz.ntmps93
          go_wp2_with fail
          refine (HY.out _).mono ?_
          rintro e u1 ⟨rfl, rfl⟩
          go_wp2_with fail
          refine (HC.out _).mono ?_
          rintro e u2 ⟨rfl, q2, rfl⟩
          go_wp2_with fail
          refine (HA.out _).mono ?_
          rintro e u1 ⟨rfl, rfl⟩
          go_wp2_with fail
          go_ret2
          exact ⟨by first | rfl | rw [g2], _, rfl⟩
        · rw [if_pos ⟨h1, g, g'⟩] at hx
          refine ⟨_, true, .inl ⟨rfl, hx⟩, fun w => ?_⟩
          have g2 : decide (m ≤ 12) = true := decide_eq_true g'
          clear hx h1
          go_enter Tryz.func93, Tryz.ntmps93
          go_wp2_with fail
          refine (HY.out _).mono ?_
          rintro e u1 ⟨rfl, rfl⟩
          go_wp2_with fail
          refine (HC.out _).mono ?_
          rintro e u2 ⟨rfl, q2, rfl⟩
          go_wp2_with fail
          refine (HA.out _).mono ?_
          rintro e u1 ⟨rfl, rfl⟩
          go_wp2_with fail
          go_ret2
          exact ⟨by first | rfl | rw [g2], _, rfl⟩
      · rw [decide_eq_false h1] at hA
        rw [if_neg (fun x => h1 x.1)] at hx
        refine ⟨(y - 1970) * 12 + m - 1, false, .inr ⟨rfl, hx⟩, fun w => ?_⟩
        have HA := hide hA
        clear hA hx h1
        go_enter Tryz.func93, Tryz.ntmps93
        go_wp2_with fail
        refine (HY.out _).mono ?_
        rintro e u1 ⟨rfl, rfl⟩
        go_wp2_with fail
        refine (HC.out _).mono ?_
        rintro e u2 ⟨rfl, q2, rfl⟩
        go_wp2_with fail
        refine (HA.out _).mono ?_
        rintro e u1 ⟨rfl, rfl⟩
        go_wp2_with fail
        go_ret2
        exact ⟨rfl, _, rfl⟩
    · generalize twoAt s (lead s + 1) = m at *
      have hx := month_long hy hz
      refine ⟨(y - 1970) * 12 + m - 1, false, .inr ⟨rfl, hx⟩, fun w => ?_⟩
      have z2 : ((s.size : Int) == (lead s : Int) + 3) = false := beq_no (by omega)
      have n5 : 0 < (lead s : Int) := by omega
      have HY := hide hY
      have HC := hide hC
      clear hY hy e1 hC hA hx hz
      go_enter Tryz.func93, Tryz.ntmps93
      go_wp2_with fail
      refine (HY.out _).mono ?_
      rintro e u1 ⟨rfl, rfl⟩
      go_wp2_with fail
      refine (HC.out _).mono ?_
      rintro e u2 ⟨rfl, q2, rfl⟩
      go_wp2_with fail
      go_ret2
      exact ⟨rfl, _, rfl⟩
set_option maxHeartbeats 4000000 in
theorem parse_3 (s : ByteArray) (hs : s.size ≤ 100000) : ∃ n b, Parsed (momT 3 s.data.toList) n b ∧ ParseIs 3 s n b := by
  have E : momT 3 s.data.toList = (weekT s.data.toList).map (· * 86400000) := rfl
  rw [E]
  clear E
  have hY := fun w => year_any s w hs
  cases hy : yrV (s.data.toList.takeWhile isDg) with
  | none =>
    rw [yearP_no hy] at hY
    simp only at hY
    refine ⟨0, false, .inr ⟨rfl, by rw [week_none hy]; rfl⟩, fun w => ?_⟩
    have HY := hide hY
    clear hY hy
    go_enter Tryz.func93, Tryz.ntmps93
    go_wp2_with fail
    refine (HY.out _).mono ?_
    rintro e u1 ⟨rfl, rfl⟩
    go_wp2_with fail
    go_ret2
    exact ⟨rfl, 0, rfl⟩
  | some y =>
    have ⟨e1, n4⟩ := yearP_yes hy
    have hle := lead_le s
    have yb := year_of hy
    rw [e1] at hY
    simp only at hY
    have z1 : ((lead s : Int) == 0) = false := beq_no (by omega)
    have hA := fun w => atW_any s (lead s) w hs (by omega)
    have hC := fun w => two_any s (lead s + 2) w hs (by omega)
    rw [show ((lead s + 2 : Nat) : Int) = (lead s : Int) + 2 by omega] at hC
    have bm := twoAt_bounds s (lead s + 2)
    by_cases hz : s.size = lead s + 4
    · rw [atW_is (by omega)] at hA
      have hx := week_four hy hz
      generalize twoAt s (lead s + 2) = k at *
      have z2 : ((s.size : Int) != (lead s : Int) + 4) = false := by
        rw [bne, beq_yes (by omega)]; rfl
      have hN := fun w => refMonday_any y k w (by omega) (by omega) (by omega) (by omega)
      have HY := hide hY
      have HC := hide hC
      clear hY hy e1 hC
      by_cases h1 : byteAt s (lead s) = 45 ∧ byteAt s (lead s + 1) = 87
      · rw [decide_eq_true h1] at hA
        have HA := hide hA
        clear hA
        by_cases h3 : 1 ≤ k ∧ k ≤ WeeksV y
        · rw [if_pos ⟨h1.1, h1.2, h3⟩] at hx
          rw [mon_in h3] at hN
          simp only at hN
          have ws := weeks_some h3
          have fr := first_range ws.1 (by omega)
          have r1 : -800000 ≤ firstV y + 7 * (k - 1) ∧ firstV y + 7 * (k - 1) ≤ 300000000 := by omega
          generalize firstV y + 7 * (k - 1) = r at *
          refine ⟨_, true, .inl ⟨rfl, by rw [hx]; rfl⟩, fun w => ?_⟩
          have HN := hide hN
          clear hN hx h1 h3 fr ws
          go_enter Tryz.func93, Tryz.ntmps93
          go_wp2_with fail
          refine (HY.out _).mono ?_
          rintro e u1 ⟨rfl, rfl⟩
          go_wp2_with fail
          refine (HA.out _).mono ?_
          rintro e u1 ⟨rfl, rfl⟩
          go_wp2_with fail
          refine (HC.out _).mono ?_
          rintro e u2 ⟨rfl, q2, rfl⟩
          go_wp2_with fail
          refine (HN.out _).mono ?_
          rintro e u1 ⟨rfl, rfl⟩
          go_wp2_with fail
          go_ret2
          exact ⟨rfl, _, rfl⟩
        · rw [if_neg (fun x => h3 x.2.2)] at hx
          rw [mon_out h3] at hN
          simp only at hN
          refine ⟨0, false, .inr ⟨rfl, by rw [hx]; rfl⟩, fun w => ?_⟩
          have HN := hide hN
          clear hN hx h1 h3
          go_enter Tryz.func93, Tryz.ntmps93
          go_wp2_with fail
          refine (HY.out _).mono ?_
          rintro e u1 ⟨rfl, rfl⟩
          go_wp2_with fail
          refine (HA.out _).mono ?_
          rintro e u1 ⟨rfl, rfl⟩
          go_wp2_with fail
          refine (HC.out _).mono ?_
          rintro e u2 ⟨rfl, q2, rfl⟩
          go_wp2_with fail
          refine (HN.out _).mono ?_
          rintro e u1 ⟨rfl, rfl⟩
          go_wp2_with fail
          go_ret2
          exact ⟨rfl, _, rfl⟩
      · rw [decide_eq_false h1] at hA
        rw [if_neg (fun x => h1 ⟨x.1, x.2.1⟩)] at hx
        refine ⟨0, false, .inr ⟨rfl, by rw [hx]; rfl⟩, fun w => ?_⟩
        have HA := hide hA
        clear hA hx h1 hN
        go_enter Tryz.func93, Tryz.ntmps93
        go_wp2_with fail
        refine (HY.out _).mono ?_
        rintro e u1 ⟨rfl, rfl⟩
        go_wp2_with fail
        refine (HA.out _).mono ?_
        rintro e u1 ⟨rfl, rfl⟩
        go_wp2_with fail
        go_ret2
        exact ⟨rfl, 0, rfl⟩
    · have hx := week_long hy hz
      refine ⟨0, false, .inr ⟨rfl, by rw [hx]; rfl⟩, fun w => ?_⟩
      have z2 : ((s.size : Int) != (lead s : Int) + 4) = true := by
        rw [bne, beq_no (by omega)]; rfl
      have HY := hide hY
      clear hY hy e1 hC hA hx hz
      go_enter Tryz.func93, Tryz.ntmps93
      go_wp2_with fail
      refine (HY.out _).mono ?_
      rintro e u1 ⟨rfl, rfl⟩
      go_wp2_with fail
      go_ret2
      exact ⟨rfl, 0, rfl⟩
theorem outB_date_bounds (l : List UInt8) : -100000000000000 ≤ (outB ((dateT l).map (· * 86400000))).1 ∧ (outB ((dateT l).map (· * 86400000))).1 ≤ 30000000000000000 := by
  cases h : dateT l with
  | none => exact ⟨by decide, by decide⟩
  | some k =>
    obtain ⟨y, m, d, hd⟩ := date_of_text h
    have := hd.bounds
    show -100000000000000 ≤ k * 86400000 ∧ k * 86400000 ≤ 30000000000000000
    omega
theorem outB_clock_bounds (l : List UInt8) : 0 ≤ (outB (clockT l)).1 ∧ (outB (clockT l)).1 < 86400000 := by
  cases h : clockT l with
  | none => exact ⟨by decide, by decide⟩
  | some k => exact clock_some h
theorem local_at {s : ByteArray} {k : Nat} (hk : k < s.size) (hp : ∀ c ∈ s.data.toList.take k, isSep c = false) (hc : isSep s[k] = true) :
    localT s.data.toList = (dateT (s.data.toList.take k)).bind fun d => (clockT (s.data.toList.drop (k + 1))).bind fun t => some (d * 86400000 + t) := by
  have e : s.data.toList = s.data.toList.take k ++ s[k] :: s.data.toList.drop (k + 1) := by
    rw [← drop_one hk]; exact (List.take_append_drop k _).symm
  rw [congrArg localT e, local_is hp hc]
theorem drop_nil {p : UInt8 → Bool} : ∀ l : List UInt8, (∀ c ∈ l, p c = true) → l.dropWhile p = []
  | [], _ => rfl
  | c :: l, h => by
    rw [List.dropWhile_cons, if_pos (h c (List.mem_cons_self ..))]
    exact drop_nil l (fun d hd => h d (List.mem_cons_of_mem _ hd))
theorem local_none {s : ByteArray} (hp : ∀ c ∈ s.data.toList, isSep c = false) : localT s.data.toList = none := by
  have e : s.data.toList.dropWhile (fun c => !isSep c) = [] := drop_nil _ (fun c hc => by rw [hp c hc]; rfl)
  unfold localT; rw [e]; rfl
theorem local_out (a b : Option Int) : Parsed (a.bind fun d => b.bind fun t => some (d * 86400000 + t)) ((outB (a.map (· * 86400000))).1 + (outB b).1) ((outB (a.map (· * 86400000))).2 && (outB b).2) := by
  cases a with
  | none => exact .inr ⟨rfl, rfl⟩
  | some x =>
    cases b with
    | none => exact .inr ⟨rfl, rfl⟩
    | some y => exact .inl ⟨rfl, rfl⟩
theorem ext_take (s : ByteArray) (k : Nat) : (s.extract 0 k).data.toList = s.data.toList.take k := by simp
theorem ext_drop (s : ByteArray) (k : Nat) : (s.extract k s.size).data.toList = s.data.toList.drop k := by
  have : (s.extract k s.size).data.toList = (s.data.toList.drop k).take (s.size - k) := by simp
  rw [this, List.take_of_length_le (by rw [drop_len]; omega)]
theorem sep_no {c : UInt8} (h : isSep c = false) : ((c.toNat : Int) == 84) = false ∧ ((c.toNat : Int) == 32) = false := by
  unfold isSep at h
  rw [Bool.or_eq_false_iff] at h
  have a : ¬ c = 84 := by simpa using h.1
  have b : ¬ c = 32 := by simpa using h.2
  refine ⟨beq_no (fun e => a (UInt8.toNat_inj.1 (show c.toNat = 84 by omega))), beq_no (fun e => b (UInt8.toNat_inj.1 (show c.toNat = 32 by omega)))⟩
theorem sep_yes {c : UInt8} (h : isSep c = true) : ((c.toNat : Int) == 84) = true ∨ (((c.toNat : Int) == 84) = false ∧ ((c.toNat : Int) == 32) = true) := by
  unfold isSep at h
  by_cases a : c = 84
  · subst a; exact .inl rfl
  · have b : c = 32 := by simpa [a] using h
    subst b; exact .inr ⟨rfl, rfl⟩
set_option maxHeartbeats 4000000 in
theorem parse_5 (s : ByteArray) (hs : s.size ≤ 100000) : ∃ n b, Parsed (momT 5 s.data.toList) n b ∧ ParseIs 5 s n b := by
  have E : momT 5 s.data.toList = localT s.data.toList := rfl
  rw [E]
  clear E
  have hY := fun w => year_any s w hs
  have HY := hide hY
  clear hY
  generalize yearP s = yp at *
  obtain ⟨y0, n0⟩ := yp
  by_cases hall : ∀ k (hk : k < s.size), isSep s[k] = false
  · have hp : ∀ c ∈ s.data.toList, isSep c = false := fun c hc => by
      obtain ⟨k, hk, e⟩ := List.getElem_of_mem hc
      have hk' : k < s.size := by simpa using hk
      have := hall k hk'
      have e2 : s[k] = s.data.toList[k] := by simp; rfl
      rw [e2, e] at this; exact this
    refine ⟨0, false, .inr ⟨rfl, local_none hp⟩, fun w => ?_⟩
    have HA := hide hall
    clear hall hp
    go_enter Tryz.func93, Tryz.ntmps93
    go_wp2_with fail
    refine (HY.out _).mono ?_
    rintro e u1 ⟨rfl, rfl⟩
    go_wp2_with fail
    go_loop [11] (fun a => ∃ k : Nat, a = .int .i64 k ∧ k ≤ s.size) (fun a => s.size - (intOf a).toNat)
    case atStart => exact ⟨0, rfl, by omega⟩
    case round =>
      obtain ⟨k, rfl, hk⟩ := hrel
      by_cases hlt : k < s.size
      · have ⟨a, b⟩ := sep_no (HA.out k hlt)
        go_wp2_with fail
        go_round
        case rel => exact ⟨k + 1, by go_num, by omega⟩
        case measure => simp [intOf]; omega
      · obtain rfl : k = s.size := by omega
        go_wp2_with fail
        go_ret2
        exact ⟨rfl, 0, rfl⟩
  · have hex : ∃ k, ∃ hk : k < s.size, isSep s[k] = true ∧ ∀ j (hj : j < k), isSep (s[j]'(by omega)) = false := by
      have : ∀ n : Nat, (∃ k, ∃ hk : k < s.size, k < n ∧ isSep s[k] = true ∧ ∀ j (hj : j < k), isSep (s[j]'(by omega)) = false) ∨ (∀ k (hk : k < s.size), k < n → isSep s[k] = false) := by
        intro n
        induction n with
        | zero => exact .inr (fun k _ h => by omega)
        | succ n ih =>
          rcases ih with ⟨k, hk, h1, h2, h3⟩ | ih
          · exact .inl ⟨k, hk, by omega, h2, h3⟩
          · by_cases hn : n < s.size
            · cases hc : isSep s[n] with
              | true => exact .inl ⟨n, hn, by omega, hc, fun j hj => ih j (by omega) hj⟩
              | false =>
                refine .inr (fun k hk h => ?_)
                rcases Nat.lt_or_ge k n with g | g
                · exact ih k hk g
                · obtain rfl : k = n := by omega
                  exact hc
            · exact .inr (fun k hk h => ih k hk (by omega))
      rcases this s.size with ⟨k, hk, _, h2, h3⟩ | h
      · exact ⟨k, hk, h2, h3⟩
      · exact absurd (fun k hk => h k hk hk) hall
    obtain ⟨i, hi, hc, hp⟩ := hex
    have hp' : ∀ c ∈ s.data.toList.take i, isSep c = false := fun c hc => by
      obtain ⟨j, hj, e⟩ := List.getElem_of_mem hc
      have hj2 : j < i := by rw [List.length_take] at hj; omega
      have := hp j hj2
      have e2 : s[j] = (s.data.toList.take i)[j] := by simp; rfl
      rw [e2, e] at this; exact this
    have hl := local_at hi hp' hc
    refine ⟨_, _, by rw [hl]; exact local_out _ _, fun w => ?_⟩
    have hz1 : (s.extract 0 i).size ≤ 100000 := by rw [ByteArray.size_extract]; omega
    have hz2 : (s.extract (i + 1) s.size).size ≤ 100000 := by rw [ByteArray.size_extract]; omega
    have hD := fun w => day_any (s.extract 0 i) w hz1
    have hC := fun w => clock_any (s.extract (i + 1) s.size) w hz2
    rw [ext_take] at hD
    rw [ext_drop] at hC
    obtain ⟨b1, b2⟩ := outB_date_bounds (s.data.toList.take i)
    obtain ⟨b3, b4⟩ := outB_clock_bounds (s.data.toList.drop (i + 1))
    generalize outB ((dateT (s.data.toList.take i)).map (· * 86400000)) = od at *
    generalize outB (clockT (s.data.toList.drop (i + 1))) = oc at *
    obtain ⟨d, f⟩ := od
    obtain ⟨t, g⟩ := oc
    simp only at hD hC b1 b2 b3 b4 ⊢
    have HD := hide hD
    have HC := hide hC
    have HP := hide hp
    have HS := hide hc
    clear hD hC hp hp' hc hl hall hz1 hz2
    go_enter Tryz.func93, Tryz.ntmps93
    go_wp2_with fail
    refine (HY.out _).mono ?_
    rintro e u1 ⟨rfl, rfl⟩
    go_wp2_with fail
    go_loop [11] (fun a => ∃ k : Nat, a = .int .i64 k ∧ k ≤ i) (fun a => s.size - (intOf a).toNat)
    case atStart => exact ⟨0, rfl, by omega⟩
    case round =>
      obtain ⟨k, rfl, hk⟩ := hrel
      by_cases hlt : k < i
      · have ⟨a, b⟩ := sep_no (HP.out k hlt)
        have hks : k < s.size := by omega
        go_wp2_with fail
        go_round
        case rel => exact ⟨k + 1, by go_num, by omega⟩
        case measure => simp [intOf]; omega
      · obtain rfl : k = i := by omega
        clear HP hlt hk
        rcases sep_yes HS.out with a | ⟨a, b⟩
        · cases f
          · go_wp2_with fail
            refine (HD.out _).mono ?_
            rintro e u2 ⟨rfl, q2, rfl⟩
            go_wp2_with fail
            refine (HC.out _).mono ?_
            rintro e u3 ⟨rfl, q3, rfl⟩
            go_wp2_with fail
            go_ret2
            exact ⟨rfl, _, rfl⟩
          · go_wp2_with fail
            refine (HD.out _).mono ?_
            rintro e u2 ⟨rfl, q2, rfl⟩
            go_wp2_with fail
            refine (HC.out _).mono ?_
            rintro e u3 ⟨rfl, q3, rfl⟩
            go_wp2_with fail
            go_ret2
            exact ⟨rfl, _, rfl⟩
        · cases f
          · go_wp2_with fail
            refine (HD.out _).mono ?_
            rintro e u2 ⟨rfl, q2, rfl⟩
            go_wp2_with fail
            refine (HC.out _).mono ?_
            rintro e u3 ⟨rfl, q3, rfl⟩
            go_wp2_with fail
            go_ret2
            exact ⟨rfl, _, rfl⟩
          · go_wp2_with fail
            refine (HD.out _).mono ?_
            rintro e u2 ⟨rfl, q2, rfl⟩
            go_wp2_with fail
            refine (HC.out _).mono ?_
            rintro e u3 ⟨rfl, q3, rfl⟩
            go_wp2_with fail
            go_ret2
            exact ⟨rfl, _, rfl⟩
theorem momParsed_any (kind : Int) (s : ByteArray) (h1 : 1 ≤ kind) (h2 : kind ≤ 5) (hs : s.size ≤ 100000) : ∃ n b, Parsed (momT kind s.data.toList) n b ∧ ParseIs kind s n b := by
  rcases (show kind = 1 ∨ kind = 2 ∨ kind = 3 ∨ kind = 4 ∨ kind = 5 by omega) with rfl | rfl | rfl | rfl | rfl
  · exact parse_1 s hs
  · exact parse_2 s hs
  · exact parse_3 s hs
  · exact parse_4 s hs
  · exact parse_5 s hs
set_option maxHeartbeats 1000000 in
theorem refMom_any (kind : Int) (s : ByteArray) (w : World) (hs : s.size ≤ 100000) :
    Calls Tryz.prog 66 #[.int .i64 kind, .string s] w fun e w' => e = .returned (.tuple #[.int .i64 (momV kind s.data.toList).1, .int .i64 (momV kind s.data.toList).2]) ∧ ∃ q, w' = w.drewN q := by
  rcases (show kind < 1 ∨ 5 < kind ∨ (1 ≤ kind ∧ kind ≤ 5) by omega) with h | h | ⟨h, h'⟩
  · have E : Hid (momV kind s.data.toList = (0, 3)) := if_neg (by omega)
    go_enter Tryz.func66, Tryz.ntmps66
    go_wp2_with fail
    go_ret2
    exact ⟨ret_pair E.out, 0, rfl⟩
  · have E : Hid (momV kind s.data.toList = (0, 3)) := if_neg (by omega)
    go_enter Tryz.func66, Tryz.ntmps66
    go_wp2_with fail
    go_ret2
    exact ⟨ret_pair E.out, 0, rfl⟩
  · obtain ⟨n, b, hP, hC⟩ := momParsed_any kind s h h' hs
    have e : momV kind s.data.toList = outM (momT kind s.data.toList) := if_pos ⟨h, h'⟩
    have HC := hide hC
    clear hC
    rcases hP with ⟨rfl, ho⟩ | ⟨rfl, ho⟩
    · have E : Hid (momV kind s.data.toList = (n, 0)) := by show _ = _; rw [e, ho]; rfl
      clear e ho
      go_enter Tryz.func66, Tryz.ntmps66
      go_wp2_with fail
      refine (HC.out _).mono ?_
      rintro e u2 ⟨rfl, q2, rfl⟩
      go_wp2_with fail
      go_ret2
      exact ⟨ret_pair E.out, _, rfl⟩
    · have E : Hid (momV kind s.data.toList = (0, 1)) := by show _ = _; rw [e, ho]; rfl
      clear e ho
      go_enter Tryz.func66, Tryz.ntmps66
      go_wp2_with fail
      refine (HC.out _).mono ?_
      rintro e u2 ⟨rfl, q2, rfl⟩
      go_wp2_with fail
      go_ret2
      exact ⟨ret_pair E.out, _, rfl⟩

end Go.Proofs.YtfjfkkbgkjmghaaGreatDoor
