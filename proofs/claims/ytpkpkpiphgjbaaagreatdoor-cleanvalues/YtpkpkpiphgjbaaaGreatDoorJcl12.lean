/- Joined texts. MomR4: The document's clock answers by clockT; nothing is changed (draws aside). Condition: texts as long as the law asks. -/
import Derived.Test.YtpkpkpiphgjbaaaGreatDoorJcl11
namespace Go.Proofs.YtpkpkpiphgjbaaaGreatDoor
open Go.RowKit
set_option maxRecDepth 100000

theorem clock_short {s : ByteArray} (h : s.size < 5) : clockT s.data.toList = none := by
  have hl := list_size s
  generalize s.data.toList = l at hl
  match l, hl with
  | [], _ => rfl
  | [_], _ => rfl
  | [_, _], _ => rfl
  | [_, _, _], _ => rfl
  | [_, _, _, _], _ => rfl
  | _ :: _ :: _ :: _ :: _ :: _, hl => simp at hl; omega
theorem drop_0 (s : ByteArray) : s.data.toList.drop 0 = s.data.toList := rfl
theorem clock_five {s : ByteArray} (h : 5 ≤ s.size) :
    clockT s.data.toList = if byteAt s 2 = 58 ∧ 0 ≤ twoAt s 0 ∧ twoAt s 0 ≤ 23 ∧ 0 ≤ twoAt s 3 ∧ twoAt s 3 ≤ 59 then secT (twoAt s 0 * 3600000 + twoAt s 3 * 60000) (s.data.toList.drop 5) else none := by
  have e : s.data.toList.drop 0 = byteAt s 0 :: byteAt s 1 :: byteAt s 2 :: byteAt s 3 :: byteAt s 4 :: s.data.toList.drop 5 := by
    rw [drop_b (by omega), drop_b (by omega), drop_b (by omega), drop_b (by omega), drop_b (by omega)]
  rw [drop_0] at e
  rw [congrArg clockT e, clockT_eq, twoAt_in (by omega), twoAt_in (by omega)]
theorem sec_none {s : ByteArray} {n : Int} (h : s.size = 5) : secT n (s.data.toList.drop 5) = some n := by rw [drop_end (by omega)]; rfl
theorem twoAt_end {s : ByteArray} {k : Nat} (h : s.size ≤ k + 1) : twoAt s k = -1 := by
  unfold twoAt
  rw [if_neg]
  intro x
  have := (dig_some x.2).1
  omega
theorem sec_more {s : ByteArray} {n : Int} (h : 5 < s.size) : secT n (s.data.toList.drop 5) = if byteAt s 5 = 58 ∧ 0 ≤ twoAt s 6 ∧ twoAt s 6 ≤ 59 then fracT (n + twoAt s 6 * 1000) (s.data.toList.drop 8) else none := by
  by_cases h8 : 8 ≤ s.size
  · rw [drop_b (by omega), drop_b (by omega), drop_b (by omega), secT_eq, twoAt_in (by omega)]
  · rw [twoAt_end (by omega), if_neg (by omega)]
    rcases (show s.size = 6 ∨ s.size = 7 by omega) with e | e
    · rw [drop_b (by omega), drop_end (by omega)]; rfl
    · rw [drop_b (by omega), drop_b (by omega), drop_end (by omega)]; rfl
theorem frac_none {s : ByteArray} {n : Int} (h : s.size = 8) : fracT n (s.data.toList.drop 8) = some n := by rw [drop_end (by omega)]; rfl
theorem frac_more {s : ByteArray} {n : Int} (h : 8 < s.size) : fracT n (s.data.toList.drop 8) = if byteAt s 8 = 46 ∧ 10 ≤ s.size ∧ s.size ≤ 12 ∧ (s.data.toList.drop 9).all isDg = true then some (n + fracOf 3 (s.data.toList.drop 9)) else none := by
  rw [drop_b (by omega), fracT_eq, drop_len]
  by_cases g : byteAt s 8 = 46 ∧ 10 ≤ s.size ∧ s.size ≤ 12 ∧ (s.data.toList.drop 9).all isDg = true
  · rw [if_pos g, if_pos ⟨g.1, by omega, by omega, g.2.2.2⟩]
  · rw [if_neg g, if_neg (fun x => g ⟨x.1, by omega, by omega, x.2.2.2⟩)]
/-- What a place behind the point is worth, in thousandths. -/
def unitV : Nat → Int
  | 0 => 100
  | 1 => 10
  | 2 => 1
  | _ => 0
theorem unit_next (j : Nat) : unitV (j + 1) = unitV j / 10 := by
  match j with
  | 0 => rfl
  | 1 => rfl
  | 2 => rfl
  | j + 3 => rfl
theorem unit_bounds (j : Nat) : 0 ≤ unitV j ∧ unitV j ≤ 100 := by
  match j with
  | 0 => decide
  | 1 => decide
  | 2 => decide
  | j + 3 => exact ⟨by show (0 : Int) ≤ 0; omega, by show (0 : Int) ≤ 100; omega⟩
theorem frac3_snoc (c : UInt8) : ∀ l : List UInt8, l.length ≤ 2 → ((fracOf 3 (l ++ [c]) : Nat) : Int) = (fracOf 3 l : Nat) + (dg c : Int) * unitV l.length
  | [], _ => by simp [fracOf, unitV]
  | [a], _ => by simp [fracOf, unitV]
  | [a, b], _ => by simp [fracOf, unitV]; omega
  | _ :: _ :: _ :: _, h => by simp at h
/-- Where the reading of thousandths stands. -/
structure FrAt (s : ByteArray) (base : Int) (k : Nat) (n u : Int) : Prop where
  un : u = unitV (k - 9)
  is : n = base + (fracOf 3 ((s.data.toList.drop 9).take (k - 9)) : Nat)
  dg : ∀ c ∈ (s.data.toList.drop 9).take (k - 9), isDg c = true
theorem frAt_start (s : ByteArray) (base : Int) : FrAt s base 9 base 100 := ⟨rfl, by show base = base + ((0 : Nat) : Int); omega, fun c hc => by simp at hc⟩
theorem frAt_next {s : ByteArray} {base : Int} {k : Nat} {n u : Int} (h : FrAt s base k n u) (h9 : 9 ≤ k) (hk : k < s.size) (h12 : k < 12) (hd : isDg s[k] = true) : FrAt s base (k + 1) (n + ((s[k].toNat : Int) - 48) * u) (u / 10) := by
  have e : (s.data.toList.drop 9).take (k + 1 - 9) = (s.data.toList.drop 9).take (k - 9) ++ [s[k]] := by
    rw [show k + 1 - 9 = (k - 9) + 1 by omega, List.take_add_one]
    congr 1
    rw [List.getElem?_drop, show 9 + (k - 9) = k by omega, List.getElem?_eq_getElem (by simpa using hk)]
    simp; rfl
  have hb := (isDg_iff _).1 hd
  have hv : ((Go.Proofs.YtpkpkpiphgjbaaaGreatDoor.dg s[k] : Nat) : Int) = (s[k].toNat : Int) - 48 := by unfold Go.Proofs.YtpkpkpiphgjbaaaGreatDoor.dg; omega
  have hl : ((s.data.toList.drop 9).take (k - 9)).length = k - 9 := by rw [List.length_take, drop_len]; omega
  refine ⟨by rw [h.un, show k + 1 - 9 = (k - 9) + 1 by omega, unit_next], ?_, ?_⟩
  · rw [e, frac3_snoc _ _ (by omega), hl, ← h.un, hv, h.is]; omega
  · intro c hc
    rw [e] at hc
    rcases List.mem_append.1 hc with x | x
    · exact h.dg c x
    · simp at x; subst x; exact hd
theorem frAt_bounds {s : ByteArray} {base : Int} {k : Nat} {n u : Int} (h : FrAt s base k n u) : base ≤ n ∧ n < base + 1000 ∧ 0 ≤ u ∧ u ≤ 100 := by
  have a := fracOf_lt 3 _ h.dg
  have b := unit_bounds (k - 9)
  have c := h.is; have d := h.un
  omega
theorem frAt_end {s : ByteArray} {base : Int} {n u : Int} (h : FrAt s base s.size n u) : (s.data.toList.drop 9).all isDg = true ∧ n = base + (fracOf 3 (s.data.toList.drop 9) : Nat) := by
  have e : (s.data.toList.drop 9).take (s.size - 9) = s.data.toList.drop 9 := List.take_of_length_le (by rw [drop_len]; omega)
  have a := h.is; have b := h.dg
  rw [e] at a b
  exact ⟨List.all_eq_true.2 b, a⟩
theorem fr_bad {s : ByteArray} {k : Nat} (h9 : 9 ≤ k) (hk : k < s.size) (hd : isDg s[k] = false) : (s.data.toList.drop 9).all isDg = false := by
  rw [List.all_eq_false]
  refine ⟨s[k], ?_, by rw [hd]; decide⟩
  have : s[k] ∈ s.data.toList.drop k := by rw [drop_one hk]; exact List.mem_cons_self ..
  have e : s.data.toList.drop k = (s.data.toList.drop 9).drop (k - 9) := by rw [List.drop_drop, show 9 + (k - 9) = k by omega]
  rw [e] at this
  exact List.mem_of_mem_drop this

set_option maxHeartbeats 1000000 in
theorem clock_any (s : ByteArray) (w : World) (hs : s.size ≤ 100000) :
    Calls Tryz.prog 98 #[.string s] w fun e w' => e = .returned (.tuple #[.int .i64 (outB (clockT s.data.toList)).1, .bool (outB (clockT s.data.toList)).2]) ∧ ∃ q, w' = w.drewN q := by
  by_cases h5 : s.size < 5
  · have E : Hid (outB (clockT s.data.toList) = (0, false)) := by show _ = _; rw [clock_short h5]; rfl
    go_enter Tryz.func98, Tryz.ntmps98
    go_wp2_with fail
    go_ret2
    exact ⟨ret_outB E.out, 0, rfl⟩
  have h5' : 5 ≤ s.size := by omega
  have hc := clock_five h5'
  have hA := fun w => at1_any s 2 58 w hs (by decide)
  rw [at_is (by omega)] at hA
  have hH := fun w => two_any s 0 w hs (by decide)
  have hM := fun w => two_any s 3 w hs (by decide)
  have bH := twoAt_bounds s 0
  have bM := twoAt_bounds s 3
  generalize twoAt s 0 = H at *
  generalize twoAt s 3 = M at *
  have HH := hide hH
  have HM := hide hM
  clear hH hM h5
  by_cases h2 : ¬ byteAt s 2 = 58
  · rw [decide_eq_false h2] at hA
    rw [if_neg (fun x => h2 x.1)] at hc
    have E : Hid (outB (clockT s.data.toList) = (0, false)) := by show _ = _; rw [hc]; rfl
    have HA := hide hA
    clear hA hc h2
    go_enter Tryz.func98, Tryz.ntmps98
    go_wp2_with fail
    refine (HA.out _).mono ?_
    rintro e u1 ⟨rfl, rfl⟩
    go_wp2_with fail
    go_ret2
    exact ⟨ret_outB E.out, 0, rfl⟩
  have h2 := Decidable.not_not.1 h2
  rw [decide_eq_true h2] at hA
  have HA := hide hA
  clear hA
  have pre := hide h2
  clear h2
  by_cases g : H < 0
  · rw [if_neg (by omega)] at hc
    have E : Hid (outB (clockT s.data.toList) = (0, false)) := by show _ = _; rw [hc]; rfl
    clear hc
    go_enter Tryz.func98, Tryz.ntmps98
    go_wp2_with fail
    refine (HA.out _).mono ?_
    rintro e u1 ⟨rfl, rfl⟩
    go_wp2_with fail
    refine (HH.out _).mono ?_
    rintro e u2 ⟨rfl, q2, rfl⟩
    go_wp2_with fail
    refine (HM.out _).mono ?_
    rintro e u3 ⟨rfl, q3, rfl⟩
    go_wp2_with fail
    go_ret2
    exact ⟨ret_outB E.out, _, rfl⟩
  have g1 : 0 ≤ H := by omega
  clear g
  by_cases g : 23 < H
  · rw [if_neg (by omega)] at hc
    have E : Hid (outB (clockT s.data.toList) = (0, false)) := by show _ = _; rw [hc]; rfl
    clear hc
    go_enter Tryz.func98, Tryz.ntmps98
    go_wp2_with fail
    refine (HA.out _).mono ?_
    rintro e u1 ⟨rfl, rfl⟩
    go_wp2_with fail
    refine (HH.out _).mono ?_
    rintro e u2 ⟨rfl, q2, rfl⟩
    go_wp2_with fail
    refine (HM.out _).mono ?_
    rintro e u3 ⟨rfl, q3, rfl⟩
    go_wp2_with fail
    go_ret2
    exact ⟨ret_outB E.out, _, rfl⟩
  have g2 : H ≤ 23 := by omega
  clear g
  by_cases g : M < 0
  · rw [if_neg (by omega)] at hc
    have E : Hid (outB (clockT s.data.toList) = (0, false)) := by show _ = _; rw [hc]; rfl
    clear hc
    go_enter Tryz.func98, Tryz.ntmps98
    go_wp2_with fail
    refine (HA.out _).mono ?_
    rintro e u1 ⟨rfl, rfl⟩
    go_wp2_with fail
    refine (HH.out _).mono ?_
    rintro e u2 ⟨rfl, q2, rfl⟩
    go_wp2_with fail
    refine (HM.out _).mono ?_
    rintro e u3 ⟨rfl, q3, rfl⟩
    go_wp2_with fail
    go_ret2
    exact ⟨ret_outB E.out, _, rfl⟩
  have g3 : 0 ≤ M := by omega
  clear g
  by_cases g : 59 < M
  · rw [if_neg (by omega)] at hc
    have E : Hid (outB (clockT s.data.toList) = (0, false)) := by show _ = _; rw [hc]; rfl
    clear hc
    go_enter Tryz.func98, Tryz.ntmps98
    go_wp2_with fail
    refine (HA.out _).mono ?_
    rintro e u1 ⟨rfl, rfl⟩
    go_wp2_with fail
    refine (HH.out _).mono ?_
    rintro e u2 ⟨rfl, q2, rfl⟩
    go_wp2_with fail
    refine (HM.out _).mono ?_
    rintro e u3 ⟨rfl, q3, rfl⟩
    go_wp2_with fail
    go_ret2
    exact ⟨ret_outB E.out, _, rfl⟩
  have g4 : M ≤ 59 := by omega
  clear g
  rw [if_pos ⟨pre.out, g1, g2, g3, g4⟩] at hc
  by_cases z5 : s.size = 5
  · rw [sec_none z5] at hc
    have E : Hid (outB (clockT s.data.toList) = (H * 3600000 + M * 60000, true)) := by show _ = _; rw [hc]; rfl
    have zz : ((s.size : Int) == 5) = true := beq_yes (by omega)
    clear hc z5
    go_enter Tryz.func98, Tryz.ntmps98
    go_wp2_with fail
    refine (HA.out _).mono ?_
    rintro e u1 ⟨rfl, rfl⟩
    go_wp2_with fail
    refine (HH.out _).mono ?_
    rintro e u2 ⟨rfl, q2, rfl⟩
    go_wp2_with fail
    refine (HM.out _).mono ?_
    rintro e u3 ⟨rfl, q3, rfl⟩
    go_wp2_with fail
    go_ret2
    exact ⟨ret_outB E.out, _, rfl⟩
  rw [sec_more (by omega)] at hc
  have zz : ((s.size : Int) == 5) = false := beq_no (by omega)
  have hB := fun w => at1_any s 5 58 w hs (by decide)
  rw [at_is (by omega)] at hB
  have hS := fun w => two_any s 6 w hs (by decide)
  have bS := twoAt_bounds s 6
  have hS8 : 0 ≤ twoAt s 6 → 8 ≤ s.size := fun h => by
    rcases Nat.lt_or_ge s.size 8 with g | g
    · rw [twoAt_end (by omega)] at h; omega
    · exact g
  generalize twoAt s 6 = S at *
  have HS := hide hS
  clear hS
  by_cases h2 : ¬ byteAt s 5 = 58
  · rw [decide_eq_false h2] at hB
    rw [if_neg (fun x => h2 x.1)] at hc
    have E : Hid (outB (clockT s.data.toList) = (0, false)) := by show _ = _; rw [hc]; rfl
    have HB := hide hB
    clear hB hc h2 hS8
    go_enter Tryz.func98, Tryz.ntmps98
    go_wp2_with fail
    refine (HA.out _).mono ?_
    rintro e u1 ⟨rfl, rfl⟩
    go_wp2_with fail
    refine (HH.out _).mono ?_
    rintro e u2 ⟨rfl, q2, rfl⟩
    go_wp2_with fail
    refine (HM.out _).mono ?_
    rintro e u3 ⟨rfl, q3, rfl⟩
    go_wp2_with fail
    refine (HS.out _).mono ?_
    rintro e u4 ⟨rfl, q4, rfl⟩
    go_wp2_with fail
    refine (HB.out _).mono ?_
    rintro e u1 ⟨rfl, rfl⟩
    go_wp2_with fail
    go_ret2
    exact ⟨ret_outB E.out, _, rfl⟩
  have h2 := Decidable.not_not.1 h2
  rw [decide_eq_true h2] at hB
  have HB := hide hB
  clear hB
  have pre2 := hide h2
  clear h2
  by_cases g : S < 0
  · rw [if_neg (by omega)] at hc
    have E : Hid (outB (clockT s.data.toList) = (0, false)) := by show _ = _; rw [hc]; rfl
    clear hc hS8
    go_enter Tryz.func98, Tryz.ntmps98
    go_wp2_with fail
    refine (HA.out _).mono ?_
    rintro e u1 ⟨rfl, rfl⟩
    go_wp2_with fail
    refine (HH.out _).mono ?_
    rintro e u2 ⟨rfl, q2, rfl⟩
    go_wp2_with fail
    refine (HM.out _).mono ?_
    rintro e u3 ⟨rfl, q3, rfl⟩
    go_wp2_with fail
    refine (HS.out _).mono ?_
    rintro e u4 ⟨rfl, q4, rfl⟩
    go_wp2_with fail
    refine (HB.out _).mono ?_
    rintro e u1 ⟨rfl, rfl⟩
    go_wp2_with fail
    go_ret2
    exact ⟨ret_outB E.out, _, rfl⟩
  have g5 : 0 ≤ S := by omega
  clear g
  by_cases g : 59 < S
  · rw [if_neg (by omega)] at hc
    have E : Hid (outB (clockT s.data.toList) = (0, false)) := by show _ = _; rw [hc]; rfl
    clear hc hS8
    go_enter Tryz.func98, Tryz.ntmps98
    go_wp2_with fail
    refine (HA.out _).mono ?_
    rintro e u1 ⟨rfl, rfl⟩
    go_wp2_with fail
    refine (HH.out _).mono ?_
    rintro e u2 ⟨rfl, q2, rfl⟩
    go_wp2_with fail
    refine (HM.out _).mono ?_
    rintro e u3 ⟨rfl, q3, rfl⟩
    go_wp2_with fail
    refine (HS.out _).mono ?_
    rintro e u4 ⟨rfl, q4, rfl⟩
    go_wp2_with fail
    refine (HB.out _).mono ?_
    rintro e u1 ⟨rfl, rfl⟩
    go_wp2_with fail
    go_ret2
    exact ⟨ret_outB E.out, _, rfl⟩
  have g6 : S ≤ 59 := by omega
  clear g
  rw [if_pos ⟨pre2.out, g5, g6⟩] at hc
  have h8 := hS8 g5
  clear hS8
  by_cases z8 : s.size = 8
  · rw [frac_none z8] at hc
    have E : Hid (outB (clockT s.data.toList) = (H * 3600000 + M * 60000 + S * 1000, true)) := by show _ = _; rw [hc]; rfl
    have zy : ((s.size : Int) == 8) = true := beq_yes (by omega)
    clear hc z8
    go_enter Tryz.func98, Tryz.ntmps98
    go_wp2_with fail
    refine (HA.out _).mono ?_
    rintro e u1 ⟨rfl, rfl⟩
    go_wp2_with fail
    refine (HH.out _).mono ?_
    rintro e u2 ⟨rfl, q2, rfl⟩
    go_wp2_with fail
    refine (HM.out _).mono ?_
    rintro e u3 ⟨rfl, q3, rfl⟩
    go_wp2_with fail
    refine (HS.out _).mono ?_
    rintro e u4 ⟨rfl, q4, rfl⟩
    go_wp2_with fail
    refine (HB.out _).mono ?_
    rintro e u1 ⟨rfl, rfl⟩
    go_wp2_with fail
    go_ret2
    exact ⟨ret_outB E.out, _, rfl⟩
  rw [frac_more (by omega)] at hc
  have zy : ((s.size : Int) == 8) = false := beq_no (by omega)
  have hP := fun w => at1_any s 8 46 w hs (by decide)
  rw [at_is (by omega)] at hP
  by_cases h2 : ¬ byteAt s 8 = 46
  · rw [decide_eq_false h2] at hP
    rw [if_neg (fun x => h2 x.1)] at hc
    have E : Hid (outB (clockT s.data.toList) = (0, false)) := by show _ = _; rw [hc]; rfl
    have HP := hide hP
    clear hP hc h2
    go_enter Tryz.func98, Tryz.ntmps98
    go_wp2_with fail
    refine (HA.out _).mono ?_
    rintro e u1 ⟨rfl, rfl⟩
    go_wp2_with fail
    refine (HH.out _).mono ?_
    rintro e u2 ⟨rfl, q2, rfl⟩
    go_wp2_with fail
    refine (HM.out _).mono ?_
    rintro e u3 ⟨rfl, q3, rfl⟩
    go_wp2_with fail
    refine (HS.out _).mono ?_
    rintro e u4 ⟨rfl, q4, rfl⟩
    go_wp2_with fail
    refine (HB.out _).mono ?_
    rintro e u1 ⟨rfl, rfl⟩
    go_wp2_with fail
    refine (HP.out _).mono ?_
    rintro e u1 ⟨rfl, rfl⟩
    go_wp2_with fail
    go_ret2
    exact ⟨ret_outB E.out, _, rfl⟩
  have h2 := Decidable.not_not.1 h2
  rw [decide_eq_true h2] at hP
  have HP := hide hP
  clear hP
  have pre3 := hide h2
  clear h2
  by_cases g : s.size < 10
  · rw [if_neg (by omega)] at hc
    have E : Hid (outB (clockT s.data.toList) = (0, false)) := by show _ = _; rw [hc]; rfl
    clear hc
    go_enter Tryz.func98, Tryz.ntmps98
    go_wp2_with fail
    refine (HA.out _).mono ?_
    rintro e u1 ⟨rfl, rfl⟩
    go_wp2_with fail
    refine (HH.out _).mono ?_
    rintro e u2 ⟨rfl, q2, rfl⟩
    go_wp2_with fail
    refine (HM.out _).mono ?_
    rintro e u3 ⟨rfl, q3, rfl⟩
    go_wp2_with fail
    refine (HS.out _).mono ?_
    rintro e u4 ⟨rfl, q4, rfl⟩
    go_wp2_with fail
    refine (HB.out _).mono ?_
    rintro e u1 ⟨rfl, rfl⟩
    go_wp2_with fail
    refine (HP.out _).mono ?_
    rintro e u1 ⟨rfl, rfl⟩
    go_wp2_with fail
    go_ret2
    exact ⟨ret_outB E.out, _, rfl⟩
  have g7 : 10 ≤ s.size := by omega
  clear g
  by_cases g : 12 < s.size
  · rw [if_neg (by omega)] at hc
    have E : Hid (outB (clockT s.data.toList) = (0, false)) := by show _ = _; rw [hc]; rfl
    clear hc
    go_enter Tryz.func98, Tryz.ntmps98
    go_wp2_with fail
    refine (HA.out _).mono ?_
    rintro e u1 ⟨rfl, rfl⟩
    go_wp2_with fail
    refine (HH.out _).mono ?_
    rintro e u2 ⟨rfl, q2, rfl⟩
    go_wp2_with fail
    refine (HM.out _).mono ?_
    rintro e u3 ⟨rfl, q3, rfl⟩
    go_wp2_with fail
    refine (HS.out _).mono ?_
    rintro e u4 ⟨rfl, q4, rfl⟩
    go_wp2_with fail
    refine (HB.out _).mono ?_
    rintro e u1 ⟨rfl, rfl⟩
    go_wp2_with fail
    refine (HP.out _).mono ?_
    rintro e u1 ⟨rfl, rfl⟩
    go_wp2_with fail
    go_ret2
    exact ⟨ret_outB E.out, _, rfl⟩
  have g8 : s.size ≤ 12 := by omega
  clear g
  have HC := hide hc
  have b1 : 0 ≤ H * 3600000 + M * 60000 + S * 1000 := by omega
  have b2 : H * 3600000 + M * 60000 + S * 1000 ≤ 86399000 := by omega
  clear hc
  go_enter Tryz.func98, Tryz.ntmps98
  go_wp2_with fail
  refine (HA.out _).mono ?_
  rintro e u1 ⟨rfl, rfl⟩
  go_wp2_with fail
  refine (HH.out _).mono ?_
  rintro e u2 ⟨rfl, q2, rfl⟩
  go_wp2_with fail
  refine (HM.out _).mono ?_
  rintro e u3 ⟨rfl, q3, rfl⟩
  go_wp2_with fail
  refine (HS.out _).mono ?_
  rintro e u4 ⟨rfl, q4, rfl⟩
  go_wp2_with fail
  refine (HB.out _).mono ?_
  rintro e u1 ⟨rfl, rfl⟩
  go_wp2_with fail
  refine (HP.out _).mono ?_
  rintro e u1 ⟨rfl, rfl⟩
  go_wp2_with fail
  go_loop [6, 8, 9] (fun a b c => ∃ (k : Nat) (n u : Int), a = .int .i64 n ∧ b = .int .i64 u ∧ c = .int .i64 k ∧ 9 ≤ k ∧ k ≤ s.size ∧ Hid (FrAt s (H * 3600000 + M * 60000 + S * 1000) k n u)) (fun _ _ c => s.size - (intOf c).toNat)
  case atStart => exact ⟨9, _, 100, rfl, rfl, rfl, by omega, by omega, hide (frAt_start s _)⟩
  case round =>
    obtain ⟨k, n, u, rfl, rfl, rfl, k1, k2, hF⟩ := hrel
    have ⟨c1, c2, c3, c4⟩ := frAt_bounds hF.out
    by_cases hk : k < s.size
    · have hD := fun w => digit_any s k w hs (by omega)
      rw [dig_in hk] at hD
      cases hd : isDg s[k] with
      | true =>
        rw [hd] at hD
        have hb := (isDg_iff _).1 hd
        have hb1 : 48 ≤ (s[k].toNat : Int) := by omega
        have hb2 : (s[k].toNat : Int) ≤ 57 := by omega
        have p1 : 0 ≤ ((s[k].toNat : Int) - 48) * u := Int.mul_nonneg (by omega) (by omega)
        have p2 : ((s[k].toNat : Int) - 48) * u ≤ 9 * 100 := Int.mul_le_mul (by omega) (by omega) (by omega) (by omega)
        have hN := hide (frAt_next hF.out k1 hk (by omega) hd)
        have HD := hide hD
        clear hd hD hb hF
        go_wp2_with fail
        refine (HD.out _).mono ?_
        rintro e u1 ⟨rfl, rfl⟩
        go_wp2_with fail
        go_round
        case rel => exact ⟨k + 1, _, _, rfl, rfl, by go_num, by omega, by omega, hN⟩
        case measure => simp [intOf]; omega
      | false =>
        rw [hd] at hD
        have hb := fr_bad k1 hk hd
        have E : Hid (outB (clockT s.data.toList) = (0, false)) := by
          show _ = _
          rw [HC.out, if_neg (fun x => by rw [hb] at x; exact absurd x.2.2.2 (by decide))]; rfl
        have HD := hide hD
        clear hd hD hb hF
        go_wp2_with fail
        refine (HD.out _).mono ?_
        rintro e u1 ⟨rfl, rfl⟩
        go_wp2_with fail
        go_ret2
        exact ⟨ret_outB E.out, _, rfl⟩
    · obtain rfl : k = s.size := by omega
      have ⟨e1, e2⟩ := frAt_end hF.out
      have E : Hid (outB (clockT s.data.toList) = (n, true)) := by
        show _ = _
        rw [HC.out, if_pos ⟨pre3.out, g7, g8, e1⟩, ← e2]; rfl
      clear e1 e2 hF
      go_wp2_with fail
      go_ret2
      exact ⟨ret_outB E.out, _, rfl⟩

end Go.Proofs.YtpkpkpiphgjbaaaGreatDoor
