/- Joined texts. MomR1: The document's digit, two, at, year: they answer by the functions of 'Mom'; nothing is changed (draws aside). Condition: texts as long as the law asks. MomR2: The document's at, year, day, clock: they answer by the functions of 'Mom'; nothing is changed (draws aside). Condition: texts as long as the law asks. MomR3: The document's day and clock: they answer by dateT and clockT; nothing is changed (draws aside). Condition: texts as long as the law asks. -/
import Derived.Test.YtpkpkpiphgjbaaaGreatDoorRows
import Derived.Test.YtpkpkpiphgjbaaaGreatDoorJcl2
import Derived.Test.YtpkpkpiphgjbaaaGreatDoorJcl3
import Derived.BigQuiet
namespace Go.Proofs.YtpkpkpiphgjbaaaGreatDoor
open Go.RowKit
set_option maxRecDepth 100000

/-- Is there a digit at a place? -/
def digV (s : ByteArray) (k : Nat) : Bool := decide (k < s.size) && isDg (byteAt s k)
theorem dig_in {s : ByteArray} {k : Nat} (h : k < s.size) : digV s k = isDg s[k] := by
  unfold digV; rw [decide_eq_true h, Bool.true_and, byteAt_eq s k h]
theorem dig_out {s : ByteArray} {k : Nat} (h : ¬ k < s.size) : digV s k = false := by
  unfold digV; rw [decide_eq_false h, Bool.false_and]

set_option maxHeartbeats 1000000 in
theorem digit_any (s : ByteArray) (k : Nat) (w : World) (_hs : s.size ≤ 100000) (_hk : k ≤ 200000) :
    Calls Tryz.prog 135 #[.string s, .int .i64 k] w fun e w' => e = .returned (.bool (digV s k)) ∧ w' = w := by
  by_cases h : k < s.size
  · rw [dig_in h]
    rcases (show (s[k].toNat : Int) < 48 ∨ (48 ≤ (s[k].toNat : Int) ∧ 57 < (s[k].toNat : Int)) ∨ (48 ≤ (s[k].toNat : Int) ∧ (s[k].toNat : Int) ≤ 57) by omega) with h1 | ⟨h1, h2⟩ | ⟨h1, h2⟩
    · have E := hide ((isDg_not s[k]).2 (by omega))
      go_enter Tryz.func135, Tryz.ntmps135
      go_wp2_with fail
      go_ret
      exact ⟨ret_bool E.out.symm, rfl⟩
    · have E := hide ((isDg_not s[k]).2 (by omega))
      go_enter Tryz.func135, Tryz.ntmps135
      go_wp2_with fail
      go_ret
      exact ⟨ret_bool (by first | exact E.out.symm | (rw [E.out]; exact decide_eq_false (by omega))), rfl⟩
    · have E := hide ((isDg_iff s[k]).2 (by omega))
      go_enter Tryz.func135, Tryz.ntmps135
      go_wp2_with fail
      go_ret
      exact ⟨ret_bool (by first | exact E.out.symm | (rw [E.out]; exact decide_eq_true (by omega))), rfl⟩
  · have E := hide (dig_out h)
    have h' : s.size ≤ k := by omega
    clear h
    go_enter Tryz.func135, Tryz.ntmps135
    go_wp2_with fail
    go_ret
    exact ⟨ret_bool E.out.symm, rfl⟩

theorem index_at (s : ByteArray) (i : Int) (j : Nat) (h : i = j) (hj : j < s.size) (w : World) : (Instr.index 9 (.string s) (.int .i64 i)).run Tryz.prog w = .ok (.int .u8 (s[j].toNat : Int)) w := by
  subst h
  rw [run_index_string _ _ _ _ _ Tryz.underlying9, dif_pos ⟨by omega, by omega⟩]
  rfl

/-- The number of two digits at a place. -/
def twoAt (s : ByteArray) (k : Nat) : Int := if digV s k = true ∧ digV s (k + 1) = true then (10 * dg (byteAt s k) + dg (byteAt s (k + 1)) : Nat) else -1
theorem twoAt_in {s : ByteArray} {k : Nat} (h : k + 1 < s.size) : twoAt s k = twoV (byteAt s k) (byteAt s (k + 1)) := by
  unfold twoAt twoV
  rw [dig_in h, dig_in (by omega), byteAt_eq, byteAt_eq]
theorem dig_some {s : ByteArray} {k : Nat} (h : digV s k = true) : k < s.size ∧ isDg (byteAt s k) = true := by
  unfold digV at h
  simpa using h

set_option maxHeartbeats 1000000 in
theorem two_any (s : ByteArray) (k : Nat) (w : World) (hs : s.size ≤ 100000) (hk : k ≤ 150000) :
    Calls Tryz.prog 95 #[.string s, .int .i64 k] w fun e w' => e = .returned (.int .i64 (twoAt s k)) ∧ ∃ q, w' = w.drewN q := by
  have hA := fun w => digit_any s k w hs (by omega)
  have hB := fun w => digit_any s (k + 1) w hs (by omega)
  rw [show (((k + 1 : Nat)) : Int) = (k : Int) + 1 by omega] at hB
  unfold twoAt
  cases h1 : digV s k with
  | false =>
    rw [h1] at hA
    have HA := hide hA
    clear hA hB h1
    rw [if_neg (by simp)]
    go_enter Tryz.func95, Tryz.ntmps95
    go_wp2_with fail
    refine (HA.out _).mono ?_
    rintro e u1 ⟨rfl, rfl⟩
    go_wp2_with fail
    go_ret
    exact ⟨rfl, 0, rfl⟩
  | true =>
    rw [h1] at hA
    cases h2 : digV s (k + 1) with
    | false =>
      rw [h2] at hB
      have HA := hide hA
      have HB := hide hB
      clear hA hB h1 h2
      rw [if_neg (by simp)]
      go_enter Tryz.func95, Tryz.ntmps95
      go_wp2_with fail
      refine (HA.out _).mono ?_
      rintro e u1 ⟨rfl, rfl⟩
      go_wp2_with fail
      refine (HB.out _).mono ?_
      rintro e u1 ⟨rfl, rfl⟩
      go_wp2_with fail
      go_ret
      exact ⟨rfl, 0, rfl⟩
    | true =>
      rw [h2] at hB
      have ⟨k1, d1⟩ := dig_some h1
      have ⟨k2, d2⟩ := dig_some h2
      rw [← byteAt_eq s k k1, ← byteAt_eq s (k + 1) k2] at *
      have b1 := (isDg_iff _).1 d1
      have b2 := (isDg_iff _).1 d2
      have c1 : 48 ≤ (s[k].toNat : Int) ∧ (s[k].toNat : Int) ≤ 57 := by omega
      have c2 : 48 ≤ (s[k + 1].toNat : Int) ∧ (s[k + 1].toNat : Int) ≤ 57 := by omega
      have k3 : (k : Int) + 1 < (s.size : Int) := by omega
      have HA := hide hA
      have HB := hide hB
      have E := hide (show (((10 * dg s[k] + dg s[k + 1] : Nat)) : Int) = ((s[k].toNat : Int) - 48) * 10 + ((s[k + 1].toNat : Int) - 48) by unfold dg; omega)
      have hx := fun w => index_at s ((k : Int) + 1) (k + 1) (by omega) k2 w
      clear hA hB h1 h2 d1 d2 b1 b2
      rw [if_pos ⟨rfl, rfl⟩]
      go_enter Tryz.func95, Tryz.ntmps95
      go_wp2_with fail
      refine (HA.out _).mono ?_
      rintro e u1 ⟨rfl, rfl⟩
      go_wp2_with fail
      refine (HB.out _).mono ?_
      rintro e u1 ⟨rfl, rfl⟩
      go_wp2_with fail
      go_quiet (fail)
      go_wp2_with fail
      go_ret
      exact ⟨ret_int E.out.symm, _, rfl⟩

end Go.Proofs.YtpkpkpiphgjbaaaGreatDoor

namespace Go.Proofs.YtpkpkpiphgjbaaaGreatDoor
open Go.RowKit
set_option maxRecDepth 100000

theorem drop_one {s : ByteArray} {k : Nat} (hk : k < s.size) : s.data.toList.drop k = s[k] :: s.data.toList.drop (k + 1) := by
  have : s[k] = s.data.toList[k]'(by simpa using hk) := by simp; rfl
  rw [this]; exact List.drop_eq_getElem_cons _
/-- Does the sign c stand at a place? -/
def atV (s : ByteArray) (k : Nat) (c : UInt8) : Bool := decide (k < s.size ∧ byteAt s k = c)
theorem at_out {s : ByteArray} {k : Nat} {c : UInt8} (h : ¬ k < s.size) : atV s k c = false := decide_eq_false (fun x => h x.1)
theorem at_in {s : ByteArray} {k : Nat} {c : UInt8} (h : k < s.size) : atV s k c = (s[k] == c) := by
  unfold atV
  rw [byteAt_eq s k h]
  by_cases e : byteAt s k = c
  · rw [decide_eq_true ⟨h, e⟩]; simp [e]
  · rw [decide_eq_false (fun x => e x.2)]; simp [e]

theorem ext_one {s : ByteArray} {k : Nat} (h : k < s.size) : (s.extract k (k + 1)).toList = [s[k]] := by
  rw [ByteArray.toList_eq]
  have : (s.extract k (k + 1)).data.toList = (s.data.toList.drop k).take (k + 1 - k) := by simp
  rw [this, drop_one h, show k + 1 - k = 1 by omega]; rfl
theorem ext_two {s : ByteArray} {k : Nat} (h : k + 1 < s.size) : (s.extract k (k + 2)).toList = [s[k], s[k + 1]] := by
  rw [ByteArray.toList_eq]
  have : (s.extract k (k + 2)).data.toList = (s.data.toList.drop k).take (k + 2 - k) := by simp
  rw [this, drop_one (by omega), drop_one h, show k + 2 - k = 2 by omega]; rfl

set_option maxHeartbeats 1000000 in
theorem at1_any (s : ByteArray) (k : Nat) (c : UInt8) (w : World) (_hs : s.size ≤ 100000) (_hk : k ≤ 200000) :
    Calls Tryz.prog 96 #[.string s, .int .i64 k, .string ⟨#[c]⟩] w fun e w' => e = .returned (.bool (atV s k c)) ∧ w' = w := by
  by_cases h : k < s.size
  · have E := hide (at_in (c := c) h)
    have hz : (⟨#[c]⟩ : ByteArray).size = 1 := rfl
    have h2 : (1 : Int) ≤ (s.size : Int) - (k : Int) := by omega
    go_enter Tryz.func96, Tryz.ntmps96
    go_wp2_with fail
    go_ret
    exact ⟨ret_bool (by rw [E.out, ext_one h]; simp), rfl⟩
  · have E := hide (at_out (c := c) h)
    have hz : (⟨#[c]⟩ : ByteArray).size = 1 := rfl
    have h' : (s.size : Int) - (k : Int) < 1 := by omega
    clear h
    go_enter Tryz.func96, Tryz.ntmps96
    go_wp2_with fail
    go_ret
    exact ⟨ret_bool E.out.symm, rfl⟩

/-- Do the signs -W stand at a place? -/
def atW (s : ByteArray) (k : Nat) : Bool := decide (k + 1 < s.size ∧ byteAt s k = 45 ∧ byteAt s (k + 1) = 87)
theorem atW_out {s : ByteArray} {k : Nat} (h : ¬ k + 1 < s.size) : atW s k = false := decide_eq_false (fun x => h x.1)
theorem atW_in {s : ByteArray} {k : Nat} (h : k + 1 < s.size) : atW s k = ([s[k], s[k + 1]] == [45, 87]) := by
  unfold atW
  rw [byteAt_eq s k (by omega), byteAt_eq s (k + 1) h]
  by_cases e : byteAt s k = 45 ∧ byteAt s (k + 1) = 87
  · rw [decide_eq_true ⟨h, e⟩, e.1, e.2]; rfl
  · rw [decide_eq_false (fun x => e x.2)]
    symm
    simpa using e

set_option maxHeartbeats 1000000 in
theorem atW_any (s : ByteArray) (k : Nat) (w : World) (_hs : s.size ≤ 100000) (_hk : k ≤ 200000) :
    Calls Tryz.prog 96 #[.string s, .int .i64 k, .string ⟨#[45, 87]⟩] w fun e w' => e = .returned (.bool (atW s k)) ∧ w' = w := by
  by_cases h : k + 1 < s.size
  · have E := hide (atW_in h)
    have X := hide (ext_two h)
    have hz : (⟨#[45, 87]⟩ : ByteArray).size = 2 := rfl
    have h2 : (2 : Int) ≤ (s.size : Int) - (k : Int) := by omega
    go_enter Tryz.func96, Tryz.ntmps96
    go_wp2_with fail
    go_ret
    exact ⟨ret_bool (by rw [E.out, X.out]), rfl⟩
  · have E := hide (atW_out h)
    have hz : (⟨#[45, 87]⟩ : ByteArray).size = 2 := rfl
    have h' : (s.size : Int) - (k : Int) < 2 := by omega
    clear h
    go_enter Tryz.func96, Tryz.ntmps96
    go_wp2_with fail
    go_ret
    exact ⟨ret_bool E.out.symm, rfl⟩

/-- How many digits stand ahead. -/
def lead (s : ByteArray) : Nat := (s.data.toList.takeWhile isDg).length
theorem take_lead (l : List UInt8) : l.take (l.takeWhile isDg).length = l.takeWhile isDg := by
  have h : l = l.takeWhile isDg ++ l.dropWhile isDg := (List.takeWhile_append_dropWhile ..).symm
  have := congrArg (List.take (l.takeWhile isDg).length) h
  rw [this, List.take_left']; rfl
theorem drop_lead (l : List UInt8) : l.drop (l.takeWhile isDg).length = l.dropWhile isDg := by
  have h : l = l.takeWhile isDg ++ l.dropWhile isDg := (List.takeWhile_append_dropWhile ..).symm
  have := congrArg (List.drop (l.takeWhile isDg).length) h
  rw [this, List.drop_left']; rfl
theorem lead_le (s : ByteArray) : lead s ≤ s.size := by
  have h : s.data.toList = s.data.toList.takeWhile isDg ++ s.data.toList.dropWhile isDg := (List.takeWhile_append_dropWhile ..).symm
  have := congrArg List.length h
  rw [List.length_append] at this
  have e : s.data.toList.length = s.size := by simp
  unfold lead; omega
theorem lead_dig {s : ByteArray} {k : Nat} (h : k < lead s) : digV s k = true := by
  have h0 := lead_le s
  have hk : k < s.size := by omega
  rw [dig_in hk]
  have e := take_lead s.data.toList
  have hm : s[k] ∈ s.data.toList.takeWhile isDg := by
    rw [← e, List.mem_take_iff_getElem]
    have hk2 : k < (s.data.toList.takeWhile isDg).length := h
    have hk3 : k < s.data.toList.length := by simpa using hk
    refine ⟨k, by omega, ?_⟩
    simp; rfl
  have := List.all_takeWhile (p := isDg) (l := s.data.toList)
  exact List.all_eq_true.1 this _ hm
theorem lead_stop (s : ByteArray) : digV s (lead s) = false := by
  by_cases hk : lead s < s.size
  · rw [dig_in hk]
    have e := drop_lead s.data.toList
    have e2 : s.data.toList.drop (lead s) = s.data.toList.dropWhile isDg := e
    rw [drop_one hk] at e2
    have := List.head?_dropWhile_not isDg s.data.toList
    rw [← e2] at this
    simpa using this
  · exact dig_out hk
/-- A year's digits, read until they are beyond the bound. -/
def satF (n : Nat) : List UInt8 → Nat
  | [] => n
  | c :: l => satF (if n ≤ 275760 then 10 * n + dg c else n) l
theorem sat_snoc (n : Nat) (c : UInt8) : ∀ l : List UInt8, satF n (l ++ [c]) = if satF n l ≤ 275760 then 10 * satF n l + dg c else satF n l := by
  intro l
  induction l generalizing n with
  | nil => rfl
  | cons d l ih => exact ih _
theorem sat_stop (n : Nat) (h : 275760 < n) : ∀ l : List UInt8, satF n l = n := by
  intro l
  induction l with
  | nil => rfl
  | cons d l ih =>
    show satF (if _ then _ else _) l = _
    rw [if_neg (by omega)]; exact ih
theorem sat_is : ∀ (n : Nat) (l : List UInt8), n ≤ 275760 → (natFrom n l ≤ 275760 → satF n l = natFrom n l) ∧ (275760 < natFrom n l → 275760 < satF n l)
  | n, [], h => ⟨fun _ => rfl, fun g => g⟩
  | n, c :: l, h => by
    show (natFrom (10 * n + dg c) l ≤ _ → satF (if _ then _ else _) l = natFrom (10 * n + dg c) l) ∧ (_ < natFrom (10 * n + dg c) l → _ < satF (if _ then _ else _) l)
    rw [if_pos h]
    by_cases g : 10 * n + dg c ≤ 275760
    · exact sat_is _ l g
    · have a := natFrom_ge (10 * n + dg c) l
      rw [sat_stop _ (by omega)]
      exact ⟨fun x => by omega, fun _ => by omega⟩
theorem sat_most : ∀ (n : Nat) (l : List UInt8), n ≤ 2757609 → (∀ c ∈ l, isDg c = true) → satF n l ≤ 2757609
  | n, [], h, _ => h
  | n, c :: l, h, hd => by
    have hc := dg_lt (hd c (List.mem_cons_self ..))
    show satF (if _ then _ else _) l ≤ _
    by_cases g : n ≤ 275760
    · rw [if_pos g]; exact sat_most _ l (by omega) (fun d h => hd d (List.mem_cons_of_mem _ h))
    · rw [if_neg g]; exact sat_most _ l h (fun d h => hd d (List.mem_cons_of_mem _ h))
/-- The year ahead in a text, and how many digits it has. -/
def yearP (s : ByteArray) : Int × Int :=
  match yrV (s.data.toList.takeWhile isDg) with
  | some y => (y, lead s)
  | none => (0, 0)
theorem yearP_is {s : ByteArray} {y : Int} (hy : y = (satF 0 (s.data.toList.takeWhile isDg) : Nat)) : yearP s = if lead s < 4 ∨ y < 1 ∨ 275760 < y then (0, 0) else (y, (lead s : Int)) := by
  have ⟨a, b⟩ := sat_is 0 (s.data.toList.takeWhile isDg) (by omega)
  have ea : natFrom 0 (s.data.toList.takeWhile isDg) = natOf (s.data.toList.takeWhile isDg) := rfl
  rw [ea] at a b
  unfold yearP yrV
  have el : (s.data.toList.takeWhile isDg).length = lead s := rfl
  rw [el]
  by_cases h : 4 ≤ lead s ∧ 1 ≤ natOf (s.data.toList.takeWhile isDg) ∧ natOf (s.data.toList.takeWhile isDg) ≤ 275760
  · have := a h.2.2
    rw [if_pos h, if_neg (by omega), hy, this]
  · rw [if_neg h, if_pos]
    by_cases g : natOf (s.data.toList.takeWhile isDg) ≤ 275760
    · have := a g; omega
    · have := b (by omega); omega
theorem ret_pair {p : Int × Int} {a b : Int} (h : p = (a, b)) : Ending.returned (.tuple #[.int .i64 a, .int .i64 b]) = .returned (.tuple #[.int .i64 p.1, .int .i64 p.2]) := by rw [h]

set_option maxHeartbeats 1000000 in
theorem year_any (s : ByteArray) (w : World) (hs : s.size ≤ 100000) :
    Calls Tryz.prog 93 #[.string s] w fun e w' => e = .returned (.tuple #[.int .i64 (yearP s).1, .int .i64 (yearP s).2]) ∧ w' = w := by
  have hle := lead_le s
  have hD := fun (k : Nat) (h : k < lead s) w => by
    have := digit_any s k w hs (by omega)
    rw [lead_dig h] at this; exact this
  have hX := fun w => by
    have := digit_any s (lead s) w hs (by omega)
    rw [lead_stop s] at this; exact this
  have HD := hide hD
  have HX := hide hX
  have HY := hide (fun y => yearP_is (s := s) (y := y))
  have HT : Hid (s.data.toList.take (lead s) = s.data.toList.takeWhile isDg) := take_lead _
  clear hD hX
  go_enter Tryz.func93, Tryz.ntmps93
  go_wp2_with fail
  go_loop [4, 5] (fun a b => ∃ (k : Nat) (y : Int), a = .int .i64 k ∧ b = .int .i64 y ∧ k ≤ lead s ∧ 0 ≤ y ∧ y ≤ 2757609 ∧ Hid (y = (satF 0 (s.data.toList.take k) : Nat))) (fun a _ => lead s - (intOf a).toNat)
  case atStart => exact ⟨0, 0, rfl, rfl, by omega, by omega, by omega, hide rfl⟩
  case round =>
    obtain ⟨k, y, rfl, rfl, hk, y1, y2, hy⟩ := hrel
    by_cases hlt : k < lead s
    · have hks : k < s.size := by omega
      have hsn := sat_snoc 0 s[k] (s.data.toList.take k)
      have etk : s.data.toList.take (k + 1) = s.data.toList.take k ++ [s[k]] := by rw [byteAt_take s k hks, byteAt_eq s k hks]
      rw [← etk] at hsn
      have hdg : isDg s[k] = true := by rw [← dig_in hks]; exact lead_dig hlt
      have hb := (isDg_iff _).1 hdg
      have hb1 : 48 ≤ (s[k].toNat : Int) := by omega
      have hb2 : (s[k].toNat : Int) ≤ 57 := by omega
      have hdd : ((dg s[k] : Nat) : Int) = (s[k].toNat : Int) - 48 := by unfold dg; omega
      have HK := hide (HD.out k hlt)
      by_cases hy3 : y ≤ 275760
      · have E : Hid (10 * y + ((s[k].toNat : Int) - 48) = (satF 0 (s.data.toList.take (k + 1)) : Nat)) := by
          show _ = _
          have := hy.out
          rw [hsn, if_pos (by omega)]; omega
        clear hsn hdg hb etk hdd
        go_wp2_with fail
        refine (HK.out _).mono ?_
        rintro e u1 ⟨rfl, rfl⟩
        go_wp2_with fail
        go_round
        case rel => exact ⟨k + 1, _, by go_num, rfl, by omega, by omega, by omega, E⟩
        case measure => simp [intOf]; omega
      · have E : Hid (y = (satF 0 (s.data.toList.take (k + 1)) : Nat)) := by
          show _ = _
          have := hy.out
          rw [hsn, if_neg (by omega)]; exact this
        have hy4 : 275760 < y := by omega
        clear hsn hdg hb etk hdd hy3
        go_wp2_with fail
        refine (HK.out _).mono ?_
        rintro e u1 ⟨rfl, rfl⟩
        go_wp2_with fail
        go_round
        case rel => exact ⟨k + 1, _, by go_num, rfl, by omega, by omega, by omega, E⟩
        case measure => simp [intOf]; omega
    · obtain rfl : k = lead s := by omega
      have hyp := HY.out y (by rw [hy.out, HT.out])
      clear hlt hk hy
      rcases (show (lead s : Int) < 4 ∨ (4 ≤ (lead s : Int) ∧ y < 1) ∨ (4 ≤ (lead s : Int) ∧ 1 ≤ y ∧ 275760 < y) ∨ (4 ≤ (lead s : Int) ∧ 1 ≤ y ∧ y ≤ 275760) by omega) with h | ⟨h, h'⟩ | ⟨h, h', h''⟩ | ⟨h, h', h''⟩
      · rw [if_pos (by omega)] at hyp
        have E := hide hyp
        clear hyp
        go_wp2_with fail
        refine (HX.out _).mono ?_
        rintro e u1 ⟨rfl, rfl⟩
        go_wp2_with fail
        go_ret2
        exact ⟨ret_pair E.out, rfl⟩
      · rw [if_pos (by omega)] at hyp
        have E := hide hyp
        clear hyp
        go_wp2_with fail
        refine (HX.out _).mono ?_
        rintro e u1 ⟨rfl, rfl⟩
        go_wp2_with fail
        go_ret2
        exact ⟨ret_pair E.out, rfl⟩
      · rw [if_pos (by omega)] at hyp
        have E := hide hyp
        clear hyp
        go_wp2_with fail
        refine (HX.out _).mono ?_
        rintro e u1 ⟨rfl, rfl⟩
        go_wp2_with fail
        go_ret2
        exact ⟨ret_pair E.out, rfl⟩
      · rw [if_neg (by omega)] at hyp
        have E := hide hyp
        clear hyp
        go_wp2_with fail
        refine (HX.out _).mono ?_
        rintro e u1 ⟨rfl, rfl⟩
        go_wp2_with fail
        go_ret2
        exact ⟨ret_pair E.out, rfl⟩

end Go.Proofs.YtpkpkpiphgjbaaaGreatDoor

namespace Go.Proofs.YtpkpkpiphgjbaaaGreatDoor
open Go.RowKit
set_option maxRecDepth 100000

/-- A number and whether there is one. -/
def outB : Option Int → Int × Bool
  | none => (0, false)
  | some n => (n, true)
theorem ret_outB {o : Option Int} {a : Int} {b : Bool} (h : outB o = (a, b)) : Ending.returned (.tuple #[.int .i64 a, .bool b]) = .returned (.tuple #[.int .i64 (outB o).1, .bool (outB o).2]) := by rw [h]
theorem list_size (s : ByteArray) : s.data.toList.length = s.size := by simp
theorem drop_end {s : ByteArray} {k : Nat} (h : s.size ≤ k) : s.data.toList.drop k = [] := List.drop_of_length_le (by simpa using h)
theorem drop_b {s : ByteArray} {k : Nat} (hk : k < s.size) : s.data.toList.drop k = byteAt s k :: s.data.toList.drop (k + 1) := by rw [drop_one hk, byteAt_eq s k hk]
theorem rest_lead (s : ByteArray) : s.data.toList.dropWhile isDg = s.data.toList.drop (lead s) := (drop_lead _).symm
theorem yearP_no {s : ByteArray} (h : yrV (s.data.toList.takeWhile isDg) = none) : yearP s = (0, 0) := by unfold yearP; rw [h]
theorem yearP_yes {s : ByteArray} {y : Int} (h : yrV (s.data.toList.takeWhile isDg) = some y) : yearP s = (y, (lead s : Int)) ∧ 4 ≤ lead s := by
  refine ⟨by unfold yearP; rw [h], ?_⟩
  unfold yrV at h
  split at h
  · rename_i g; exact g.1
  · cases h
theorem date_none {s : ByteArray} (h : yrV (s.data.toList.takeWhile isDg) = none) : dateT s.data.toList = none := by unfold dateT; rw [h]; rfl
theorem date_some_y {s : ByteArray} {y : Int} (h : yrV (s.data.toList.takeWhile isDg) = some y) : dateT s.data.toList = dateTail y (s.data.toList.drop (lead s)) := by
  unfold dateT; rw [h, rest_lead]; rfl
theorem dateTail_len {y : Int} : ∀ {l : List UInt8}, l.length ≠ 6 → dateTail y l = none
  | [], _ => rfl
  | [_], _ => rfl
  | [_, _], _ => rfl
  | [_, _, _], _ => rfl
  | [_, _, _, _], _ => rfl
  | [_, _, _, _, _], _ => rfl
  | [_, _, _, _, _, _], h => absurd rfl h
  | _ :: _ :: _ :: _ :: _ :: _ :: _ :: _, _ => rfl
theorem drop_len (s : ByteArray) (k : Nat) : (s.data.toList.drop k).length = s.size - k := by rw [List.length_drop, list_size]
theorem date_long {s : ByteArray} {y : Int} (h : yrV (s.data.toList.takeWhile isDg) = some y) (hs : s.size ≠ lead s + 6) : dateT s.data.toList = none := by
  have := lead_le s
  rw [date_some_y h, dateTail_len (by rw [drop_len]; omega)]
theorem date_six {s : ByteArray} {y : Int} (h : yrV (s.data.toList.takeWhile isDg) = some y) (hs : s.size = lead s + 6) :
    dateT s.data.toList = if byteAt s (lead s) = 45 ∧ byteAt s (lead s + 3) = 45 then numD y (twoAt s (lead s + 1)) (twoAt s (lead s + 4)) else none := by
  rw [date_some_y h, drop_b (by omega), drop_b (by omega), drop_b (by omega), drop_b (by omega), drop_b (by omega), drop_b (by omega), drop_end (by omega), dateTail_eq, twoAt_in (by omega), twoAt_in (by omega)]
theorem at_is {s : ByteArray} {k : Nat} {c : UInt8} (h : k < s.size) : atV s k c = decide (byteAt s k = c) := by
  unfold atV
  by_cases e : byteAt s k = c
  · rw [decide_eq_true ⟨h, e⟩, decide_eq_true e]
  · rw [decide_eq_false (fun x => e x.2), decide_eq_false e]
theorem twoAt_bounds (s : ByteArray) (k : Nat) : -1 ≤ twoAt s k ∧ twoAt s k ≤ 99 := by
  unfold twoAt
  split
  · rename_i h
    have := dg_lt (dig_some h.1).2
    have := dg_lt (dig_some h.2).2
    omega
  · omega

set_option maxHeartbeats 1000000 in
theorem day_any (s : ByteArray) (w : World) (hs : s.size ≤ 100000) :
    Calls Tryz.prog 94 #[.string s] w fun e w' => e = .returned (.tuple #[.int .i64 (outB ((dateT s.data.toList).map (· * 86400000))).1, .bool (outB ((dateT s.data.toList).map (· * 86400000))).2]) ∧ ∃ q, w' = w.drewN q := by
  have hY := fun w => year_any s w hs
  cases hy : yrV (s.data.toList.takeWhile isDg) with
  | none =>
    rw [yearP_no hy] at hY
    have E : Hid (outB ((dateT s.data.toList).map (· * 86400000)) = (0, false)) := by show _ = _; rw [date_none hy]; rfl
    have HY := hide hY
    clear hY hy
    go_enter Tryz.func94, Tryz.ntmps94
    go_wp2_with fail
    refine (HY.out _).mono ?_
    rintro e u1 ⟨rfl, rfl⟩
    go_wp2_with fail
    go_ret2
    exact ⟨ret_outB E.out, 0, rfl⟩
  | some y =>
    have ⟨e1, n4⟩ := yearP_yes hy
    have hle := lead_le s
    have yb := year_of hy
    rw [e1] at hY
    have hA := fun w => at1_any s (lead s) 45 w hs (by omega)
    have hB := fun w => at1_any s (lead s + 3) 45 w hs (by omega)
    have hC := fun w => two_any s (lead s + 1) w hs (by omega)
    have hD := fun w => two_any s (lead s + 4) w hs (by omega)
    rw [show ((lead s + 3 : Nat) : Int) = (lead s : Int) + 3 by omega] at hB
    rw [show ((lead s + 1 : Nat) : Int) = (lead s : Int) + 1 by omega] at hC
    rw [show ((lead s + 4 : Nat) : Int) = (lead s : Int) + 4 by omega] at hD
    by_cases hz : s.size = lead s + 6
    · rw [at_is (by omega)] at hA
      rw [at_is (by omega)] at hB
      have hx := date_six hy hz
      have bm := twoAt_bounds s (lead s + 1)
      have bd := twoAt_bounds s (lead s + 4)
      generalize twoAt s (lead s + 1) = m at *
      generalize twoAt s (lead s + 4) = d at *
      have z1 : ((lead s : Int) == 0) = false := beq_no (by omega)
      have z2 : ((s.size : Int) != (lead s : Int) + 6) = false := by
        rw [bne, beq_yes (by omega)]; rfl
      have HY := hide hY
      clear hY hy e1 n4 hle
      by_cases h1 : byteAt s (lead s) = 45
      · rw [decide_eq_true h1] at hA
        by_cases h2 : byteAt s (lead s + 3) = 45
        · rw [decide_eq_true h2] at hB
          rw [if_pos ⟨h1, h2⟩] at hx
          unfold numD at hx
          by_cases h3 : 1 ≤ d ∧ d ≤ LenV y m
          · rw [if_pos h3] at hx
            have hd := day_is h3.1 h3.2
            generalize newV y + aheadI y m + (d - 1) = k at *
            have bk := hd.bounds
            have hN := fun w => refNumber_in k y m d w hd
            have E : Hid (outB ((dateT s.data.toList).map (· * 86400000)) = (k * 86400000, true)) := by show _ = _; rw [hx]; rfl
            have HA := hide hA
            have HB := hide hB
            have HC := hide hC
            have HD := hide hD
            have HN := hide hN
            clear hA hB hC hD hN hx hd h1 h2 h3
            go_enter Tryz.func94, Tryz.ntmps94
            go_wp2_with fail
            refine (HY.out _).mono ?_
            rintro e u1 ⟨rfl, rfl⟩
            go_wp2_with fail
            refine (HA.out _).mono ?_
            rintro e u1 ⟨rfl, rfl⟩
            go_wp2_with fail
            refine (HB.out _).mono ?_
            rintro e u1 ⟨rfl, rfl⟩
            go_wp2_with fail
            refine (HC.out _).mono ?_
            rintro e u2 ⟨rfl, q2, rfl⟩
            go_wp2_with fail
            refine (HD.out _).mono ?_
            rintro e u3 ⟨rfl, q3, rfl⟩
            go_wp2_with fail
            refine (HN.out _).mono ?_
            rintro e u1 ⟨rfl, rfl⟩
            go_wp2_with fail
            go_ret2
            exact ⟨ret_outB E.out, _, rfl⟩
          · rw [if_neg h3] at hx
            have hN := fun w => refNumber_out y m d w (by omega) (by omega) (by omega) (by omega) h3
            have E : Hid (outB ((dateT s.data.toList).map (· * 86400000)) = (0, false)) := by show _ = _; rw [hx]; rfl
            have HA := hide hA
            have HB := hide hB
            have HC := hide hC
            have HD := hide hD
            have HN := hide hN
            clear hA hB hC hD hN hx h1 h2 h3
            go_enter Tryz.func94, Tryz.ntmps94
            go_wp2_with fail
            refine (HY.out _).mono ?_
            rintro e u1 ⟨rfl, rfl⟩
            go_wp2_with fail
            refine (HA.out _).mono ?_
            rintro e u1 ⟨rfl, rfl⟩
            go_wp2_with fail
            refine (HB.out _).mono ?_
            rintro e u1 ⟨rfl, rfl⟩
            go_wp2_with fail
            refine (HC.out _).mono ?_
            rintro e u2 ⟨rfl, q2, rfl⟩
            go_wp2_with fail
            refine (HD.out _).mono ?_
            rintro e u3 ⟨rfl, q3, rfl⟩
            go_wp2_with fail
            refine (HN.out _).mono ?_
            rintro e u1 ⟨rfl, rfl⟩
            go_wp2_with fail
            go_ret2
            exact ⟨ret_outB E.out, _, rfl⟩
        · rw [decide_eq_false h2] at hB
          rw [if_neg (fun x => h2 x.2)] at hx
          have E : Hid (outB ((dateT s.data.toList).map (· * 86400000)) = (0, false)) := by show _ = _; rw [hx]; rfl
          have HA := hide hA
          have HB := hide hB
          clear hA hB hC hD hx h1 h2
          go_enter Tryz.func94, Tryz.ntmps94
          go_wp2_with fail
          refine (HY.out _).mono ?_
          rintro e u1 ⟨rfl, rfl⟩
          go_wp2_with fail
          refine (HA.out _).mono ?_
          rintro e u1 ⟨rfl, rfl⟩
          go_wp2_with fail
          refine (HB.out _).mono ?_
          rintro e u1 ⟨rfl, rfl⟩
          go_wp2_with fail
          go_ret2
          exact ⟨ret_outB E.out, 0, rfl⟩
      · rw [decide_eq_false h1] at hA
        rw [if_neg (fun x => h1 x.1)] at hx
        have E : Hid (outB ((dateT s.data.toList).map (· * 86400000)) = (0, false)) := by show _ = _; rw [hx]; rfl
        have HA := hide hA
        clear hA hB hC hD hx h1
        go_enter Tryz.func94, Tryz.ntmps94
        go_wp2_with fail
        refine (HY.out _).mono ?_
        rintro e u1 ⟨rfl, rfl⟩
        go_wp2_with fail
        refine (HA.out _).mono ?_
        rintro e u1 ⟨rfl, rfl⟩
        go_wp2_with fail
        go_ret2
        exact ⟨ret_outB E.out, 0, rfl⟩
    · have E : Hid (outB ((dateT s.data.toList).map (· * 86400000)) = (0, false)) := by show _ = _; rw [date_long hy hz]; rfl
      have z1 : ((lead s : Int) == 0) = false := beq_no (by omega)
      have z2 : ((s.size : Int) != (lead s : Int) + 6) = true := by
        rw [bne, beq_no (by omega)]; rfl
      have HY := hide hY
      clear hY hy e1 n4 hz hA hB hC hD
      go_enter Tryz.func94, Tryz.ntmps94
      go_wp2_with fail
      refine (HY.out _).mono ?_
      rintro e u1 ⟨rfl, rfl⟩
      go_wp2_with fail
      go_ret2
      exact ⟨ret_outB E.out, 0, rfl⟩

end Go.Proofs.YtpkpkpiphgjbaaaGreatDoor
