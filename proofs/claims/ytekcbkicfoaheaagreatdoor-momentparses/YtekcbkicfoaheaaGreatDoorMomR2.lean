/- The document's at, year, day, clock: they answer by the functions of 'Mom'; nothing is changed (draws aside). Condition: texts as long as the law asks. -/
import Derived.Test.YtekcbkicfoaheaaGreatDoorMomR1
namespace Go.Proofs.YtekcbkicfoaheaaGreatDoor
open Go.RowKit

theorem drop_one {s : ByteArray} {k : Nat} (hk : k < s.size) : s.data.toList.drop k = s[k] :: s.data.toList.drop (k + 1) := by
  have : s[k] = s.data.toList[k]'(by simpa using hk) := by simp; rfl
  rw [this]; exact List.drop_eq_getElem_cons _
/-- Does the sign c stand at a place? -/
def atV (s : ByteArray) (k : Nat) (c : UInt8) : Bool := decide (k < s.size ∧ byteAt s k = c)
theorem at_out {s : ByteArray} {k : Nat} {c : UInt8} (h : ¬ k < s.size) : atV s k c = false := decide_eq_false (fun x => h x.1)
theorem at_in {s : ByteArray} {k : Nat} {c : UInt8} (h : k < s.size) : atV s k c = (s[k] == c) := by
  unfold atV
  rw [byteAt_eq s k h]
  by_cases e : byteAt s k = c
  · rw [decide_eq_true ⟨h, e⟩]; simp [e]
  · rw [decide_eq_false (fun x => e x.2)]; simp [e]

theorem ext_one {s : ByteArray} {k : Nat} (h : k < s.size) : (s.extract k (k + 1)).toList = [s[k]] := by
  rw [ByteArray.toList_eq]
  have : (s.extract k (k + 1)).data.toList = (s.data.toList.drop k).take (k + 1 - k) := by simp
  rw [this, drop_one h, show k + 1 - k = 1 by omega]; rfl
theorem ext_two {s : ByteArray} {k : Nat} (h : k + 1 < s.size) : (s.extract k (k + 2)).toList = [s[k], s[k + 1]] := by
  rw [ByteArray.toList_eq]
  have : (s.extract k (k + 2)).data.toList = (s.data.toList.drop k).take (k + 2 - k) := by simp
  rw [this, drop_one (by omega), drop_one h, show k + 2 - k = 2 by omega]; rfl

set_option maxHeartbeats 1000000 in
theorem at1_any (s : ByteArray) (k : Nat) (c : UInt8) (w : World) (_hs : s.size ≤ 100000) (_hk : k ≤ 200000) :
    Calls Tryz.prog 45 #[.string s, .int .i64 k, .string ⟨#[c]⟩] w fun e w' => e = .returned (.bool (atV s k c)) ∧ w' = w := by
  by_cases h : k < s.size
  · have E := hide (at_in (c := c) h)
    have hz : (⟨#[c]⟩ : ByteArray).size = 1 := rfl
    have h2 : (1 : Int) ≤ (s.size : Int) - (k : Int) := by omega
    go_enter Tryz.func45, Tryz.ntmps45
    go_wp2_with fail
    go_ret
    exact ⟨ret_bool (by rw [E.out, ext_one h]; simp), rfl⟩
  · have E := hide (at_out (c := c) h)
    have hz : (⟨#[c]⟩ : ByteArray).size = 1 := rfl
    have h' : (s.size : Int) - (k : Int) < 1 := by omega
    clear h
    go_enter Tryz.func45, Tryz.ntmps45
    go_wp2_with fail
    go_ret
    exact ⟨ret_bool E.out.symm, rfl⟩

/-- Do the signs -W stand at a place? -/
def atW (s : ByteArray) (k : Nat) : Bool := decide (k + 1 < s.size ∧ byteAt s k = 45 ∧ byteAt s (k + 1) = 87)
theorem atW_out {s : ByteArray} {k : Nat} (h : ¬ k + 1 < s.size) : atW s k = false := decide_eq_false (fun x => h x.1)
theorem atW_in {s : ByteArray} {k : Nat} (h : k + 1 < s.size) : atW s k = ([s[k], s[k + 1]] == [45, 87]) := by
  unfold atW
  rw [byteAt_eq s k (by omega), byteAt_eq s (k + 1) h]
  by_cases e : byteAt s k = 45 ∧ byteAt s (k + 1) = 87
  · rw [decide_eq_true ⟨h, e⟩, e.1, e.2]; rfl
  · rw [decide_eq_false (fun x => e x.2)]
    symm
    simpa using e

set_option maxHeartbeats 1000000 in
theorem atW_any (s : ByteArray) (k : Nat) (w : World) (_hs : s.size ≤ 100000) (_hk : k ≤ 200000) :
    Calls Tryz.prog 45 #[.string s, .int .i64 k, .string ⟨#[45, 87]⟩] w fun e w' => e = .returned (.bool (atW s k)) ∧ w' = w := by
  by_cases h : k + 1 < s.size
  · have E := hide (atW_in h)
    have X := hide (ext_two h)
    have hz : (⟨#[45, 87]⟩ : ByteArray).size = 2 := rfl
    have h2 : (2 : Int) ≤ (s.size : Int) - (k : Int) := by omega
    go_enter Tryz.func45, Tryz.ntmps45
    go_wp2_with fail
    go_ret
    exact ⟨ret_bool (by rw [E.out, X.out]), rfl⟩
  · have E := hide (atW_out h)
    have hz : (⟨#[45, 87]⟩ : ByteArray).size = 2 := rfl
    have h' : (s.size : Int) - (k : Int) < 2 := by omega
    clear h
    go_enter Tryz.func45, Tryz.ntmps45
    go_wp2_with fail
    go_ret
    exact ⟨ret_bool E.out.symm, rfl⟩

/-- How many digits stand ahead. -/
def lead (s : ByteArray) : Nat := (s.data.toList.takeWhile isDg).length
theorem take_lead (l : List UInt8) : l.take (l.takeWhile isDg).length = l.takeWhile isDg := by
  have h : l = l.takeWhile isDg ++ l.dropWhile isDg := (List.takeWhile_append_dropWhile ..).symm
  have := congrArg (List.take (l.takeWhile isDg).length) h
  rw [this, List.take_left']; rfl
theorem drop_lead (l : List UInt8) : l.drop (l.takeWhile isDg).length = l.dropWhile isDg := by
  have h : l = l.takeWhile isDg ++ l.dropWhile isDg := (List.takeWhile_append_dropWhile ..).symm
  have := congrArg (List.drop (l.takeWhile isDg).length) h
  rw [this, List.drop_left']; rfl
theorem lead_le (s : ByteArray) : lead s ≤ s.size := by
  have h : s.data.toList = s.data.toList.takeWhile isDg ++ s.data.toList.dropWhile isDg := (List.takeWhile_append_dropWhile ..).symm
  have := congrArg List.length h
  rw [List.length_append] at this
  have e : s.data.toList.length = s.size := by simp
  unfold lead; omega
theorem lead_dig {s : ByteArray} {k : Nat} (h : k < lead s) : digV s k = true := by
  have h0 := lead_le s
  have hk : k < s.size := by omega
  rw [dig_in hk]
  have e := take_lead s.data.toList
  have hm : s[k] ∈ s.data.toList.takeWhile isDg := by
    rw [← e, List.mem_take_iff_getElem]
    have hk2 : k < (s.data.toList.takeWhile isDg).length := h
    have hk3 : k < s.data.toList.length := by simpa using hk
    refine ⟨k, by omega, ?_⟩
    simp; rfl
  have := List.all_takeWhile (p := isDg) (l := s.data.toList)
  exact List.all_eq_true.1 this _ hm
theorem lead_stop (s : ByteArray) : digV s (lead s) = false := by
  by_cases hk : lead s < s.size
  · rw [dig_in hk]
    have e := drop_lead s.data.toList
    have e2 : s.data.toList.drop (lead s) = s.data.toList.dropWhile isDg := e
    rw [drop_one hk] at e2
    have := List.head?_dropWhile_not isDg s.data.toList
    rw [← e2] at this
    simpa using this
  · exact dig_out hk
/-- A year's digits, read until they are beyond the bound. -/
def satF (n : Nat) : List UInt8 → Nat
  | [] => n
  | c :: l => satF (if n ≤ 275760 then 10 * n + dg c else n) l
theorem sat_snoc (n : Nat) (c : UInt8) : ∀ l : List UInt8, satF n (l ++ [c]) = if satF n l ≤ 275760 then 10 * satF n l + dg c else satF n l := by
  intro l
  induction l generalizing n with
  | nil => rfl
  | cons d l ih => exact ih _
theorem sat_stop (n : Nat) (h : 275760 < n) : ∀ l : List UInt8, satF n l = n := by
  intro l
  induction l with
  | nil => rfl
  | cons d l ih =>
    show satF (if _ then _ else _) l = _
    rw [if_neg (by omega)]; exact ih
theorem sat_is : ∀ (n : Nat) (l : List UInt8), n ≤ 275760 → (natFrom n l ≤ 275760 → satF n l = natFrom n l) ∧ (275760 < natFrom n l → 275760 < satF n l)
  | n, [], h => ⟨fun _ => rfl, fun g => g⟩
  | n, c :: l, h => by
    show (natFrom (10 * n + dg c) l ≤ _ → satF (if _ then _ else _) l = natFrom (10 * n + dg c) l) ∧ (_ < natFrom (10 * n + dg c) l → _ < satF (if _ then _ else _) l)
    rw [if_pos h]
    by_cases g : 10 * n + dg c ≤ 275760
    · exact sat_is _ l g
    · have a := natFrom_ge (10 * n + dg c) l
      rw [sat_stop _ (by omega)]
      exact ⟨fun x => by omega, fun _ => by omega⟩
theorem sat_most : ∀ (n : Nat) (l : List UInt8), n ≤ 2757609 → (∀ c ∈ l, isDg c = true) → satF n l ≤ 2757609
  | n, [], h, _ => h
  | n, c :: l, h, hd => by
    have hc := dg_lt (hd c (List.mem_cons_self ..))
    show satF (if _ then _ else _) l ≤ _
    by_cases g : n ≤ 275760
    · rw [if_pos g]; exact sat_most _ l (by omega) (fun d h => hd d (List.mem_cons_of_mem _ h))
    · rw [if_neg g]; exact sat_most _ l h (fun d h => hd d (List.mem_cons_of_mem _ h))
/-- The year ahead in a text, and how many digits it has. -/
def yearP (s : ByteArray) : Int × Int :=
  match yrV (s.data.toList.takeWhile isDg) with
  | some y => (y, lead s)
  | none => (0, 0)
theorem yearP_is {s : ByteArray} {y : Int} (hy : y = (satF 0 (s.data.toList.takeWhile isDg) : Nat)) : yearP s = if lead s < 4 ∨ y < 1 ∨ 275760 < y then (0, 0) else (y, (lead s : Int)) := by
  have ⟨a, b⟩ := sat_is 0 (s.data.toList.takeWhile isDg) (by omega)
  have ea : natFrom 0 (s.data.toList.takeWhile isDg) = natOf (s.data.toList.takeWhile isDg) := rfl
  rw [ea] at a b
  unfold yearP yrV
  have el : (s.data.toList.takeWhile isDg).length = lead s := rfl
  rw [el]
  by_cases h : 4 ≤ lead s ∧ 1 ≤ natOf (s.data.toList.takeWhile isDg) ∧ natOf (s.data.toList.takeWhile isDg) ≤ 275760
  · have := a h.2.2
    rw [if_pos h, if_neg (by omega), hy, this]
  · rw [if_neg h, if_pos]
    by_cases g : natOf (s.data.toList.takeWhile isDg) ≤ 275760
    · have := a g; omega
    · have := b (by omega); omega
theorem ret_pair {p : Int × Int} {a b : Int} (h : p = (a, b)) : Ending.returned (.tuple #[.int .i64 a, .int .i64 b]) = .returned (.tuple #[.int .i64 p.1, .int .i64 p.2]) := by rw [h]

set_option maxHeartbeats 1000000 in
theorem year_any (s : ByteArray) (w : World) (hs : s.size ≤ 100000) :
    Calls Tryz.prog 42 #[.string s] w fun e w' => e = .returned (.tuple #[.int .i64 (yearP s).1, .int .i64 (yearP s).2]) ∧ w' = w := by
  have hle := lead_le s
  have hD := fun (k : Nat) (h : k < lead s) w => by
    have := digit_any s k w hs (by omega)
    rw [lead_dig h] at this; exact this
  have hX := fun w => by
    have := digit_any s (lead s) w hs (by omega)
    rw [lead_stop s] at this; exact this
  have HD := hide hD
  have HX := hide hX
  have HY := hide (fun y => yearP_is (s := s) (y := y))
  have HT : Hid (s.data.toList.take (lead s) = s.data.toList.takeWhile isDg) := take_lead _
  clear hD hX
  go_enter Tryz.func42, Tryz.ntmps42
  go_wp2_with fail
  go_loop [4, 5] (fun a b => ∃ (k : Nat) (y : Int), a = .int .i64 k ∧ b = .int .i64 y ∧ k ≤ lead s ∧ 0 ≤ y ∧ y ≤ 2757609 ∧ Hid (y = (satF 0 (s.data.toList.take k) : Nat))) (fun a _ => lead s - (intOf a).toNat)
  case atStart => exact ⟨0, 0, rfl, rfl, by omega, by omega, by omega, hide rfl⟩
  case round =>
    obtain ⟨k, y, rfl, rfl, hk, y1, y2, hy⟩ := hrel
    by_cases hlt : k < lead s
    · have hks : k < s.size := by omega
      have hsn := sat_snoc 0 s[k] (s.data.toList.take k)
      have etk : s.data.toList.take (k + 1) = s.data.toList.take k ++ [s[k]] := by rw [byteAt_take s k hks, byteAt_eq s k hks]
      rw [← etk] at hsn
      have hdg : isDg s[k] = true := by rw [← dig_in hks]; exact lead_dig hlt
      have hb := (isDg_iff _).1 hdg
      have hb1 : 48 ≤ (s[k].toNat : Int) := by omega
      have hb2 : (s[k].toNat : Int) ≤ 57 := by omega
      have hdd : ((dg s[k] : Nat) : Int) = (s[k].toNat : Int) - 48 := by unfold dg; omega
      have HK := hide (HD.out k hlt)
      by_cases hy3 : y ≤ 275760
      · have E : Hid (10 * y + ((s[k].toNat : Int) - 48) = (satF 0 (s.data.toList.take (k + 1)) : Nat)) := by
          show _ = _
          have := hy.out
          rw [hsn, if_pos (by omega)]; omega
        clear hsn hdg hb etk hdd
        go_wp2_with fail
        refine (HK.out _).mono ?_
        rintro e u1 ⟨rfl, rfl⟩
        go_wp2_with fail
        go_round
        case rel => exact ⟨k + 1, _, by go_num, rfl, by omega, by omega, by omega, E⟩
        case measure => simp [intOf]; omega
      · have E : Hid (y = (satF 0 (s.data.toList.take (k + 1)) : Nat)) := by
          show _ = _
          have := hy.out
          rw [hsn, if_neg (by omega)]; exact this
        have hy4 : 275760 < y := by omega
        clear hsn hdg hb etk hdd hy3
        go_wp2_with fail
        refine (HK.out _).mono ?_
        rintro e u1 ⟨rfl, rfl⟩
        go_wp2_with fail
        go_round
        case rel => exact ⟨k + 1, _, by go_num, rfl, by omega, by omega, by omega, E⟩
        case measure => simp [intOf]; omega
    · obtain rfl : k = lead s := by omega
      have hyp := HY.out y (by rw [hy.out, HT.out])
      clear hlt hk hy
      rcases (show (lead s : Int) < 4 ∨ (4 ≤ (lead s : Int) ∧ y < 1) ∨ (4 ≤ (lead s : Int) ∧ 1 ≤ y ∧ 275760 < y) ∨ (4 ≤ (lead s : Int) ∧ 1 ≤ y ∧ y ≤ 275760) by omega) with h | ⟨h, h'⟩ | ⟨h, h', h''⟩ | ⟨h, h', h''⟩
      · rw [if_pos (by omega)] at hyp
        have E := hide hyp
        clear hyp
        go_wp2_with fail
        refine (HX.out _).mono ?_
        rintro e u1 ⟨rfl, rfl⟩
        go_wp2_with fail
        go_ret2
        exact ⟨ret_pair E.out, rfl⟩
      · rw [if_pos (by omega)] at hyp
        have E := hide hyp
        clear hyp
        go_wp2_with fail
        refine (HX.out _).mono ?_
        rintro e u1 ⟨rfl, rfl⟩
        go_wp2_with fail
        go_ret2
        exact ⟨ret_pair E.out, rfl⟩
      · rw [if_pos (by omega)] at hyp
        have E := hide hyp
        clear hyp
        go_wp2_with fail
        refine (HX.out _).mono ?_
        rintro e u1 ⟨rfl, rfl⟩
        go_wp2_with fail
        go_ret2
        exact ⟨ret_pair E.out, rfl⟩
      · rw [if_neg (by omega)] at hyp
        have E := hide hyp
        clear hyp
        go_wp2_with fail
        refine (HX.out _).mono ?_
        rintro e u1 ⟨rfl, rfl⟩
        go_wp2_with fail
        go_ret2
        exact ⟨ret_pair E.out, rfl⟩

end Go.Proofs.YtekcbkicfoaheaaGreatDoor
