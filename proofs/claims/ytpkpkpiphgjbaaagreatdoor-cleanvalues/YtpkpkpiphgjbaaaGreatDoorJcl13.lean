/- Joined texts. MomR5: The document's Parse answers by momV; nothing is changed (draws aside). Condition: texts as long as the law asks. DocM: Documents as they lie in the world: rows of numbers, of attributes, of nodes behind a slice; kept while what was there stays. No condition. AttrF: Attributes of an element found by a name: the document's Find, and slices.IndexFunc of a row of attributes: the first place; what lay in the world lies there still. No condition but a row that lies in the world, of at most 2^47 bytes. -/
import Derived.Test.YtpkpkpiphgjbaaaGreatDoorJcl12
import Derived.Test.YtpkpkpiphgjbaaaGreatDoorJcl6
import Derived.Test.YtpkpkpiphgjbaaaGreatDoorRows
import Derived.Shelf.Abstract
namespace Go.Proofs.YtpkpkpiphgjbaaaGreatDoor
open Go.RowKit
set_option maxRecDepth 100000

/-- A number and whether it is one, for what a text tells. -/
def Parsed (o : Option Int) (n : Int) (b : Bool) : Prop := (b = true ∧ o = some n) ∨ (b = false ∧ o = none)
theorem parsed_outB (o : Option Int) : Parsed o (outB o).1 (outB o).2 := by
  cases o with
  | none => exact .inr ⟨rfl, rfl⟩
  | some n => exact .inl ⟨rfl, rfl⟩
/-- What the call of parse answers. -/
def ParseIs (kind : Int) (s : ByteArray) (n : Int) (b : Bool) : Prop := ∀ w, Calls Tryz.prog 61 #[.int .i64 kind, .string s] w fun e w' => e = .returned (.tuple #[.int .i64 n, .bool b]) ∧ ∃ q, w' = w.drewN q

set_option maxHeartbeats 1000000 in
theorem parse_1 (s : ByteArray) (hs : s.size ≤ 100000) : ∃ n b, Parsed (momT 1 s.data.toList) n b ∧ ParseIs 1 s n b := by
  refine ⟨_, _, parsed_outB _, fun w => ?_⟩
  have hD := fun w => day_any s w hs
  have hY := fun w => year_any s w hs
  have E : Hid (momT 1 s.data.toList = (dateT s.data.toList).map (· * 86400000)) := rfl
  rw [E.out]
  generalize (dateT s.data.toList).map (· * 86400000) = o at *
  have HD := hide hD
  have HY := hide hY
  clear hD hY E
  go_enter Tryz.func61, Tryz.ntmps61
  go_wp2_with fail
  refine (HY.out _).mono ?_
  rintro e u1 ⟨rfl, rfl⟩
  go_wp2_with fail
  refine (HD.out _).mono ?_
  rintro e u2 ⟨rfl, q2, rfl⟩
  go_wp2_with fail
  go_ret2
  exact ⟨rfl, _, rfl⟩
set_option maxHeartbeats 1000000 in
theorem parse_4 (s : ByteArray) (hs : s.size ≤ 100000) : ∃ n b, Parsed (momT 4 s.data.toList) n b ∧ ParseIs 4 s n b := by
  refine ⟨_, _, parsed_outB _, fun w => ?_⟩
  have hD := fun w => clock_any s w hs
  have hY := fun w => year_any s w hs
  have E : Hid (momT 4 s.data.toList = clockT s.data.toList) := rfl
  rw [E.out]
  generalize clockT s.data.toList = o at *
  have HD := hide hD
  have HY := hide hY
  clear hD hY E
  go_enter Tryz.func61, Tryz.ntmps61
  go_wp2_with fail
  refine (HY.out _).mono ?_
  rintro e u1 ⟨rfl, rfl⟩
  go_wp2_with fail
  refine (HD.out _).mono ?_
  rintro e u2 ⟨rfl, q2, rfl⟩
  go_wp2_with fail
  go_ret2
  exact ⟨rfl, _, rfl⟩
theorem month_none {s : ByteArray} (h : yrV (s.data.toList.takeWhile isDg) = none) : monthT s.data.toList = none := by unfold monthT; rw [h]; rfl
theorem month_some_y {s : ByteArray} {y : Int} (h : yrV (s.data.toList.takeWhile isDg) = some y) : monthT s.data.toList = monthTail y (s.data.toList.drop (lead s)) := by
  unfold monthT; rw [h, rest_lead]; rfl
theorem monthTail_len {y : Int} : ∀ {l : List UInt8}, l.length ≠ 3 → monthTail y l = none
  | [], _ => rfl
  | [_], _ => rfl
  | [_, _], _ => rfl
  | [_, _, _], h => absurd rfl h
  | _ :: _ :: _ :: _ :: _, _ => rfl
theorem month_long {s : ByteArray} {y : Int} (h : yrV (s.data.toList.takeWhile isDg) = some y) (hs : s.size ≠ lead s + 3) : monthT s.data.toList = none := by
  have := lead_le s
  rw [month_some_y h, monthTail_len (by rw [drop_len]; omega)]
theorem month_three {s : ByteArray} {y : Int} (h : yrV (s.data.toList.takeWhile isDg) = some y) (hs : s.size = lead s + 3) :
    monthT s.data.toList = if byteAt s (lead s) = 45 ∧ 1 ≤ twoAt s (lead s + 1) ∧ twoAt s (lead s + 1) ≤ 12 then some ((y - 1970) * 12 + twoAt s (lead s + 1) - 1) else none := by
  rw [month_some_y h, drop_b (by omega), drop_b (by omega), drop_b (by omega), drop_end (by omega), monthTail_eq, twoAt_in (by omega)]
theorem week_none {s : ByteArray} (h : yrV (s.data.toList.takeWhile isDg) = none) : weekT s.data.toList = none := by unfold weekT; rw [h]; rfl
theorem week_some_y {s : ByteArray} {y : Int} (h : yrV (s.data.toList.takeWhile isDg) = some y) : weekT s.data.toList = weekTail y (s.data.toList.drop (lead s)) := by
  unfold weekT; rw [h, rest_lead]; rfl
theorem weekTail_len {y : Int} : ∀ {l : List UInt8}, l.length ≠ 4 → weekTail y l = none
  | [], _ => rfl
  | [_], _ => rfl
  | [_, _], _ => rfl
  | [_, _, _], _ => rfl
  | [_, _, _, _], h => absurd rfl h
  | _ :: _ :: _ :: _ :: _ :: _, _ => rfl
theorem week_long {s : ByteArray} {y : Int} (h : yrV (s.data.toList.takeWhile isDg) = some y) (hs : s.size ≠ lead s + 4) : weekT s.data.toList = none := by
  have := lead_le s
  rw [week_some_y h, weekTail_len (by rw [drop_len]; omega)]
theorem week_four {s : ByteArray} {y : Int} (h : yrV (s.data.toList.takeWhile isDg) = some y) (hs : s.size = lead s + 4) :
    weekT s.data.toList = if byteAt s (lead s) = 45 ∧ byteAt s (lead s + 1) = 87 ∧ 1 ≤ twoAt s (lead s + 2) ∧ twoAt s (lead s + 2) ≤ WeeksV y then some (firstV y + 7 * (twoAt s (lead s + 2) - 1)) else none := by
  rw [week_some_y h, drop_b (by omega), drop_b (by omega), drop_b (by omega), drop_b (by omega), drop_end (by omega), weekTail_eq, twoAt_in (by omega)]
theorem atW_is {s : ByteArray} {k : Nat} (h : k + 1 < s.size) : atW s k = decide (byteAt s k = 45 ∧ byteAt s (k + 1) = 87) := by
  unfold atW
  by_cases e : byteAt s k = 45 ∧ byteAt s (k + 1) = 87
  · rw [decide_eq_true ⟨h, e⟩, decide_eq_true e]
  · rw [decide_eq_false (fun x => e x.2), decide_eq_false e]

theorem ret_par {a c : Int} {b : Bool} (h : a = c) : Ending.returned (.tuple #[.int .i64 a, .bool b]) = .returned (.tuple #[.int .i64 c, .bool b]) := by rw [h]

set_option maxHeartbeats 4000000 in
theorem parse_2 (s : ByteArray) (hs : s.size ≤ 100000) : ∃ n b, Parsed (momT 2 s.data.toList) n b ∧ ParseIs 2 s n b := by
  have E : momT 2 s.data.toList = monthT s.data.toList := rfl
  rw [E]
  clear E
  have hY := fun w => year_any s w hs
  cases hy : yrV (s.data.toList.takeWhile isDg) with
  | none =>
    rw [yearP_no hy] at hY
    simp only at hY
    have hC := fun w => two_any s 1 w hs (by decide)
    have bm := twoAt_bounds s 1
    generalize twoAt s 1 = m at *
    refine ⟨m - 23641, false, .inr ⟨rfl, month_none hy⟩, fun w => ?_⟩
    have HY := hide hY
    have HC := hide hC
    clear hY hy hC
    go_enter Tryz.func61, Tryz.ntmps61
    go_wp2_with fail
    refine (HY.out _).mono ?_
    rintro e u1 ⟨rfl, rfl⟩
    go_wp2_with fail
    refine (HC.out _).mono ?_
    rintro e u2 ⟨rfl, q2, rfl⟩
    go_wp2_with fail
    go_ret2
    exact ⟨ret_par (by omega), _, rfl⟩
  | some y =>
    have ⟨e1, n4⟩ := yearP_yes hy
    have hle := lead_le s
    have yb := year_of hy
    rw [e1] at hY
    simp only at hY
    have hA := fun w => at1_any s (lead s) 45 w hs (by omega)
    have hC := fun w => two_any s (lead s + 1) w hs (by omega)
    rw [show ((lead s + 1 : Nat) : Int) = (lead s : Int) + 1 by omega] at hC
    have bm := twoAt_bounds s (lead s + 1)
    by_cases hz : s.size = lead s + 3
    · rw [at_is (by omega)] at hA
      have hx := month_three hy hz
      generalize twoAt s (lead s + 1) = m at *
      have z2 : ((s.size : Int) == (lead s : Int) + 3) = true := beq_yes (by omega)
      have n5 : 0 < (lead s : Int) := by omega
      have HY := hide hY
      have HC := hide hC
      clear hY hy e1 hC
      by_cases h1 : byteAt s (lead s) = 45
      · rw [decide_eq_true h1] at hA
        have HA := hide hA
        clear hA
        rcases (show m < 1 ∨ (1 ≤ m ∧ 12 < m) ∨ (1 ≤ m ∧ m ≤ 12) by omega) with g | ⟨g, g'⟩ | ⟨g, g'⟩
        · rw [if_neg (by omega)] at hx
          refine ⟨(y - 1970) * 12 + m - 1, false, .inr ⟨rfl, hx⟩, fun w => ?_⟩
          clear hx h1
          go_enter Tryz.func61, Tryz.ntmps61
          go_wp2_with fail
          refine (HY.out _).mono ?_
          rintro e u1 ⟨rfl, rfl⟩
          go_wp2_with fail
          refine (HC.out _).mono ?_
          rintro e u2 ⟨rfl, q2, rfl⟩
          go_wp2_with fail
          refine (HA.out _).mono ?_
          rintro e u1 ⟨rfl, rfl⟩
          go_wp2_with fail
          go_ret2
          exact ⟨rfl, _, rfl⟩
        · rw [if_neg (by omega)] at hx
          refine ⟨(y - 1970) * 12 + m - 1, false, .inr ⟨rfl, hx⟩, fun w => ?_⟩
          have g2 : decide (m ≤ 12) = false := decide_eq_false (by omega)
          clear hx h1
          go_enter Tryz.func61, Tryz.ntmps61
          go_wp2_with fail
          refine (HY.out _).mono ?_
          rintro e u1 ⟨rfl, rfl⟩
          go_wp2_with fail
          refine (HC.out _).mono ?_
          rintro e u2 ⟨rfl, q2, rfl⟩
          go_wp2_with fail
          refine (HA.out _).mono ?_
          rintro e u1 ⟨rfl, rfl⟩
          go_wp2_with fail
          go_ret2
          exact ⟨by first | rfl | rw [g2], _, rfl⟩
        · rw [if_pos ⟨h1, g, g'⟩] at hx
          refine ⟨_, true, .inl ⟨rfl, hx⟩, fun w => ?_⟩
          have g2 : decide (m ≤ 12) = true := decide_eq_true g'
          clear hx h1
          go_enter Tryz.func61, Tryz.ntmps61
          go_wp2_with fail
          refine (HY.out _).mono ?_
          rintro e u1 ⟨rfl, rfl⟩
          go_wp2_with fail
          refine (HC.out _).mono ?_
          rintro e u2 ⟨rfl, q2, rfl⟩
          go_wp2_with fail
          refine (HA.out _).mono ?_
          rintro e u1 ⟨rfl, rfl⟩
          go_wp2_with fail
          go_ret2
          exact ⟨by first | rfl | rw [g2], _, rfl⟩
      · rw [decide_eq_false h1] at hA
        rw [if_neg (fun x => h1 x.1)] at hx
        refine ⟨(y - 1970) * 12 + m - 1, false, .inr ⟨rfl, hx⟩, fun w => ?_⟩
        have HA := hide hA
        clear hA hx h1
        go_enter Tryz.func61, Tryz.ntmps61
        go_wp2_with fail
        refine (HY.out _).mono ?_
        rintro e u1 ⟨rfl, rfl⟩
        go_wp2_with fail
        refine (HC.out _).mono ?_
        rintro e u2 ⟨rfl, q2, rfl⟩
        go_wp2_with fail
        refine (HA.out _).mono ?_
        rintro e u1 ⟨rfl, rfl⟩
        go_wp2_with fail
        go_ret2
        exact ⟨rfl, _, rfl⟩
    · generalize twoAt s (lead s + 1) = m at *
      have hx := month_long hy hz
      refine ⟨(y - 1970) * 12 + m - 1, false, .inr ⟨rfl, hx⟩, fun w => ?_⟩
      have z2 : ((s.size : Int) == (lead s : Int) + 3) = false := beq_no (by omega)
      have n5 : 0 < (lead s : Int) := by omega
      have HY := hide hY
      have HC := hide hC
      clear hY hy e1 hC hA hx hz
      go_enter Tryz.func61, Tryz.ntmps61
      go_wp2_with fail
      refine (HY.out _).mono ?_
      rintro e u1 ⟨rfl, rfl⟩
      go_wp2_with fail
      refine (HC.out _).mono ?_
      rintro e u2 ⟨rfl, q2, rfl⟩
      go_wp2_with fail
      go_ret2
      exact ⟨rfl, _, rfl⟩
set_option maxHeartbeats 4000000 in
theorem parse_3 (s : ByteArray) (hs : s.size ≤ 100000) : ∃ n b, Parsed (momT 3 s.data.toList) n b ∧ ParseIs 3 s n b := by
  have E : momT 3 s.data.toList = (weekT s.data.toList).map (· * 86400000) := rfl
  rw [E]
  clear E
  have hY := fun w => year_any s w hs
  cases hy : yrV (s.data.toList.takeWhile isDg) with
  | none =>
    rw [yearP_no hy] at hY
    simp only at hY
    refine ⟨0, false, .inr ⟨rfl, by rw [week_none hy]; rfl⟩, fun w => ?_⟩
    have HY := hide hY
    clear hY hy
    go_enter Tryz.func61, Tryz.ntmps61
    go_wp2_with fail
    refine (HY.out _).mono ?_
    rintro e u1 ⟨rfl, rfl⟩
    go_wp2_with fail
    go_ret2
    exact ⟨rfl, 0, rfl⟩
  | some y =>
    have ⟨e1, n4⟩ := yearP_yes hy
    have hle := lead_le s
    have yb := year_of hy
    rw [e1] at hY
    simp only at hY
    have z1 : ((lead s : Int) == 0) = false := beq_no (by omega)
    have hA := fun w => atW_any s (lead s) w hs (by omega)
    have hC := fun w => two_any s (lead s + 2) w hs (by omega)
    rw [show ((lead s + 2 : Nat) : Int) = (lead s : Int) + 2 by omega] at hC
    have bm := twoAt_bounds s (lead s + 2)
    by_cases hz : s.size = lead s + 4
    · rw [atW_is (by omega)] at hA
      have hx := week_four hy hz
      generalize twoAt s (lead s + 2) = k at *
      have z2 : ((s.size : Int) != (lead s : Int) + 4) = false := by
        rw [bne, beq_yes (by omega)]; rfl
      have hN := fun w => refMonday_any y k w (by omega) (by omega) (by omega) (by omega)
      have HY := hide hY
      have HC := hide hC
      clear hY hy e1 hC
      by_cases h1 : byteAt s (lead s) = 45 ∧ byteAt s (lead s + 1) = 87
      · rw [decide_eq_true h1] at hA
        have HA := hide hA
        clear hA
        by_cases h3 : 1 ≤ k ∧ k ≤ WeeksV y
        · rw [if_pos ⟨h1.1, h1.2, h3⟩] at hx
          rw [mon_in h3] at hN
          simp only at hN
          have ws := weeks_some h3
          have fr := first_range ws.1 (by omega)
          have r1 : -800000 ≤ firstV y + 7 * (k - 1) ∧ firstV y + 7 * (k - 1) ≤ 300000000 := by omega
          generalize firstV y + 7 * (k - 1) = r at *
          refine ⟨_, true, .inl ⟨rfl, by rw [hx]; rfl⟩, fun w => ?_⟩
          have HN := hide hN
          clear hN hx h1 h3 fr ws
          go_enter Tryz.func61, Tryz.ntmps61
          go_wp2_with fail
          refine (HY.out _).mono ?_
          rintro e u1 ⟨rfl, rfl⟩
          go_wp2_with fail
          refine (HA.out _).mono ?_
          rintro e u1 ⟨rfl, rfl⟩
          go_wp2_with fail
          refine (HC.out _).mono ?_
          rintro e u2 ⟨rfl, q2, rfl⟩
          go_wp2_with fail
          refine (HN.out _).mono ?_
          rintro e u1 ⟨rfl, rfl⟩
          go_wp2_with fail
          go_ret2
          exact ⟨rfl, _, rfl⟩
        · rw [if_neg (fun x => h3 x.2.2)] at hx
          rw [mon_out h3] at hN
          simp only at hN
          refine ⟨0, false, .inr ⟨rfl, by rw [hx]; rfl⟩, fun w => ?_⟩
          have HN := hide hN
          clear hN hx h1 h3
          go_enter Tryz.func61, Tryz.ntmps61
          go_wp2_with fail
          refine (HY.out _).mono ?_
          rintro e u1 ⟨rfl, rfl⟩
          go_wp2_with fail
          refine (HA.out _).mono ?_
          rintro e u1 ⟨rfl, rfl⟩
          go_wp2_with fail
          refine (HC.out _).mono ?_
          rintro e u2 ⟨rfl, q2, rfl⟩
          go_wp2_with fail
          refine (HN.out _).mono ?_
          rintro e u1 ⟨rfl, rfl⟩
          go_wp2_with fail
          go_ret2
          exact ⟨rfl, _, rfl⟩
      · rw [decide_eq_false h1] at hA
        rw [if_neg (fun x => h1 ⟨x.1, x.2.1⟩)] at hx
        refine ⟨0, false, .inr ⟨rfl, by rw [hx]; rfl⟩, fun w => ?_⟩
        have HA := hide hA
        clear hA hx h1 hN
        go_enter Tryz.func61, Tryz.ntmps61
        go_wp2_with fail
        refine (HY.out _).mono ?_
        rintro e u1 ⟨rfl, rfl⟩
        go_wp2_with fail
        refine (HA.out _).mono ?_
        rintro e u1 ⟨rfl, rfl⟩
        go_wp2_with fail
        go_ret2
        exact ⟨rfl, 0, rfl⟩
    · have hx := week_long hy hz
      refine ⟨0, false, .inr ⟨rfl, by rw [hx]; rfl⟩, fun w => ?_⟩
      have z2 : ((s.size : Int) != (lead s : Int) + 4) = true := by
        rw [bne, beq_no (by omega)]; rfl
      have HY := hide hY
      clear hY hy e1 hC hA hx hz
      go_enter Tryz.func61, Tryz.ntmps61
      go_wp2_with fail
      refine (HY.out _).mono ?_
      rintro e u1 ⟨rfl, rfl⟩
      go_wp2_with fail
      go_ret2
      exact ⟨rfl, 0, rfl⟩

theorem outB_date_bounds (l : List UInt8) : -100000000000000 ≤ (outB ((dateT l).map (· * 86400000))).1 ∧ (outB ((dateT l).map (· * 86400000))).1 ≤ 30000000000000000 := by
  cases h : dateT l with
  | none => exact ⟨by decide, by decide⟩
  | some k =>
    obtain ⟨y, m, d, hd⟩ := date_of_text h
    have := hd.bounds
    show -100000000000000 ≤ k * 86400000 ∧ k * 86400000 ≤ 30000000000000000
    omega
theorem outB_clock_bounds (l : List UInt8) : 0 ≤ (outB (clockT l)).1 ∧ (outB (clockT l)).1 < 86400000 := by
  cases h : clockT l with
  | none => exact ⟨by decide, by decide⟩
  | some k => exact clock_some h
theorem local_at {s : ByteArray} {k : Nat} (hk : k < s.size) (hp : ∀ c ∈ s.data.toList.take k, isSep c = false) (hc : isSep s[k] = true) :
    localT s.data.toList = (dateT (s.data.toList.take k)).bind fun d => (clockT (s.data.toList.drop (k + 1))).bind fun t => some (d * 86400000 + t) := by
  have e : s.data.toList = s.data.toList.take k ++ s[k] :: s.data.toList.drop (k + 1) := by
    rw [← drop_one hk]; exact (List.take_append_drop k _).symm
  rw [congrArg localT e, local_is hp hc]
theorem drop_nil {p : UInt8 → Bool} : ∀ l : List UInt8, (∀ c ∈ l, p c = true) → l.dropWhile p = []
  | [], _ => rfl
  | c :: l, h => by
    rw [List.dropWhile_cons, if_pos (h c (List.mem_cons_self ..))]
    exact drop_nil l (fun d hd => h d (List.mem_cons_of_mem _ hd))
theorem local_none {s : ByteArray} (hp : ∀ c ∈ s.data.toList, isSep c = false) : localT s.data.toList = none := by
  have e : s.data.toList.dropWhile (fun c => !isSep c) = [] := drop_nil _ (fun c hc => by rw [hp c hc]; rfl)
  unfold localT; rw [e]; rfl
theorem local_out (a b : Option Int) : Parsed (a.bind fun d => b.bind fun t => some (d * 86400000 + t)) ((outB (a.map (· * 86400000))).1 + (outB b).1) ((outB (a.map (· * 86400000))).2 && (outB b).2) := by
  cases a with
  | none => exact .inr ⟨rfl, rfl⟩
  | some x =>
    cases b with
    | none => exact .inr ⟨rfl, rfl⟩
    | some y => exact .inl ⟨rfl, rfl⟩
theorem ext_take (s : ByteArray) (k : Nat) : (s.extract 0 k).data.toList = s.data.toList.take k := by simp
theorem ext_drop (s : ByteArray) (k : Nat) : (s.extract k s.size).data.toList = s.data.toList.drop k := by
  have : (s.extract k s.size).data.toList = (s.data.toList.drop k).take (s.size - k) := by simp
  rw [this, List.take_of_length_le (by rw [drop_len]; omega)]
theorem sep_no {c : UInt8} (h : isSep c = false) : ((c.toNat : Int) == 84) = false ∧ ((c.toNat : Int) == 32) = false := by
  unfold isSep at h
  rw [Bool.or_eq_false_iff] at h
  have a : ¬ c = 84 := by simpa using h.1
  have b : ¬ c = 32 := by simpa using h.2
  refine ⟨beq_no (fun e => a (UInt8.toNat_inj.1 (show c.toNat = 84 by omega))), beq_no (fun e => b (UInt8.toNat_inj.1 (show c.toNat = 32 by omega)))⟩
theorem sep_yes {c : UInt8} (h : isSep c = true) : ((c.toNat : Int) == 84) = true ∨ (((c.toNat : Int) == 84) = false ∧ ((c.toNat : Int) == 32) = true) := by
  unfold isSep at h
  by_cases a : c = 84
  · subst a; exact .inl rfl
  · have b : c = 32 := by simpa [a] using h
    subst b; exact .inr ⟨rfl, rfl⟩

set_option maxHeartbeats 4000000 in
theorem parse_5 (s : ByteArray) (hs : s.size ≤ 100000) : ∃ n b, Parsed (momT 5 s.data.toList) n b ∧ ParseIs 5 s n b := by
  have E : momT 5 s.data.toList = localT s.data.toList := rfl
  rw [E]
  clear E
  have hY := fun w => year_any s w hs
  have HY := hide hY
  clear hY
  generalize yearP s = yp at *
  obtain ⟨y0, n0⟩ := yp
  by_cases hall : ∀ k (hk : k < s.size), isSep s[k] = false
  · have hp : ∀ c ∈ s.data.toList, isSep c = false := fun c hc => by
      obtain ⟨k, hk, e⟩ := List.getElem_of_mem hc
      have hk' : k < s.size := by simpa using hk
      have := hall k hk'
      have e2 : s[k] = s.data.toList[k] := by simp; rfl
      rw [e2, e] at this; exact this
    refine ⟨0, false, .inr ⟨rfl, local_none hp⟩, fun w => ?_⟩
    have HA := hide hall
    clear hall hp
    go_enter Tryz.func61, Tryz.ntmps61
    go_wp2_with fail
    refine (HY.out _).mono ?_
    rintro e u1 ⟨rfl, rfl⟩
    go_wp2_with fail
    go_loop [11] (fun a => ∃ k : Nat, a = .int .i64 k ∧ k ≤ s.size) (fun a => s.size - (intOf a).toNat)
    case atStart => exact ⟨0, rfl, by omega⟩
    case round =>
      obtain ⟨k, rfl, hk⟩ := hrel
      by_cases hlt : k < s.size
      · have ⟨a, b⟩ := sep_no (HA.out k hlt)
        go_wp2_with fail
        go_round
        case rel => exact ⟨k + 1, by go_num, by omega⟩
        case measure => simp [intOf]; omega
      · obtain rfl : k = s.size := by omega
        go_wp2_with fail
        go_ret2
        exact ⟨rfl, 0, rfl⟩
  · have hex : ∃ k, ∃ hk : k < s.size, isSep s[k] = true ∧ ∀ j (hj : j < k), isSep (s[j]'(by omega)) = false := by
      have : ∀ n : Nat, (∃ k, ∃ hk : k < s.size, k < n ∧ isSep s[k] = true ∧ ∀ j (hj : j < k), isSep (s[j]'(by omega)) = false) ∨ (∀ k (hk : k < s.size), k < n → isSep s[k] = false) := by
        intro n
        induction n with
        | zero => exact .inr (fun k _ h => by omega)
        | succ n ih =>
          rcases ih with ⟨k, hk, h1, h2, h3⟩ | ih
          · exact .inl ⟨k, hk, by omega, h2, h3⟩
          · by_cases hn : n < s.size
            · cases hc : isSep s[n] with
              | true => exact .inl ⟨n, hn, by omega, hc, fun j hj => ih j (by omega) hj⟩
              | false =>
                refine .inr (fun k hk h => ?_)
                rcases Nat.lt_or_ge k n with g | g
                · exact ih k hk g
                · obtain rfl : k = n := by omega
                  exact hc
            · exact .inr (fun k hk h => ih k hk (by omega))
      rcases this s.size with ⟨k, hk, _, h2, h3⟩ | h
      · exact ⟨k, hk, h2, h3⟩
      · exact absurd (fun k hk => h k hk hk) hall
    obtain ⟨i, hi, hc, hp⟩ := hex
    have hp' : ∀ c ∈ s.data.toList.take i, isSep c = false := fun c hc => by
      obtain ⟨j, hj, e⟩ := List.getElem_of_mem hc
      have hj2 : j < i := by rw [List.length_take] at hj; omega
      have := hp j hj2
      have e2 : s[j] = (s.data.toList.take i)[j] := by simp; rfl
      rw [e2, e] at this; exact this
    have hl := local_at hi hp' hc
    refine ⟨_, _, by rw [hl]; exact local_out _ _, fun w => ?_⟩
    have hz1 : (s.extract 0 i).size ≤ 100000 := by rw [ByteArray.size_extract]; omega
    have hz2 : (s.extract (i + 1) s.size).size ≤ 100000 := by rw [ByteArray.size_extract]; omega
    have hD := fun w => day_any (s.extract 0 i) w hz1
    have hC := fun w => clock_any (s.extract (i + 1) s.size) w hz2
    rw [ext_take] at hD
    rw [ext_drop] at hC
    obtain ⟨b1, b2⟩ := outB_date_bounds (s.data.toList.take i)
    obtain ⟨b3, b4⟩ := outB_clock_bounds (s.data.toList.drop (i + 1))
    generalize outB ((dateT (s.data.toList.take i)).map (· * 86400000)) = od at *
    generalize outB (clockT (s.data.toList.drop (i + 1))) = oc at *
    obtain ⟨d, f⟩ := od
    obtain ⟨t, g⟩ := oc
    simp only at hD hC b1 b2 b3 b4 ⊢
    have HD := hide hD
    have HC := hide hC
    have HP := hide hp
    have HS := hide hc
    clear hD hC hp hp' hc hl hall hz1 hz2
    go_enter Tryz.func61, Tryz.ntmps61
    go_wp2_with fail
    refine (HY.out _).mono ?_
    rintro e u1 ⟨rfl, rfl⟩
    go_wp2_with fail
    go_loop [11] (fun a => ∃ k : Nat, a = .int .i64 k ∧ k ≤ i) (fun a => s.size - (intOf a).toNat)
    case atStart => exact ⟨0, rfl, by omega⟩
    case round =>
      obtain ⟨k, rfl, hk⟩ := hrel
      by_cases hlt : k < i
      · have ⟨a, b⟩ := sep_no (HP.out k hlt)
        have hks : k < s.size := by omega
        go_wp2_with fail
        go_round
        case rel => exact ⟨k + 1, by go_num, by omega⟩
        case measure => simp [intOf]; omega
      · obtain rfl : k = i := by omega
        clear HP hlt hk
        rcases sep_yes HS.out with a | ⟨a, b⟩
        · cases f
          · go_wp2_with fail
            refine (HD.out _).mono ?_
            rintro e u2 ⟨rfl, q2, rfl⟩
            go_wp2_with fail
            refine (HC.out _).mono ?_
            rintro e u3 ⟨rfl, q3, rfl⟩
            go_wp2_with fail
            go_ret2
            exact ⟨rfl, _, rfl⟩
          · go_wp2_with fail
            refine (HD.out _).mono ?_
            rintro e u2 ⟨rfl, q2, rfl⟩
            go_wp2_with fail
            refine (HC.out _).mono ?_
            rintro e u3 ⟨rfl, q3, rfl⟩
            go_wp2_with fail
            go_ret2
            exact ⟨rfl, _, rfl⟩
        · cases f
          · go_wp2_with fail
            refine (HD.out _).mono ?_
            rintro e u2 ⟨rfl, q2, rfl⟩
            go_wp2_with fail
            refine (HC.out _).mono ?_
            rintro e u3 ⟨rfl, q3, rfl⟩
            go_wp2_with fail
            go_ret2
            exact ⟨rfl, _, rfl⟩
          · go_wp2_with fail
            refine (HD.out _).mono ?_
            rintro e u2 ⟨rfl, q2, rfl⟩
            go_wp2_with fail
            refine (HC.out _).mono ?_
            rintro e u3 ⟨rfl, q3, rfl⟩
            go_wp2_with fail
            go_ret2
            exact ⟨rfl, _, rfl⟩

theorem momParsed_any (kind : Int) (s : ByteArray) (h1 : 1 ≤ kind) (h2 : kind ≤ 5) (hs : s.size ≤ 100000) : ∃ n b, Parsed (momT kind s.data.toList) n b ∧ ParseIs kind s n b := by
  rcases (show kind = 1 ∨ kind = 2 ∨ kind = 3 ∨ kind = 4 ∨ kind = 5 by omega) with rfl | rfl | rfl | rfl | rfl
  · exact parse_1 s hs
  · exact parse_2 s hs
  · exact parse_3 s hs
  · exact parse_4 s hs
  · exact parse_5 s hs

set_option maxHeartbeats 1000000 in
theorem refMom_any (kind : Int) (s : ByteArray) (w : World) (hs : s.size ≤ 100000) :
    Calls Tryz.prog 35 #[.int .i64 kind, .string s] w fun e w' => e = .returned (.tuple #[.int .i64 (momV kind s.data.toList).1, .int .i64 (momV kind s.data.toList).2]) ∧ ∃ q, w' = w.drewN q := by
  rcases (show kind < 1 ∨ 5 < kind ∨ (1 ≤ kind ∧ kind ≤ 5) by omega) with h | h | ⟨h, h'⟩
  · have E : Hid (momV kind s.data.toList = (0, 3)) := if_neg (by omega)
    go_enter Tryz.func35, Tryz.ntmps35
    go_wp2_with fail
    go_ret2
    exact ⟨ret_pair E.out, 0, rfl⟩
  · have E : Hid (momV kind s.data.toList = (0, 3)) := if_neg (by omega)
    go_enter Tryz.func35, Tryz.ntmps35
    go_wp2_with fail
    go_ret2
    exact ⟨ret_pair E.out, 0, rfl⟩
  · obtain ⟨n, b, hP, hC⟩ := momParsed_any kind s h h' hs
    have e : momV kind s.data.toList = outM (momT kind s.data.toList) := if_pos ⟨h, h'⟩
    have HC := hide hC
    clear hC
    rcases hP with ⟨rfl, ho⟩ | ⟨rfl, ho⟩
    · have E : Hid (momV kind s.data.toList = (n, 0)) := by show _ = _; rw [e, ho]; rfl
      clear e ho
      go_enter Tryz.func35, Tryz.ntmps35
      go_wp2_with fail
      refine (HC.out _).mono ?_
      rintro e u2 ⟨rfl, q2, rfl⟩
      go_wp2_with fail
      go_ret2
      exact ⟨ret_pair E.out, _, rfl⟩
    · have E : Hid (momV kind s.data.toList = (0, 1)) := by show _ = _; rw [e, ho]; rfl
      clear e ho
      go_enter Tryz.func35, Tryz.ntmps35
      go_wp2_with fail
      refine (HC.out _).mono ?_
      rintro e u2 ⟨rfl, q2, rfl⟩
      go_wp2_with fail
      go_ret2
      exact ⟨ret_pair E.out, _, rfl⟩

end Go.Proofs.YtpkpkpiphgjbaaaGreatDoor

namespace Go.Proofs.YtpkpkpiphgjbaaaGreatDoor
open Go.RowKit

/-- A row of numbers behind a slice. -/
def IntsV (w : World) (v : Value) (ks : List Int) : Prop := ∃ p c, v = .slice p ks.length c ∧ (ks = [] ∨ ∃ b o, p = some ⟨b, o, none⟩ ∧ ∀ i (h : i < ks.length), w.cell? ⟨b, o + i, none⟩ = some (.int .i64 ks[i]))
/-- A row of attributes behind a slice. -/
def AttrsV (w : World) (v : Value) (ax : List (ByteArray × ByteArray)) : Prop := ∃ p c, v = .slice p ax.length c ∧ (ax = [] ∨ ∃ b o, p = some ⟨b, o, none⟩ ∧ ∀ i (h : i < ax.length), w.cell? ⟨b, o + i * 2, none⟩ = some (.string ax[i].1) ∧ w.cell? ⟨b, o + i * 2 + 1, none⟩ = some (.string ax[i].2))
/-- A slice is no longer than its room. -/
def CapOK (v : Value) : Prop := ∀ p n c, v = .slice p n c → n ≤ c
/-- A node's five cells. -/
structure NodeAt (w : World) (b o : Nat) (n : Nd) (va vk : Value) : Prop where
  name : w.cell? ⟨b, o, none⟩ = some (.string n.name)
  text : w.cell? ⟨b, o + 1, none⟩ = some (.string n.text)
  attrs : w.cell? ⟨b, o + 2, none⟩ = some va
  parent : w.cell? ⟨b, o + 3, none⟩ = some (.int .i64 n.parent)
  kids : w.cell? ⟨b, o + 4, none⟩ = some vk
  at_ : AttrsV w va n.attrs
  ks : IntsV w vk n.kids
  cap : CapOK va
/-- A document behind a slice. -/
def NodesV (w : World) (v : Value) (l : List Nd) : Prop := ∃ p c, v = .slice p l.length c ∧ (l = [] ∨ ∃ b o, p = some ⟨b, o, none⟩ ∧ ∀ i (h : i < l.length), ∃ va vk, NodeAt w b (o + i * 5) l[i] va vk)
theorem cell_below {w w' : World} {p : Addr} {x : Value} (h : w.cell? p = some x) (hb : Below w.heap.size w w') : w'.cell? p = some x := (hb.cell (World.block_lt_of_cell? _ _ h)).trans h
theorem IntsV.below {w w' : World} {v : Value} {ks : List Int} (h : IntsV w v ks) (hb : Below w.heap.size w w') : IntsV w' v ks := by
  obtain ⟨p, c, e, h⟩ := h
  refine ⟨p, c, e, ?_⟩
  rcases h with h | ⟨b, o, e2, h⟩
  · exact .inl h
  · exact .inr ⟨b, o, e2, fun i hi => cell_below (h i hi) hb⟩
theorem AttrsV.below {w w' : World} {v : Value} {ax : List (ByteArray × ByteArray)} (h : AttrsV w v ax) (hb : Below w.heap.size w w') : AttrsV w' v ax := by
  obtain ⟨p, c, e, h⟩ := h
  refine ⟨p, c, e, ?_⟩
  rcases h with h | ⟨b, o, e2, h⟩
  · exact .inl h
  · exact .inr ⟨b, o, e2, fun i hi => ⟨cell_below (h i hi).1 hb, cell_below (h i hi).2 hb⟩⟩
theorem NodeAt.below {w w' : World} {b o : Nat} {n : Nd} {va vk : Value} (h : NodeAt w b o n va vk) (hb : Below w.heap.size w w') : NodeAt w' b o n va vk :=
  ⟨cell_below h.name hb, cell_below h.text hb, cell_below h.attrs hb, cell_below h.parent hb, cell_below h.kids hb, h.at_.below hb, h.ks.below hb, h.cap⟩
theorem NodesV.below {w w' : World} {v : Value} {l : List Nd} (h : NodesV w v l) (hb : Below w.heap.size w w') : NodesV w' v l := by
  obtain ⟨p, c, e, h⟩ := h
  refine ⟨p, c, e, ?_⟩
  rcases h with h | ⟨b, o, e2, h⟩
  · exact .inl h
  · refine .inr ⟨b, o, e2, fun i hi => ?_⟩
    obtain ⟨va, vk, hn⟩ := h i hi
    exact ⟨va, vk, hn.below hb⟩

end Go.Proofs.YtpkpkpiphgjbaaaGreatDoor

namespace Go.Proofs.YtpkpkpiphgjbaaaGreatDoor
open Go.RowKit
set_option maxRecDepth 100000

theorem find_hit {ax : List (ByteArray × ByteArray)} {n : ByteArray} {k : Nat} (hk : k < ax.length) (h : ∀ j (_ : j < ax.length), j < k → ¬ ax[j].1 = n) (e : ax[k].1 = n) : findA ax n = some k := by
  unfold findA
  rw [List.findIdx?_eq_some_iff_getElem]
  exact ⟨hk, decide_eq_true e, fun j hj => by have := h j (by omega) hj; simpa using this⟩
theorem find_none {ax : List (ByteArray × ByteArray)} {n : ByteArray} (h : ∀ j (_ : j < ax.length), ¬ ax[j].1 = n) : findA ax n = none := by
  unfold findA
  rw [List.findIdx?_eq_none_iff]
  intro a ha
  obtain ⟨j, hj, rfl⟩ := List.getElem_of_mem ha
  simpa using h j hj
theorem txt_beq (a b : ByteArray) : (a.toList == b.toList) = decide (a = b) := by
  rw [Bool.eq_iff_iff, beq_iff_eq, decide_eq_true_eq, ByteArray.toList_eq, ByteArray.toList_eq]
  constructor
  · intro h
    apply ByteArray.ext
    exact Array.ext' h
  · intro h; rw [h]
set_option maxHeartbeats 2000000 in
theorem refFind_any (v : Value) (ax : List (ByteArray × ByteArray)) (n : ByteArray) (w : World) (hv : AttrsV w v ax) (hl : ax.length ≤ 4398046511104) :
    Calls Tryz.prog 29 #[v, .string n] w fun e w' => e = .returned (.int .i64 (findV (findA ax n))) ∧ w' = w := by
  obtain ⟨p, c, rfl, hk⟩ := hv
  have HIT := hide (fun k hk h e => find_hit (ax := ax) (n := n) (k := k) hk h e)
  have END := hide (fun h => find_none (ax := ax) (n := n) h)
  go_enter Tryz.func29, Tryz.ntmps29
  go_wp2_with fail
  go_loop [5] (fun iv => ∃ j : Nat, j ≤ ax.length ∧ iv = .int .i64 j ∧ Hid (∀ m (_ : m < ax.length), m < j → ¬ ax[m].1 = n)) (fun iv => ax.length - (intOf iv).toNat)
  case atStart => exact ⟨0, Nat.zero_le _, rfl, fun m _ h => by omega⟩
  case round =>
    obtain ⟨j, hj, rfl, hd⟩ := hrel
    by_cases h : j < ax.length
    · have i1 : (j : Int) < (ax.length : Int) := by omega
      rcases hk with hk | ⟨b, o, rfl, hk⟩
      · subst hk; simp at h
      have hc := (hk j h).1
      by_cases e : ax[j].1 = n
      · have E := hide (HIT.out j h hd.out e)
        have d : (ax[j].1.toList == n.toList) = true := by rw [txt_beq]; exact decide_eq_true e
        clear e hd HIT END hk
        generalize ax[j].1 = aj at *
        go_wp2_with fail
        go_ret
        exact ⟨by rw [E.out]; rfl, rfl⟩
      · have d : (ax[j].1.toList == n.toList) = false := by rw [txt_beq]; exact decide_eq_false e
        have hd' : Hid (∀ m (_ : m < ax.length), m < j + 1 → ¬ ax[m].1 = n) := by
          intro m hm hmj
          rcases Nat.lt_or_ge m j with q | q
          · exact hd.out m hm q
          · obtain rfl : m = j := by omega
            exact e
        clear e hd HIT END hk
        generalize ax[j].1 = aj at *
        go_wp2_with fail
        go_round
        case rel => exact ⟨j + 1, by omega, by go_num, hd'⟩
        case measure => simp [intOf]; omega
    · obtain rfl : j = ax.length := by omega
      have E := hide (END.out (fun m hm => hd.out m hm hm))
      clear hd HIT END hk
      go_wp2_with fail
      go_ret
      exact ⟨by rw [E.out]; rfl, rfl⟩
def isN (n : ByteArray) (x : ByteArray × ByteArray) : Bool := decide (x.1 = n)
/-- A function value that answers p of attributes, in every later world. -/
def PredA (g : Nat) (lb : Array Value) (p : ByteArray × ByteArray → Bool) (w : World) : Prop :=
  ∀ (W : World) (x : ByteArray × ByteArray), Below w.heap.size w W → Calls Tryz.prog g (#[.agg #[.string x.1, .string x.2]] ++ lb) W fun e w' => e = .returned (.bool (p x)) ∧ Below W.heap.size W w'
theorem PredA.later {g : Nat} {lb : Array Value} {p : ByteArray × ByteArray → Bool} {w w' : World} (h : PredA g lb p w) (hb : Below w.heap.size w w') : PredA g lb p w' := fun W x q => h W x (chain hb q)
theorem idx_hit {ax : List (ByteArray × ByteArray)} {p : ByteArray × ByteArray → Bool} {k : Nat} (h : k < ax.length) (hp : p ax[k] = true) (hd : ∀ j (hj : j < ax.length), j < k → p ax[j] = false) : ax.findIdx? p = some k := by
  rw [List.findIdx?_eq_some_iff_getElem]
  exact ⟨h, hp, fun j hj => by rw [hd j (by omega) hj]; decide⟩
theorem idx_miss {ax : List (ByteArray × ByteArray)} {p : ByteArray × ByteArray → Bool} (hd : ∀ j (hj : j < ax.length), p ax[j] = false) : ax.findIdx? p = none := by
  rw [List.findIdx?_eq_none_iff]
  intro x hx
  obtain ⟨j, hj, rfl⟩ := List.getElem_of_mem hx
  exact hd j hj
set_option maxHeartbeats 2000000 in
theorem indexFuncA_any (v : Value) (ax : List (ByteArray × ByteArray)) (p : ByteArray × ByteArray → Bool) (g : Nat) (lb : Array Value) (eg : ∀ args w, (callFunc g args).run Tryz.prog w = .ok (.enter g args) w) (w : World) (hv : AttrsV w v ax) (hp : PredA g lb p w) (hl : ax.length ≤ 4398046511104) :
    Calls Tryz.prog 110 #[v, .func (.func g) #[] lb] w fun e w' => e = .returned (.int .i64 (findV (ax.findIdx? p))) ∧ Below w.heap.size w w' := by
  obtain ⟨pp, c, rfl, hv⟩ := hv
  have HIT := hide (fun k h h1 h2 => idx_hit (ax := ax) (p := p) (k := k) h h1 h2)
  have MISS := hide (fun h => idx_miss (ax := ax) (p := p) h)
  generalize ax.findIdx? p = R at *
  have HP := hide hp
  clear hp
  go_enter Tryz.func110, Tryz.ntmps110
  go_wp2_with fail
  go_loopw [8] (fun iv wr => ∃ k : Nat, k ≤ ax.length ∧ iv = .int .i64 k ∧ Hid (∀ j (hj : j < ax.length), j < k → p ax[j] = false) ∧ Hid (Below w.heap.size w wr)) (fun iv _ => ax.length - (intOf iv).toNat)
  case atStart => exact ⟨0, Nat.zero_le _, rfl, fun j _ q => by omega, Below.refl _ _⟩
  case round =>
    rename World => wr
    obtain ⟨k, hk, rfl, hd, BW⟩ := hrel
    by_cases h : k < ax.length
    · have i1 : (k : Int) < (ax.length : Int) := by omega
      rcases hv with hv | ⟨b, o, rfl, hv⟩
      · rw [hv] at h; simp at h
      have c0 := cell_below (hv k h).1 BW.out
      have c1 := cell_below (hv k h).2 BW.out
      have HC := hide (HP.out wr ax[k] BW.out)
      have HK := hide (HIT.out k h)
      have ND := hide (fun q : p ax[k] = false => (fun j (hj : j < ax.length) (r : j < k + 1) => by
        rcases Nat.lt_or_ge j k with t | t
        · exact hd.out j hj t
        · obtain rfl : j = k := by omega
          exact q : ∀ j (hj : j < ax.length), j < k + 1 → p ax[j] = false))
      clear hv HP HIT MISS
      cases q : p ax[k] with
      | true =>
        have E := hide (HK.out q (fun j hj r => hd.out j hj r))
        rw [q] at HC
        clear HK ND q hd
        generalize ax[k].1 = x1 at *
        generalize ax[k].2 = x2 at *
        go_wp2_with fail
        refine HC.out.mono ?_
        rintro e w' ⟨rfl, hb'⟩
        go_wp2_with fail
        go_ret
        exact ⟨by rw [E.out]; rfl, chain BW.out hb'⟩
      | false =>
        have E := hide (ND.out q)
        rw [q] at HC
        clear HK ND q hd
        generalize ax[k].1 = x1 at *
        generalize ax[k].2 = x2 at *
        go_wp2_with fail
        refine HC.out.mono ?_
        rintro e w' ⟨rfl, hb'⟩
        go_wp2_with fail
        go_roundw
        case rel => exact ⟨k + 1, by omega, by go_num, E, chain BW.out hb'⟩
        case measure => simp [intOf]; omega
    · obtain rfl : k = ax.length := by omega
      have E := hide (MISS.out (fun j hj => hd.out j hj hj))
      clear HIT MISS hd hv HP h
      go_wp2_with fail
      go_ret
      exact ⟨by rw [E.out]; rfl, BW.out⟩

end Go.Proofs.YtpkpkpiphgjbaaaGreatDoor
