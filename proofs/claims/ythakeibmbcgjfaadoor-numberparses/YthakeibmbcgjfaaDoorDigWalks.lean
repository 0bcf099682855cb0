/- The program's allDigits and wholePart, and the document's count, answer by the functions of 'Num' and 'NumProg'; the world is as it was. Condition: texts as long as every row has them; wholePart: texts of digits. -/
import Derived.Test.YthakeibmbcgjfaaDoorRows
import Derived.Test.YthakeibmbcgjfaaDoorLow
import Derived.Test.YthakeibmbcgjfaaDoorNumProg
namespace Go.Proofs.YthakeibmbcgjfaaDoor
open Go.RowKit

theorem allD_take {s : ByteArray} {k : Nat} (hk : k < s.size) (h : allD (s.data.toList.take k) = true) (hd : isDg s[k] = true) : allD (s.data.toList.take (k + 1)) = true := by
  rw [byteAt_take s k hk, ← byteAt_eq s k hk]
  unfold allD at h ⊢
  rw [List.all_append, h]; simp [hd]
theorem allD_not {s : ByteArray} {k : Nat} (hk : k < s.size) (hd : isDg s[k] = false) : allD s.data.toList = false := by
  unfold allD
  rw [List.all_eq_false]
  refine ⟨s[k], ?_, by rw [hd]; decide⟩
  have : s[k] = s.data.toList[k]'(by simpa using hk) := by simp; rfl
  rw [this]; exact List.getElem_mem _
theorem take_size (s : ByteArray) : s.data.toList.take s.size = s.data.toList := List.take_of_length_le (by simp)

set_option maxHeartbeats 1000000 in
theorem allDigits_any (s : ByteArray) (w : World) (hs : s.size ≤ maxLen) :
    Calls Tryd.prog 25 #[.string s] w fun e w' => e = .returned (.bool (allD s.data.toList)) ∧ w' = w := by
  unfold maxLen at hs
  go_enter Tryd.func25, Tryd.ntmps25
  go_wp2_with fail
  go_loop [6] (fun i => ∃ k : Nat, k ≤ s.size ∧ i = .int .i64 k ∧ Hid (allD (s.data.toList.take k) = true)) (fun i => s.size - (intOf i).toNat)
  case atStart => exact ⟨0, Nat.zero_le _, rfl, rfl⟩
  case round =>
    obtain ⟨k, hk, rfl, hl⟩ := hrel
    by_cases hlt : k < s.size
    · have A1 := fun h => hide (allD_take hlt hl.out h)
      have A2 := fun h => hide (allD_not hlt h)
      have hI := isDg_iff s[k]
      have hN := isDg_not s[k]
      rcases (show (s[k].toNat : Int) < 48 ∨ (48 ≤ (s[k].toNat : Int) ∧ 57 < (s[k].toNat : Int)) ∨ (48 ≤ (s[k].toNat : Int) ∧ (s[k].toNat : Int) ≤ 57) by omega) with h1 | ⟨h1, h2⟩ | ⟨h1, h2⟩
      · have E := A2 (hN.2 (by omega))
        clear A1 A2 hI hN
        go_wp2_with fail
        go_ret
        exact ⟨ret_bool E.out.symm, rfl⟩
      · have E := A2 (hN.2 (by omega))
        clear A1 A2 hI hN
        go_wp2_with fail
        go_ret
        exact ⟨ret_bool E.out.symm, rfl⟩
      · have E := A1 (hI.2 (by omega))
        clear A1 A2 hI hN
        go_wp2_with fail
        go_round
        case rel => exact ⟨k + 1, by omega, by go_num, E⟩
        case measure => simp [intOf]; omega
    · obtain rfl : k = s.size := by omega
      rw [take_size] at hl
      go_wp2_with fail
      go_ret
      exact ⟨ret_bool hl.out.symm, rfl⟩

/-- Digits read so far, none beyond the bound; what is left to be read. -/
structure WholeAt (s : ByteArray) (k n : Nat) : Prop where
  le : n ≤ MW
  rest : wholeV 0 s.data.toList = wholeV n (s.data.toList.drop k)
theorem wholeAt_start (s : ByteArray) : WholeAt s 0 0 := ⟨by unfold MW; omega, rfl⟩
theorem drop_at {s : ByteArray} {k : Nat} (hk : k < s.size) : s.data.toList.drop k = s[k] :: s.data.toList.drop (k + 1) := by
  have : s[k] = s.data.toList[k]'(by simpa using hk) := by simp; rfl
  rw [this]; exact List.drop_eq_getElem_cons _
theorem wholeAt_stop {s : ByteArray} {k n : Nat} (h : WholeAt s k n) (hk : k < s.size) (hg : MW < 10 * n + dg s[k]) : wholeV 0 s.data.toList = 10 * n + dg s[k] := by
  rw [h.rest, drop_at hk]
  show (if _ then _ else _) = _
  rw [if_pos hg]
theorem wholeAt_next {s : ByteArray} {k n : Nat} (h : WholeAt s k n) (hk : k < s.size) (hg : ¬ MW < 10 * n + dg s[k]) : WholeAt s (k + 1) (10 * n + dg s[k]) := by
  refine ⟨by omega, ?_⟩
  rw [h.rest, drop_at hk]
  show (if _ then _ else _) = _
  rw [if_neg hg]
theorem wholeAt_end {s : ByteArray} {n : Nat} (h : WholeAt s s.size n) : wholeV 0 s.data.toList = n := by
  rw [h.rest, List.drop_of_length_le (by simp)]; rfl
theorem dg_nat {c : UInt8} (h : isDg c = true) : ((dg c : Nat) : Int) = (c.toNat : Int) - 48 := by
  have := (isDg_iff c).1 h
  unfold dg; omega
theorem mem_at {s : ByteArray} {k : Nat} (hk : k < s.size) : s[k] ∈ s.data.toList := by
  have : s[k] = s.data.toList[k]'(by simpa using hk) := by simp; rfl
  rw [this]; exact List.getElem_mem _

set_option maxHeartbeats 1000000 in
theorem wholePart_any (s : ByteArray) (w : World) (hs : s.size ≤ maxLen) (hd : ∀ c ∈ s.data.toList, isDg c = true) :
    Calls Tryd.prog 13 #[.string s] w fun e w' => e = .returned (.int .i64 (wholeV 0 s.data.toList : Nat)) ∧ w' = w := by
  unfold maxLen at hs
  go_enter Tryd.func13, Tryd.ntmps13
  go_wp2_with fail
  go_loop [3, 7] (fun v i => ∃ k n : Nat, k ≤ s.size ∧ i = .int .i64 k ∧ v = .int .i64 n ∧ WholeAt s k n) (fun _ i => s.size - (intOf i).toNat)
  case atStart => exact ⟨0, 0, Nat.zero_le _, rfl, rfl, wholeAt_start s⟩
  case round =>
    obtain ⟨k, n, hk, rfl, rfl, hl⟩ := hrel
    have hle := hl.le
    unfold MW at hle
    by_cases hlt : k < s.size
    · have hdk := hd _ (mem_at hlt)
      have ⟨d1, d2⟩ := (isDg_iff s[k]).1 hdk
      have hn := dg_nat hdk
      have A1 := wholeAt_stop hl hlt
      have A2 := wholeAt_next hl hlt
      unfold MW at A1 A2
      clear hd hl hdk
      by_cases hg : 1000000000000 < 10 * n + dg s[k]
      · have E := hide (A1 hg)
        have hg' : (1000000000000 : Int) < (n : Int) * 10 + ((s[k].toNat : Int) - 48) := by omega
        have HN := hide hn
        clear A1 A2 hg hn
        go_wp2_with fail
        go_ret
        exact ⟨ret_int (by rw [E.out]; have := HN.out; omega), rfl⟩
      · have E := hide (A2 hg)
        have hg' : (n : Int) * 10 + ((s[k].toNat : Int) - 48) ≤ 1000000000000 := by omega
        have HN := hide hn
        clear A1 A2 hg hn
        go_wp2_with fail
        go_round
        case rel => exact ⟨k + 1, 10 * n + dg s[k], by omega, by go_num, by have := HN.out; go_num, E.out⟩
        case measure => simp [intOf]; omega
    · obtain rfl : k = s.size := by omega
      have E := hide (wholeAt_end hl)
      clear hd hl
      go_wp2_with fail
      go_ret
      exact ⟨ret_int (by rw [E.out]), rfl⟩

set_option maxHeartbeats 1000000 in
theorem leftU_any (n s : Nat) (w : World) (h3 : 1 ≤ s) (_h2 : n ≤ 18446744073709551615) (h4 : s ≤ 18446744073709551615) :
    Calls Tryd.prog 19 #[.int .u64 n, .int .u64 s] w fun e w' => e = .returned (.int .u64 (n % s : Nat)) ∧ w' = w := by
  have hlt := Nat.mod_lt n (show 0 < s by omega)
  have hw : (n : Int).tmod (s : Int) = ((n % s : Nat) : Int) := rfl
  go_enter Tryd.func19, Tryd.ntmps19
  go_wp2_with fail
  go_ret
  exact ⟨ret_int (by simp), rfl⟩

/-- How many digits stand at a place. -/
def cntV (l : List UInt8) (at' : Nat) : Nat := ((l.drop at').takeWhile isDg).length
theorem cnt_stop {l : List UInt8} {a k : Nat} (h : ∀ j, j < k → ∃ c, l[a + j]? = some c ∧ isDg c = true) (h2 : ∀ c, l[a + k]? = some c → isDg c = false) : cntV l a = k := by
  unfold cntV
  induction k generalizing a with
  | zero =>
    cases g : l.drop a with
    | nil => rfl
    | cons c r =>
      have e : l[a]? = some c := by
        have := List.getElem?_drop (xs := l) (i := a) (j := 0)
        rw [g] at this; simpa using this.symm
      have := h2 c (by simpa using e)
      simp [this]
  | succ k ih =>
    obtain ⟨c, hc, hd⟩ := h 0 (by omega)
    rw [Nat.add_zero] at hc
    have ⟨hlt, he⟩ := List.getElem?_eq_some_iff.1 hc
    have := ih (a := a + 1) (fun j hj => by
      obtain ⟨d, h3, h4⟩ := h (j + 1) (by omega)
      exact ⟨d, by rw [show a + 1 + j = a + (j + 1) by omega]; exact h3, h4⟩) (fun d h3 => h2 d (by rw [show a + (k + 1) = a + 1 + k by omega]; exact h3))
    rw [List.drop_eq_getElem_cons hlt, he, List.takeWhile_cons, if_pos hd, List.length_cons, this]
theorem at_get {s : ByteArray} {k : Nat} (hk : k < s.size) : s.data.toList[k]? = some s[k] := by
  have : s[k] = s.data.toList[k]'(by simpa using hk) := by simp; rfl
  rw [this]; exact List.getElem?_eq_getElem _
/-- The first k bytes from a place on are digits. -/
def DigsAt (s : ByteArray) (a k : Nat) : Prop := ∀ j, j < k → ∃ c, s.data.toList[a + j]? = some c ∧ isDg c = true
theorem digsAt_next {s : ByteArray} {a k : Nat} (h : DigsAt s a k) (hk : a + k < s.size) (hd : isDg s[a + k] = true) : DigsAt s a (k + 1) := by
  intro j hj
  rcases Nat.lt_or_ge j k with g | g
  · exact h j g
  · obtain rfl : j = k := by omega
    exact ⟨_, at_get hk, hd⟩
theorem digsAt_stop {s : ByteArray} {a k : Nat} (h : DigsAt s a k) (hk : a + k < s.size) (hd : isDg s[a + k] = false) : cntV s.data.toList a = k :=
  cnt_stop h (fun c hc => by rw [at_get hk] at hc; cases hc; exact hd)
theorem digsAt_end {s : ByteArray} {a k : Nat} (h : DigsAt s a k) (hk : ¬ a + k < s.size) : cntV s.data.toList a = k :=
  cnt_stop h (fun c hc => by
    rw [List.getElem?_eq_none (by simp; omega)] at hc; cases hc)

set_option maxHeartbeats 1000000 in
theorem refCount_any (s : ByteArray) (a : Nat) (w : World) (hs : s.size ≤ maxLen) (ha : a ≤ s.size) :
    Calls Tryd.prog 15 #[.string s, .int .i64 a] w fun e w' => e = .returned (.int .i64 (cntV s.data.toList a : Nat)) ∧ w' = w := by
  unfold maxLen at hs
  go_enter Tryd.func15, Tryd.ntmps15
  go_wp2_with fail
  go_loop [5] (fun v => ∃ k : Nat, a + k ≤ s.size ∧ v = .int .i64 k ∧ DigsAt s a k) (fun i => s.size - (intOf i).toNat)
  case atStart => exact ⟨0, ha, rfl, fun j hj => absurd hj (Nat.not_lt_zero _)⟩
  case round =>
    obtain ⟨k, hk, rfl, hl⟩ := hrel
    by_cases hlt : a + k < s.size
    · have A1 := fun h => hide (digsAt_next hl hlt h)
      have A2 := fun h => hide (digsAt_stop hl hlt h)
      have hI := isDg_iff s[a + k]
      have hN := isDg_not s[a + k]
      have hz : ((a : Int) + (k : Int)).toNat = a + k := by omega
      rcases (show (s[a + k].toNat : Int) < 48 ∨ (48 ≤ (s[a + k].toNat : Int) ∧ 57 < (s[a + k].toNat : Int)) ∨ (48 ≤ (s[a + k].toNat : Int) ∧ (s[a + k].toNat : Int) ≤ 57) by omega) with h1 | ⟨h1, h2⟩ | ⟨h1, h2⟩
      · have E := A2 (hN.2 (by omega))
        clear A1 A2 hI hN
        go_wp2_with fail
        go_ret
        exact ⟨ret_int (by rw [E.out]), rfl⟩
      · have E := A2 (hN.2 (by omega))
        clear A1 A2 hI hN
        go_wp2_with fail
        go_ret
        exact ⟨ret_int (by rw [E.out]), rfl⟩
      · have E := A1 (hI.2 (by omega))
        clear A1 A2 hI hN
        go_wp2_with fail
        go_round
        case rel => exact ⟨k + 1, by omega, by go_num, E.out⟩
        case measure => simp [intOf]; omega
    · have E := hide (digsAt_end hl hlt)
      go_wp2_with fail
      go_ret
      exact ⟨ret_int (by rw [E.out]), rfl⟩

end Go.Proofs.YthakeibmbcgjfaaDoor
