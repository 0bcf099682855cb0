/- Joined texts. DigWalks: The program's allDigits and wholePart, and the document's count, answer by the functions of 'Num' and 'NumProg'; the world is as it was. Condition: texts as long as every row has them; wholePart: texts of digits. RefParseAt: The document's way of reading a number's text, round by round: plain facts of no program. No condition. -/
import Derived.Test.YtpkpkpiphgjbaaaGreatDoorRows
import Derived.Test.YtpkpkpiphgjbaaaGreatDoorJcl2
import Derived.Test.YtpkpkpiphgjbaaaGreatDoorJcl6
namespace Go.Proofs.YtpkpkpiphgjbaaaGreatDoor
open Go.RowKit
set_option maxRecDepth 100000

theorem allD_take {s : ByteArray} {k : Nat} (hk : k < s.size) (h : allD (s.data.toList.take k) = true) (hd : isDg s[k] = true) : allD (s.data.toList.take (k + 1)) = true := by
  rw [byteAt_take s k hk, ← byteAt_eq s k hk]
  unfold allD at h ⊢
  rw [List.all_append, h]; simp [hd]
theorem allD_not {s : ByteArray} {k : Nat} (hk : k < s.size) (hd : isDg s[k] = false) : allD s.data.toList = false := by
  unfold allD
  rw [List.all_eq_false]
  refine ⟨s[k], ?_, by rw [hd]; decide⟩
  have : s[k] = s.data.toList[k]'(by simpa using hk) := by simp; rfl
  rw [this]; exact List.getElem_mem _
theorem take_size (s : ByteArray) : s.data.toList.take s.size = s.data.toList := List.take_of_length_le (by simp)

set_option maxHeartbeats 1000000 in
theorem allDigits_any (s : ByteArray) (w : World) (hs : s.size ≤ maxLen) :
    Calls Tryz.prog 150 #[.string s] w fun e w' => e = .returned (.bool (allD s.data.toList)) ∧ w' = w := by
  unfold maxLen at hs
  go_enter Tryz.func150, Tryz.ntmps150
  go_wp2_with fail
  go_loop [6] (fun i => ∃ k : Nat, k ≤ s.size ∧ i = .int .i64 k ∧ Hid (allD (s.data.toList.take k) = true)) (fun i => s.size - (intOf i).toNat)
  case atStart => exact ⟨0, Nat.zero_le _, rfl, rfl⟩
  case round =>
    obtain ⟨k, hk, rfl, hl⟩ := hrel
    by_cases hlt : k < s.size
    · have A1 := fun h => hide (allD_take hlt hl.out h)
      have A2 := fun h => hide (allD_not hlt h)
      have hI := isDg_iff s[k]
      have hN := isDg_not s[k]
      rcases (show (s[k].toNat : Int) < 48 ∨ (48 ≤ (s[k].toNat : Int) ∧ 57 < (s[k].toNat : Int)) ∨ (48 ≤ (s[k].toNat : Int) ∧ (s[k].toNat : Int) ≤ 57) by omega) with h1 | ⟨h1, h2⟩ | ⟨h1, h2⟩
      · have E := A2 (hN.2 (by omega))
        clear A1 A2 hI hN
        go_wp2_with fail
        go_ret
        exact ⟨ret_bool E.out.symm, rfl⟩
      · have E := A2 (hN.2 (by omega))
        clear A1 A2 hI hN
        go_wp2_with fail
        go_ret
        exact ⟨ret_bool E.out.symm, rfl⟩
      · have E := A1 (hI.2 (by omega))
        clear A1 A2 hI hN
        go_wp2_with fail
        go_round
        case rel => exact ⟨k + 1, by omega, by go_num, E⟩
        case measure => simp [intOf]; omega
    · obtain rfl : k = s.size := by omega
      rw [take_size] at hl
      go_wp2_with fail
      go_ret
      exact ⟨ret_bool hl.out.symm, rfl⟩

/-- Digits read so far, none beyond the bound; what is left to be read. -/
structure WholeAt (s : ByteArray) (k n : Nat) : Prop where
  le : n ≤ MW
  rest : wholeV 0 s.data.toList = wholeV n (s.data.toList.drop k)
theorem wholeAt_start (s : ByteArray) : WholeAt s 0 0 := ⟨by unfold MW; omega, rfl⟩
theorem drop_at {s : ByteArray} {k : Nat} (hk : k < s.size) : s.data.toList.drop k = s[k] :: s.data.toList.drop (k + 1) := by
  have : s[k] = s.data.toList[k]'(by simpa using hk) := by simp; rfl
  rw [this]; exact List.drop_eq_getElem_cons _
theorem wholeAt_stop {s : ByteArray} {k n : Nat} (h : WholeAt s k n) (hk : k < s.size) (hg : MW < 10 * n + dg s[k]) : wholeV 0 s.data.toList = 10 * n + dg s[k] := by
  rw [h.rest, drop_at hk]
  show (if _ then _ else _) = _
  rw [if_pos hg]
theorem wholeAt_next {s : ByteArray} {k n : Nat} (h : WholeAt s k n) (hk : k < s.size) (hg : ¬ MW < 10 * n + dg s[k]) : WholeAt s (k + 1) (10 * n + dg s[k]) := by
  refine ⟨by omega, ?_⟩
  rw [h.rest, drop_at hk]
  show (if _ then _ else _) = _
  rw [if_neg hg]
theorem wholeAt_end {s : ByteArray} {n : Nat} (h : WholeAt s s.size n) : wholeV 0 s.data.toList = n := by
  rw [h.rest, List.drop_of_length_le (by simp)]; rfl
theorem dg_nat {c : UInt8} (h : isDg c = true) : ((dg c : Nat) : Int) = (c.toNat : Int) - 48 := by
  have := (isDg_iff c).1 h
  unfold dg; omega
theorem mem_at {s : ByteArray} {k : Nat} (hk : k < s.size) : s[k] ∈ s.data.toList := by
  have : s[k] = s.data.toList[k]'(by simpa using hk) := by simp; rfl
  rw [this]; exact List.getElem_mem _

set_option maxHeartbeats 1000000 in
theorem wholePart_any (s : ByteArray) (w : World) (hs : s.size ≤ maxLen) (hd : ∀ c ∈ s.data.toList, isDg c = true) :
    Calls Tryz.prog 113 #[.string s] w fun e w' => e = .returned (.int .i64 (wholeV 0 s.data.toList : Nat)) ∧ w' = w := by
  unfold maxLen at hs
  go_enter Tryz.func113, Tryz.ntmps113
  go_wp2_with fail
  go_loop [3, 7] (fun v i => ∃ k n : Nat, k ≤ s.size ∧ i = .int .i64 k ∧ v = .int .i64 n ∧ WholeAt s k n) (fun _ i => s.size - (intOf i).toNat)
  case atStart => exact ⟨0, 0, Nat.zero_le _, rfl, rfl, wholeAt_start s⟩
  case round =>
    obtain ⟨k, n, hk, rfl, rfl, hl⟩ := hrel
    have hle := hl.le
    unfold MW at hle
    by_cases hlt : k < s.size
    · have hdk := hd _ (mem_at hlt)
      have ⟨d1, d2⟩ := (isDg_iff s[k]).1 hdk
      have hn := dg_nat hdk
      have A1 := wholeAt_stop hl hlt
      have A2 := wholeAt_next hl hlt
      unfold MW at A1 A2
      clear hd hl hdk
      by_cases hg : 1000000000000 < 10 * n + dg s[k]
      · have E := hide (A1 hg)
        have hg' : (1000000000000 : Int) < (n : Int) * 10 + ((s[k].toNat : Int) - 48) := by omega
        have HN := hide hn
        clear A1 A2 hg hn
        go_wp2_with fail
        go_ret
        exact ⟨ret_int (by rw [E.out]; have := HN.out; omega), rfl⟩
      · have E := hide (A2 hg)
        have hg' : (n : Int) * 10 + ((s[k].toNat : Int) - 48) ≤ 1000000000000 := by omega
        have HN := hide hn
        clear A1 A2 hg hn
        go_wp2_with fail
        go_round
        case rel => exact ⟨k + 1, 10 * n + dg s[k], by omega, by go_num, by have := HN.out; go_num, E.out⟩
        case measure => simp [intOf]; omega
    · obtain rfl : k = s.size := by omega
      have E := hide (wholeAt_end hl)
      clear hd hl
      go_wp2_with fail
      go_ret
      exact ⟨ret_int (by rw [E.out]), rfl⟩

set_option maxHeartbeats 1000000 in
theorem leftU_any (n s : Nat) (w : World) (h3 : 1 ≤ s) (_h2 : n ≤ 18446744073709551615) (h4 : s ≤ 18446744073709551615) :
    Calls Tryz.prog 163 #[.int .u64 n, .int .u64 s] w fun e w' => e = .returned (.int .u64 (n % s : Nat)) ∧ w' = w := by
  have hlt := Nat.mod_lt n (show 0 < s by omega)
  have hw : (n : Int).tmod (s : Int) = ((n % s : Nat) : Int) := rfl
  go_enter Tryz.func163, Tryz.ntmps163
  go_wp2_with fail
  go_ret
  exact ⟨ret_int (by simp), rfl⟩

/-- How many digits stand at a place. -/
def cntV (l : List UInt8) (at' : Nat) : Nat := ((l.drop at').takeWhile isDg).length
theorem cnt_stop {l : List UInt8} {a k : Nat} (h : ∀ j, j < k → ∃ c, l[a + j]? = some c ∧ isDg c = true) (h2 : ∀ c, l[a + k]? = some c → isDg c = false) : cntV l a = k := by
  unfold cntV
  induction k generalizing a with
  | zero =>
    cases g : l.drop a with
    | nil => rfl
    | cons c r =>
      have e : l[a]? = some c := by
        have := List.getElem?_drop (xs := l) (i := a) (j := 0)
        rw [g] at this; simpa using this.symm
      have := h2 c (by simpa using e)
      simp [this]
  | succ k ih =>
    obtain ⟨c, hc, hd⟩ := h 0 (by omega)
    rw [Nat.add_zero] at hc
    have ⟨hlt, he⟩ := List.getElem?_eq_some_iff.1 hc
    have := ih (a := a + 1) (fun j hj => by
      obtain ⟨d, h3, h4⟩ := h (j + 1) (by omega)
      exact ⟨d, by rw [show a + 1 + j = a + (j + 1) by omega]; exact h3, h4⟩) (fun d h3 => h2 d (by rw [show a + (k + 1) = a + 1 + k by omega]; exact h3))
    rw [List.drop_eq_getElem_cons hlt, he, List.takeWhile_cons, if_pos hd, List.length_cons, this]
theorem at_get {s : ByteArray} {k : Nat} (hk : k < s.size) : s.data.toList[k]? = some s[k] := by
  have : s[k] = s.data.toList[k]'(by simpa using hk) := by simp; rfl
  rw [this]; exact List.getElem?_eq_getElem _
/-- The first k bytes from a place on are digits. -/
def DigsAt (s : ByteArray) (a k : Nat) : Prop := ∀ j, j < k → ∃ c, s.data.toList[a + j]? = some c ∧ isDg c = true
theorem digsAt_next {s : ByteArray} {a k : Nat} (h : DigsAt s a k) (hk : a + k < s.size) (hd : isDg s[a + k] = true) : DigsAt s a (k + 1) := by
  intro j hj
  rcases Nat.lt_or_ge j k with g | g
  · exact h j g
  · obtain rfl : j = k := by omega
    exact ⟨_, at_get hk, hd⟩
theorem digsAt_stop {s : ByteArray} {a k : Nat} (h : DigsAt s a k) (hk : a + k < s.size) (hd : isDg s[a + k] = false) : cntV s.data.toList a = k :=
  cnt_stop h (fun c hc => by rw [at_get hk] at hc; cases hc; exact hd)
theorem digsAt_end {s : ByteArray} {a k : Nat} (h : DigsAt s a k) (hk : ¬ a + k < s.size) : cntV s.data.toList a = k :=
  cnt_stop h (fun c hc => by
    rw [List.getElem?_eq_none (by simp; omega)] at hc; cases hc)

set_option maxHeartbeats 1000000 in
theorem refCount_any (s : ByteArray) (a : Nat) (w : World) (hs : s.size ≤ maxLen) (ha : a ≤ s.size) :
    Calls Tryz.prog 60 #[.string s, .int .i64 a] w fun e w' => e = .returned (.int .i64 (cntV s.data.toList a : Nat)) ∧ w' = w := by
  unfold maxLen at hs
  go_enter Tryz.func60, Tryz.ntmps60
  go_wp2_with fail
  go_loop [5] (fun v => ∃ k : Nat, a + k ≤ s.size ∧ v = .int .i64 k ∧ DigsAt s a k) (fun i => s.size - (intOf i).toNat)
  case atStart => exact ⟨0, ha, rfl, fun j hj => absurd hj (Nat.not_lt_zero _)⟩
  case round =>
    obtain ⟨k, hk, rfl, hl⟩ := hrel
    by_cases hlt : a + k < s.size
    · have A1 := fun h => hide (digsAt_next hl hlt h)
      have A2 := fun h => hide (digsAt_stop hl hlt h)
      have hI := isDg_iff s[a + k]
      have hN := isDg_not s[a + k]
      have hz : ((a : Int) + (k : Int)).toNat = a + k := by omega
      rcases (show (s[a + k].toNat : Int) < 48 ∨ (48 ≤ (s[a + k].toNat : Int) ∧ 57 < (s[a + k].toNat : Int)) ∨ (48 ≤ (s[a + k].toNat : Int) ∧ (s[a + k].toNat : Int) ≤ 57) by omega) with h1 | ⟨h1, h2⟩ | ⟨h1, h2⟩
      · have E := A2 (hN.2 (by omega))
        clear A1 A2 hI hN
        go_wp2_with fail
        go_ret
        exact ⟨ret_int (by rw [E.out]), rfl⟩
      · have E := A2 (hN.2 (by omega))
        clear A1 A2 hI hN
        go_wp2_with fail
        go_ret
        exact ⟨ret_int (by rw [E.out]), rfl⟩
      · have E := A1 (hI.2 (by omega))
        clear A1 A2 hI hN
        go_wp2_with fail
        go_round
        case rel => exact ⟨k + 1, by omega, by go_num, E.out⟩
        case measure => simp [intOf]; omega
    · have E := hide (digsAt_end hl hlt)
      go_wp2_with fail
      go_ret
      exact ⟨ret_int (by rw [E.out]), rfl⟩

end Go.Proofs.YtpkpkpiphgjbaaaGreatDoor

namespace Go.Proofs.YtpkpkpiphgjbaaaGreatDoor
open Go.RowKit

theorem take_next {s : ByteArray} {a k : Nat} (h : a + k < s.size) : (s.data.toList.drop a).take (k + 1) = (s.data.toList.drop a).take k ++ [s[a + k]] := by
  have hl : k < (s.data.toList.drop a).length := by simp; omega
  rw [List.take_succ_eq_append_getElem hl]
  congr 2
  rw [List.getElem_drop]
  simp; rfl
theorem take_len {s : ByteArray} {a k : Nat} (h : a + k ≤ s.size) : ((s.data.toList.drop a).take k).length = k := by
  rw [List.length_take, List.length_drop]; simp; omega

/-- Behind k digits ahead of the point. -/
structure WhAt (s : ByteArray) (a k n : Nat) : Prop where
  is : n = wholeR 0 ((s.data.toList.drop a).take k)
  le : n ≤ 10 * MW + 9
theorem whAt_start (s : ByteArray) (a : Nat) : WhAt s a 0 0 := ⟨rfl, by unfold MW; omega⟩
theorem whAt_yes {s : ByteArray} {a k n : Nat} (h : WhAt s a k n) (hk : a + k < s.size) (hd : isDg s[a + k] = true) (hn : n ≤ MW) : WhAt s a (k + 1) (10 * n + dg s[a + k]) := by
  have := dg_lt hd
  refine ⟨?_, by omega⟩
  rw [take_next hk, wholeR_append, ← h.is]
  show _ = if n ≤ MW then 10 * n + dg s[a + k] else n
  rw [if_pos hn]
theorem whAt_no {s : ByteArray} {a k n : Nat} (h : WhAt s a k n) (hk : a + k < s.size) (hn : MW < n) : WhAt s a (k + 1) n := by
  refine ⟨?_, h.le⟩
  rw [take_next hk, wholeR_append, ← h.is]
  show _ = if n ≤ MW then 10 * n + dg s[a + k] else n
  rw [if_neg (by omega)]
theorem whAt_end {s : ByteArray} {a k n : Nat} {w : List UInt8} (h : WhAt s a k n) (hw : (s.data.toList.drop a).take k = w) : n = wholeV 0 w := by
  rw [h.is, hw]; exact wholeR_eq 0 w (by unfold MW; omega)

theorem fracOf_snoc : ∀ (p : Nat) (l : List UInt8) (c : UInt8), fracOf (p + 1) (l ++ [c]) = fracOf (p + 1) l + dg c * (10 ^ p / 10 ^ l.length)
  | p, [], c => by
    show dg c * 10 ^ p + fracOf p [] = 0 + dg c * (10 ^ p / 10 ^ 0)
    rw [fracOf_zeros, Nat.pow_zero, Nat.div_one]; omega
  | 0, b :: l, c => by
    show dg b * 10 ^ 0 + 0 = dg b * 10 ^ 0 + 0 + dg c * (10 ^ 0 / 10 ^ (l.length + 1))
    have : 10 ^ 0 / 10 ^ (l.length + 1) = 0 := Nat.div_eq_of_lt (Nat.one_lt_pow (by omega) (by decide))
    rw [this]; omega
  | p + 1, b :: l, c => by
    have ih := fracOf_snoc p l c
    show dg b * 10 ^ (p + 1) + fracOf (p + 1) (l ++ [c]) = dg b * 10 ^ (p + 1) + fracOf (p + 1) l + dg c * (10 ^ (p + 1) / 10 ^ (l.length + 1))
    have : 10 ^ (p + 1) / 10 ^ (l.length + 1) = 10 ^ p / 10 ^ l.length := by
      rw [Nat.pow_succ, Nat.pow_succ, Nat.mul_div_mul_right _ _ (by decide)]
    rw [ih, this]; omega

/-- Behind k digits behind the point. -/
structure PtAt (s : ByteArray) (p k n o u : Nat) : Prop where
  out : o = n * 1000000 + fracOf 6 ((s.data.toList.drop p).take k)
  unit : u = 100000 / 10 ^ k
  most : n = MW → someD ((s.data.toList.drop p).take k) = false
  six : someD (((s.data.toList.drop p).take k).drop 6) = false
  dgs : ∀ c ∈ (s.data.toList.drop p).take k, isDg c = true
theorem ptAt_start (s : ByteArray) (p n : Nat) : PtAt s p 0 n (n * 1000000) 100000 := ⟨by rw [List.take_zero, fracOf_zeros, Nat.add_zero], by simp, fun _ => rfl, rfl, fun c hc => by simp at hc⟩
theorem ptAt_next {s : ByteArray} {p k n o u : Nat} (h : PtAt s p k n o u) (hk : p + k < s.size) (hd : isDg s[p + k] = true) (hc : dg s[p + k] = 0 ∨ (n ≠ MW ∧ k < 6)) : PtAt s p (k + 1) n (o + dg s[p + k] * u) (u / 10) := by
  have hl := take_len (s := s) (a := p) (k := k) (by omega)
  refine ⟨?_, ?_, ?_, ?_, ?_⟩
  · have e : fracOf 6 ((s.data.toList.drop p).take k ++ [s[p + k]]) = fracOf 6 ((s.data.toList.drop p).take k) + dg s[p + k] * (10 ^ 5 / 10 ^ ((s.data.toList.drop p).take k).length) := fracOf_snoc 5 _ _
    have e5 : 10 ^ 5 = 100000 := by decide
    rw [hl, e5, ← h.unit] at e
    rw [take_next hk, e, h.out]
    omega
  · rw [h.unit, Nat.div_div_eq_div_mul, Nat.pow_succ]
  · intro e
    rw [take_next hk, someD_append, h.most e]
    have : dg s[p + k] = 0 := by
      rcases hc with x | x
      · exact x
      · exact absurd e x.1
    rw [(dg_zero hd).1 this]; rfl
  · rw [take_next hk]
    rcases Nat.lt_or_ge k 6 with g | g
    · rw [List.drop_of_length_le (by rw [List.length_append, hl]; simp; omega)]; rfl
    · have : dg s[p + k] = 0 := by
        rcases hc with x | x
        · exact x
        · omega
      rw [List.drop_append_of_le_length (by omega), someD_append, h.six, (dg_zero hd).1 this]; rfl
  · intro c hc'
    rw [take_next hk] at hc'
    rcases List.mem_append.1 hc' with x | x
    · exact h.dgs c x
    · rw [List.mem_singleton.1 x]; exact hd
theorem ptAt_less {s : ByteArray} {p k n o u : Nat} (h : PtAt s p k n o u) : o < n * 1000000 + 1000000 ∧ u ≤ 100000 := by
  have := fracOf_lt 6 _ h.dgs
  have e : 10 ^ 6 = 1000000 := by decide
  rw [e] at this
  refine ⟨by rw [h.out]; omega, ?_⟩
  rw [h.unit]; exact Nat.div_le_self _ _
theorem ptAt_bad {s : ByteArray} {p k : Nat} (hk : p + k < s.size) (hd : isDg s[p + k] = true) (h0 : dg s[p + k] ≠ 0) : someD (s.data.toList.drop p) = true ∧ (6 ≤ k → someD ((s.data.toList.drop p).drop 6) = true) := by
  have hne : s[p + k] ≠ 48 := fun e => h0 ((dg_zero hd).2 e)
  have hg : (s.data.toList.drop p)[k]? = some s[p + k] := by rw [List.getElem?_drop]; exact at_get hk
  constructor
  · unfold someD
    exact List.any_eq_true.2 ⟨_, List.mem_of_getElem? hg, by simpa using hne⟩
  · intro h6
    have : ((s.data.toList.drop p).drop 6)[k - 6]? = some s[p + k] := by
      rw [List.getElem?_drop, show 6 + (k - 6) = k by omega]; exact hg
    unfold someD
    exact List.any_eq_true.2 ⟨_, List.mem_of_getElem? this, by simpa using hne⟩
theorem num_most {neg : Bool} {w f : List UInt8} (h : wholeV 0 w = MW) (hs : someD f = true) (hf : ∀ c ∈ f, isDg c = true) : numV neg w f = (0, 2) := by
  cases g : someD (f.drop 6) with
  | true => exact num_bad (.inr (.inr g)) hf
  | false => exact num_bad (.inr (.inl ⟨h, (frac_some hf g).1 hs⟩)) hf
theorem num_end {neg : Bool} {s : ByteArray} {p k o u : Nat} {w f : List UInt8} (hw : wholeV 0 w ≤ MW) (h : PtAt s p k (wholeV 0 w) o u) (hf : (s.data.toList.drop p).take k = f) :
    numV neg w f = (if neg then -(o : Int) else (o : Int), 0) := by
  have hd := h.dgs
  have h6 := h.six
  have hm := h.most
  have ho := h.out
  rw [hf] at hd h6 hm ho
  rw [num_fine hw (fun x => by
    have := hm x.1
    rw [(frac_some hd h6).2 x.2] at this; cases this) h6 hd, ← ho]

/-- The parts of a text, by places. -/
theorem body_drop (l : List UInt8) : bodyV l = l.drop (if negV l then 1 else 0) := by
  unfold bodyV
  cases negV l with
  | true => rw [if_pos rfl, if_pos rfl, List.drop_one]
  | false => rw [if_neg (by decide), if_neg (by decide), List.drop_zero]
theorem takeWhile_take (l : List UInt8) : l.take (l.takeWhile isDg).length = l.takeWhile isDg := by
  have h : l = l.takeWhile isDg ++ l.dropWhile isDg := (List.takeWhile_append_dropWhile ..).symm
  have := congrArg (List.take (l.takeWhile isDg).length) h
  rw [List.take_left] at this; exact this
theorem takeWhile_drop (l : List UInt8) : l.drop (l.takeWhile isDg).length = l.dropWhile isDg := by
  have h : l = l.takeWhile isDg ++ l.dropWhile isDg := (List.takeWhile_append_dropWhile ..).symm
  have := congrArg (List.drop (l.takeWhile isDg).length) h
  rw [List.drop_left] at this; exact this
theorem cnt_digs {s : ByteArray} {a : Nat} : DigsAt s a (cntV s.data.toList a) := by
  intro j hj
  unfold cntV at hj
  refine ⟨((s.data.toList.drop a).takeWhile isDg)[j], ?_, ?_⟩
  · rw [← List.getElem?_drop]
    have h := takeWhile_take (s.data.toList.drop a)
    have e : (s.data.toList.drop a)[j]? = ((s.data.toList.drop a).take ((s.data.toList.drop a).takeWhile isDg).length)[j]? := by
      rw [List.getElem?_take, if_pos hj]
    rw [e, h]; exact List.getElem?_eq_getElem hj
  · have := List.all_takeWhile (p := isDg) (l := s.data.toList.drop a)
    exact List.all_eq_true.1 this _ (List.getElem_mem _)
theorem cnt_room {s : ByteArray} {a : Nat} (ha : a ≤ s.size) : a + cntV s.data.toList a ≤ s.size := by
  have h := congrArg List.length (takeWhile_take (s.data.toList.drop a))
  rw [List.length_take, List.length_drop] at h
  have e : s.data.toList.length = s.size := by simp
  unfold cntV; omega
theorem digs_is {s : ByteArray} {a n k : Nat} (h : DigsAt s a n) (hk : k < n) (hs : a + k < s.size) : isDg s[a + k] = true := by
  obtain ⟨c, h1, h2⟩ := h k hk
  rw [at_get hs] at h1
  cases h1; exact h2

end Go.Proofs.YtpkpkpiphgjbaaaGreatDoor
