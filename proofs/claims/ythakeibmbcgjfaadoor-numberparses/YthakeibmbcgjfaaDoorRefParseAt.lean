/- The document's way of reading a number's text, round by round: plain facts of no program. No condition. -/
import Derived.Test.YthakeibmbcgjfaaDoorDigWalks
namespace Go.Proofs.YthakeibmbcgjfaaDoor
open Go.RowKit

theorem take_next {s : ByteArray} {a k : Nat} (h : a + k < s.size) : (s.data.toList.drop a).take (k + 1) = (s.data.toList.drop a).take k ++ [s[a + k]] := by
  have hl : k < (s.data.toList.drop a).length := by simp; omega
  rw [List.take_succ_eq_append_getElem hl]
  congr 2
  rw [List.getElem_drop]
  simp; rfl
theorem take_len {s : ByteArray} {a k : Nat} (h : a + k ≤ s.size) : ((s.data.toList.drop a).take k).length = k := by
  rw [List.length_take, List.length_drop]; simp; omega

/-- Behind k digits ahead of the point. -/
structure WhAt (s : ByteArray) (a k n : Nat) : Prop where
  is : n = wholeR 0 ((s.data.toList.drop a).take k)
  le : n ≤ 10 * MW + 9
theorem whAt_start (s : ByteArray) (a : Nat) : WhAt s a 0 0 := ⟨rfl, by unfold MW; omega⟩
theorem whAt_yes {s : ByteArray} {a k n : Nat} (h : WhAt s a k n) (hk : a + k < s.size) (hd : isDg s[a + k] = true) (hn : n ≤ MW) : WhAt s a (k + 1) (10 * n + dg s[a + k]) := by
  have := dg_lt hd
  refine ⟨?_, by omega⟩
  rw [take_next hk, wholeR_append, ← h.is]
  show _ = if n ≤ MW then 10 * n + dg s[a + k] else n
  rw [if_pos hn]
theorem whAt_no {s : ByteArray} {a k n : Nat} (h : WhAt s a k n) (hk : a + k < s.size) (hn : MW < n) : WhAt s a (k + 1) n := by
  refine ⟨?_, h.le⟩
  rw [take_next hk, wholeR_append, ← h.is]
  show _ = if n ≤ MW then 10 * n + dg s[a + k] else n
  rw [if_neg (by omega)]
theorem whAt_end {s : ByteArray} {a k n : Nat} {w : List UInt8} (h : WhAt s a k n) (hw : (s.data.toList.drop a).take k = w) : n = wholeV 0 w := by
  rw [h.is, hw]; exact wholeR_eq 0 w (by unfold MW; omega)

theorem fracOf_snoc : ∀ (p : Nat) (l : List UInt8) (c : UInt8), fracOf (p + 1) (l ++ [c]) = fracOf (p + 1) l + dg c * (10 ^ p / 10 ^ l.length)
  | p, [], c => by
    show dg c * 10 ^ p + fracOf p [] = 0 + dg c * (10 ^ p / 10 ^ 0)
    rw [fracOf_zeros, Nat.pow_zero, Nat.div_one]; omega
  | 0, b :: l, c => by
    show dg b * 10 ^ 0 + 0 = dg b * 10 ^ 0 + 0 + dg c * (10 ^ 0 / 10 ^ (l.length + 1))
    have : 10 ^ 0 / 10 ^ (l.length + 1) = 0 := Nat.div_eq_of_lt (Nat.one_lt_pow (by omega) (by decide))
    rw [this]; omega
  | p + 1, b :: l, c => by
    have ih := fracOf_snoc p l c
    show dg b * 10 ^ (p + 1) + fracOf (p + 1) (l ++ [c]) = dg b * 10 ^ (p + 1) + fracOf (p + 1) l + dg c * (10 ^ (p + 1) / 10 ^ (l.length + 1))
    have : 10 ^ (p + 1) / 10 ^ (l.length + 1) = 10 ^ p / 10 ^ l.length := by
      rw [Nat.pow_succ, Nat.pow_succ, Nat.mul_div_mul_right _ _ (by decide)]
    rw [ih, this]; omega

/-- Behind k digits behind the point. -/
structure PtAt (s : ByteArray) (p k n o u : Nat) : Prop where
  out : o = n * 1000000 + fracOf 6 ((s.data.toList.drop p).take k)
  unit : u = 100000 / 10 ^ k
  most : n = MW → someD ((s.data.toList.drop p).take k) = false
  six : someD (((s.data.toList.drop p).take k).drop 6) = false
  dgs : ∀ c ∈ (s.data.toList.drop p).take k, isDg c = true
theorem ptAt_start (s : ByteArray) (p n : Nat) : PtAt s p 0 n (n * 1000000) 100000 := ⟨by rw [List.take_zero, fracOf_zeros, Nat.add_zero], by simp, fun _ => rfl, rfl, fun c hc => by simp at hc⟩
theorem ptAt_next {s : ByteArray} {p k n o u : Nat} (h : PtAt s p k n o u) (hk : p + k < s.size) (hd : isDg s[p + k] = true) (hc : dg s[p + k] = 0 ∨ (n ≠ MW ∧ k < 6)) : PtAt s p (k + 1) n (o + dg s[p + k] * u) (u / 10) := by
  have hl := take_len (s := s) (a := p) (k := k) (by omega)
  refine ⟨?_, ?_, ?_, ?_, ?_⟩
  · have e : fracOf 6 ((s.data.toList.drop p).take k ++ [s[p + k]]) = fracOf 6 ((s.data.toList.drop p).take k) + dg s[p + k] * (10 ^ 5 / 10 ^ ((s.data.toList.drop p).take k).length) := fracOf_snoc 5 _ _
    have e5 : 10 ^ 5 = 100000 := by decide
    rw [hl, e5, ← h.unit] at e
    rw [take_next hk, e, h.out]
    omega
  · rw [h.unit, Nat.div_div_eq_div_mul, Nat.pow_succ]
  · intro e
    rw [take_next hk, someD_append, h.most e]
    have : dg s[p + k] = 0 := by
      rcases hc with x | x
      · exact x
      · exact absurd e x.1
    rw [(dg_zero hd).1 this]; rfl
  · rw [take_next hk]
    rcases Nat.lt_or_ge k 6 with g | g
    · rw [List.drop_of_length_le (by rw [List.length_append, hl]; simp; omega)]; rfl
    · have : dg s[p + k] = 0 := by
        rcases hc with x | x
        · exact x
        · omega
      rw [List.drop_append_of_le_length (by omega), someD_append, h.six, (dg_zero hd).1 this]; rfl
  · intro c hc'
    rw [take_next hk] at hc'
    rcases List.mem_append.1 hc' with x | x
    · exact h.dgs c x
    · rw [List.mem_singleton.1 x]; exact hd
theorem ptAt_less {s : ByteArray} {p k n o u : Nat} (h : PtAt s p k n o u) : o < n * 1000000 + 1000000 ∧ u ≤ 100000 := by
  have := fracOf_lt 6 _ h.dgs
  have e : 10 ^ 6 = 1000000 := by decide
  rw [e] at this
  refine ⟨by rw [h.out]; omega, ?_⟩
  rw [h.unit]; exact Nat.div_le_self _ _
theorem ptAt_bad {s : ByteArray} {p k : Nat} (hk : p + k < s.size) (hd : isDg s[p + k] = true) (h0 : dg s[p + k] ≠ 0) : someD (s.data.toList.drop p) = true ∧ (6 ≤ k → someD ((s.data.toList.drop p).drop 6) = true) := by
  have hne : s[p + k] ≠ 48 := fun e => h0 ((dg_zero hd).2 e)
  have hg : (s.data.toList.drop p)[k]? = some s[p + k] := by rw [List.getElem?_drop]; exact at_get hk
  constructor
  · unfold someD
    exact List.any_eq_true.2 ⟨_, List.mem_of_getElem? hg, by simpa using hne⟩
  · intro h6
    have : ((s.data.toList.drop p).drop 6)[k - 6]? = some s[p + k] := by
      rw [List.getElem?_drop, show 6 + (k - 6) = k by omega]; exact hg
    unfold someD
    exact List.any_eq_true.2 ⟨_, List.mem_of_getElem? this, by simpa using hne⟩
theorem num_most {neg : Bool} {w f : List UInt8} (h : wholeV 0 w = MW) (hs : someD f = true) (hf : ∀ c ∈ f, isDg c = true) : numV neg w f = (0, 2) := by
  cases g : someD (f.drop 6) with
  | true => exact num_bad (.inr (.inr g)) hf
  | false => exact num_bad (.inr (.inl ⟨h, (frac_some hf g).1 hs⟩)) hf
theorem num_end {neg : Bool} {s : ByteArray} {p k o u : Nat} {w f : List UInt8} (hw : wholeV 0 w ≤ MW) (h : PtAt s p k (wholeV 0 w) o u) (hf : (s.data.toList.drop p).take k = f) :
    numV neg w f = (if neg then -(o : Int) else (o : Int), 0) := by
  have hd := h.dgs
  have h6 := h.six
  have hm := h.most
  have ho := h.out
  rw [hf] at hd h6 hm ho
  rw [num_fine hw (fun x => by
    have := hm x.1
    rw [(frac_some hd h6).2 x.2] at this; cases this) h6 hd, ← ho]

/-- The parts of a text, by places. -/
theorem body_drop (l : List UInt8) : bodyV l = l.drop (if negV l then 1 else 0) := by
  unfold bodyV
  cases negV l with
  | true => rw [if_pos rfl, if_pos rfl, List.drop_one]
  | false => rw [if_neg (by decide), if_neg (by decide), List.drop_zero]
theorem takeWhile_take (l : List UInt8) : l.take (l.takeWhile isDg).length = l.takeWhile isDg := by
  have h : l = l.takeWhile isDg ++ l.dropWhile isDg := (List.takeWhile_append_dropWhile ..).symm
  have := congrArg (List.take (l.takeWhile isDg).length) h
  rw [List.take_left] at this; exact this
theorem takeWhile_drop (l : List UInt8) : l.drop (l.takeWhile isDg).length = l.dropWhile isDg := by
  have h : l = l.takeWhile isDg ++ l.dropWhile isDg := (List.takeWhile_append_dropWhile ..).symm
  have := congrArg (List.drop (l.takeWhile isDg).length) h
  rw [List.drop_left] at this; exact this
theorem cnt_digs {s : ByteArray} {a : Nat} : DigsAt s a (cntV s.data.toList a) := by
  intro j hj
  unfold cntV at hj
  refine ⟨((s.data.toList.drop a).takeWhile isDg)[j], ?_, ?_⟩
  · rw [← List.getElem?_drop]
    have h := takeWhile_take (s.data.toList.drop a)
    have e : (s.data.toList.drop a)[j]? = ((s.data.toList.drop a).take ((s.data.toList.drop a).takeWhile isDg).length)[j]? := by
      rw [List.getElem?_take, if_pos hj]
    rw [e, h]; exact List.getElem?_eq_getElem hj
  · have := List.all_takeWhile (p := isDg) (l := s.data.toList.drop a)
    exact List.all_eq_true.1 this _ (List.getElem_mem _)
theorem cnt_room {s : ByteArray} {a : Nat} (ha : a ≤ s.size) : a + cntV s.data.toList a ≤ s.size := by
  have h := congrArg List.length (takeWhile_take (s.data.toList.drop a))
  rw [List.length_take, List.length_drop] at h
  have e : s.data.toList.length = s.size := by simp
  unfold cntV; omega
theorem digs_is {s : ByteArray} {a n k : Nat} (h : DigsAt s a n) (hk : k < n) (hs : a + k < s.size) : isDg s[a + k] = true := by
  obtain ⟨c, h1, h2⟩ := h k hk
  rw [at_get hs] at h1
  cases h1; exact h2

end Go.Proofs.YthakeibmbcgjfaaDoor
