/- Small letters of texts, as lists of bytes. Numbers as texts, exact to six places, as lists of bytes. Moments as texts, as lists of bytes. Which text a number has, of each kind, there and back. Bounds and steps of values that are numbers, as functions of kinds, attributes and texts. A range's value, cleaned. Blanks at the ends of texts, as lists of bytes. Addresses of mail as lists of bytes. Simple colours as lists of bytes. What a value becomes when it is cleaned, by its kind and attributes. What a control has, and how it changes, as functions of kinds, attributes and texts. The program's Changed and Retype of layer 14. How long a cleaned text is. Stage 14's law ControlClean, walked. -/
import Derived.Test.YtfjfkkbgkjmghaaGreatDoorJct28
import Derived.Test.YtfjfkkbgkjmghaaGreatDoorJct59
import Derived.OwnWalk

namespace Go.Proofs.YtfjfkkbgkjmghaaGreatDoor
open Go.RowKit
theorem lowB_lowB (c : UInt8) : lowB (lowB c) = lowB c := by
  by_cases h : 65 ≤ c.toNat ∧ c.toNat ≤ 90
  · have := lowB_yes c h.1 h.2
    exact lowB_no _ (by omega)
  · rw [lowB_no c h, lowB_no c h]
theorem lowL_lowL (l : List UInt8) : lowL (lowL l) = lowL l := by
  unfold lowL; rw [List.map_map]; exact List.map_congr_left fun c _ => lowB_lowB c
end Go.Proofs.YtfjfkkbgkjmghaaGreatDoor

namespace Go.Proofs.YtfjfkkbgkjmghaaGreatDoor
open Go.RowKit
theorem natFrom_append (n : Nat) : ∀ (l k : List UInt8), natFrom n (l ++ k) = natFrom (natFrom n l) k := by
  intro l; induction l generalizing n with
  | nil => intro k; rfl
  | cons c l ih => intro k; exact ih _ k
theorem decD_dg (n : Nat) : ∀ c ∈ decD n, isDg c = true := by
  induction n using Nat.strongRecOn with
  | ind n ih =>
    intro c hc
    by_cases h : n < 10
    · rw [decD_small h] at hc
      simp at hc; subst hc; exact (dgB_dg h).1
    · rw [decD_great h, List.mem_append] at hc
      rcases hc with hc | hc
      · exact ih (n / 10) (by omega) c hc
      · simp at hc; subst hc; exact (dgB_dg (by omega)).1
theorem decD_ne (n : Nat) : decD n ≠ [] := by
  by_cases h : n < 10
  · rw [decD_small h]; simp
  · rw [decD_great h]; simp
theorem natOf_decD (n : Nat) : natOf (decD n) = n := by
  induction n using Nat.strongRecOn with
  | ind n ih =>
    by_cases h : n < 10
    · rw [decD_small h]
      show 10 * 0 + dg (dgB n) = n
      rw [(dgB_dg h).2]; omega
    · unfold natOf at ih ⊢
      rw [decD_great h, natFrom_append, ih (n / 10) (by omega)]
      show 10 * (n / 10) + dg (dgB (n % 10)) = n
      rw [(dgB_dg (by omega)).2]; omega
theorem fracD_dg : ∀ (p m : Nat), m < 10 ^ p → ∀ c ∈ fracD p m, isDg c = true
  | 0, m, _, c, hc => by simp [fracD] at hc
  | p + 1, m, h, c, hc => by
    unfold fracD at hc
    by_cases hm : m = 0
    · rw [if_pos hm] at hc; cases hc
    · rw [if_neg hm] at hc
      have hp : 0 < 10 ^ p := Nat.pow_pos (by decide)
      rcases List.mem_cons.1 hc with e | e
      · subst e
        refine (dgB_dg ?_).1
        rw [Nat.div_lt_iff_lt_mul hp]
        rw [Nat.pow_succ] at h; omega
      · exact fracD_dg p (m % 10 ^ p) (Nat.mod_lt _ hp) c e
theorem showL_parts (n : Int) : negV (showL n) = decide (n < 0) ∧ partsV (bodyV (showL n)) = some (decD (n.natAbs / 1000000), fracD 6 (n.natAbs % 1000000)) := by
  have hd := decD_dg (n.natAbs / 1000000)
  have hne := decD_ne (n.natAbs / 1000000)
  have hm : n.natAbs % 1000000 < 10 ^ 6 := Nat.mod_lt _ (by decide)
  have hf := fracD_dg 6 (n.natAbs % 1000000) hm
  have hnil := fracD_nil hm
  have body : partsV (decD (n.natAbs / 1000000) ++ (if n.natAbs % 1000000 = 0 then [] else 46 :: fracD 6 (n.natAbs % 1000000))) = some (decD (n.natAbs / 1000000), fracD 6 (n.natAbs % 1000000)) := by
    by_cases e : n.natAbs % 1000000 = 0
    · rw [if_pos e, List.append_nil, hnil.2 e]; exact partsV_whole hd hne
    · rw [if_neg e]; exact partsV_point hd hf (fun x => e (hnil.1 x))
  unfold showL
  by_cases h : n < 0
  · rw [if_pos h]
    have e1 : negV ([45] ++ decD (n.natAbs / 1000000) ++ (if n.natAbs % 1000000 = 0 then [] else 46 :: fracD 6 (n.natAbs % 1000000))) = true := rfl
    refine ⟨by rw [e1]; simp [h], ?_⟩
    unfold bodyV; rw [e1]
    exact body
  · rw [if_neg h]
    have e1 : negV ([] ++ decD (n.natAbs / 1000000) ++ (if n.natAbs % 1000000 = 0 then [] else 46 :: fracD 6 (n.natAbs % 1000000))) = false := by
      cases hx : decD (n.natAbs / 1000000) with
      | nil => exact absurd hx hne
      | cons c r =>
        have hc := (isDg_iff c).1 (hd c (by rw [hx]; exact List.mem_cons_self ..))
        show (some c == some 45) = false
        have : c ≠ 45 := by intro e; subst e; revert hc; decide
        simpa using this
    refine ⟨by rw [e1]; simp [h], ?_⟩
    unfold bodyV; rw [e1]
    exact body
/-- There and back. -/
theorem parse_show (n : Int) : parseV (showL n) = if n.natAbs ≤ 1000000000000000000 then (n, 0) else (0, 2) := by
  have ⟨h1, h2⟩ := showL_parts n
  have hm : n.natAbs % 1000000 < 10 ^ 6 := Nat.mod_lt _ (by decide)
  have hl := fracD_len 6 (n.natAbs % 1000000)
  have hfd := fracD_dg 6 (n.natAbs % 1000000) hm
  have hv := fracOf_fracD 6 _ hm
  unfold parseV; rw [h2, h1]
  show numV _ _ _ = _
  unfold numV
  rw [natOf_decD, hv, List.drop_of_length_le hl]
  have hs : someD ([] : List UInt8) = false := rfl
  have hsd : someD (fracD 6 (n.natAbs % 1000000)) = true ↔ n.natAbs % 1000000 ≠ 0 := by
    constructor
    · intro h e
      rw [e, fracD_zero] at h; cases h
    · intro h
      cases g : someD (fracD 6 (n.natAbs % 1000000)) with
      | true => rfl
      | false => exact absurd ((hv).symm.trans (someD_zero 6 _ hfd g)) h
  rw [hs]
  by_cases h : n.natAbs ≤ 1000000000000000000
  · rw [if_pos h, if_neg]
    · have e : n.natAbs / 1000000 * 1000000 + n.natAbs % 1000000 = n.natAbs := by omega
      rw [e]
      by_cases hn : n < 0
      · rw [decide_eq_true hn, if_pos rfl]
        have : -((n.natAbs : Nat) : Int) = n := by omega
        rw [this]
      · rw [decide_eq_false hn, if_neg (by decide)]
        have : ((n.natAbs : Nat) : Int) = n := by omega
        rw [this]
    · rw [hsd]
      unfold MW
      intro hx
      rcases hx with hx | ⟨hx, hy⟩ | hx
      · omega
      · omega
      · cases hx
  · rw [if_neg h, if_pos]
    rw [hsd]
    unfold MW
    omega
end Go.Proofs.YtfjfkkbgkjmghaaGreatDoor

namespace Go.Proofs.YtfjfkkbgkjmghaaGreatDoor
open Go.RowKit
theorem natFrom_noughts : ∀ (k : Nat) (l : List UInt8), natFrom 0 (List.replicate k 48 ++ l) = natFrom 0 l
  | 0, _ => rfl
  | k + 1, l => by
    rw [List.replicate_succ]
    exact natFrom_noughts k l
theorem pad_nat (n w : Nat) : natOf (padL n w) = n := by
  unfold padL natOf
  rw [natFrom_noughts]; exact natOf_decD n
theorem pad_dg (n w : Nat) : ∀ c ∈ padL n w, isDg c = true := by
  intro c hc
  rcases List.mem_append.1 hc with h | h
  · rw [List.eq_of_mem_replicate h]; decide
  · exact decD_dg n c h
theorem pad_len (n w : Nat) : w ≤ (padL n w).length := by
  unfold padL
  rw [List.length_append, List.length_replicate]; omega
theorem pad_2 {n : Nat} (h : n < 100) : padL n 2 = [dgB (n / 10), dgB (n % 10)] := by
  unfold padL
  by_cases h1 : n < 10
  · rw [decD_small h1, show n / 10 = 0 by omega, show n % 10 = n by omega]; rfl
  · rw [decD_great h1, decD_small (show n / 10 < 10 by omega)]; rfl
theorem two_pad {n : Nat} (h : n < 100) : twoV (dgB (n / 10)) (dgB (n % 10)) = (n : Int) := by
  have a := dgB_dg (show n / 10 < 10 by omega)
  have b := dgB_dg (show n % 10 < 10 by omega)
  rw [two_yes a.1 b.1, a.2, b.2]; omega
theorem pad_year {y : Nat} (h1 : 1 ≤ y) (h2 : y ≤ 275760) : yrV (padL y 4) = some (y : Int) := by
  rw [yr_yes (by rw [pad_nat]; exact ⟨pad_len _ _, h1, h2⟩), pad_nat]
theorem year_take {y : Nat} {c : UInt8} {r : List UInt8} (h : isDg c = false) : (padL y 4 ++ c :: r).takeWhile isDg = padL y 4 ∧ (padL y 4 ++ c :: r).dropWhile isDg = c :: r :=
  takeWhile_all (pad_dg y 4) (fun d r' e => by cases e; exact h)
/-- A day's text is read to its number. -/
theorem date_back {n : Int} {y m d : Nat} (h : IsDay n y m d) : dateT (dateL y m d) = some n := by
  have y1 := h.y1; have y2 := h.y2; have m1 := h.m1; have m2 := h.m2; have d1 := h.d1; have d2 := h.d2
  have b := len_bounds y m
  have e := h.len
  unfold dateT dateL
  rw [pad_2 (show m < 100 by omega), pad_2 (show d < 100 by omega)]
  have ⟨t1, t2⟩ := year_take (y := y) (c := 45) (r := [dgB (m / 10), dgB (m % 10)] ++ 45 :: [dgB (d / 10), dgB (d % 10)]) (by decide)
  rw [List.append_assoc, List.cons_append, t1, t2, pad_year (by omega) (by omega)]
  show dateTail (y : Int) [45, dgB (m / 10), dgB (m % 10), 45, dgB (d / 10), dgB (d % 10)] = _
  rw [dateTail_eq, if_pos ⟨rfl, rfl⟩, two_pad (by omega), two_pad (by omega)]
  unfold numD
  rw [if_pos ⟨d1, by rw [e]; exact d2⟩, h.is]
theorem month_back {y m : Nat} (y1 : 1 ≤ y) (y2 : y ≤ 275760) (m1 : 1 ≤ m) (m2 : m ≤ 12) : monthT (monthL y m) = some (((y : Int) - 1970) * 12 + m - 1) := by
  unfold monthT monthL
  rw [pad_2 (show m < 100 by omega)]
  have ⟨t1, t2⟩ := year_take (y := y) (c := 45) (r := [dgB (m / 10), dgB (m % 10)]) (by decide)
  rw [t1, t2, pad_year y1 y2]
  show monthTail (y : Int) [45, dgB (m / 10), dgB (m % 10)] = _
  rw [monthTail_eq, two_pad (by omega), if_pos ⟨rfl, by omega, by omega⟩]
theorem week_back {y k : Nat} (y1 : 1 ≤ y) (y2 : y ≤ 275760) (k1 : 1 ≤ k) (k2 : (k : Int) ≤ weeksV y) : weekT (weekL y k) = some (firstV y + 7 * ((k : Int) - 1)) := by
  have b := (weeks_is y).2
  unfold weekT weekL
  rw [pad_2 (show k < 100 by omega)]
  have ⟨t1, t2⟩ := year_take (y := y) (c := 45) (r := 87 :: [dgB (k / 10), dgB (k % 10)]) (by decide)
  rw [t1, t2, pad_year y1 y2]
  show weekTail (y : Int) [45, 87, dgB (k / 10), dgB (k % 10)] = _
  rw [weekTail_eq, two_pad (by omega), if_pos ⟨rfl, rfl, by omega, by rw [weeks_in (by omega)]; exact k2⟩]
theorem clock_back {n : Nat} (h : n < 86400000) : clockT (clockL n) = some (n : Int) := by
  unfold clockL
  rw [pad_2 (show n / 3600000 < 100 by omega), pad_2 (show n / 60000 % 60 < 100 by omega), pad_2 (show n / 1000 % 60 < 100 by omega)]
  show clockT (_ :: _ :: _ :: _ :: _ :: _) = _
  rw [clockT_eq, two_pad (by omega), two_pad (by omega), if_pos ⟨rfl, by omega, by omega, by omega, by omega⟩]
  by_cases h1 : n % 60000 = 0
  · rw [if_pos h1]
    show some _ = _
    congr 1; omega
  · rw [if_neg h1]
    show secT _ (_ :: _ :: _ :: _) = _
    rw [secT_eq, two_pad (by omega), if_pos ⟨rfl, by omega, by omega⟩]
    by_cases h2 : n % 1000 = 0
    · rw [if_pos h2]
      show some _ = _
      congr 1; omega
    · rw [if_neg h2]
      have hm : n % 1000 < 10 ^ 3 := by omega
      have hne : fracD 3 (n % 1000) ≠ [] := fun e => h2 ((fracD_nil hm).1 e)
      have hl := fracD_len 3 (n % 1000)
      show fracT _ (_ :: _) = _
      rw [fracT_eq, if_pos ⟨rfl, List.length_pos_iff.2 hne, hl, List.all_eq_true.2 (fracD_dg 3 _ hm)⟩, fracOf_fracD 3 _ hm]
      congr 1; omega
end Go.Proofs.YtfjfkkbgkjmghaaGreatDoor

namespace Go.Proofs.YtfjfkkbgkjmghaaGreatDoor
open Go.RowKit
theorem dateL_sep (y m d : Nat) : ∀ x ∈ dateL y m d, isSep x = false := by
  intro x hx
  unfold dateL at hx
  simp only [List.append_assoc, List.cons_append, List.mem_append, List.mem_cons] at hx
  rcases hx with h | h | h | h | h
  · exact dg_sep (pad_dg _ _ x h)
  · subst h; decide
  · exact dg_sep (pad_dg _ _ x h)
  · subst h; decide
  · exact dg_sep (pad_dg _ _ x h)
/-- There and back. -/
theorem mom_back {kind n : Int} {t : List UInt8} (h : ShowIs kind n t) : momT kind t = some n := by
  rcases h with ⟨rfl, k, y, m, d, hd, rfl, rfl⟩ | ⟨rfl, y, m, y1, y2, m1, m2, rfl, rfl⟩ | ⟨rfl, y, k, y1, y2, k1, k2, rfl, rfl⟩ | ⟨rfl, k, hk, rfl, rfl⟩ | ⟨rfl, k, y, m, d, r, hd, hr, rfl, rfl⟩
  · show (dateT _).map _ = _
    rw [date_back hd]; rfl
  · show monthT _ = _
    exact month_back y1 y2 m1 m2
  · show (weekT _).map _ = _
    rw [week_back y1 y2 k1 k2]; rfl
  · show clockT _ = _
    exact clock_back hk
  · show localT _ = _
    rw [local_is (dateL_sep y m d) (by decide), date_back hd, clock_back hr]; rfl
end Go.Proofs.YtfjfkkbgkjmghaaGreatDoor

namespace Go.Proofs.YtfjfkkbgkjmghaaGreatDoor
open Go.RowKit
theorem kshow_small {kind n : Int} {t : List UInt8} (h : ShowIs kind n t) : (txt t).size ≤ 60 := by
  rcases h with ⟨rfl, k, y, m, d, hd, rfl, rfl⟩ | ⟨rfl, y, m, y1, y2, m1, m2, rfl, rfl⟩ | ⟨rfl, y, k, y1, y2, k1, k2, rfl, rfl⟩ | ⟨rfl, k, hk, rfl, rfl⟩ | ⟨rfl, k, y, m, d, r, hd, hr, rfl, rfl⟩
  · have := dateL_size hd; omega
  · have a := pad_most (n := y) (w := 4) (k := 9) (by omega) (by decide) (by decide)
    have b := pad_most (n := m) (w := 2) (k := 2) (by omega) (by decide) (by decide)
    rw [txt_size]; unfold monthL
    simp only [List.length_append, List.length_cons]; omega
  · have := (weeks_is y).2
    have a := pad_most (n := y) (w := 4) (k := 9) (by omega) (by decide) (by decide)
    have b := pad_most (n := k) (w := 2) (k := 2) (by omega) (by decide) (by decide)
    rw [txt_size]; unfold weekL
    simp only [List.length_append, List.length_cons]; omega
  · have := clockL_size hk; omega
  · have a := dateL_size hd
    have b := clockL_size hr
    rw [txt_size] at a b ⊢
    simp only [List.length_append, List.length_cons]; omega
/-- What is shown has the number that it was. -/
theorem shk_back {k n : Int} {t : List UInt8} (h : ShK k n (some t)) : numK k t = some n := by
  rcases h with ⟨h, ⟨q1, q2, e⟩ | ⟨_, e⟩⟩ | ⟨h, ⟨u, hu, e⟩ | ⟨_, e⟩⟩ | ⟨_, e⟩
  · cases e
    have hp : parseV (showL n) = (n, 0) := by rw [parse_show, if_pos (by omega)]
    unfold numK okP
    rw [if_pos h, hp]; rfl
  · cases e
  · cases e
    unfold numK
    rw [if_neg (by omega), if_pos h, mom_back hu]
  · cases e
  · cases e
theorem shk_small {k n : Int} {t : List UInt8} (h : ShK k n (some t)) : (txt t).size ≤ 60 := by
  rcases h with ⟨h, ⟨q1, q2, e⟩ | ⟨_, e⟩⟩ | ⟨h, ⟨u, hu, e⟩ | ⟨_, e⟩⟩ | ⟨_, e⟩
  · cases e
    rw [txt_size, tell_is]
    have := tell_len (pre := if n < 0 then [45] else []) (u := n.natAbs) (by split <;> simp) (by omega)
    omega
  · cases e
  · cases e; exact kshow_small hu
  · cases e
  · cases e
end Go.Proofs.YtfjfkkbgkjmghaaGreatDoor

namespace Go.Proofs.YtfjfkkbgkjmghaaGreatDoor
open Go.RowKit
theorem held_same {lo hi n : Int} (h1 : lo ≤ n) (h2 : n ≤ hi ∨ hi < lo) : heldG lo hi n = n := by
  unfold heldG
  rw [if_neg (by omega), if_neg (by omega)]
theorem onto_again {lo hi base st n : Int} (h : 1 ≤ st) (h1 : lo ≤ n) (h2 : n ≤ hi ∨ hi < lo) : ontoG lo hi base st (ontoG lo hi base st n) = ontoG lo hi base st n := by
  rcases (onto_is (base := base) h h1 h2).2.2 with q | ⟨q, _⟩
  · generalize ontoG lo hi base st n = m at *
    unfold ontoG
    rw [if_pos q]
  · rw [q, q]
/-- Cleaned again it is the same. -/
theorem range_again {lo hi base : Int} {S own : Option Int} (hS : ∀ st, S = some st → 1 ≤ st) : rangeG lo hi base S (some (rangeG lo hi base S own)) = rangeG lo hi base S own := by
  have hh := held_in lo hi (own.getD (defG lo hi))
  have r := range_is (lo := lo) (hi := hi) (base := base) (own := own) hS
  have e : rangeG lo hi base S (some (rangeG lo hi base S own)) = stepG lo hi base S (heldG lo hi (rangeG lo hi base S own)) := rfl
  rw [e, held_same r.1 r.2.1]
  cases S with
  | none => rfl
  | some st => exact onto_again (hS st rfl) hh.1 hh.2
end Go.Proofs.YtfjfkkbgkjmghaaGreatDoor

namespace Go.Proofs.YtfjfkkbgkjmghaaGreatDoor
open Go.RowKit
/-- No blank at either end. -/
def EndsB (l : List UInt8) : Prop := (∀ b, l.head? = some b → isBl b = false) ∧ (∀ b, l.getLast? = some b → isBl b = false)
theorem trimLeft_of_head {l : List UInt8} (h : ∀ b, l.head? = some b → isBl b = false) : Lib.trimLeftS l blanks = l := by
  unfold Lib.trimLeftS
  cases l with
  | nil => rfl
  | cons a r => rw [List.dropWhile_cons, if_neg]; have := h a rfl; unfold isBl at this; rw [this]; decide
theorem trimRight_of_last {l : List UInt8} (h : ∀ b, l.getLast? = some b → isBl b = false) : Lib.trimRightS l blanks = l := by
  unfold Lib.trimRightS
  have := trimLeft_of_head (l := l.reverse) (fun b hb => h b (by rwa [List.head?_reverse] at hb))
  unfold Lib.trimLeftS at this
  rw [this, List.reverse_reverse]
theorem trimLeft_head (l : List UInt8) : ∀ b, (Lib.trimLeftS l blanks).head? = some b → isBl b = false := by
  intro b hb
  unfold Lib.trimLeftS at hb
  have := List.head?_dropWhile_not (p := fun x => blanks.contains x) l
  rw [hb] at this
  simpa [isBl] using this
theorem trimRight_last (l : List UInt8) : ∀ b, (Lib.trimRightS l blanks).getLast? = some b → isBl b = false := by
  intro b hb
  unfold Lib.trimRightS at hb
  rw [List.getLast?_reverse] at hb
  exact trimLeft_head l.reverse b hb
theorem last_of_suffix {l m : List UInt8} (h : m <:+ l) {b : UInt8} (hb : m.getLast? = some b) : l.getLast? = some b := by
  obtain ⟨t, rfl⟩ := h
  rw [List.getLast?_append, hb]; rfl
theorem stripL_ends (l : List UInt8) : EndsB (stripL l) :=
  ⟨trimLeft_head _, fun b hb => trimRight_last l b (last_of_suffix (trimLeft_suffix _) hb)⟩
theorem stripL_of_ends {l : List UInt8} (h : EndsB l) : stripL l = l := by
  unfold stripL Lib.trimS; rw [trimRight_of_last h.2, trimLeft_of_head h.1]
theorem stripL_stripL (l : List UInt8) : stripL (stripL l) = stripL l := stripL_of_ends (stripL_ends l)
end Go.Proofs.YtfjfkkbgkjmghaaGreatDoor

namespace Go.Proofs.YtfjfkkbgkjmghaaGreatDoor
open Go.RowKit
/-- No text between a sign holds the sign. -/
theorem split_free {c : UInt8} : ∀ (l : List UInt8), ∀ p ∈ splitL c l, c ∉ p
  | [], p, hp => by
    have : p = [] := by simpa [splitL] using hp
    subst this; simp
  | x :: l, p, hp => by
    have ih := split_free (c := c) l
    by_cases h : x = c
    · subst h
      rw [split_hit] at hp
      rcases List.mem_cons.1 hp with e | e
      · subst e; simp
      · exact ih p e
    · rw [split_miss l h] at hp
      cases hs : splitL c l with
      | nil => exact absurd hs (split_ne c l)
      | cons a t =>
        rw [hs] at hp ih
        rcases List.mem_cons.1 hp with e | e
        · subst e
          intro hc
          rcases List.mem_cons.1 hc with e2 | e2
          · exact h e2.symm
          · exact ih a (List.mem_cons_self ..) e2
        · exact ih p (List.mem_cons_of_mem _ e)
theorem split_join {c : UInt8} : ∀ (ps : List (List UInt8)), ps ≠ [] → (∀ p ∈ ps, c ∉ p) → splitL c (joinL c ps) = ps
  | [], h, _ => absurd rfl h
  | [a], _, h => split_alone (h a (List.mem_cons_self ..))
  | a :: b :: t, _, h => by
    show splitL c (a ++ c :: joinL c (b :: t)) = _
    rw [split_sign _ (h a (List.mem_cons_self ..)), split_join (b :: t) (by simp) (fun p hp => h p (List.mem_cons_of_mem _ hp))]
theorem strip_sub {p : List UInt8} {c : UInt8} (h : c ∈ stripL p) : c ∈ p := by
  have h2 : ∀ q : List UInt8, Lib.trimRightS q blanks <+: q := by
    intro q
    unfold Lib.trimRightS
    rw [← List.reverse_suffix, List.reverse_reverse]
    exact List.dropWhile_suffix _
  unfold stripL Lib.trimS at h
  first
  | exact (trimLeft_suffix p).subset ((h2 _).subset h)
  | exact (h2 p).subset ((trimLeft_suffix _).subset h)
theorem clean_split (l : List UInt8) : splitL 44 (cleanM l) = (splitL 44 l).map stripL := by
  unfold cleanM
  refine split_join _ (by simpa using split_ne 44 l) ?_
  intro p hp
  obtain ⟨q, hq, rfl⟩ := List.mem_map.1 hp
  exact fun h => split_free l q hq (strip_sub h)
/-- What was cleaned stays. -/
theorem cleanM_again (l : List UInt8) : cleanM (cleanM l) = cleanM l := by
  show joinL 44 ((splitL 44 (cleanM l)).map stripL) = _
  rw [clean_split, List.map_map]
  show joinL 44 _ = joinL 44 _
  congr 1
  exact List.map_congr_left fun p _ => stripL_stripL p
theorem noBr_free : ∀ (l : List UInt8) (p : UInt8), ∀ c ∈ endsP [] p l, c ≠ 10 ∧ c ≠ 13
  | [], p, c, h => by cases h
  | x :: l, p, c, h => by
    have h : c ∈ piece [] p x ++ endsP [] x l := h
    rcases List.mem_append.1 h with h | h
    · unfold piece at h
      split at h
      · cases h
      · split at h
        · cases h
        · rename_i h1 h2
          have : c = x := by simpa using h
          subst this
          exact ⟨fun e => h2 (.inl e), fun e => h2 (.inr e)⟩
    · exact noBr_free l x c h
theorem noBr_same : ∀ {l : List UInt8} (p : UInt8), (∀ c ∈ l, c ≠ 10 ∧ c ≠ 13) → endsP [] p l = l
  | [], p, _ => rfl
  | x :: l, p, h => by
    have hx := h x (List.mem_cons_self ..)
    show piece [] p x ++ endsP [] x l = _
    rw [piece_byte hx.1 hx.2, noBr_same x (fun c hc => h c (List.mem_cons_of_mem _ hc))]
    rfl
/-- What was trimmed stays. -/
theorem trimM_again (l : List UInt8) : trimM (trimM l) = trimM l := by
  unfold trimM
  have : noBrL (stripL (noBrL l)) = stripL (noBrL l) := noBr_same 0 (fun c hc => noBr_free l 0 c (strip_sub hc))
  rw [this, stripL_stripL]
end Go.Proofs.YtfjfkkbgkjmghaaGreatDoor

namespace Go.Proofs.YtfjfkkbgkjmghaaGreatDoor
open Go.RowKit
theorem hex_low (c : UInt8) : hexV (lowB c) = hexV c := by
  have : ∀ n : Fin 256, hexV (lowB (UInt8.ofNat n.val)) = hexV (UInt8.ofNat n.val) := by decide +kernel
  have h := this ⟨c.toNat, c.toNat_lt⟩
  simpa using h
theorem simple_is {a b c d e f : UInt8} (ha : 0 ≤ hexV a) (hb : 0 ≤ hexV b) (hc : 0 ≤ hexV c) (hd : 0 ≤ hexV d) (he : 0 ≤ hexV e) (hf : 0 ≤ hexV f) : simpleL [35, a, b, c, d, e, f] = true := by
  unfold simpleL
  simp [isHex_iff, ha, hb, hc, hd, he, hf]
theorem lowL_col (a b c d e f : UInt8) : lowL [35, a, b, c, d, e, f] = [35, lowB a, lowB b, lowB c, lowB d, lowB e, lowB f] := by
  show lowB 35 :: _ = _
  rw [show lowB 35 = 35 by decide]; rfl
theorem clean_simple (l : List UInt8) : simpleL (cleanL l) = true := by
  cases h : simpleL l with
  | true =>
    rw [clean_yes h]
    obtain ⟨a, b, c, d, e, f, rfl, ha, hb, hc, hd, he, hf⟩ := simple_shape h
    rw [lowL_col]
    exact simple_is (by rw [hex_low]; exact ha) (by rw [hex_low]; exact hb) (by rw [hex_low]; exact hc) (by rw [hex_low]; exact hd) (by rw [hex_low]; exact he) (by rw [hex_low]; exact hf)
  | false => rw [clean_no h]; decide
theorem clean_clean (l : List UInt8) : cleanL (cleanL l) = cleanL l := by
  rw [clean_yes (clean_simple l)]
  cases h : simpleL l with
  | true => rw [clean_yes h, lowL_lowL]
  | false => rw [clean_no h]; decide
end Go.Proofs.YtfjfkkbgkjmghaaGreatDoor

namespace Go.Proofs.YtfjfkkbgkjmghaaGreatDoor
open Go.RowKit
theorem rangeT_num (ax : List (ByteArray × ByteArray)) (l : List UInt8) : numK 14 (rangeT ax l) = some (rangeK ax l) := by
  unfold rangeT
  split
  · assumption
  · have r := rangeK_range ax l
    exact shk_back (k := 14) (.inl ⟨.inr rfl, .inl ⟨r.1, r.2, rfl⟩⟩)
theorem rangeK_again (ax : List (ByteArray × ByteArray)) (l : List UInt8) : rangeK ax (rangeT ax l) = rangeK ax l := by
  have e : rangeK ax (rangeT ax l) = rangeG (loK ax) (hiK ax) (baseK 14 ax) (stepK 14 ax) (some (rangeK ax l)) := by
    unfold rangeK
    rw [rangeT_num]; rfl
  rw [e]
  exact range_again (fun _ h => (step_range 14 ax h).1)
theorem rangeT_again (ax : List (ByteArray × ByteArray)) (l : List UInt8) : rangeT ax (rangeT ax l) = rangeT ax l := by
  have h : numK 14 (rangeT ax l) = some (rangeK ax (rangeT ax l)) := by rw [rangeT_num, rangeK_again]
  generalize rangeT ax l = t at *
  unfold rangeT
  rw [if_pos h]
theorem noBr_again (l : List UInt8) : noBrL (noBrL l) = noBrL l := noBr_same 0 (fun c hc => noBr_free l 0 c hc)
theorem none_empty {k : Int} (h : k = 8 ∨ k = 9 ∨ k = 10 ∨ k = 11 ∨ k = 12 ∨ k = 13) : numK k [] = none := by
  rcases h with rfl | rfl | rfl | rfl | rfl | rfl <;> decide +kernel
/-- What is clean stays. -/
theorem clean_again {k : Int} {ax : List (ByteArray × ByteArray)} {l t : List UInt8} (h : CleanIs k ax l t) : CleanIs k ax t t := by
  rcases h with ⟨h, rfl⟩ | ⟨h, rfl⟩ | ⟨h, q, rfl⟩ | ⟨h, q, rfl⟩ | ⟨h, q, rfl⟩ | ⟨h, q, rfl⟩ | ⟨h, q, rfl⟩ | ⟨h, n, q, ht⟩ | ⟨h, rfl⟩ | ⟨h, rfl⟩ | ⟨h, rfl⟩
  · exact .inl ⟨h, (noBr_again l).symm⟩
  · exact .inr (.inl ⟨h, (trimM_again l).symm⟩)
  · exact .inr (.inr (.inl ⟨h, q, (cleanM_again l).symm⟩))
  · exact .inr (.inr (.inr (.inl ⟨h, q, (trimM_again l).symm⟩)))
  · exact .inr (.inr (.inr (.inr (.inl ⟨h, q, rfl⟩))))
  · exact .inr (.inr (.inr (.inr (.inr (.inl ⟨h, by rw [none_empty (by omega)]; rfl, rfl⟩)))))
  · exact .inr (.inr (.inr (.inr (.inr (.inr (.inl ⟨h, none_empty (by omega), rfl⟩))))))
  · exact .inr (.inr (.inr (.inr (.inr (.inr (.inr (.inl ⟨h, n, shk_back ht, ht⟩)))))))
  · exact .inr (.inr (.inr (.inr (.inr (.inr (.inr (.inr (.inl ⟨h, (rangeT_again ax l).symm⟩))))))))
  · exact .inr (.inr (.inr (.inr (.inr (.inr (.inr (.inr (.inr (.inl ⟨h, (clean_clean l).symm⟩)))))))))
  · exact .inr (.inr (.inr (.inr (.inr (.inr (.inr (.inr (.inr (.inr ⟨h, rfl⟩)))))))))
end Go.Proofs.YtfjfkkbgkjmghaaGreatDoor

namespace Go.Proofs.YtfjfkkbgkjmghaaGreatDoor
open Go.RowKit
/-- What a changed kind does ahead of cleaning. -/
def retA (old k : Int) (c : Ct) (ax : List (ByteArray × ByteArray)) : Ct :=
  if ¬ modeV old = 1 ∧ modeV k = 1 then { c with val := fndS ax valS, dirty := false } else if ¬ modeV old = 4 ∧ modeV k = 4 then { c with val := ⟨#[]⟩ } else c
def retypeP (old k : Int) (c : Ct) (ax : List (ByteArray × ByteArray)) (t : ByteArray) : Ct × ByteArray × Bool :=
  if modeV old = 1 ∧ (modeV k = 2 ∨ modeV k = 3) ∧ 0 < c.val.size then (c, c.val, true) else (if modeV k = 1 then { retA old k c ax with val := t } else retA old k c ax, ⟨#[]⟩, false)
end Go.Proofs.YtfjfkkbgkjmghaaGreatDoor

namespace Go.Proofs.YtfjfkkbgkjmghaaGreatDoor
open Go.RowKit
set_option maxRecDepth 100000
set_option maxHeartbeats 8000000 in
theorem ctRetype_same (old k : Int) (C : Ct) (fv : Value) (v : Value) (ax : List (ByteArray × ByteArray)) (w : World) (hf : FilesV w fv C.files) (hv : AttrsV w v ax) (hz : AxOK ax) (t : ByteArray) (hk : 2 ≤ k ∧ k ≤ 15) (hO : CtOK C) (hT : CtTabs w) (hm : modeV old = 1) (ht : ClnIs k ax C.val t) :
    Calls Tryz.prog 24 #[.int .i64 old, .int .i64 k, ctV C fv, v] w fun e w' => ∃ fv', e = .returned (.tuple #[ctV { C with val := t } fv', .string ⟨#[]⟩, .bool false]) ∧ OwnR w.heap.size w' fv' C.files ∧ Below w.heap.size w w' := by
  have HCp := hide (fun W (hb : Below w.heap.size w W) => ctCopied_any C fv W (hf.below hb) hO)
  have HM1 := hide (mode_any old)
  have HM2 := hide (mode_any k)
  have mk : modeV k = 1 := by unfold modeV; rw [if_pos (by omega)]
  rw [mk] at HM2
  have h24 : ¬ k = 24 := by omega
  rw [hm] at HM1
  have HC := hide (fun W (hb : Below w.heap.size w W) => ctClean_any v ax W (hv.below hb) hz ht h24 hO.val (hT.below hb))
  clear hz hO hT ht mk h24 hk
  clear hm
  obtain ⟨p, c, rfl, _⟩ := hv
  obtain ⟨fp, fc, rfl, _⟩ := hf
  obtain ⟨c0, c1, c2, c3, c4, c5, c6, c7, c8, c9⟩ := C
  unfold ctV ctCells
  unfold ctV ctCells at HCp
  have B0 : Hid (Below w.heap.size w ((w.alloc (.cells #[.string c0, .bool c1, .bool c2, .bool c3, .bool c4, .bool c5, .bool c6, .bool c7, .string c8, .slice fp c9.length fc] 24)).alloc (.cells #[.string ⟨#[]⟩, .bool false, .bool false, .bool false, .bool false, .bool false, .bool false, .bool false, .string ⟨#[]⟩, .slice none 0 0] 24))) := ((Below.refl _ w).alloc (Nat.le_refl _) _).alloc ((Below.refl _ w).alloc (Nat.le_refl _) (.cells #[.string c0, .bool c1, .bool c2, .bool c3, .bool c4, .bool c5, .bool c6, .bool c7, .string c8, .slice fp c9.length fc] 24)).size _
  have NP := hide ((Bk.new w [.string c0, .bool c1, .bool c2, .bool c3, .bool c4, .bool c5, .bool c6, .bool c7, .string c8, .slice fp c9.length fc] 24).below ((Below.refl _ (w.alloc (.cells #[.string c0, .bool c1, .bool c2, .bool c3, .bool c4, .bool c5, .bool c6, .bool c7, .string c8, .slice fp c9.length fc] 24))).alloc (Nat.le_refl _) (.cells #[.string ⟨#[]⟩, .bool false, .bool false, .bool false, .bool false, .bool false, .bool false, .bool false, .string ⟨#[]⟩, .slice none 0 0] 24)))
  have NR0 := hide (Bk.new (w.alloc (.cells #[.string c0, .bool c1, .bool c2, .bool c3, .bool c4, .bool c5, .bool c6, .bool c7, .string c8, .slice fp c9.length fc] 24)) [.string ⟨#[]⟩, .bool false, .bool false, .bool false, .bool false, .bool false, .bool false, .bool false, .string ⟨#[]⟩, .slice none 0 0] 24)
  have NR : Hid (Bk ((w.alloc (.cells #[.string c0, .bool c1, .bool c2, .bool c3, .bool c4, .bool c5, .bool c6, .bool c7, .string c8, .slice fp c9.length fc] 24)).alloc (.cells #[.string ⟨#[]⟩, .bool false, .bool false, .bool false, .bool false, .bool false, .bool false, .bool false, .string ⟨#[]⟩, .slice none 0 0] 24)) (w.heap.size + 1) [.string ⟨#[]⟩, .bool false, .bool false, .bool false, .bool false, .bool false, .bool false, .bool false, .string ⟨#[]⟩, .slice none 0 0] 24) := by
    have e : (w.alloc (.cells #[.string c0, .bool c1, .bool c2, .bool c3, .bool c4, .bool c5, .bool c6, .bool c7, .string c8, .slice fp c9.length fc] 24)).heap.size = w.heap.size + 1 := by simp
    rw [e] at NR0; exact NR0
  clear NR0
  go_enter Tryz.func24, Tryz.ntmps24
  go_upto_region 1 with fail
  generalize (w.alloc (.cells #[.string c0, .bool c1, .bool c2, .bool c3, .bool c4, .bool c5, .bool c6, .bool c7, .string c8, .slice fp c9.length fc] 24)).alloc (.cells #[.string ⟨#[]⟩, .bool false, .bool false, .bool false, .bool false, .bool false, .bool false, .bool false, .string ⟨#[]⟩, .slice none 0 0] 24) = w0 at *
  have l0 : w.heap.size + 1 < w0.heap.size := NR.out.lt
  have p0 := NP.out.cell 0 rfl
  have p1 := NP.out.cell 1 rfl
  have p2 := NP.out.cell 2 rfl
  have p3 := NP.out.cell 3 rfl
  have p4 := NP.out.cell 4 rfl
  have p5 := NP.out.cell 5 rfl
  have p6 := NP.out.cell 6 rfl
  have p7 := NP.out.cell 7 rfl
  have p8 := NP.out.cell 8 rfl
  have p9 := NP.out.cell 9 rfl
  go_wp2_with fail
  refine (HCp.out _ B0.out).mono ?_
  rintro e w1 ⟨f1, rfl, o1, b1⟩
  obtain ⟨p1', kc, rfl⟩ : ∃ p c, f1 = .slice p c9.length c := o1.form
  have B1 := hide (chain B0.out b1)
  have O1 := hide o1
  have l1 : w0.heap.size ≤ w1.heap.size := b1.size
  replace NR := hide (NR.out.below b1)
  replace NP := hide (NP.out.below b1)
  clear o1 b1 B0 p0 p1 p2 p3 p4 p5 p6 p7 p8 p9
  have AL : Hid (Below w1.heap.size w1 (w1.alloc (.cells #[.string c0, .bool c1, .bool c2, .bool c3, .bool c4, .bool c5, .bool c6, .bool c7, .string c8, .slice p1' c9.length kc] 24))) := (Below.refl _ w1).alloc (Nat.le_refl _) _
  have NO := hide (Bk.new w1 [.string c0, .bool c1, .bool c2, .bool c3, .bool c4, .bool c5, .bool c6, .bool c7, .string c8, .slice p1' c9.length kc] 24)
  go_upto_region 2 with fail
  generalize w1.alloc (.cells #[.string c0, .bool c1, .bool c2, .bool c3, .bool c4, .bool c5, .bool c6, .bool c7, .string c8, .slice p1' c9.length kc] 24) = w2 at *
  replace NR := hide (NR.out.below AL.out)
  replace NP := hide (NP.out.below AL.out)
  have B2 := hide (chain B1.out AL.out)
  have O2 := hide (O1.out.below AL.out)
  have FAR : Hid (∀ g, (Value.slice p1' c9.length kc).ownBlock = some g → w0.heap.size ≤ g ∧ g < w1.heap.size) := fun g hg => O1.out.at_ g hg
  have n1 : w.heap.size + 1 ≠ w1.heap.size := by omega
  have n2 : w1.heap.size ≠ w.heap.size + 1 := by omega
  clear O1 B1 AL
  go_wp2_with fail
  refine (HM1.out _).mono ?_
  rintro e u ⟨rfl, hu⟩
  obtain rfl : w2 = u := hu.symm
  go_wp2_with fail
  refine (HM2.out _).mono ?_
  rintro e u ⟨rfl, hu⟩
  obtain rfl : w2 = u := hu.symm
  have k0 := NO.out.cell 0 rfl
  have k1 := NO.out.cell 1 rfl
  have k2 := NO.out.cell 2 rfl
  have k3 := NO.out.cell 3 rfl
  have k4 := NO.out.cell 4 rfl
  have k5 := NO.out.cell 5 rfl
  have k6 := NO.out.cell 6 rfl
  have k7 := NO.out.cell 7 rfl
  have k8 := NO.out.cell 8 rfl
  have k9 := NO.out.cell 9 rfl
  have p0 := NP.out.cell 0 rfl
  have p1 := NP.out.cell 1 rfl
  have p2 := NP.out.cell 2 rfl
  have p3 := NP.out.cell 3 rfl
  have p4 := NP.out.cell 4 rfl
  have p5 := NP.out.cell 5 rfl
  have p6 := NP.out.cell 6 rfl
  have p7 := NP.out.cell 7 rfl
  have p8 := NP.out.cell 8 rfl
  have p9 := NP.out.cell 9 rfl
  go_wp2_with fail
  refine (HC.out _ B2.out).mono ?_
  rintro e wx ⟨rfl, bx⟩
  replace NR := hide (NR.out.below bx)
  replace NO := hide (NO.out.below bx)
  have OX := hide (O2.out.below bx)
  have BX := hide (chain B2.out bx)
  clear bx O2 B2 NP
  clear k0 k1 k2 k3 k4 k5 k6 k7 k8 k9
  clear p0 p1 p2 p3 p4 p5 p6 p7 p8 p9
  have k0 := NO.out.cell 0 rfl
  have k1 := NO.out.cell 1 rfl
  have k2 := NO.out.cell 2 rfl
  have k3 := NO.out.cell 3 rfl
  have k4 := NO.out.cell 4 rfl
  have k5 := NO.out.cell 5 rfl
  have k6 := NO.out.cell 6 rfl
  have k7 := NO.out.cell 7 rfl
  have k8 := NO.out.cell 8 rfl
  have k9 := NO.out.cell 9 rfl
  have g0 := NO.out.free 0
  have g1 := NO.out.free 1
  have g2 := NO.out.free 2
  have g3 := NO.out.free 3
  have g4 := NO.out.free 4
  have g5 := NO.out.free 5
  have g6 := NO.out.free 6
  have g7 := NO.out.free 7
  have g8 := NO.out.free 8
  have g9 := NO.out.free 9
  have r0 := NR.out.cell 0 rfl
  have r1 := NR.out.cell 1 rfl
  have r2 := NR.out.cell 2 rfl
  have r3 := NR.out.cell 3 rfl
  have r4 := NR.out.cell 4 rfl
  have r5 := NR.out.cell 5 rfl
  have r6 := NR.out.cell 6 rfl
  have r7 := NR.out.cell 7 rfl
  have r8 := NR.out.cell 8 rfl
  have r9 := NR.out.cell 9 rfl
  have s0 := NR.out.free 0
  have s1 := NR.out.free 1
  have s2 := NR.out.free 2
  have s3 := NR.out.free 3
  have s4 := NR.out.free 4
  have s5 := NR.out.free 5
  have s6 := NR.out.free 6
  have s7 := NR.out.free 7
  have s8 := NR.out.free 8
  have s9 := NR.out.free 9
  have LE0 : Hid (w.heap.size ≤ w0.heap.size) := Nat.le_trans (Nat.le_succ _) (Nat.le_of_lt l0)
  have LE1 : Hid (w.heap.size ≤ w1.heap.size) := Nat.le_trans LE0.out l1
  have LE2 : Hid (w.heap.size ≤ w.heap.size + 1) := Nat.le_succ _
  have FD : Hid (∀ g, (Value.slice p1' c9.length kc).ownBlock = some g → g ≠ w1.heap.size) := fun g hg => Nat.ne_of_lt (FAR.out g hg).2
  have FR : Hid (∀ g, (Value.slice p1' c9.length kc).ownBlock = some g → g ≠ w.heap.size + 1) := fun g hg => by have := (FAR.out g hg).1; omega
  go_wp2_with fail
  refine bodyPost_ret (v := .tuple #[.agg #[.string t, .bool c1, .bool c2, .bool c3, .bool c4, .bool c5, .bool c6, .bool c7, .string c8, .slice p1' c9.length kc], .string ⟨#[]⟩, .bool false]) (by simp [results, go_sem, r0, r1, r2, r3, r4, r5, r6, r7, r8, r9]) rfl ?_
  exact ⟨_, rfl, ((OX.out.mono LE0.out).set FD.out _ _).set10 FR.out _ _ _ _ _ _ _ _ _ _, low_set10 LE2.out (BX.out.setCell LE1.out _) _ _ _ _ _ _ _ _ _ _⟩
set_option maxHeartbeats 8000000 in
theorem ctRetype_new (old k : Int) (C : Ct) (fv : Value) (v : Value) (ax : List (ByteArray × ByteArray)) (w : World) (hf : FilesV w fv C.files) (hv : AttrsV w v ax) (hz : AxOK ax) (t : ByteArray) (hk : 2 ≤ k ∧ k ≤ 15) (hO : CtOK C) (hT : CtTabs w) (hm : ¬ modeV old = 1) (ht : ClnIs k ax (fndS ax valS) t) :
    Calls Tryz.prog 24 #[.int .i64 old, .int .i64 k, ctV C fv, v] w fun e w' => ∃ fv', e = .returned (.tuple #[ctV { C with val := t, dirty := false } fv', .string ⟨#[]⟩, .bool false]) ∧ OwnR w.heap.size w' fv' C.files ∧ Below w.heap.size w w' := by
  have HCp := hide (fun W (hb : Below w.heap.size w W) => ctCopied_any C fv W (hf.below hb) hO)
  have HM1 := hide (mode_any old)
  have HM2 := hide (mode_any k)
  have mk : modeV k = 1 := by unfold modeV; rw [if_pos (by omega)]
  rw [mk] at HM2
  have h24 : ¬ k = 24 := by omega
  have m1 : (modeV old == 1) = false := beq_eq_false_iff_ne.2 hm
  have m1' : (modeV old != 1) = true := by rw [bne, m1]; rfl
  have HFi := hide (fun W (hb : Below w.heap.size w W) => ctFind_any v ax valS W (hv.below hb) hz.len)
  have HC := hide (fun W (hb : Below w.heap.size w W) => ctClean_any v ax W (hv.below hb) hz ht h24 (fnd_small hz _) (hT.below hb))
  rw [show valS = ⟨#[118, 97, 108, 117, 101]⟩ from rfl] at HFi HC
  generalize fndS ax ⟨#[118, 97, 108, 117, 101]⟩ = fs at *
  generalize (findA ax ⟨#[118, 97, 108, 117, 101]⟩).isSome = fb at *
  generalize modeV old = M at *
  clear hz hO hT ht mk h24 hk
  clear hm
  obtain ⟨p, c, rfl, _⟩ := hv
  obtain ⟨fp, fc, rfl, _⟩ := hf
  obtain ⟨c0, c1, c2, c3, c4, c5, c6, c7, c8, c9⟩ := C
  unfold ctV ctCells
  unfold ctV ctCells at HCp
  have B0 : Hid (Below w.heap.size w ((w.alloc (.cells #[.string c0, .bool c1, .bool c2, .bool c3, .bool c4, .bool c5, .bool c6, .bool c7, .string c8, .slice fp c9.length fc] 24)).alloc (.cells #[.string ⟨#[]⟩, .bool false, .bool false, .bool false, .bool false, .bool false, .bool false, .bool false, .string ⟨#[]⟩, .slice none 0 0] 24))) := ((Below.refl _ w).alloc (Nat.le_refl _) _).alloc ((Below.refl _ w).alloc (Nat.le_refl _) (.cells #[.string c0, .bool c1, .bool c2, .bool c3, .bool c4, .bool c5, .bool c6, .bool c7, .string c8, .slice fp c9.length fc] 24)).size _
  have NP := hide ((Bk.new w [.string c0, .bool c1, .bool c2, .bool c3, .bool c4, .bool c5, .bool c6, .bool c7, .string c8, .slice fp c9.length fc] 24).below ((Below.refl _ (w.alloc (.cells #[.string c0, .bool c1, .bool c2, .bool c3, .bool c4, .bool c5, .bool c6, .bool c7, .string c8, .slice fp c9.length fc] 24))).alloc (Nat.le_refl _) (.cells #[.string ⟨#[]⟩, .bool false, .bool false, .bool false, .bool false, .bool false, .bool false, .bool false, .string ⟨#[]⟩, .slice none 0 0] 24)))
  have NR0 := hide (Bk.new (w.alloc (.cells #[.string c0, .bool c1, .bool c2, .bool c3, .bool c4, .bool c5, .bool c6, .bool c7, .string c8, .slice fp c9.length fc] 24)) [.string ⟨#[]⟩, .bool false, .bool false, .bool false, .bool false, .bool false, .bool false, .bool false, .string ⟨#[]⟩, .slice none 0 0] 24)
  have NR : Hid (Bk ((w.alloc (.cells #[.string c0, .bool c1, .bool c2, .bool c3, .bool c4, .bool c5, .bool c6, .bool c7, .string c8, .slice fp c9.length fc] 24)).alloc (.cells #[.string ⟨#[]⟩, .bool false, .bool false, .bool false, .bool false, .bool false, .bool false, .bool false, .string ⟨#[]⟩, .slice none 0 0] 24)) (w.heap.size + 1) [.string ⟨#[]⟩, .bool false, .bool false, .bool false, .bool false, .bool false, .bool false, .bool false, .string ⟨#[]⟩, .slice none 0 0] 24) := by
    have e : (w.alloc (.cells #[.string c0, .bool c1, .bool c2, .bool c3, .bool c4, .bool c5, .bool c6, .bool c7, .string c8, .slice fp c9.length fc] 24)).heap.size = w.heap.size + 1 := by simp
    rw [e] at NR0; exact NR0
  clear NR0
  go_enter Tryz.func24, Tryz.ntmps24
  go_upto_region 1 with fail
  generalize (w.alloc (.cells #[.string c0, .bool c1, .bool c2, .bool c3, .bool c4, .bool c5, .bool c6, .bool c7, .string c8, .slice fp c9.length fc] 24)).alloc (.cells #[.string ⟨#[]⟩, .bool false, .bool false, .bool false, .bool false, .bool false, .bool false, .bool false, .string ⟨#[]⟩, .slice none 0 0] 24) = w0 at *
  have l0 : w.heap.size + 1 < w0.heap.size := NR.out.lt
  have p0 := NP.out.cell 0 rfl
  have p1 := NP.out.cell 1 rfl
  have p2 := NP.out.cell 2 rfl
  have p3 := NP.out.cell 3 rfl
  have p4 := NP.out.cell 4 rfl
  have p5 := NP.out.cell 5 rfl
  have p6 := NP.out.cell 6 rfl
  have p7 := NP.out.cell 7 rfl
  have p8 := NP.out.cell 8 rfl
  have p9 := NP.out.cell 9 rfl
  go_wp2_with fail
  refine (HCp.out _ B0.out).mono ?_
  rintro e w1 ⟨f1, rfl, o1, b1⟩
  obtain ⟨p1', kc, rfl⟩ : ∃ p c, f1 = .slice p c9.length c := o1.form
  have B1 := hide (chain B0.out b1)
  have O1 := hide o1
  have l1 : w0.heap.size ≤ w1.heap.size := b1.size
  replace NR := hide (NR.out.below b1)
  replace NP := hide (NP.out.below b1)
  clear o1 b1 B0 p0 p1 p2 p3 p4 p5 p6 p7 p8 p9
  have AL : Hid (Below w1.heap.size w1 (w1.alloc (.cells #[.string c0, .bool c1, .bool c2, .bool c3, .bool c4, .bool c5, .bool c6, .bool c7, .string c8, .slice p1' c9.length kc] 24))) := (Below.refl _ w1).alloc (Nat.le_refl _) _
  have NO := hide (Bk.new w1 [.string c0, .bool c1, .bool c2, .bool c3, .bool c4, .bool c5, .bool c6, .bool c7, .string c8, .slice p1' c9.length kc] 24)
  go_upto_region 2 with fail
  generalize w1.alloc (.cells #[.string c0, .bool c1, .bool c2, .bool c3, .bool c4, .bool c5, .bool c6, .bool c7, .string c8, .slice p1' c9.length kc] 24) = w2 at *
  replace NR := hide (NR.out.below AL.out)
  replace NP := hide (NP.out.below AL.out)
  have B2 := hide (chain B1.out AL.out)
  have O2 := hide (O1.out.below AL.out)
  have FAR : Hid (∀ g, (Value.slice p1' c9.length kc).ownBlock = some g → w0.heap.size ≤ g ∧ g < w1.heap.size) := fun g hg => O1.out.at_ g hg
  have n1 : w.heap.size + 1 ≠ w1.heap.size := by omega
  have n2 : w1.heap.size ≠ w.heap.size + 1 := by omega
  clear O1 B1 AL
  go_wp2_with fail
  refine (HM1.out _).mono ?_
  rintro e u ⟨rfl, hu⟩
  obtain rfl : w2 = u := hu.symm
  go_wp2_with fail
  refine (HM2.out _).mono ?_
  rintro e u ⟨rfl, hu⟩
  obtain rfl : w2 = u := hu.symm
  have k0 := NO.out.cell 0 rfl
  have k1 := NO.out.cell 1 rfl
  have k2 := NO.out.cell 2 rfl
  have k3 := NO.out.cell 3 rfl
  have k4 := NO.out.cell 4 rfl
  have k5 := NO.out.cell 5 rfl
  have k6 := NO.out.cell 6 rfl
  have k7 := NO.out.cell 7 rfl
  have k8 := NO.out.cell 8 rfl
  have k9 := NO.out.cell 9 rfl
  have p0 := NP.out.cell 0 rfl
  have p1 := NP.out.cell 1 rfl
  have p2 := NP.out.cell 2 rfl
  have p3 := NP.out.cell 3 rfl
  have p4 := NP.out.cell 4 rfl
  have p5 := NP.out.cell 5 rfl
  have p6 := NP.out.cell 6 rfl
  have p7 := NP.out.cell 7 rfl
  have p8 := NP.out.cell 8 rfl
  have p9 := NP.out.cell 9 rfl
  go_wp2_with fail
  refine (HFi.out _ B2.out).mono ?_
  rintro e w3 ⟨rfl, b3⟩
  replace NR := hide (NR.out.below b3)
  replace NO := hide (NO.out.below b3)
  have O3 := hide (O2.out.below b3)
  have B3 := hide (chain B2.out b3)
  clear b3 O2 B2 NP
  clear k0 k1 k2 k3 k4 k5 k6 k7 k8 k9
  clear p0 p1 p2 p3 p4 p5 p6 p7 p8 p9
  have d0 := NO.out.cell 0 rfl
  have q0 := NO.out.free 0
  have d1 := NO.out.cell 1 rfl
  have q1 := NO.out.free 1
  go_upto_region 10 with fail
  have LE1' : Hid (w.heap.size ≤ w1.heap.size) := by show _ ≤ _; omega
  have FD' : Hid (∀ g, (Value.slice p1' c9.length kc).ownBlock = some g → g ≠ w1.heap.size) := fun g hg => Nat.ne_of_lt (FAR.out g hg).2
  have B4 : Hid (Below w.heap.size w ((w3.setCell ⟨w1.heap.size, 0, none⟩ (.string fs)).setCell ⟨w1.heap.size, 1, none⟩ (.bool false))) := (B3.out.setCell LE1'.out _).setCell LE1'.out _
  have NR4 : Hid (Bk ((w3.setCell ⟨w1.heap.size, 0, none⟩ (.string fs)).setCell ⟨w1.heap.size, 1, none⟩ (.bool false)) (w.heap.size + 1) [.string ⟨#[]⟩, .bool false, .bool false, .bool false, .bool false, .bool false, .bool false, .bool false, .string ⟨#[]⟩, .slice none 0 0] 24) := (NR.out.other n2 _ _).other n2 _ _
  have NO4 := hide ((NO.out.set 0 (.string fs)).set 1 (.bool false))
  have O4 : Hid (OwnR w0.heap.size ((w3.setCell ⟨w1.heap.size, 0, none⟩ (.string fs)).setCell ⟨w1.heap.size, 1, none⟩ (.bool false)) (.slice p1' c9.length kc) c9) := (O3.out.set FD'.out _ _).set FD'.out _ _
  clear d0 d1 q0 q1 NR NO O3 B3
  generalize (w3.setCell ⟨w1.heap.size, 0, none⟩ (.string fs)).setCell ⟨w1.heap.size, 1, none⟩ (.bool false) = w4 at *
  have d0 := NO4.out.cell 0 rfl
  go_wp2_with fail
  refine (HC.out _ B4.out).mono ?_
  rintro e wx ⟨rfl, bx⟩
  have NR := hide (NR4.out.below bx)
  have NO := hide (NO4.out.below bx)
  have OX := hide (O4.out.below bx)
  have BX := hide (chain B4.out bx)
  clear bx O4 B4 NR4 NO4 d0
  have k0 := NO.out.cell 0 rfl
  have k1 := NO.out.cell 1 rfl
  have k2 := NO.out.cell 2 rfl
  have k3 := NO.out.cell 3 rfl
  have k4 := NO.out.cell 4 rfl
  have k5 := NO.out.cell 5 rfl
  have k6 := NO.out.cell 6 rfl
  have k7 := NO.out.cell 7 rfl
  have k8 := NO.out.cell 8 rfl
  have k9 := NO.out.cell 9 rfl
  have g0 := NO.out.free 0
  have g1 := NO.out.free 1
  have g2 := NO.out.free 2
  have g3 := NO.out.free 3
  have g4 := NO.out.free 4
  have g5 := NO.out.free 5
  have g6 := NO.out.free 6
  have g7 := NO.out.free 7
  have g8 := NO.out.free 8
  have g9 := NO.out.free 9
  have r0 := NR.out.cell 0 rfl
  have r1 := NR.out.cell 1 rfl
  have r2 := NR.out.cell 2 rfl
  have r3 := NR.out.cell 3 rfl
  have r4 := NR.out.cell 4 rfl
  have r5 := NR.out.cell 5 rfl
  have r6 := NR.out.cell 6 rfl
  have r7 := NR.out.cell 7 rfl
  have r8 := NR.out.cell 8 rfl
  have r9 := NR.out.cell 9 rfl
  have s0 := NR.out.free 0
  have s1 := NR.out.free 1
  have s2 := NR.out.free 2
  have s3 := NR.out.free 3
  have s4 := NR.out.free 4
  have s5 := NR.out.free 5
  have s6 := NR.out.free 6
  have s7 := NR.out.free 7
  have s8 := NR.out.free 8
  have s9 := NR.out.free 9
  have LE0 : Hid (w.heap.size ≤ w0.heap.size) := Nat.le_trans (Nat.le_succ _) (Nat.le_of_lt l0)
  have LE1 : Hid (w.heap.size ≤ w1.heap.size) := Nat.le_trans LE0.out l1
  have LE2 : Hid (w.heap.size ≤ w.heap.size + 1) := Nat.le_succ _
  have FD : Hid (∀ g, (Value.slice p1' c9.length kc).ownBlock = some g → g ≠ w1.heap.size) := fun g hg => Nat.ne_of_lt (FAR.out g hg).2
  have FR : Hid (∀ g, (Value.slice p1' c9.length kc).ownBlock = some g → g ≠ w.heap.size + 1) := fun g hg => by have := (FAR.out g hg).1; omega
  go_wp2_with fail
  refine bodyPost_ret (v := .tuple #[.agg #[.string t, .bool false, .bool c2, .bool c3, .bool c4, .bool c5, .bool c6, .bool c7, .string c8, .slice p1' c9.length kc], .string ⟨#[]⟩, .bool false]) (by simp [results, go_sem, r0, r1, r2, r3, r4, r5, r6, r7, r8, r9]) rfl ?_
  exact ⟨_, rfl, ((OX.out.mono LE0.out).set FD.out _ _).set10 FR.out _ _ _ _ _ _ _ _ _ _, low_set10 LE2.out (BX.out.setCell LE1.out _) _ _ _ _ _ _ _ _ _ _⟩
theorem ctRetype_any (old k : Int) (C : Ct) (fv v : Value) (ax : List (ByteArray × ByteArray)) (w : World) (hf : FilesV w fv C.files) (hv : AttrsV w v ax) (hz : AxOK ax) (t : ByteArray) (ht : ClnIs k ax (retA old k C ax).val t) (hk : 2 ≤ k ∧ k ≤ 15) (hO : CtOK C) (hT : CtTabs w) :
    Calls Tryz.prog 24 #[.int .i64 old, .int .i64 k, ctV C fv, v] w fun e w' => ∃ fv', e = .returned (.tuple #[ctV (retypeP old k C ax t).1 fv', .string (retypeP old k C ax t).2.1, .bool (retypeP old k C ax t).2.2]) ∧ FilesV w' fv' (retypeP old k C ax t).1.files ∧ Below w.heap.size w w' := by
  have mk : modeV k = 1 := by unfold modeV; rw [if_pos (by omega)]
  have n4 : ¬ (¬ modeV old = 4 ∧ modeV k = 4) := fun q => by rw [mk] at q; exact absurd q.2 (by decide)
  by_cases hm : modeV old = 1
  · have er : retA old k C ax = C := by
      unfold retA
      rw [if_neg (fun q => q.1 hm), if_neg n4]
    rw [er] at ht
    have e : retypeP old k C ax t = ({ C with val := t }, ⟨#[]⟩, false) := by
      unfold retypeP
      rw [if_neg (fun q => by rw [mk] at q; exact absurd q.2.1 (by decide)), if_pos mk, er]
    rw [e]
    exact (ctRetype_same old k C fv v ax w hf hv hz t hk hO hT hm ht).mono fun e w' ⟨f, h, o, b⟩ => ⟨f, h, o.files, b⟩
  · have er : retA old k C ax = { C with val := fndS ax valS, dirty := false } := by
      unfold retA
      rw [if_pos ⟨hm, mk⟩]
    rw [er] at ht
    have e : retypeP old k C ax t = ({ C with val := t, dirty := false }, ⟨#[]⟩, false) := by
      unfold retypeP
      rw [if_neg (fun q => hm q.1), if_pos mk, er]
    rw [e]
    exact (ctRetype_new old k C fv v ax w hf hv hz t hk hO hT hm ht).mono fun e w' ⟨f, h, o, b⟩ => ⟨f, h, o.files, b⟩
end Go.Proofs.YtfjfkkbgkjmghaaGreatDoor

namespace Go.Proofs.YtfjfkkbgkjmghaaGreatDoor
open Go.RowKit
theorem endsP_small : ∀ (l : List UInt8) (p : UInt8), (endsP [] p l).length ≤ l.length
  | [], _ => Nat.le_refl _
  | c :: l, p => by
    have ih := endsP_small l c
    have : (piece [] p c).length ≤ 1 := by unfold piece; split <;> (try split) <;> simp
    show (piece [] p c ++ endsP [] c l).length ≤ _
    rw [List.length_append, List.length_cons]; omega
theorem cleanM_small (l : List UInt8) : (cleanM l).length ≤ 2 * l.length + 1 := by
  have h1 := join_take_le (splitL 44 l) (splitL 44 l).length
  have h2 := split_sum 44 l
  have h3 := split_count 44 l
  rw [List.take_length] at h1
  unfold cleanM
  omega
theorem cleanL_small (l : List UInt8) : (cleanL l).length ≤ l.length + 7 := by
  unfold cleanL
  split
  · unfold lowL; rw [List.length_map]; omega
  · show (7 : Nat) ≤ _; omega
theorem clean_small {k : Int} {ax : List (ByteArray × ByteArray)} {s : ByteArray} {t : List UInt8} (h : CleanIs k ax s.data.toList t) (hs : s.size ≤ 8192) : (txt t).size ≤ 100000 := by
  have hl : s.data.toList.length = s.size := by simp
  have nb : (noBrL s.data.toList).length ≤ s.size := by have := endsP_small s.data.toList 0; unfold noBrL; omega
  have tr : (trimM s.data.toList).length ≤ s.size := by have := stripL_le (noBrL s.data.toList); unfold trimM; omega
  rw [txt_size]
  rcases h with ⟨h, rfl⟩ | ⟨h, rfl⟩ | ⟨h, q, rfl⟩ | ⟨h, q, rfl⟩ | ⟨h, q, rfl⟩ | ⟨h, q, rfl⟩ | ⟨h, q, rfl⟩ | ⟨h, n, q, ht⟩ | ⟨h, rfl⟩ | ⟨h, rfl⟩ | ⟨h, rfl⟩
  · omega
  · omega
  · have := cleanM_small s.data.toList; omega
  · omega
  · omega
  · simp
  · simp
  · have := shk_small ht; rw [txt_size] at this; omega
  · unfold rangeT
    split
    · omega
    · have r := rangeK_range ax s.data.toList
      have := shk_small (k := 14) (n := rangeK ax s.data.toList) (t := showL (rangeK ax s.data.toList)) (.inl ⟨.inr rfl, .inl ⟨r.1, r.2, rfl⟩⟩)
      rw [txt_size] at this; omega
  · have := cleanL_small s.data.toList; omega
  · omega
end Go.Proofs.YtfjfkkbgkjmghaaGreatDoor

namespace Go.Proofs.YtfjfkkbgkjmghaaGreatDoor
open Go.RowKit
/-- A text that a kind leaves as it is. -/
def FixS (k : Int) (ax : List (ByteArray × ByteArray)) (v : ByteArray) : Prop := CleanIs k ax v.data.toList v.data.toList ∧ v.size ≤ 100000
theorem cln_size {k : Int} {ax : List (ByteArray × ByteArray)} {s t : ByteArray} (h : ClnIs k ax s t) (h24 : ¬ k = 24) (hs : s.size ≤ 8192) : t.size ≤ 100000 := by
  rcases h with ⟨q, _⟩ | ⟨_, q⟩
  · exact absurd q h24
  · have := clean_small q hs
    rwa [show txt t.data.toList = t from rfl] at this
theorem fix_cln {k : Int} {ax : List (ByteArray × ByteArray)} {s t : ByteArray} (h : ClnIs k ax s t) (h24 : ¬ k = 24) (hs : s.size ≤ 8192) : FixS k ax t := by
  have z := cln_size h h24 hs
  rcases h with ⟨q, _⟩ | ⟨_, q⟩
  · exact absurd q h24
  · exact ⟨clean_again q, z⟩
theorem fnd_8192 {ax : List (ByteArray × ByteArray)} (h : ∀ a ∈ ax, a.2.size ≤ 8192) (n : ByteArray) : (fndS ax n).size ≤ 8192 := by
  unfold fndS
  split
  · decide
  · rename_i i e
    obtain ⟨hi, _, _⟩ := List.findIdx?_eq_some_iff_getElem.1 (show ax.findIdx? (isN n) = some i from e)
    rw [show ax.getD i at0 = ax[i] by simp [List.getD, hi]]
    exact h _ (List.getElem_mem hi)
theorem one_mode {k : Int} (h : 2 ≤ k ∧ k ≤ 15) : modeV k = 1 := if_pos (.inl h)
theorem fix_empty {k : Int} {ax : List (ByteArray × ByteArray)} (h : ¬ modeV k = 1) : FixS k ax ⟨#[]⟩ := by
  have : k < 2 ∨ 15 < k := by
    rcases (show (2 ≤ k ∧ k ≤ 15) ∨ k < 2 ∨ 15 < k by omega) with q | q
    · exact absurd (one_mode q) h
    · exact q
  exact ⟨.inr (.inr (.inr (.inr (.inr (.inr (.inr (.inr (.inr (.inr ⟨this, rfl⟩))))))))), by decide⟩
theorem start_fix {k : Int} {ax : List (ByteArray × ByteArray)} {text t : ByteArray} (h24 : ¬ k = 24) (h28 : ¬ k = 28) (ht : ClnIs k ax (srcS k ax text) t) (hs : (srcS k ax text).size ≤ 8192) : FixS k ax (startP k ax text t).val := by
  unfold startP
  rw [if_neg h28]
  by_cases m : modeV k = 1
  · rw [if_pos m]; exact fix_cln ht h24 hs
  · rw [if_neg m]
    split
    · exact fix_empty m
    · split <;> exact fix_empty m
theorem write_fix {k : Int} {ax : List (ByteArray × ByteArray)} {C : Ct} {s t : ByteArray} (h24 : ¬ k = 24) (ht : ClnIs k ax s t) (hs : s.size ≤ 8192) (h0 : (writeP k C s t).2.2 = 0) (h1 : (writeP k C s t).1.dirty = true) (h2 : C.dirty = false) : FixS k ax (writeP k C s t).1.val := by
  unfold writeP at h0 h1 ⊢
  split at h0
  · cases h0
  · rename_i q1
    rw [if_neg q1] at h1 ⊢
    split at h0
    · rename_i q2
      rw [if_pos q2]; exact fix_cln ht h24 hs
    · rename_i q2
      rw [if_neg q2] at h1
      exfalso
      split at h1
      · rw [h2] at h1; cases h1
      · split at h1
        · split at h1
          · cases h1
          · rw [h2] at h1; cases h1
        · cases h1
theorem Bk.low {B : Nat} {w w' : World} {n : Nat} {cs : List Value} {t : TypeId} (h : Bk w n cs t) (hn : n < B) (hb : Below B w w') : Bk w' n cs t := ⟨(hb.block n hn).trans h.lies⟩
theorem chain' {B : Nat} {a b c : World} (h : Below B a b) (k : Below b.heap.size b c) (hB : B ≤ b.heap.size) : Below B a c := h.trans (k.mono hB)
/-- A row of controls' states of the call's own, whose texts the kind leaves as they are. -/
def RowL (B : Nat) (w0 : World) (k : Int) (ax : List (ByteArray × ByteArray)) (m : Nat) (wx : World) (t : Value) : Prop :=
  ∃ q n cp ys, t = .slice q n cp ∧ 1 ≤ n ∧ n ≤ m ∧ wx.ownsRow B 24 10 t n ys ∧ (∀ i, i < n → ∃ u, ys[i * 10]? = some (.string u) ∧ FixS k ax u) ∧ Below B w0 wx
theorem RowL.below {B : Nat} {w0 wx wy : World} {k : Int} {ax : List (ByteArray × ByteArray)} {m : Nat} {t : Value} (h : RowL B w0 k ax m wx t) (hb : Below wx.heap.size wx wy) (hB : B ≤ wx.heap.size) : RowL B w0 k ax m wy t := by
  obtain ⟨q, n, cp, ys, e, h1, h2, h3, h4, h5⟩ := h
  exact ⟨q, n, cp, ys, e, h1, h2, owns_below h3 hb, h4, h5.trans (hb.mono hB)⟩
theorem RowL.low {B : Nat} {w0 wx : World} {k : Int} {ax : List (ByteArray × ByteArray)} {m : Nat} {t : Value} (h : RowL B w0 k ax m wx t) : Below B w0 wx := by
  obtain ⟨q, n, cp, ys, e, h1, h2, h3, h4, h5⟩ := h
  exact h5
theorem RowL.push {B : Nat} {w0 w w' : World} {k : Int} {ax : List (ByteArray × ByteArray)} {m n : Nat} {v : Value} {ys news : List Value} {u : ByteArray} {q : Option Addr} {cp : Nat}
    (h2 : n ≤ m) (ho : w.ownsRow B 24 10 v n ys) (h4 : ∀ i, i < n → ∃ u, ys[i * 10]? = some (.string u) ∧ FixS k ax u) (h5 : Below B w0 w) (hB : B ≤ w.heap.size)
    (_hn : news.length = 10) (hu : news[0]? = some (.string u)) (fu : FixS k ax u) (own : w'.ownsRow B 24 10 (.slice q (n + 1) cp) (n + 1) (ys ++ news)) (gr : w.grownBy w' v.ownBlock) : RowL B w0 k ax (m + 1) w' (.slice q (n + 1) cp) := by
  refine ⟨q, n + 1, cp, _, rfl, by omega, by omega, own, fun i hi => ?_, rowGrown_below h5 hB gr (fun j e => (ho.lt j e).1)⟩
  have hl : ys.length = n * 10 := ho.1
  rcases Nat.lt_or_ge i n with t | t
  · obtain ⟨u', e1, e2⟩ := h4 i t
    exact ⟨u', by rw [List.getElem?_append_left (by omega)]; exact e1, e2⟩
  · obtain rfl : i = n := by omega
    exact ⟨u, by rw [List.getElem?_append_right (by omega), hl, Nat.sub_self]; exact hu, fu⟩
theorem ret_small {old k : Int} {ax : List (ByteArray × ByteArray)} {C : Ct} (h1 : C.val.size ≤ 8192) (h2 : ∀ a ∈ ax, a.2.size ≤ 8192) : (retA old k C ax).val.size ≤ 8192 := by
  unfold retA
  split
  · exact fnd_8192 h2 _
  · split
    · show (0 : Nat) ≤ 8192; decide
    · exact h1
theorem ret_fix {old k : Int} {ax : List (ByteArray × ByteArray)} {C : Ct} {t : ByteArray} (hk : 2 ≤ k ∧ k ≤ 15) (ht : ClnIs k ax (retA old k C ax).val t) (hs : (retA old k C ax).val.size ≤ 8192) : FixS k ax (retypeP old k C ax t).1.val := by
  have m := one_mode hk
  unfold retypeP
  rw [if_neg (fun q => by rw [m] at q; exact absurd q.2.1 (by decide)), if_pos m]
  exact fix_cln ht (by omega) hs

end Go.Proofs.YtfjfkkbgkjmghaaGreatDoor
