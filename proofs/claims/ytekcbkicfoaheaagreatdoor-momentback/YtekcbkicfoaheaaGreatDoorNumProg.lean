/- Numbers as texts, the ways by which the program and the document's reading go: rows of digits read up to a bound, noughts cut off, six places laid; each is what 'Num' says. Plain facts of no program. No condition. -/
import Derived.Test.YtekcbkicfoaheaaGreatDoorNum
import Derived.Lib.ItoaNum
import Derived.Lib.TrimByte
import Derived.Lib.CutLaws
import Derived.Lib.IndexBytes
namespace Go.Proofs.YtekcbkicfoaheaaGreatDoor
open Go.RowKit

/-- Digits read up to the bound. -/
def wholeV (n : Nat) : List UInt8 → Nat
  | [] => n
  | c :: l => if MW < 10 * n + dg c then 10 * n + dg c else wholeV (10 * n + dg c) l
theorem wholeV_eq : ∀ (n : Nat) (l : List UInt8), natFrom n l ≤ MW → wholeV n l = natFrom n l
  | n, [], _ => rfl
  | n, c :: l, h => by
    have h' : natFrom (10 * n + dg c) l ≤ MW := h
    have := natFrom_ge (10 * n + dg c) l
    show (if _ then _ else _) = natFrom (10 * n + dg c) l
    rw [if_neg (by omega)]
    exact wholeV_eq _ l h'
theorem wholeV_gt : ∀ (n : Nat) (l : List UInt8), n ≤ MW → MW < natFrom n l → MW < wholeV n l
  | n, [], h, h2 => by
    have : MW < n := h2
    omega
  | n, c :: l, h, h2 => by
    have h2' : MW < natFrom (10 * n + dg c) l := h2
    show MW < (if _ then _ else _)
    split
    · assumption
    · exact wholeV_gt _ l (by omega) h2'
theorem wholeV_le : ∀ (n : Nat) (l : List UInt8), n ≤ MW → (∀ c ∈ l, isDg c = true) → wholeV n l ≤ 10 * MW + 9
  | n, [], h, _ => by show n ≤ _; omega
  | n, c :: l, h, hd => by
    have := dg_lt (hd c (List.mem_cons_self ..))
    show (if _ then _ else _) ≤ _
    split
    · show 10 * n + dg c ≤ 10 * MW + 9
      omega
    · exact wholeV_le _ l (by omega) (fun d h => hd d (List.mem_cons_of_mem _ h))
/-- Digits read, none behind the bound. -/
def wholeR (n : Nat) : List UInt8 → Nat
  | [] => n
  | c :: l => wholeR (if n ≤ MW then 10 * n + dg c else n) l
theorem wholeR_stop : ∀ (n : Nat) (l : List UInt8), MW < n → wholeR n l = n
  | n, [], _ => rfl
  | n, c :: l, h => by
    show wholeR (if _ then _ else _) l = n
    rw [if_neg (by omega)]; exact wholeR_stop n l h
theorem wholeR_eq : ∀ (n : Nat) (l : List UInt8), n ≤ MW → wholeR n l = wholeV n l
  | n, [], _ => rfl
  | n, c :: l, h => by
    show wholeR (if _ then _ else _) l = (if _ then _ else _)
    rw [if_pos h]
    by_cases g : MW < 10 * n + dg c
    · rw [if_pos g]; exact wholeR_stop _ l g
    · rw [if_neg g]; exact wholeR_eq _ l (by omega)
theorem wholeR_append (n : Nat) : ∀ (l k : List UInt8), wholeR n (l ++ k) = wholeR (wholeR n l) k := by
  intro l; induction l generalizing n with
  | nil => intro k; rfl
  | cons c l ih => intro k; exact ih _ k

/-- The number told by the digits of p places. -/
theorem frac_nat : ∀ (p n : Nat) (l : List UInt8), l.length ≤ p → natFrom n l * 10 ^ (p - l.length) = n * 10 ^ p + fracOf p l
  | p, n, [], _ => by rw [fracOf_zeros]; rfl
  | 0, n, c :: l, h => by simp at h
  | p + 1, n, c :: l, h => by
    have ih := frac_nat p (10 * n + dg c) l (by simpa using h)
    have e : p + 1 - (c :: l).length = p - l.length := by simp
    show natFrom (10 * n + dg c) l * _ = n * 10 ^ (p + 1) + (dg c * 10 ^ p + fracOf p l)
    rw [e, ih, Nat.pow_succ, Nat.add_mul, Nat.mul_comm 10 n, Nat.mul_assoc, Nat.mul_comm 10 (10 ^ p)]
    omega
theorem fracOf_noughts : ∀ (p : Nat) (l : List UInt8) (k : Nat), fracOf p (l ++ List.replicate k 48) = fracOf p l
  | 0, _, _ => rfl
  | p + 1, [], 0 => rfl
  | p + 1, [], k + 1 => by
    show dg 48 * 10 ^ p + fracOf p ([] ++ List.replicate k 48) = 0
    rw [fracOf_noughts p [] k, fracOf_zeros]; simp [dg]
  | p + 1, c :: l, k => by
    show dg c * 10 ^ p + fracOf p (l ++ List.replicate k 48) = dg c * 10 ^ p + fracOf p l
    rw [fracOf_noughts p l k]
theorem someD_append (l k : List UInt8) : someD (l ++ k) = (someD l || someD k) := by unfold someD; rw [List.any_append]
theorem someD_noughts (k : Nat) : someD (List.replicate k 48) = false := by
  unfold someD
  rw [List.any_eq_false]
  intro c hc
  rw [List.eq_of_mem_replicate hc]; decide
/-- Digits without the noughts at the end. -/
def trimZ (l : List UInt8) : List UInt8 := Lib.trimRightB l 48
theorem dropZ : ∀ l : List UInt8, ∃ k, l = List.replicate k 48 ++ l.dropWhile (· == 48)
  | [] => ⟨0, rfl⟩
  | c :: l => by
    obtain ⟨k, hk⟩ := dropZ l
    by_cases h : c = 48
    · subst h
      refine ⟨k + 1, ?_⟩
      rw [List.dropWhile_cons, if_pos (by decide), List.replicate_succ, List.cons_append, ← hk]
    · refine ⟨0, ?_⟩
      rw [List.dropWhile_cons, if_neg (by simpa using h)]; rfl
theorem trimZ_back (l : List UInt8) : ∃ k, l = trimZ l ++ List.replicate k 48 := by
  obtain ⟨k, hk⟩ := dropZ l.reverse
  refine ⟨k, ?_⟩
  unfold trimZ Lib.trimRightB
  have := congrArg List.reverse hk
  rw [List.reverse_reverse, List.reverse_append, List.reverse_replicate] at this
  exact this
theorem trimZ_last (l : List UInt8) : trimZ l = [] ∨ ∃ k c, trimZ l = k ++ [c] ∧ c ≠ 48 := by
  unfold trimZ Lib.trimRightB
  cases h : l.reverse.dropWhile (· == 48) with
  | nil => exact .inl rfl
  | cons c r =>
    refine .inr ⟨r.reverse, c, by simp, ?_⟩
    have := List.head?_dropWhile_not (· == 48) l.reverse
    rw [h] at this
    simpa using this
theorem trimZ_len (l : List UInt8) : 6 < (trimZ l).length ↔ someD (l.drop 6) = true := by
  obtain ⟨k, hk⟩ := trimZ_back l
  constructor
  · intro h
    rcases trimZ_last l with e | ⟨r, c, e, hc⟩
    · rw [e] at h; simp at h
    · rw [hk, List.drop_append_of_le_length (by omega), someD_append]
      rw [e] at h ⊢
      rw [List.drop_append_of_le_length (by simp at h; omega), someD_append]
      have : someD [c] = true := by unfold someD; simpa using hc
      rw [this]; simp
  · intro h
    rcases Nat.lt_or_ge 6 (trimZ l).length with g | g
    · exact g
    · exfalso
      rw [hk, List.drop_append, List.drop_of_length_le g, List.nil_append, List.drop_replicate, someD_noughts] at h
      cases h
theorem trimZ_dg {l : List UInt8} (h : ∀ c ∈ l, isDg c = true) : ∀ c ∈ trimZ l, isDg c = true := by
  obtain ⟨k, hk⟩ := trimZ_back l
  intro c hc
  exact h c (by rw [hk]; exact List.mem_append_left _ hc)
theorem trimZ_size (l : List UInt8) : (trimZ l).length ≤ l.length := by
  obtain ⟨k, hk⟩ := trimZ_back l
  have := congrArg List.length hk
  rw [List.length_append] at this; omega
theorem trimZ_frac {l : List UInt8} (h : (trimZ l).length ≤ 6) : natOf (trimZ l) * 10 ^ (6 - (trimZ l).length) = fracOf 6 l := by
  obtain ⟨k, hk⟩ := trimZ_back l
  have e := frac_nat 6 0 (trimZ l) h
  unfold natOf
  rw [e, Nat.zero_mul, Nat.zero_add]
  have := congrArg (fracOf 6) hk
  rw [this, fracOf_noughts]
/-- Where nothing stands behind the sixth place, the millionths are 0 just where there is no digit other than 0. -/
theorem frac_some {l : List UInt8} (hd : ∀ c ∈ l, isDg c = true) (h : someD (l.drop 6) = false) : someD l = true ↔ 0 < fracOf 6 l := by
  have hl : (trimZ l).length ≤ 6 := by
    rcases Nat.lt_or_ge 6 (trimZ l).length with g | g
    · rw [(trimZ_len l).1 g] at h; cases h
    · exact g
  obtain ⟨k, hk⟩ := trimZ_back l
  have e1 : someD l = someD (trimZ l) := by
    have := congrArg someD hk
    rw [someD_append, someD_noughts, Bool.or_false] at this; exact this
  have e2 : fracOf 6 l = fracOf 6 (trimZ l) := by
    have := congrArg (fracOf 6) hk
    rw [fracOf_noughts] at this; exact this
  rw [e1, e2]
  constructor
  · intro g
    rcases Nat.eq_zero_or_pos (fracOf 6 (trimZ l)) with x | x
    · rw [zero_someD 6 _ (trimZ_dg hd) hl x] at g; cases g
    · exact x
  · intro g
    cases x : someD (trimZ l) with
    | true => rfl
    | false => have := someD_zero 6 _ (trimZ_dg hd) x; omega

/-- Reading whole rows: what is beyond, and what isn't. -/
theorem num_bad {neg : Bool} {w f : List UInt8} (h : MW < wholeV 0 w ∨ (wholeV 0 w = MW ∧ 0 < fracOf 6 f) ∨ someD (f.drop 6) = true) (hf : ∀ c ∈ f, isDg c = true) : numV neg w f = (0, 2) := by
  unfold numV
  rw [if_pos]
  rcases h with h | ⟨h, h2⟩ | h
  · left
    rcases Nat.lt_or_ge MW (natOf w) with g | g
    · exact g
    · rw [wholeV_eq 0 w g] at h; exact h
  · cases g : someD (f.drop 6) with
    | true => exact .inr (.inr rfl)
    | false =>
      rcases Nat.lt_or_ge MW (natOf w) with x | x
      · have := wholeV_gt 0 w (by unfold MW; omega) x; omega
      · rw [wholeV_eq 0 w x] at h
        exact .inr (.inl ⟨h, (frac_some hf g).2 h2⟩)
  · exact .inr (.inr h)
theorem num_fine {neg : Bool} {w f : List UInt8} (h : wholeV 0 w ≤ MW) (h1 : ¬ (wholeV 0 w = MW ∧ 0 < fracOf 6 f)) (h2 : someD (f.drop 6) = false) (hf : ∀ c ∈ f, isDg c = true) :
    numV neg w f = (if neg then -((wholeV 0 w * 1000000 + fracOf 6 f : Nat) : Int) else ((wholeV 0 w * 1000000 + fracOf 6 f : Nat) : Int), 0) := by
  have g : natOf w ≤ MW := by
    rcases Nat.lt_or_ge MW (natOf w) with x | x
    · have := wholeV_gt 0 w (by unfold MW; omega) x; omega
    · exact x
  have e : wholeV 0 w = natOf w := wholeV_eq 0 w g
  rw [e] at h1 ⊢
  unfold numV
  rw [if_neg]
  rw [h2, frac_some hf h2]
  rintro (x | x | x)
  · omega
  · exact h1 x
  · cases x

/-- Six places laid, noughts kept. -/
def padD : Nat → Nat → List UInt8
  | 0, _ => []
  | p + 1, m => dgB (m / 10 ^ p) :: padD p (m % 10 ^ p)
theorem padD_len : ∀ p m, (padD p m).length = p
  | 0, _ => rfl
  | p + 1, m => by show (padD p _).length + 1 = p + 1; rw [padD_len p]
theorem padD_snoc : ∀ (p m : Nat), m < 10 ^ (p + 1) → padD (p + 1) m = padD p (m / 10) ++ [dgB (m % 10)]
  | 0, m, h => by
    have h' : m < 10 := by simpa using h
    show [dgB (m / 1)] = [dgB (m % 10)]
    rw [Nat.div_one, Nat.mod_eq_of_lt h']
  | p + 1, m, h => by
    have hp : 0 < 10 ^ (p + 1) := Nat.pow_pos (by decide)
    have e := padD_snoc p (m % 10 ^ (p + 1)) (Nat.mod_lt _ hp)
    have e1 : m / 10 / 10 ^ p = m / 10 ^ (p + 1) := by rw [Nat.div_div_eq_div_mul, Nat.pow_succ, Nat.mul_comm]
    have e2 : m % 10 ^ (p + 1) / 10 = m / 10 % 10 ^ p := by
      rw [Nat.pow_succ, Nat.mul_comm (10 ^ p) 10, Nat.mod_mul_right_div_self]
    have e3 : m % 10 ^ (p + 1) % 10 = m % 10 := Nat.mod_mod_of_dvd _ ⟨10 ^ p, by rw [Nat.pow_succ, Nat.mul_comm]⟩
    show dgB (m / 10 ^ (p + 1)) :: padD (p + 1) (m % 10 ^ (p + 1)) = (dgB (m / 10 / 10 ^ p) :: padD p (m / 10 % 10 ^ p)) ++ [dgB (m % 10)]
    rw [e, e1, e2, e3]; rfl
theorem dec_pad : ∀ (p m : Nat), m < 10 ^ p → decD (10 ^ p + m) = dgB 1 :: padD p m
  | 0, m, h => by
    obtain rfl : m = 0 := by simpa using h
    rw [decD_small (by decide)]; rfl
  | p + 1, m, h => by
    have hp : 0 < 10 ^ p := Nat.pow_pos (by decide)
    rw [Nat.pow_succ] at h
    have e1 : (10 ^ (p + 1) + m) / 10 = 10 ^ p + m / 10 := by rw [Nat.pow_succ]; omega
    have e2 : (10 ^ (p + 1) + m) % 10 = m % 10 := by rw [Nat.pow_succ]; omega
    rw [decD_great (by rw [Nat.pow_succ]; omega), e1, e2, dec_pad p (m / 10) (by omega), padD_snoc p m (by rw [Nat.pow_succ]; omega)]
    rfl
theorem trimZ_cons (c : UInt8) (l : List UInt8) : trimZ (c :: l) = if trimZ l = [] ∧ c = 48 then [] else c :: trimZ l := by
  unfold trimZ Lib.trimRightB
  rw [List.reverse_cons, List.dropWhile_append]
  cases h : l.reverse.dropWhile (· == 48) with
  | nil =>
    by_cases hc : c = 48
    · subst hc; simp
    · simp [hc]
  | cons d r => simp
theorem trim_pad : ∀ (p m : Nat), m < 10 ^ p → trimZ (padD p m) = fracD p m
  | 0, m, h => rfl
  | p + 1, m, h => by
    have hp : 0 < 10 ^ p := Nat.pow_pos (by decide)
    have ih := trim_pad p (m % 10 ^ p) (Nat.mod_lt _ hp)
    rw [Nat.pow_succ] at h
    have hd : m / 10 ^ p < 10 := by rw [Nat.div_lt_iff_lt_mul hp]; omega
    show trimZ (dgB (m / 10 ^ p) :: padD p (m % 10 ^ p)) = if m = 0 then [] else _
    rw [trimZ_cons, ih]
    have hz : dgB (m / 10 ^ p) = 48 ↔ m / 10 ^ p = 0 := by
      have ⟨a, b⟩ := dgB_dg hd
      have := dg_zero a
      rw [b] at this; exact this.symm
    by_cases hm : m = 0
    · subst hm
      rw [if_pos rfl, if_pos ⟨by rw [Nat.zero_mod]; exact fracD_zero p, by rw [hz]; exact Nat.zero_div _⟩]
    · rw [if_neg hm, if_neg]
      rintro ⟨h1, h2⟩
      have x1 := (fracD_nil (Nat.mod_lt m hp)).1 h1
      have x2 := hz.1 h2
      have := Nat.div_add_mod m (10 ^ p)
      rw [x1, x2] at this; simp at this; omega
theorem decDigits_eq (n : Nat) : Lib.decDigits n = decD n := by
  induction n using Nat.strongRecOn with
  | ind n ih =>
    rw [Lib.decDigits]
    by_cases h : n < 10
    · rw [dif_pos h, decD_small h]; rfl
    · rw [dif_neg h, decD_great h, ih (n / 10) (by omega)]; rfl

/-- The document's way of the places behind the point. -/
theorem frac_next {q m : Nat} (hq : q < 6) (hm : m ≠ 0) : fracD (q + 1) m = dgB (m * 10 ^ (5 - q) / 100000) :: fracD q (m % 10 ^ q) := by
  show (if m = 0 then [] else _) = _
  rw [if_neg hm]
  have e : m / 10 ^ q = m * 10 ^ (5 - q) / 100000 := by
    rcases (show q = 0 ∨ q = 1 ∨ q = 2 ∨ q = 3 ∨ q = 4 ∨ q = 5 by omega) with h | h | h | h | h | h <;> subst h <;> simp <;> omega
  rw [e]
theorem frac_rest {q m : Nat} (hq : q < 6) : m * 10 ^ (5 - q) % 100000 * 10 = m % 10 ^ q * 10 ^ (6 - q) := by
  rcases (show q = 0 ∨ q = 1 ∨ q = 2 ∨ q = 3 ∨ q = 4 ∨ q = 5 by omega) with h | h | h | h | h | h <;> subst h <;> simp <;> omega

/-- A text's parts, by the first point. -/
theorem cut_no {l : List UInt8} (h : (46 : UInt8) ∉ l) : Lib.cut l [46] = (l, [], false) := by
  have e : Lib.index l [46] = -1 := by
    rw [Lib.index_one]
    induction l with
    | nil => rfl
    | cons b l ih =>
      have hb : b ≠ 46 := fun x => h (by rw [x]; exact List.mem_cons_self ..)
      have := ih (fun x => h (List.mem_cons_of_mem _ x))
      unfold Lib.indexByte
      rw [this]; simp [hb]
  unfold Lib.cut; rw [e]; rfl
theorem cut_yes {a b : List UInt8} (h : (46 : UInt8) ∉ a) : Lib.cut (a ++ 46 :: b) [46] = (a, b, true) := by
  have e : Lib.index (a ++ 46 :: b) [46] = (a.length : Int) := by
    rw [Lib.index_one]
    induction a with
    | nil => simp [Lib.indexByte]
    | cons c a ih =>
      have hb : c ≠ 46 := fun x => h (by rw [x]; exact List.mem_cons_self ..)
      have := ih (fun x => h (List.mem_cons_of_mem _ x))
      rw [List.cons_append]
      unfold Lib.indexByte
      have h0 : ¬ ((a.length : Int) == -1) = true := by simp
      rw [this, if_neg (by simpa using hb), if_neg h0]; simp
  unfold Lib.cut; rw [e, if_pos (by omega)]
  simp
/-- Where there is a point, there is a first one. -/
theorem first_point {l : List UInt8} (h : (46 : UInt8) ∈ l) : ∃ a b, l = a ++ 46 :: b ∧ (46 : UInt8) ∉ a := by
  induction l with
  | nil => cases h
  | cons c l ih =>
    by_cases hc : c = 46
    · subst hc; exact ⟨[], l, rfl, by simp⟩
    · rcases List.mem_cons.1 h with e | e
      · exact absurd e.symm hc
      · obtain ⟨a, b, rfl, hn⟩ := ih e
        refine ⟨c :: a, b, rfl, ?_⟩
        intro x
        rcases List.mem_cons.1 x with y | y
        · exact hc y.symm
        · exact hn y
theorem dg_no_point {l : List UInt8} (h : ∀ c ∈ l, isDg c = true) : (46 : UInt8) ∉ l := fun x => by
  have := h 46 x; revert this; decide
theorem split_one {a b w f : List UInt8} (h : a ++ 46 :: b = w ++ 46 :: f) (ha : (46 : UInt8) ∉ a) (hw : (46 : UInt8) ∉ w) : a = w ∧ b = f := by
  have e1 := cut_yes (b := b) ha
  rw [h, cut_yes hw] at e1
  cases e1; exact ⟨rfl, rfl⟩
def allD (l : List UInt8) : Bool := l.all isDg
theorem allD_iff (l : List UInt8) : allD l = true ↔ ∀ c ∈ l, isDg c = true := by unfold allD; rw [List.all_eq_true]
theorem parts_no {l : List UInt8} (h : (46 : UInt8) ∉ l) (h2 : l = [] ∨ allD l = false) : partsV l = none := by
  cases g : partsV l with
  | none => rfl
  | some x =>
    obtain ⟨w, f⟩ := x
    obtain ⟨hw, hf, hc⟩ := partsV_some g
    rcases hc with ⟨_, h3, h4⟩ | ⟨_, h4⟩
    · subst h4
      rcases h2 with h2 | h2
      · exact absurd h2 h3
      · rw [(allD_iff l).2 hw] at h2; cases h2
    · exact absurd (by rw [h4]; simp) h
theorem parts_bad {a b : List UInt8} (h : (46 : UInt8) ∉ a) (h2 : b = [] ∨ allD a = false ∨ allD b = false) : partsV (a ++ 46 :: b) = none := by
  cases g : partsV (a ++ 46 :: b) with
  | none => rfl
  | some x =>
    obtain ⟨w, f⟩ := x
    obtain ⟨hw, hf, hc⟩ := partsV_some g
    rcases hc with ⟨_, h3, h4⟩ | ⟨h3, h4⟩
    · exact absurd (by rw [← h4]; simp) (dg_no_point hw)
    · obtain ⟨rfl, rfl⟩ := split_one h4 h (dg_no_point hw)
      rcases h2 with h2 | h2 | h2
      · exact absurd h2 h3
      · rw [(allD_iff a).2 hw] at h2; cases h2
      · rw [(allD_iff b).2 hf] at h2; cases h2
theorem neg_prefix (l : List UInt8) : Lib.hasPrefix l [45] = negV l := by
  cases l with
  | nil => rfl
  | cons c l =>
    unfold Lib.hasPrefix negV
    simp [List.isPrefixOf]
    rw [Bool.eq_iff_iff]; simp; exact eq_comm
theorem body_prefix (l : List UInt8) : Lib.trimPrefix l [45] = bodyV l := by
  unfold Lib.trimPrefix bodyV
  rw [neg_prefix]
  cases h : negV l with
  | false => simp
  | true =>
    cases l with
    | nil => cases h
    | cons c l => rfl

end Go.Proofs.YtekcbkicfoaheaaGreatDoor
