/- Joined texts. NumProg: Numbers as texts, the ways by which the program and the document's reading go: rows of digits read up to a bound, noughts cut off, six places laid; each is what 'Num' says. Plain facts of no program. No condition. RefShowWalks: The document's Digits and Show answer by the functions of 'Num'; they change nothing that was there. Condition: numbers of 64 bits. RefShow2: The document's Show answers by the function of 'Num'; it changes nothing that was there. Condition: numbers of 64 bits. DocP: Documents as lists of nodes: names, attributes, right documents; plain facts of no program. No condition. StepP: Bounds and steps of values that are numbers, as functions of kinds, attributes and texts; plain facts of no program. No condition. -/
import Derived.Test.YtpkpkpiphgjbaaaGreatDoorJcl3
import Derived.Lib.ItoaNum
import Derived.Lib.TrimByte
import Derived.Lib.CutLaws
import Derived.Lib.IndexBytes
import Derived.Test.YtpkpkpiphgjbaaaGreatDoorRows
import Derived.Test.YtpkpkpiphgjbaaaGreatDoorJcl2
import Derived.Deep.QuietTactic
import Derived.BigQuiet
import Derived.Test.YtpkpkpiphgjbaaaGreatDoorJcl1
import Derived.Test.YtpkpkpiphgjbaaaGreatDoorJcl5
namespace Go.Proofs.YtpkpkpiphgjbaaaGreatDoor
open Go.RowKit

/-- Digits read up to the bound. -/
def wholeV (n : Nat) : List UInt8 → Nat
  | [] => n
  | c :: l => if MW < 10 * n + dg c then 10 * n + dg c else wholeV (10 * n + dg c) l
theorem wholeV_eq : ∀ (n : Nat) (l : List UInt8), natFrom n l ≤ MW → wholeV n l = natFrom n l
  | n, [], _ => rfl
  | n, c :: l, h => by
    have h' : natFrom (10 * n + dg c) l ≤ MW := h
    have := natFrom_ge (10 * n + dg c) l
    show (if _ then _ else _) = natFrom (10 * n + dg c) l
    rw [if_neg (by omega)]
    exact wholeV_eq _ l h'
theorem wholeV_gt : ∀ (n : Nat) (l : List UInt8), n ≤ MW → MW < natFrom n l → MW < wholeV n l
  | n, [], h, h2 => by
    have : MW < n := h2
    omega
  | n, c :: l, h, h2 => by
    have h2' : MW < natFrom (10 * n + dg c) l := h2
    show MW < (if _ then _ else _)
    split
    · assumption
    · exact wholeV_gt _ l (by omega) h2'
theorem wholeV_le : ∀ (n : Nat) (l : List UInt8), n ≤ MW → (∀ c ∈ l, isDg c = true) → wholeV n l ≤ 10 * MW + 9
  | n, [], h, _ => by show n ≤ _; omega
  | n, c :: l, h, hd => by
    have := dg_lt (hd c (List.mem_cons_self ..))
    show (if _ then _ else _) ≤ _
    split
    · show 10 * n + dg c ≤ 10 * MW + 9
      omega
    · exact wholeV_le _ l (by omega) (fun d h => hd d (List.mem_cons_of_mem _ h))
/-- Digits read, none behind the bound. -/
def wholeR (n : Nat) : List UInt8 → Nat
  | [] => n
  | c :: l => wholeR (if n ≤ MW then 10 * n + dg c else n) l
theorem wholeR_stop : ∀ (n : Nat) (l : List UInt8), MW < n → wholeR n l = n
  | n, [], _ => rfl
  | n, c :: l, h => by
    show wholeR (if _ then _ else _) l = n
    rw [if_neg (by omega)]; exact wholeR_stop n l h
theorem wholeR_eq : ∀ (n : Nat) (l : List UInt8), n ≤ MW → wholeR n l = wholeV n l
  | n, [], _ => rfl
  | n, c :: l, h => by
    show wholeR (if _ then _ else _) l = (if _ then _ else _)
    rw [if_pos h]
    by_cases g : MW < 10 * n + dg c
    · rw [if_pos g]; exact wholeR_stop _ l g
    · rw [if_neg g]; exact wholeR_eq _ l (by omega)
theorem wholeR_append (n : Nat) : ∀ (l k : List UInt8), wholeR n (l ++ k) = wholeR (wholeR n l) k := by
  intro l; induction l generalizing n with
  | nil => intro k; rfl
  | cons c l ih => intro k; exact ih _ k

/-- The number told by the digits of p places. -/
theorem frac_nat : ∀ (p n : Nat) (l : List UInt8), l.length ≤ p → natFrom n l * 10 ^ (p - l.length) = n * 10 ^ p + fracOf p l
  | p, n, [], _ => by rw [fracOf_zeros]; rfl
  | 0, n, c :: l, h => by simp at h
  | p + 1, n, c :: l, h => by
    have ih := frac_nat p (10 * n + dg c) l (by simpa using h)
    have e : p + 1 - (c :: l).length = p - l.length := by simp
    show natFrom (10 * n + dg c) l * _ = n * 10 ^ (p + 1) + (dg c * 10 ^ p + fracOf p l)
    rw [e, ih, Nat.pow_succ, Nat.add_mul, Nat.mul_comm 10 n, Nat.mul_assoc, Nat.mul_comm 10 (10 ^ p)]
    omega
theorem fracOf_noughts : ∀ (p : Nat) (l : List UInt8) (k : Nat), fracOf p (l ++ List.replicate k 48) = fracOf p l
  | 0, _, _ => rfl
  | p + 1, [], 0 => rfl
  | p + 1, [], k + 1 => by
    show dg 48 * 10 ^ p + fracOf p ([] ++ List.replicate k 48) = 0
    rw [fracOf_noughts p [] k, fracOf_zeros]; simp [dg]
  | p + 1, c :: l, k => by
    show dg c * 10 ^ p + fracOf p (l ++ List.replicate k 48) = dg c * 10 ^ p + fracOf p l
    rw [fracOf_noughts p l k]
theorem someD_append (l k : List UInt8) : someD (l ++ k) = (someD l || someD k) := by unfold someD; rw [List.any_append]
theorem someD_noughts (k : Nat) : someD (List.replicate k 48) = false := by
  unfold someD
  rw [List.any_eq_false]
  intro c hc
  rw [List.eq_of_mem_replicate hc]; decide
/-- Digits without the noughts at the end. -/
def trimZ (l : List UInt8) : List UInt8 := Lib.trimRightB l 48
theorem dropZ : ∀ l : List UInt8, ∃ k, l = List.replicate k 48 ++ l.dropWhile (· == 48)
  | [] => ⟨0, rfl⟩
  | c :: l => by
    obtain ⟨k, hk⟩ := dropZ l
    by_cases h : c = 48
    · subst h
      refine ⟨k + 1, ?_⟩
      rw [List.dropWhile_cons, if_pos (by decide), List.replicate_succ, List.cons_append, ← hk]
    · refine ⟨0, ?_⟩
      rw [List.dropWhile_cons, if_neg (by simpa using h)]; rfl
theorem trimZ_back (l : List UInt8) : ∃ k, l = trimZ l ++ List.replicate k 48 := by
  obtain ⟨k, hk⟩ := dropZ l.reverse
  refine ⟨k, ?_⟩
  unfold trimZ Lib.trimRightB
  have := congrArg List.reverse hk
  rw [List.reverse_reverse, List.reverse_append, List.reverse_replicate] at this
  exact this
theorem trimZ_last (l : List UInt8) : trimZ l = [] ∨ ∃ k c, trimZ l = k ++ [c] ∧ c ≠ 48 := by
  unfold trimZ Lib.trimRightB
  cases h : l.reverse.dropWhile (· == 48) with
  | nil => exact .inl rfl
  | cons c r =>
    refine .inr ⟨r.reverse, c, by simp, ?_⟩
    have := List.head?_dropWhile_not (· == 48) l.reverse
    rw [h] at this
    simpa using this
theorem trimZ_len (l : List UInt8) : 6 < (trimZ l).length ↔ someD (l.drop 6) = true := by
  obtain ⟨k, hk⟩ := trimZ_back l
  constructor
  · intro h
    rcases trimZ_last l with e | ⟨r, c, e, hc⟩
    · rw [e] at h; simp at h
    · rw [hk, List.drop_append_of_le_length (by omega), someD_append]
      rw [e] at h ⊢
      rw [List.drop_append_of_le_length (by simp at h; omega), someD_append]
      have : someD [c] = true := by unfold someD; simpa using hc
      rw [this]; simp
  · intro h
    rcases Nat.lt_or_ge 6 (trimZ l).length with g | g
    · exact g
    · exfalso
      rw [hk, List.drop_append, List.drop_of_length_le g, List.nil_append, List.drop_replicate, someD_noughts] at h
      cases h
theorem trimZ_dg {l : List UInt8} (h : ∀ c ∈ l, isDg c = true) : ∀ c ∈ trimZ l, isDg c = true := by
  obtain ⟨k, hk⟩ := trimZ_back l
  intro c hc
  exact h c (by rw [hk]; exact List.mem_append_left _ hc)
theorem trimZ_size (l : List UInt8) : (trimZ l).length ≤ l.length := by
  obtain ⟨k, hk⟩ := trimZ_back l
  have := congrArg List.length hk
  rw [List.length_append] at this; omega
theorem trimZ_frac {l : List UInt8} (h : (trimZ l).length ≤ 6) : natOf (trimZ l) * 10 ^ (6 - (trimZ l).length) = fracOf 6 l := by
  obtain ⟨k, hk⟩ := trimZ_back l
  have e := frac_nat 6 0 (trimZ l) h
  unfold natOf
  rw [e, Nat.zero_mul, Nat.zero_add]
  have := congrArg (fracOf 6) hk
  rw [this, fracOf_noughts]
/-- Where nothing stands behind the sixth place, the millionths are 0 just where there is no digit other than 0. -/
theorem frac_some {l : List UInt8} (hd : ∀ c ∈ l, isDg c = true) (h : someD (l.drop 6) = false) : someD l = true ↔ 0 < fracOf 6 l := by
  have hl : (trimZ l).length ≤ 6 := by
    rcases Nat.lt_or_ge 6 (trimZ l).length with g | g
    · rw [(trimZ_len l).1 g] at h; cases h
    · exact g
  obtain ⟨k, hk⟩ := trimZ_back l
  have e1 : someD l = someD (trimZ l) := by
    have := congrArg someD hk
    rw [someD_append, someD_noughts, Bool.or_false] at this; exact this
  have e2 : fracOf 6 l = fracOf 6 (trimZ l) := by
    have := congrArg (fracOf 6) hk
    rw [fracOf_noughts] at this; exact this
  rw [e1, e2]
  constructor
  · intro g
    rcases Nat.eq_zero_or_pos (fracOf 6 (trimZ l)) with x | x
    · rw [zero_someD 6 _ (trimZ_dg hd) hl x] at g; cases g
    · exact x
  · intro g
    cases x : someD (trimZ l) with
    | true => rfl
    | false => have := someD_zero 6 _ (trimZ_dg hd) x; omega

/-- Reading whole rows: what is beyond, and what isn't. -/
theorem num_bad {neg : Bool} {w f : List UInt8} (h : MW < wholeV 0 w ∨ (wholeV 0 w = MW ∧ 0 < fracOf 6 f) ∨ someD (f.drop 6) = true) (hf : ∀ c ∈ f, isDg c = true) : numV neg w f = (0, 2) := by
  unfold numV
  rw [if_pos]
  rcases h with h | ⟨h, h2⟩ | h
  · left
    rcases Nat.lt_or_ge MW (natOf w) with g | g
    · exact g
    · rw [wholeV_eq 0 w g] at h; exact h
  · cases g : someD (f.drop 6) with
    | true => exact .inr (.inr rfl)
    | false =>
      rcases Nat.lt_or_ge MW (natOf w) with x | x
      · have := wholeV_gt 0 w (by unfold MW; omega) x; omega
      · rw [wholeV_eq 0 w x] at h
        exact .inr (.inl ⟨h, (frac_some hf g).2 h2⟩)
  · exact .inr (.inr h)
theorem num_fine {neg : Bool} {w f : List UInt8} (h : wholeV 0 w ≤ MW) (h1 : ¬ (wholeV 0 w = MW ∧ 0 < fracOf 6 f)) (h2 : someD (f.drop 6) = false) (hf : ∀ c ∈ f, isDg c = true) :
    numV neg w f = (if neg then -((wholeV 0 w * 1000000 + fracOf 6 f : Nat) : Int) else ((wholeV 0 w * 1000000 + fracOf 6 f : Nat) : Int), 0) := by
  have g : natOf w ≤ MW := by
    rcases Nat.lt_or_ge MW (natOf w) with x | x
    · have := wholeV_gt 0 w (by unfold MW; omega) x; omega
    · exact x
  have e : wholeV 0 w = natOf w := wholeV_eq 0 w g
  rw [e] at h1 ⊢
  unfold numV
  rw [if_neg]
  rw [h2, frac_some hf h2]
  rintro (x | x | x)
  · omega
  · exact h1 x
  · cases x

/-- Six places laid, noughts kept. -/
def padD : Nat → Nat → List UInt8
  | 0, _ => []
  | p + 1, m => dgB (m / 10 ^ p) :: padD p (m % 10 ^ p)
theorem padD_len : ∀ p m, (padD p m).length = p
  | 0, _ => rfl
  | p + 1, m => by show (padD p _).length + 1 = p + 1; rw [padD_len p]
theorem padD_snoc : ∀ (p m : Nat), m < 10 ^ (p + 1) → padD (p + 1) m = padD p (m / 10) ++ [dgB (m % 10)]
  | 0, m, h => by
    have h' : m < 10 := by simpa using h
    show [dgB (m / 1)] = [dgB (m % 10)]
    rw [Nat.div_one, Nat.mod_eq_of_lt h']
  | p + 1, m, h => by
    have hp : 0 < 10 ^ (p + 1) := Nat.pow_pos (by decide)
    have e := padD_snoc p (m % 10 ^ (p + 1)) (Nat.mod_lt _ hp)
    have e1 : m / 10 / 10 ^ p = m / 10 ^ (p + 1) := by rw [Nat.div_div_eq_div_mul, Nat.pow_succ, Nat.mul_comm]
    have e2 : m % 10 ^ (p + 1) / 10 = m / 10 % 10 ^ p := by
      rw [Nat.pow_succ, Nat.mul_comm (10 ^ p) 10, Nat.mod_mul_right_div_self]
    have e3 : m % 10 ^ (p + 1) % 10 = m % 10 := Nat.mod_mod_of_dvd _ ⟨10 ^ p, by rw [Nat.pow_succ, Nat.mul_comm]⟩
    show dgB (m / 10 ^ (p + 1)) :: padD (p + 1) (m % 10 ^ (p + 1)) = (dgB (m / 10 / 10 ^ p) :: padD p (m / 10 % 10 ^ p)) ++ [dgB (m % 10)]
    rw [e, e1, e2, e3]; rfl
theorem dec_pad : ∀ (p m : Nat), m < 10 ^ p → decD (10 ^ p + m) = dgB 1 :: padD p m
  | 0, m, h => by
    obtain rfl : m = 0 := by simpa using h
    rw [decD_small (by decide)]; rfl
  | p + 1, m, h => by
    have hp : 0 < 10 ^ p := Nat.pow_pos (by decide)
    rw [Nat.pow_succ] at h
    have e1 : (10 ^ (p + 1) + m) / 10 = 10 ^ p + m / 10 := by rw [Nat.pow_succ]; omega
    have e2 : (10 ^ (p + 1) + m) % 10 = m % 10 := by rw [Nat.pow_succ]; omega
    rw [decD_great (by rw [Nat.pow_succ]; omega), e1, e2, dec_pad p (m / 10) (by omega), padD_snoc p m (by rw [Nat.pow_succ]; omega)]
    rfl
theorem trimZ_cons (c : UInt8) (l : List UInt8) : trimZ (c :: l) = if trimZ l = [] ∧ c = 48 then [] else c :: trimZ l := by
  unfold trimZ Lib.trimRightB
  rw [List.reverse_cons, List.dropWhile_append]
  cases h : l.reverse.dropWhile (· == 48) with
  | nil =>
    by_cases hc : c = 48
    · subst hc; simp
    · simp [hc]
  | cons d r => simp
theorem trim_pad : ∀ (p m : Nat), m < 10 ^ p → trimZ (padD p m) = fracD p m
  | 0, m, h => rfl
  | p + 1, m, h => by
    have hp : 0 < 10 ^ p := Nat.pow_pos (by decide)
    have ih := trim_pad p (m % 10 ^ p) (Nat.mod_lt _ hp)
    rw [Nat.pow_succ] at h
    have hd : m / 10 ^ p < 10 := by rw [Nat.div_lt_iff_lt_mul hp]; omega
    show trimZ (dgB (m / 10 ^ p) :: padD p (m % 10 ^ p)) = if m = 0 then [] else _
    rw [trimZ_cons, ih]
    have hz : dgB (m / 10 ^ p) = 48 ↔ m / 10 ^ p = 0 := by
      have ⟨a, b⟩ := dgB_dg hd
      have := dg_zero a
      rw [b] at this; exact this.symm
    by_cases hm : m = 0
    · subst hm
      rw [if_pos rfl, if_pos ⟨by rw [Nat.zero_mod]; exact fracD_zero p, by rw [hz]; exact Nat.zero_div _⟩]
    · rw [if_neg hm, if_neg]
      rintro ⟨h1, h2⟩
      have x1 := (fracD_nil (Nat.mod_lt m hp)).1 h1
      have x2 := hz.1 h2
      have := Nat.div_add_mod m (10 ^ p)
      rw [x1, x2] at this; simp at this; omega
theorem decDigits_eq (n : Nat) : Lib.decDigits n = decD n := by
  induction n using Nat.strongRecOn with
  | ind n ih =>
    rw [Lib.decDigits]
    by_cases h : n < 10
    · rw [dif_pos h, decD_small h]; rfl
    · rw [dif_neg h, decD_great h, ih (n / 10) (by omega)]; rfl

/-- The document's way of the places behind the point. -/
theorem frac_next {q m : Nat} (hq : q < 6) (hm : m ≠ 0) : fracD (q + 1) m = dgB (m * 10 ^ (5 - q) / 100000) :: fracD q (m % 10 ^ q) := by
  show (if m = 0 then [] else _) = _
  rw [if_neg hm]
  have e : m / 10 ^ q = m * 10 ^ (5 - q) / 100000 := by
    rcases (show q = 0 ∨ q = 1 ∨ q = 2 ∨ q = 3 ∨ q = 4 ∨ q = 5 by omega) with h | h | h | h | h | h <;> subst h <;> simp <;> omega
  rw [e]
theorem frac_rest {q m : Nat} (hq : q < 6) : m * 10 ^ (5 - q) % 100000 * 10 = m % 10 ^ q * 10 ^ (6 - q) := by
  rcases (show q = 0 ∨ q = 1 ∨ q = 2 ∨ q = 3 ∨ q = 4 ∨ q = 5 by omega) with h | h | h | h | h | h <;> subst h <;> simp <;> omega

/-- A text's parts, by the first point. -/
theorem cut_no {l : List UInt8} (h : (46 : UInt8) ∉ l) : Lib.cut l [46] = (l, [], false) := by
  have e : Lib.index l [46] = -1 := by
    rw [Lib.index_one]
    induction l with
    | nil => rfl
    | cons b l ih =>
      have hb : b ≠ 46 := fun x => h (by rw [x]; exact List.mem_cons_self ..)
      have := ih (fun x => h (List.mem_cons_of_mem _ x))
      unfold Lib.indexByte
      rw [this]; simp [hb]
  unfold Lib.cut; rw [e]; rfl
theorem cut_yes {a b : List UInt8} (h : (46 : UInt8) ∉ a) : Lib.cut (a ++ 46 :: b) [46] = (a, b, true) := by
  have e : Lib.index (a ++ 46 :: b) [46] = (a.length : Int) := by
    rw [Lib.index_one]
    induction a with
    | nil => simp [Lib.indexByte]
    | cons c a ih =>
      have hb : c ≠ 46 := fun x => h (by rw [x]; exact List.mem_cons_self ..)
      have := ih (fun x => h (List.mem_cons_of_mem _ x))
      rw [List.cons_append]
      unfold Lib.indexByte
      have h0 : ¬ ((a.length : Int) == -1) = true := by simp
      rw [this, if_neg (by simpa using hb), if_neg h0]; simp
  unfold Lib.cut; rw [e, if_pos (by omega)]
  simp
/-- Where there is a point, there is a first one. -/
theorem first_point {l : List UInt8} (h : (46 : UInt8) ∈ l) : ∃ a b, l = a ++ 46 :: b ∧ (46 : UInt8) ∉ a := by
  induction l with
  | nil => cases h
  | cons c l ih =>
    by_cases hc : c = 46
    · subst hc; exact ⟨[], l, rfl, by simp⟩
    · rcases List.mem_cons.1 h with e | e
      · exact absurd e.symm hc
      · obtain ⟨a, b, rfl, hn⟩ := ih e
        refine ⟨c :: a, b, rfl, ?_⟩
        intro x
        rcases List.mem_cons.1 x with y | y
        · exact hc y.symm
        · exact hn y
theorem dg_no_point {l : List UInt8} (h : ∀ c ∈ l, isDg c = true) : (46 : UInt8) ∉ l := fun x => by
  have := h 46 x; revert this; decide
theorem split_one {a b w f : List UInt8} (h : a ++ 46 :: b = w ++ 46 :: f) (ha : (46 : UInt8) ∉ a) (hw : (46 : UInt8) ∉ w) : a = w ∧ b = f := by
  have e1 := cut_yes (b := b) ha
  rw [h, cut_yes hw] at e1
  cases e1; exact ⟨rfl, rfl⟩
def allD (l : List UInt8) : Bool := l.all isDg
theorem allD_iff (l : List UInt8) : allD l = true ↔ ∀ c ∈ l, isDg c = true := by unfold allD; rw [List.all_eq_true]
theorem parts_no {l : List UInt8} (h : (46 : UInt8) ∉ l) (h2 : l = [] ∨ allD l = false) : partsV l = none := by
  cases g : partsV l with
  | none => rfl
  | some x =>
    obtain ⟨w, f⟩ := x
    obtain ⟨hw, hf, hc⟩ := partsV_some g
    rcases hc with ⟨_, h3, h4⟩ | ⟨_, h4⟩
    · subst h4
      rcases h2 with h2 | h2
      · exact absurd h2 h3
      · rw [(allD_iff l).2 hw] at h2; cases h2
    · exact absurd (by rw [h4]; simp) h
theorem parts_bad {a b : List UInt8} (h : (46 : UInt8) ∉ a) (h2 : b = [] ∨ allD a = false ∨ allD b = false) : partsV (a ++ 46 :: b) = none := by
  cases g : partsV (a ++ 46 :: b) with
  | none => rfl
  | some x =>
    obtain ⟨w, f⟩ := x
    obtain ⟨hw, hf, hc⟩ := partsV_some g
    rcases hc with ⟨_, h3, h4⟩ | ⟨h3, h4⟩
    · exact absurd (by rw [← h4]; simp) (dg_no_point hw)
    · obtain ⟨rfl, rfl⟩ := split_one h4 h (dg_no_point hw)
      rcases h2 with h2 | h2 | h2
      · exact absurd h2 h3
      · rw [(allD_iff a).2 hw] at h2; cases h2
      · rw [(allD_iff b).2 hf] at h2; cases h2
theorem neg_prefix (l : List UInt8) : Lib.hasPrefix l [45] = negV l := by
  cases l with
  | nil => rfl
  | cons c l =>
    unfold Lib.hasPrefix negV
    simp [List.isPrefixOf]
    rw [Bool.eq_iff_iff]; simp; exact eq_comm
theorem body_prefix (l : List UInt8) : Lib.trimPrefix l [45] = bodyV l := by
  unfold Lib.trimPrefix bodyV
  rw [neg_prefix]
  cases h : negV l with
  | false => simp
  | true =>
    cases l with
    | nil => cases h
    | cons c l => rfl

end Go.Proofs.YtpkpkpiphgjbaaaGreatDoor

namespace Go.Proofs.YtpkpkpiphgjbaaaGreatDoor
open Go.RowKit
set_option maxRecDepth 100000

theorem byteTypesN : ByteTypes Tryz.prog 63 5 9 := ⟨Tryz.underlying63, Tryz.underlying5, Tryz.underlying9, by kernel_rfl⟩
/-- 'string([]byte{c})'. -/
theorem one_textN (w : World) (y : Int) (c : UInt8) (h : y = (c.toNat : Int)) :
    (convert 63 9 (.slice (some ⟨w.heap.size, 0, none⟩) 1 1)).run Tryz.prog (w.alloc (.cells #[.int .u8 y] 5)) = .ok (.string (txt [c])) (w.alloc (.cells #[.int .u8 y] 5)) := by
  subst h
  have := run_convert_bytes_arg (P := Tryz.prog) (w.alloc (.cells #[.int .u8 (c.toNat : Int)] 5)) 63 5 byteTypesN.sl byteTypesN.el w.heap.size 0 1 1 [(c.toNat : Int)] rfl (fun i hi => by
    obtain rfl : i = 0 := by omega
    rw [World.cell?_alloc_new]; rfl) 9 byteTypesN.str
  rw [this, show ([(c.toNat : Int)] : List Int) = [c].map (fun c => (c.toNat : Int)) from rfl, strOfNums_bytes]

/-- What is left to be told, and what is told already. -/
structure DecsAtN (n m : Nat) (l : List UInt8) : Prop where
  is : decD n = decD m ++ l
theorem txt_appN (l k : List UInt8) : txt l ++ txt k = txt (l ++ k) := by
  apply ByteArray.ext
  apply Array.ext'
  simp [txt]

set_option maxHeartbeats 1000000 in
theorem refDigitsN_any (n : Nat) (w : World) (hn : n < 18446744073709551616) :
    Calls Tryz.prog 85 #[.int .u64 n] w fun e w' => e = .returned (.string (txt (decD n))) ∧ Below w.heap.size w w' := by
  go_enter Tryz.func85, Tryz.ntmps85
  go_wp2_with fail
  go_loopw [0, 3] (fun a v wr => ∃ (m : Nat) (l : List UInt8), m ≤ n ∧ a = .int .u64 m ∧ v = .string (txt l) ∧ DecsAtN n m l ∧ Below w.heap.size w wr) (fun a _ _ => (intOf a).toNat)
  case atStart => exact ⟨n, [], Nat.le_refl _, rfl, rfl, ⟨by rw [List.append_nil]⟩, Below.refl _ _⟩
  case round =>
    obtain ⟨m, l, hm, rfl, rfl, hd, hb⟩ := hrel
    rename World => wr
    have hwb := hb.size
    have hl : (txt l).size ≤ 20 := by
      have h1 := congrArg List.length hd.is
      rw [List.length_append] at h1
      have h2 := decD_len (n := n) (k := 20) (by omega) (by decide)
      rw [txt_size]; omega
    have hone : ∀ c : UInt8, (txt [c]).size = 1 := fun c => rfl
    by_cases hg : m < 10
    · have E : Hid (decD n = [dgB m] ++ l) := hide (by rw [hd.is, decD_small hg])
      have hcv := one_textN wr (48 + (m : Int)) (dgB m) (by rw [dgB_toNat hg]; omega)
      have hg' : (m : Int) ≤ 9 := by omega
      have hg0 : 0 ≤ (m : Int) := by omega
      have HCV := hide hcv
      clear hd hg hn hm hcv
      generalize (m : Int) = x at *
      go_wp2_with fail
      rw [HCV.out]
      clear HCV
      go_wp2_with fail
      go_ret
      refine ⟨ret_str ?_, hb.alloc hwb _⟩
      rw [E.out, txt_appN]
    · have E : DecsAtN n (m / 10) ([dgB (m % 10)] ++ l) := ⟨by rw [hd.is, decD_great hg, List.append_assoc]⟩
      have hcv := one_textN wr (48 + (m : Int) % 10) (dgB (m % 10)) (by rw [dgB_toNat (by omega)]; omega)
      have hg' : 9 < (m : Int) := by omega
      have hx : (m : Int) < 18446744073709551616 := by omega
      have HM : Hid (m / 10 ≤ n ∧ 9 < m) := ⟨by omega, by omega⟩
      have HX : Hid ((m : Int) / 10 = ((m / 10 : Nat) : Int) ∧ (m : Int) = (m : Int)) := ⟨by omega, rfl⟩
      have HT := hide (txt_appN [dgB (m % 10)] l)
      have hxx : Hid ((m : Int).toNat = m) := by show _ = _; omega
      have HCV := hide hcv
      clear hd hg hn hm hcv
      generalize (m : Int) = x at *
      go_wp2_with fail
      rw [HCV.out]
      clear HCV
      go_wp2_with fail
      go_roundw
      case rel => exact ⟨m / 10, [dgB (m % 10)] ++ l, HM.out.1, by rw [HX.out.1], by rw [HT.out], E, hb.alloc hwb _⟩
      case measure =>
        have h1 := hxx.out
        have h2 := HX.out.1
        have h3 := HM.out.2
        simp [intOf]; omega

end Go.Proofs.YtpkpkpiphgjbaaaGreatDoor

namespace Go.Proofs.YtpkpkpiphgjbaaaGreatDoor
open Go.RowKit

/-- Places behind the point: what is told already, and what is left. -/
structure ShowAt (full : List UInt8) (r : Nat) (acc : List UInt8) (p m : Nat) : Prop where
  le : p ≤ 6
  lt : m < 10 ^ p
  rest : r = m * 10 ^ (6 - p)
  is : full = acc ++ fracD p m
theorem showAt_start (pre : List UInt8) {m : Nat} (h : m < 1000000) : ShowAt (pre ++ fracD 6 m) m pre 6 m :=
  ⟨Nat.le_refl _, h, by simp, rfl⟩
theorem showAt_end {full acc : List UInt8} {p m : Nat} (h : ShowAt full 0 acc p m) : full = acc := by
  have hp : 0 < 10 ^ (6 - p) := Nat.pow_pos (by decide)
  have : m = 0 := by
    have := h.rest
    rcases Nat.eq_zero_or_pos m with e | e
    · exact e
    · have := Nat.mul_pos e hp; omega
  rw [h.is, this, fracD_zero, List.append_nil]
theorem showAt_less {full acc : List UInt8} {r p m : Nat} (h : ShowAt full r acc p m) : r < 1000000 := by
  have hp : 0 < 10 ^ (6 - p) := Nat.pow_pos (by decide)
  rw [h.rest]
  have h1 : m * 10 ^ (6 - p) < 10 ^ p * 10 ^ (6 - p) := (Nat.mul_lt_mul_right hp).2 h.lt
  rw [← Nat.pow_add, Nat.add_sub_cancel' h.le] at h1
  exact h1
theorem showAt_next {full acc : List UInt8} {r p m : Nat} (h : ShowAt full r acc p m) (h0 : 0 < r) : acc.length < full.length ∧ ∃ m', ShowAt full (r % 100000 * 10) (acc ++ [dgB (r / 100000)]) (p - 1) m' := by
  have hm : m ≠ 0 := by
    intro e
    have := h.rest
    rw [e] at this; omega
  obtain ⟨q, rfl⟩ : ∃ q, p = q + 1 := ⟨p - 1, by
    have := h.lt
    rcases Nat.eq_zero_or_pos p with e | e
    · rw [e] at this; simp at this; omega
    · omega⟩
  have hq : q < 6 := by have := h.le; omega
  have e1 : 6 - (q + 1) = 5 - q := by omega
  have er := h.rest
  rw [e1] at er
  have en := frac_next hq hm
  rw [← er] at en
  have ei := h.is
  rw [en] at ei
  refine ⟨by rw [ei, List.length_append, List.length_cons]; omega, m % 10 ^ q, ⟨by show q ≤ 6; omega, Nat.mod_lt _ (Nat.pow_pos (by decide)), ?_, ?_⟩⟩
  · rw [er]; exact frac_rest hq
  · show full = _
    rw [ei, List.append_assoc]; rfl

theorem decD_one {n : Nat} (h : n < 10) : decD n = [dgB n] := decD_small h

/-- What is told of a number's amount, behind what stands ahead. -/
def tellL (pre : List UInt8) (u : Nat) : List UInt8 := (pre ++ decD (u / 1000000)) ++ (if u % 1000000 = 0 then [] else 46 :: fracD 6 (u % 1000000))
theorem tell_no {pre : List UInt8} {u : Nat} (h : u % 1000000 = 0) : tellL pre u = pre ++ decD (u / 1000000) := by
  unfold tellL; rw [if_pos h, List.append_nil]
theorem tell_yes {pre : List UInt8} {u : Nat} (h : u % 1000000 ≠ 0) : tellL pre u = (pre ++ decD (u / 1000000) ++ [46]) ++ fracD 6 (u % 1000000) := by
  unfold tellL; rw [if_neg h]; simp
theorem tell_is (n : Int) : showL n = tellL (if n < 0 then [45] else []) n.natAbs := rfl
theorem tell_len {pre : List UInt8} {u : Nat} (hp : pre.length ≤ 1) (hu : u < 18446744073709551616) : (tellL pre u).length ≤ 30 := by
  have h1 := decD_len (n := u / 1000000) (k := 20) (by omega) (by decide)
  have h2 := fracD_len 6 (u % 1000000)
  unfold tellL
  split
  · simp; omega
  · simp; omega

end Go.Proofs.YtpkpkpiphgjbaaaGreatDoor

namespace Go.Proofs.YtpkpkpiphgjbaaaGreatDoor
open Go.RowKit

/-- A node: its name and text, its attributes, its parent's number, its children's. -/
structure Nd where
  name : ByteArray
  text : ByteArray
  attrs : List (ByteArray × ByteArray)
  parent : Int
  kids : List Int
def nd0 : Nd := ⟨⟨#[]⟩, ⟨#[]⟩, [], -1, []⟩
def at0 : ByteArray × ByteArray := (⟨#[]⟩, ⟨#[]⟩)

def smallC (c : UInt8) : Bool := decide (97 ≤ c.toNat ∧ c.toNat ≤ 122)
def otherC (c : UInt8) : Bool := decide (48 ≤ c.toNat ∧ c.toNat ≤ 57) || c == 45
/-- May a sign stand at a place of a name? -/
def nmAt (i : Nat) (c : UInt8) : Bool := smallC c || (!(i == 0) && otherC c)
def nmAll : Nat → List UInt8 → Bool
  | _, [] => true
  | i, c :: l => nmAt i c && nmAll (i + 1) l
def nameOk (s : ByteArray) : Bool := decide (0 < s.size ∧ s.size ≤ 20) && nmAll 0 s.data.toList
theorem nmAll_bad : ∀ {l : List UInt8} {n k : Nat} (hk : k < l.length), nmAt (n + k) l[k] = false → nmAll n l = false
  | [], _, _, hk, _ => by cases hk
  | c :: l, n, 0, _, h => by
    have h : nmAt n c = false := h
    show (nmAt n c && nmAll (n + 1) l) = false
    rw [h]; rfl
  | c :: l, n, k + 1, hk, h => by
    have := nmAll_bad (l := l) (n := n + 1) (k := k) (by simpa using hk) (by rw [show n + 1 + k = n + (k + 1) by omega]; exact h)
    show (nmAt n c && nmAll (n + 1) l) = false
    rw [this, Bool.and_false]
theorem nmAll_all : ∀ {l : List UInt8} {n : Nat}, (∀ k (hk : k < l.length), nmAt (n + k) l[k] = true) → nmAll n l = true
  | [], _, _ => rfl
  | c :: l, n, h => by
    have h0 : nmAt n c = true := h 0 (by simp)
    have := nmAll_all (l := l) (n := n + 1) (fun k hk => by rw [show n + 1 + k = n + (k + 1) by omega]; exact h (k + 1) (by simpa using hk))
    show (nmAt n c && nmAll (n + 1) l) = true
    rw [h0, this]; rfl

/-- The place of an attribute. -/
def findA (ax : List (ByteArray × ByteArray)) (n : ByteArray) : Option Nat := ax.findIdx? fun a => decide (a.1 = n)
def findV (o : Option Nat) : Int := match o with
  | none => -1
  | some k => (k : Int)
def cntI (l : List Int) (n : Int) : Nat := l.count n
/-- A node by itself. -/
def attrOk (ax : List (ByteArray × ByteArray)) (i : Nat) : Bool := nameOk (ax.getD i at0).1 && (decide ((ax.getD i at0).2.size ≤ 4000) && findA ax (ax.getD i at0).1 == some i)
def aloneB (n : Nd) : Bool :=
  if n.name.size = 0 then n.attrs.isEmpty && (n.kids.isEmpty && decide (n.text.size ≤ 4000))
  else nameOk n.name && (n.text.size == 0 && (decide (n.attrs.length ≤ 40) && (List.range n.attrs.length).all (attrOk n.attrs)))
def nd (l : List Nd) (i : Nat) : Nd := l.getD i nd0
def parI (l : List Nd) (i : Int) : Int := (nd l i.toNat).parent
/-- A node among the others. -/
def kidOk (l : List Nd) (i : Nat) (c : Int) : Bool := decide (0 ≤ c ∧ c < l.length) && parI l c == (i : Int)
def nodeOk (l : List Nd) (i : Nat) : Bool := aloneB (nd l i) && (decide (-1 ≤ (nd l i).parent ∧ (nd l i).parent < l.length) && ((decide ((nd l i).parent < 0) || cntI (nd l (nd l i).parent.toNat).kids i == 1) && (nd l i).kids.all (kidOk l i)))
/-- So many steps up. -/
def climb (l : List Nd) : Nat → Int → Int
  | 0, k => k
  | n + 1, k => if k < 0 then k else climb l n (parI l k)
def rightB (l : List Nd) : Bool := decide (1 ≤ l.length ∧ l.length ≤ 400) && (!((nd l 0).name.size == 0) && ((nd l 0).parent == -1 && ((List.range l.length).all (nodeOk l) && (List.range l.length).all fun i => decide (climb l (l.length + 1) i < 0))))

end Go.Proofs.YtpkpkpiphgjbaaaGreatDoor

namespace Go.Proofs.YtpkpkpiphgjbaaaGreatDoor
open Go.RowKit

theorem kshow_bounds {kind n : Int} {t : List UInt8} (h : ShowIs kind n t) : 1 ≤ kind ∧ kind ≤ 5 ∧ -9223372036854775808 ≤ n ∧ n ≤ 9223372036854775807 := by
  rcases h with ⟨rfl, k, y, m, d, hd, rfl, rfl⟩ | ⟨rfl, y, m, y1, y2, m1, m2, rfl, rfl⟩ | ⟨rfl, y, k, y1, y2, k1, k2, rfl, rfl⟩ | ⟨rfl, k, hk, rfl, rfl⟩ | ⟨rfl, k, y, m, d, r, hd, hr, rfl, rfl⟩
  · have := hd.bounds; omega
  · omega
  · have := first_range (y := y) (by omega) (by omega)
    have := (weeks_is y).2
    omega
  · omega
  · have := hd.bounds; omega
theorem kshow_small {kind n : Int} {t : List UInt8} (h : ShowIs kind n t) : (txt t).size ≤ 60 := by
  rcases h with ⟨rfl, k, y, m, d, hd, rfl, rfl⟩ | ⟨rfl, y, m, y1, y2, m1, m2, rfl, rfl⟩ | ⟨rfl, y, k, y1, y2, k1, k2, rfl, rfl⟩ | ⟨rfl, k, hk, rfl, rfl⟩ | ⟨rfl, k, y, m, d, r, hd, hr, rfl, rfl⟩
  · have := dateL_size hd; omega
  · have a := pad_most (n := y) (w := 4) (k := 9) (by omega) (by decide) (by decide)
    have b := pad_most (n := m) (w := 2) (k := 2) (by omega) (by decide) (by decide)
    rw [txt_size]; unfold monthL
    simp only [List.length_append, List.length_cons]; omega
  · have := (weeks_is y).2
    have a := pad_most (n := y) (w := 4) (k := 9) (by omega) (by decide) (by decide)
    have b := pad_most (n := k) (w := 2) (k := 2) (by omega) (by decide) (by decide)
    rw [txt_size]; unfold weekL
    simp only [List.length_append, List.length_cons]; omega
  · have := clockL_size hk; omega
  · have a := dateL_size hd
    have b := clockL_size hr
    rw [txt_size] at a b ⊢
    simp only [List.length_append, List.length_cons]; omega
theorem kmom_shown {kind n : Int} {t : List UInt8} (h : ShowIs kind n t) : momV kind (txt t).data.toList = (n, 0) := by
  have b := kshow_bounds h
  rw [txt_data]
  unfold momV
  rw [if_pos ⟨b.1, b.2.1⟩, mom_back h]; rfl

def optI (o : Option Int) : Int := o.getD 0
/-- The number that Parse answers, if it does. -/
def okP (r : Int × Int) : Option Int := if r.2 = 0 then some r.1 else none
/-- The number of a text, by a kind. -/
def numK (k : Int) (l : List UInt8) : Option Int := if k = 13 ∨ k = 14 then okP (parseV l) else if 8 ≤ k ∧ k ≤ 12 then momT (k - 7) l else none
theorem parse_out (l : List UInt8) : (parseV l).2 = 0 ∨ (parseV l).1 = 0 := by
  unfold parseV
  split
  · exact .inr rfl
  · unfold numV
    split
    · exact .inr rfl
    · exact .inl rfl
theorem parse_opt (l : List UInt8) : (parseV l).1 = optI (okP (parseV l)) ∧ ((parseV l).2 == 0) = (okP (parseV l)).isSome := by
  unfold okP optI
  rcases parse_out l with h | h
  · rw [if_pos h]; exact ⟨rfl, by rw [h]; rfl⟩
  · by_cases q : (parseV l).2 = 0
    · rw [if_pos q]; exact ⟨rfl, by rw [q]; rfl⟩
    · rw [if_neg q]; exact ⟨h, beq_eq_false_iff_ne.2 q⟩
theorem mom_opt {k : Int} (h : 1 ≤ k ∧ k ≤ 5) (l : List UInt8) : (momV k l).1 = optI (momT k l) ∧ ((momV k l).2 == 0) = (momT k l).isSome := by
  unfold momV
  rw [if_pos h]
  cases momT k l with
  | none => exact ⟨rfl, rfl⟩
  | some n => exact ⟨rfl, rfl⟩
theorem parts_dg {l w f : List UInt8} (h : partsV l = some (w, f)) : ∀ c ∈ f, isDg c = true := by
  unfold partsV at h
  split at h
  · split at h
    · cases h
    · cases h; exact fun c q => by cases q
  · split at h
    · rename_i q
      cases h
      exact List.all_eq_true.1 q.2.2
    · cases h
/-- Numbers are not beyond 10^18. -/
theorem parse_range {l : List UInt8} {n : Int} (h : okP (parseV l) = some n) : -1000000000000000000 ≤ n ∧ n ≤ 1000000000000000000 := by
  unfold okP at h
  split at h
  · cases h
    unfold parseV
    split
    · exact ⟨by decide, by decide⟩
    · rename_i w f hp
      unfold numV
      split
      · exact ⟨by decide, by decide⟩
      · rename_i q
        have hd := parts_dg hp
        have hm : fracOf 6 f < 1000000 ∧ (natOf w = MW → fracOf 6 f = 0) := ⟨fracOf_lt 6 f hd, fun e => someD_zero 6 f hd (by
          by_cases t : someD f = true
          · exact absurd (.inr (.inl ⟨e, t⟩)) q
          · simpa using t)⟩
        have hw : natOf w ≤ MW := by
          rcases Nat.lt_or_ge MW (natOf w) with t | t
          · exact absurd (.inl t) q
          · exact t
        have hM : MW = 1000000000000 := rfl
        show -1000000000000000000 ≤ (if negV l = true then -((natOf w * 1000000 + fracOf 6 f : Nat) : Int) else ((natOf w * 1000000 + fracOf 6 f : Nat) : Int)) ∧ (if negV l = true then -((natOf w * 1000000 + fracOf 6 f : Nat) : Int) else ((natOf w * 1000000 + fracOf 6 f : Nat) : Int)) ≤ 1000000000000000000
        have hs : natOf w * 1000000 + fracOf 6 f ≤ 1000000000000000000 := by
          rcases Nat.lt_or_ge (natOf w) MW with t | t
          · omega
          · have := hm.2 (by omega); omega
        split <;> omega
  · cases h
theorem num_range {k : Int} {l : List UInt8} {n : Int} (h : numK k l = some n) : -1000000000000000000 ≤ n ∧ n ≤ 1000000000000000000 := by
  unfold numK at h
  split at h
  · exact parse_range h
  · split at h
    · rename_i q
      obtain ⟨t, ht⟩ := mom_normal (kind := k - 7) (by omega) (by omega) h
      rcases ht with ⟨_, k, y, m, d, hd, rfl, _⟩ | ⟨_, y, m, y1, y2, m1, m2, rfl, _⟩ | ⟨_, y, k, y1, y2, k1, k2, rfl, _⟩ | ⟨_, k, hk, rfl, _⟩ | ⟨_, k, y, m, d, r, hd, hr, rfl, _⟩
      · have := hd.bounds; omega
      · omega
      · have := first_range (y := y) (by omega) (by omega)
        have := (weeks_is y).2
        omega
      · omega
      · have := hd.bounds; omega
    · cases h
/-- A number's text, by a kind. -/
def ShK (k n : Int) (o : Option (List UInt8)) : Prop :=
  ((k = 13 ∨ k = 14) ∧ ((-1000000000000000000 ≤ n ∧ n ≤ 1000000000000000000 ∧ o = some (showL n)) ∨ (¬ (-1000000000000000000 ≤ n ∧ n ≤ 1000000000000000000) ∧ o = none))) ∨
  ((8 ≤ k ∧ k ≤ 12) ∧ ((∃ t, ShowIs (k - 7) n t ∧ o = some t) ∨ (ShowNo (k - 7) n ∧ o = none))) ∨
  (¬ (8 ≤ k ∧ k ≤ 14) ∧ o = none)
theorem shk_some (k n : Int) : ∃ o, ShK k n o := by
  by_cases h : k = 13 ∨ k = 14
  · by_cases q : -1000000000000000000 ≤ n ∧ n ≤ 1000000000000000000
    · exact ⟨_, .inl ⟨h, .inl ⟨q.1, q.2, rfl⟩⟩⟩
    · exact ⟨_, .inl ⟨h, .inr ⟨q, rfl⟩⟩⟩
  · by_cases h2 : 8 ≤ k ∧ k ≤ 12
    · rcases show_cases (kind := k - 7) n (by omega) (by omega) with ⟨t, ht⟩ | hn
      · exact ⟨_, .inr (.inl ⟨h2, .inl ⟨t, ht, rfl⟩⟩)⟩
      · exact ⟨_, .inr (.inl ⟨h2, .inr ⟨hn, rfl⟩⟩)⟩
    · exact ⟨none, .inr (.inr ⟨by omega, rfl⟩)⟩
/-- What is shown has the number that it was. -/
theorem shk_back {k n : Int} {t : List UInt8} (h : ShK k n (some t)) : numK k t = some n := by
  rcases h with ⟨h, ⟨q1, q2, e⟩ | ⟨_, e⟩⟩ | ⟨h, ⟨u, hu, e⟩ | ⟨_, e⟩⟩ | ⟨_, e⟩
  · cases e
    have hp : parseV (showL n) = (n, 0) := by rw [parse_show, if_pos (by omega)]
    unfold numK okP
    rw [if_pos h, hp]; rfl
  · cases e
  · cases e
    unfold numK
    rw [if_neg (by omega), if_pos h, mom_back hu]
  · cases e
  · cases e
theorem shk_small {k n : Int} {t : List UInt8} (h : ShK k n (some t)) : (txt t).size ≤ 60 := by
  rcases h with ⟨h, ⟨q1, q2, e⟩ | ⟨_, e⟩⟩ | ⟨h, ⟨u, hu, e⟩ | ⟨_, e⟩⟩ | ⟨_, e⟩
  · cases e
    rw [txt_size, tell_is]
    have := tell_len (pre := if n < 0 then [45] else []) (u := n.natAbs) (by split <;> simp) (by omega)
    omega
  · cases e
  · cases e; exact kshow_small hu
  · cases e
  · cases e
/-- What has a number can be shown. -/
theorem shk_num {k n : Int} {l : List UInt8} (h : numK k l = some n) : ∃ t, ShK k n (some t) := by
  have r := num_range h
  unfold numK at h
  split at h
  · rename_i q
    exact ⟨_, .inl ⟨q, .inl ⟨r.1, r.2, rfl⟩⟩⟩
  · split at h
    · rename_i q
      obtain ⟨t, ht⟩ := mom_normal (kind := k - 7) (by omega) (by omega) h
      exact ⟨t, .inr (.inl ⟨q, .inl ⟨t, ht, rfl⟩⟩)⟩
    · cases h

def minS : ByteArray := ⟨#[109, 105, 110]⟩
def maxS : ByteArray := ⟨#[109, 97, 120]⟩
def stepS : ByteArray := ⟨#[115, 116, 101, 112]⟩
def valS : ByteArray := ⟨#[118, 97, 108, 117, 101]⟩
def anyS : ByteArray := ⟨#[97, 110, 121]⟩
/-- The number of an attribute. -/
def attrK (k : Int) (ax : List (ByteArray × ByteArray)) (name : ByteArray) : Option Int := (findA ax name).bind fun i => numK k (ax.getD i at0).2.data.toList
def leastK (k : Int) (ax : List (ByteArray × ByteArray)) : Option Int := if (attrK k ax minS).isSome then attrK k ax minS else if k = 14 then some 0 else none
def mostK (k : Int) (ax : List (ByteArray × ByteArray)) : Option Int := if (attrK k ax maxS).isSome then attrK k ax maxS else if k = 14 then some (if 100000000 < optI (leastK k ax) then optI (leastK k ax) else 100000000) else none
def scaleK (k : Int) : Int := if k = 8 then 86400000 else if k = 9 then 1 else if k = 10 then 604800000 else if k = 11 ∨ k = 12 then 1000 else 1000000
def defK (k : Int) : Int := if k = 11 ∨ k = 12 then 60000 else scaleK k
/-- The step that a number makes. -/
def outN (k n : Int) : Int := n / 1000000 * scaleK k + n % 1000000 * scaleK k / 1000000
def stepN (k n : Int) : Int := if n ≤ 0 then defK k else if 1000000000000000000 / scaleK k < n / 1000000 then defK k else
  if outN k n = 0 ∨ 1000000000000000000 < outN k n then defK k else outN k n
def stepOf (k : Int) (o : Option Int) : Int := match o with
  | none => defK k
  | some n => stepN k n
def stepK (k : Int) (ax : List (ByteArray × ByteArray)) : Option Int := if 8 ≤ k ∧ k ≤ 14 then
    match findA ax stepS with
    | none => some (defK k)
    | some i => if lowS (ax.getD i at0).2 = anyS then none else some (stepOf k (okP (parseV (ax.getD i at0).2.data.toList)))
  else none
def baseK (k : Int) (ax : List (ByteArray × ByteArray)) : Int := if (attrK k ax minS).isSome then optI (attrK k ax minS) else if (attrK k ax valS).isSome then optI (attrK k ax valS) else if k = 10 then -259200000 else 0
def underG (L : Option Int) (n : Int) : Bool := L.isSome && decide (n < optI L)
def overG (M : Option Int) (n : Int) : Bool := M.isSome && decide (optI M < n)
def offG (S : Option Int) (n base : Int) : Bool := S.isSome && !fitV n base (optI S)
def turnG (k : Int) (L M : Option Int) : Bool := k == 11 && (L.isSome && (M.isSome && decide (optI M < optI L)))
def bothG (L M : Option Int) (n : Int) : Bool := decide (optI M < n) && decide (n < optI L)
def flagsG (k n : Int) (L M S : Option Int) (base : Int) : Bool × Bool × Bool := if turnG k L M = true then (bothG L M n, bothG L M n, offG S n base) else (underG L n, overG M n, offG S n base)
/-- What is wrong with a value: below, above, off. -/
def flagsK (k : Int) (ax : List (ByteArray × ByteArray)) (l : List UInt8) : Bool × Bool × Bool := match numK k l with
  | none => (false, false, false)
  | some n => flagsG k n (leastK k ax) (mostK k ax) (stepK k ax) (baseK k ax)
theorem optI_range {o : Option Int} {B : Int} (hB : 0 ≤ B) (h : ∀ n, o = some n → -B ≤ n ∧ n ≤ B) : -B ≤ optI o ∧ optI o ≤ B := by
  cases o with
  | none => exact ⟨by show -B ≤ (0 : Int); omega, hB⟩
  | some n => exact h n rfl
theorem attr_range (k : Int) (ax : List (ByteArray × ByteArray)) (name : ByteArray) : -1000000000000000000 ≤ optI (attrK k ax name) ∧ optI (attrK k ax name) ≤ 1000000000000000000 := by
  refine optI_range (B := 1000000000000000000) (by decide) fun n h => ?_
  unfold attrK at h
  obtain ⟨i, _, h⟩ := Option.bind_eq_some_iff.1 h
  exact num_range h
theorem least_range (k : Int) (ax : List (ByteArray × ByteArray)) : -1000000000000000000 ≤ optI (leastK k ax) ∧ optI (leastK k ax) ≤ 1000000000000000000 := by
  unfold leastK
  split
  · exact attr_range k ax minS
  · split <;> exact ⟨by decide, by decide⟩
theorem base_range (k : Int) (ax : List (ByteArray × ByteArray)) : -1000000000000000000 ≤ baseK k ax ∧ baseK k ax ≤ 1000000000000000000 := by
  unfold baseK
  split
  · exact attr_range k ax minS
  · split
    · exact attr_range k ax valS
    · split <;> exact ⟨by decide, by decide⟩
theorem def_range (k : Int) : 1 ≤ defK k ∧ defK k ≤ 604800000 := by
  unfold defK scaleK
  (repeat' split) <;> omega
theorem scale_range (k : Int) : 1 ≤ scaleK k ∧ scaleK k ≤ 604800000 := by
  unfold scaleK
  (repeat' split) <;> omega
theorem stepOf_range (k : Int) (o : Option Int) : 1 ≤ stepOf k o ∧ stepOf k o ≤ 1000000000000000000 := by
  have d := def_range k
  have s := scale_range k
  cases o with
  | none => exact ⟨d.1, by show defK k ≤ _; omega⟩
  | some n =>
    show 1 ≤ stepN k n ∧ stepN k n ≤ 1000000000000000000
    unfold stepN
    split
    · omega
    · split
      · omega
      · split
        · omega
        · rename_i h0 _ h
          have a1 : 0 ≤ n / 1000000 * scaleK k := Int.mul_nonneg (Int.ediv_nonneg (by omega) (by omega)) (by omega)
          have a2 : 0 ≤ n % 1000000 * scaleK k / 1000000 := Int.ediv_nonneg (Int.mul_nonneg (Int.emod_nonneg _ (by omega)) (by omega)) (by omega)
          have e : outN k n = n / 1000000 * scaleK k + n % 1000000 * scaleK k / 1000000 := rfl
          omega
theorem step_range (k : Int) (ax : List (ByteArray × ByteArray)) {b : Int} (h : stepK k ax = some b) : 1 ≤ b ∧ b ≤ 1000000000000000000 := by
  have d := def_range k
  unfold stepK at h
  split at h
  · split at h
    · cases h; omega
    · split at h
      · cases h
      · cases h; exact stepOf_range _ _
  · cases h

end Go.Proofs.YtpkpkpiphgjbaaaGreatDoor
