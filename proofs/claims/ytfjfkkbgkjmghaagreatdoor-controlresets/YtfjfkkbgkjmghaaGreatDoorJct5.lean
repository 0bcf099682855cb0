/- Numbers as texts, the ways by which the program and the document's reading go. The document's Digits and Show answer by the functions of 'Num'. The document's Show answers by the function of 'Num'. The document's Show answers by the function of 'Num'. The program's allDigits and wholePart, and the document's count, answer by the functions of 'Num' and 'NumProg'. The document's way of reading a number's text, round by round. -/
import Derived.Test.YtfjfkkbgkjmghaaGreatDoorJct3
import Derived.Lib.ItoaNum
import Derived.Lib.TrimByte
import Derived.Lib.CutLaws
import Derived.Lib.IndexBytes
import Derived.Deep.QuietTactic

namespace Go.Proofs.YtfjfkkbgkjmghaaGreatDoor
open Go.RowKit
/-- Digits read up to the bound. -/
def wholeV (n : Nat) : List UInt8 → Nat
  | [] => n
  | c :: l => if MW < 10 * n + dg c then 10 * n + dg c else wholeV (10 * n + dg c) l
theorem wholeV_eq : ∀ (n : Nat) (l : List UInt8), natFrom n l ≤ MW → wholeV n l = natFrom n l
  | n, [], _ => rfl
  | n, c :: l, h => by
    have h' : natFrom (10 * n + dg c) l ≤ MW := h
    have := natFrom_ge (10 * n + dg c) l
    show (if _ then _ else _) = natFrom (10 * n + dg c) l
    rw [if_neg (by omega)]
    exact wholeV_eq _ l h'
theorem wholeV_gt : ∀ (n : Nat) (l : List UInt8), n ≤ MW → MW < natFrom n l → MW < wholeV n l
  | n, [], h, h2 => by
    have : MW < n := h2
    omega
  | n, c :: l, h, h2 => by
    have h2' : MW < natFrom (10 * n + dg c) l := h2
    show MW < (if _ then _ else _)
    split
    · assumption
    · exact wholeV_gt _ l (by omega) h2'
theorem wholeV_le : ∀ (n : Nat) (l : List UInt8), n ≤ MW → (∀ c ∈ l, isDg c = true) → wholeV n l ≤ 10 * MW + 9
  | n, [], h, _ => by show n ≤ _; omega
  | n, c :: l, h, hd => by
    have := dg_lt (hd c (List.mem_cons_self ..))
    show (if _ then _ else _) ≤ _
    split
    · show 10 * n + dg c ≤ 10 * MW + 9
      omega
    · exact wholeV_le _ l (by omega) (fun d h => hd d (List.mem_cons_of_mem _ h))
/-- Digits read, none behind the bound. -/
def wholeR (n : Nat) : List UInt8 → Nat
  | [] => n
  | c :: l => wholeR (if n ≤ MW then 10 * n + dg c else n) l
theorem wholeR_stop : ∀ (n : Nat) (l : List UInt8), MW < n → wholeR n l = n
  | n, [], _ => rfl
  | n, c :: l, h => by
    show wholeR (if _ then _ else _) l = n
    rw [if_neg (by omega)]; exact wholeR_stop n l h
theorem wholeR_eq : ∀ (n : Nat) (l : List UInt8), n ≤ MW → wholeR n l = wholeV n l
  | n, [], _ => rfl
  | n, c :: l, h => by
    show wholeR (if _ then _ else _) l = (if _ then _ else _)
    rw [if_pos h]
    by_cases g : MW < 10 * n + dg c
    · rw [if_pos g]; exact wholeR_stop _ l g
    · rw [if_neg g]; exact wholeR_eq _ l (by omega)
theorem wholeR_append (n : Nat) : ∀ (l k : List UInt8), wholeR n (l ++ k) = wholeR (wholeR n l) k := by
  intro l; induction l generalizing n with
  | nil => intro k; rfl
  | cons c l ih => intro k; exact ih _ k
/-- The number told by the digits of p places. -/
theorem frac_nat : ∀ (p n : Nat) (l : List UInt8), l.length ≤ p → natFrom n l * 10 ^ (p - l.length) = n * 10 ^ p + fracOf p l
  | p, n, [], _ => by rw [fracOf_zeros]; rfl
  | 0, n, c :: l, h => by simp at h
  | p + 1, n, c :: l, h => by
    have ih := frac_nat p (10 * n + dg c) l (by simpa using h)
    have e : p + 1 - (c :: l).length = p - l.length := by simp
    show natFrom (10 * n + dg c) l * _ = n * 10 ^ (p + 1) + (dg c * 10 ^ p + fracOf p l)
    rw [e, ih, Nat.pow_succ, Nat.add_mul, Nat.mul_comm 10 n, Nat.mul_assoc, Nat.mul_comm 10 (10 ^ p)]
    omega
theorem fracOf_noughts : ∀ (p : Nat) (l : List UInt8) (k : Nat), fracOf p (l ++ List.replicate k 48) = fracOf p l
  | 0, _, _ => rfl
  | p + 1, [], 0 => rfl
  | p + 1, [], k + 1 => by
    show dg 48 * 10 ^ p + fracOf p ([] ++ List.replicate k 48) = 0
    rw [fracOf_noughts p [] k, fracOf_zeros]; simp [dg]
  | p + 1, c :: l, k => by
    show dg c * 10 ^ p + fracOf p (l ++ List.replicate k 48) = dg c * 10 ^ p + fracOf p l
    rw [fracOf_noughts p l k]
theorem someD_append (l k : List UInt8) : someD (l ++ k) = (someD l || someD k) := by unfold someD; rw [List.any_append]
theorem someD_noughts (k : Nat) : someD (List.replicate k 48) = false := by
  unfold someD
  rw [List.any_eq_false]
  intro c hc
  rw [List.eq_of_mem_replicate hc]; decide
/-- Digits without the noughts at the end. -/
def trimZ (l : List UInt8) : List UInt8 := Lib.trimRightB l 48
theorem dropZ : ∀ l : List UInt8, ∃ k, l = List.replicate k 48 ++ l.dropWhile (· == 48)
  | [] => ⟨0, rfl⟩
  | c :: l => by
    obtain ⟨k, hk⟩ := dropZ l
    by_cases h : c = 48
    · subst h
      refine ⟨k + 1, ?_⟩
      rw [List.dropWhile_cons, if_pos (by decide), List.replicate_succ, List.cons_append, ← hk]
    · refine ⟨0, ?_⟩
      rw [List.dropWhile_cons, if_neg (by simpa using h)]; rfl
theorem trimZ_back (l : List UInt8) : ∃ k, l = trimZ l ++ List.replicate k 48 := by
  obtain ⟨k, hk⟩ := dropZ l.reverse
  refine ⟨k, ?_⟩
  unfold trimZ Lib.trimRightB
  have := congrArg List.reverse hk
  rw [List.reverse_reverse, List.reverse_append, List.reverse_replicate] at this
  exact this
theorem trimZ_last (l : List UInt8) : trimZ l = [] ∨ ∃ k c, trimZ l = k ++ [c] ∧ c ≠ 48 := by
  unfold trimZ Lib.trimRightB
  cases h : l.reverse.dropWhile (· == 48) with
  | nil => exact .inl rfl
  | cons c r =>
    refine .inr ⟨r.reverse, c, by simp, ?_⟩
    have := List.head?_dropWhile_not (· == 48) l.reverse
    rw [h] at this
    simpa using this
theorem trimZ_len (l : List UInt8) : 6 < (trimZ l).length ↔ someD (l.drop 6) = true := by
  obtain ⟨k, hk⟩ := trimZ_back l
  constructor
  · intro h
    rcases trimZ_last l with e | ⟨r, c, e, hc⟩
    · rw [e] at h; simp at h
    · rw [hk, List.drop_append_of_le_length (by omega), someD_append]
      rw [e] at h ⊢
      rw [List.drop_append_of_le_length (by simp at h; omega), someD_append]
      have : someD [c] = true := by unfold someD; simpa using hc
      rw [this]; simp
  · intro h
    rcases Nat.lt_or_ge 6 (trimZ l).length with g | g
    · exact g
    · exfalso
      rw [hk, List.drop_append, List.drop_of_length_le g, List.nil_append, List.drop_replicate, someD_noughts] at h
      cases h
theorem trimZ_dg {l : List UInt8} (h : ∀ c ∈ l, isDg c = true) : ∀ c ∈ trimZ l, isDg c = true := by
  obtain ⟨k, hk⟩ := trimZ_back l
  intro c hc
  exact h c (by rw [hk]; exact List.mem_append_left _ hc)
theorem trimZ_size (l : List UInt8) : (trimZ l).length ≤ l.length := by
  obtain ⟨k, hk⟩ := trimZ_back l
  have := congrArg List.length hk
  rw [List.length_append] at this; omega
theorem trimZ_frac {l : List UInt8} (h : (trimZ l).length ≤ 6) : natOf (trimZ l) * 10 ^ (6 - (trimZ l).length) = fracOf 6 l := by
  obtain ⟨k, hk⟩ := trimZ_back l
  have e := frac_nat 6 0 (trimZ l) h
  unfold natOf
  rw [e, Nat.zero_mul, Nat.zero_add]
  have := congrArg (fracOf 6) hk
  rw [this, fracOf_noughts]
/-- Where nothing stands behind the sixth place, the millionths are 0 just where there is no digit other than 0. -/
theorem frac_some {l : List UInt8} (hd : ∀ c ∈ l, isDg c = true) (h : someD (l.drop 6) = false) : someD l = true ↔ 0 < fracOf 6 l := by
  have hl : (trimZ l).length ≤ 6 := by
    rcases Nat.lt_or_ge 6 (trimZ l).length with g | g
    · rw [(trimZ_len l).1 g] at h; cases h
    · exact g
  obtain ⟨k, hk⟩ := trimZ_back l
  have e1 : someD l = someD (trimZ l) := by
    have := congrArg someD hk
    rw [someD_append, someD_noughts, Bool.or_false] at this; exact this
  have e2 : fracOf 6 l = fracOf 6 (trimZ l) := by
    have := congrArg (fracOf 6) hk
    rw [fracOf_noughts] at this; exact this
  rw [e1, e2]
  constructor
  · intro g
    rcases Nat.eq_zero_or_pos (fracOf 6 (trimZ l)) with x | x
    · rw [zero_someD 6 _ (trimZ_dg hd) hl x] at g; cases g
    · exact x
  · intro g
    cases x : someD (trimZ l) with
    | true => rfl
    | false => have := someD_zero 6 _ (trimZ_dg hd) x; omega
/-- Reading whole rows: what is beyond, and what isn't. -/
theorem num_bad {neg : Bool} {w f : List UInt8} (h : MW < wholeV 0 w ∨ (wholeV 0 w = MW ∧ 0 < fracOf 6 f) ∨ someD (f.drop 6) = true) (hf : ∀ c ∈ f, isDg c = true) : numV neg w f = (0, 2) := by
  unfold numV
  rw [if_pos]
  rcases h with h | ⟨h, h2⟩ | h
  · left
    rcases Nat.lt_or_ge MW (natOf w) with g | g
    · exact g
    · rw [wholeV_eq 0 w g] at h; exact h
  · cases g : someD (f.drop 6) with
    | true => exact .inr (.inr rfl)
    | false =>
      rcases Nat.lt_or_ge MW (natOf w) with x | x
      · have := wholeV_gt 0 w (by unfold MW; omega) x; omega
      · rw [wholeV_eq 0 w x] at h
        exact .inr (.inl ⟨h, (frac_some hf g).2 h2⟩)
  · exact .inr (.inr h)
theorem num_fine {neg : Bool} {w f : List UInt8} (h : wholeV 0 w ≤ MW) (h1 : ¬ (wholeV 0 w = MW ∧ 0 < fracOf 6 f)) (h2 : someD (f.drop 6) = false) (hf : ∀ c ∈ f, isDg c = true) :
    numV neg w f = (if neg then -((wholeV 0 w * 1000000 + fracOf 6 f : Nat) : Int) else ((wholeV 0 w * 1000000 + fracOf 6 f : Nat) : Int), 0) := by
  have g : natOf w ≤ MW := by
    rcases Nat.lt_or_ge MW (natOf w) with x | x
    · have := wholeV_gt 0 w (by unfold MW; omega) x; omega
    · exact x
  have e : wholeV 0 w = natOf w := wholeV_eq 0 w g
  rw [e] at h1 ⊢
  unfold numV
  rw [if_neg]
  rw [h2, frac_some hf h2]
  rintro (x | x | x)
  · omega
  · exact h1 x
  · cases x
/-- Six places laid, noughts kept. -/
def padD : Nat → Nat → List UInt8
  | 0, _ => []
  | p + 1, m => dgB (m / 10 ^ p) :: padD p (m % 10 ^ p)
theorem padD_len : ∀ p m, (padD p m).length = p
  | 0, _ => rfl
  | p + 1, m => by show (padD p _).length + 1 = p + 1; rw [padD_len p]
theorem padD_snoc : ∀ (p m : Nat), m < 10 ^ (p + 1) → padD (p + 1) m = padD p (m / 10) ++ [dgB (m % 10)]
  | 0, m, h => by
    have h' : m < 10 := by simpa using h
    show [dgB (m / 1)] = [dgB (m % 10)]
    rw [Nat.div_one, Nat.mod_eq_of_lt h']
  | p + 1, m, h => by
    have hp : 0 < 10 ^ (p + 1) := Nat.pow_pos (by decide)
    have e := padD_snoc p (m % 10 ^ (p + 1)) (Nat.mod_lt _ hp)
    have e1 : m / 10 / 10 ^ p = m / 10 ^ (p + 1) := by rw [Nat.div_div_eq_div_mul, Nat.pow_succ, Nat.mul_comm]
    have e2 : m % 10 ^ (p + 1) / 10 = m / 10 % 10 ^ p := by
      rw [Nat.pow_succ, Nat.mul_comm (10 ^ p) 10, Nat.mod_mul_right_div_self]
    have e3 : m % 10 ^ (p + 1) % 10 = m % 10 := Nat.mod_mod_of_dvd _ ⟨10 ^ p, by rw [Nat.pow_succ, Nat.mul_comm]⟩
    show dgB (m / 10 ^ (p + 1)) :: padD (p + 1) (m % 10 ^ (p + 1)) = (dgB (m / 10 / 10 ^ p) :: padD p (m / 10 % 10 ^ p)) ++ [dgB (m % 10)]
    rw [e, e1, e2, e3]; rfl
theorem dec_pad : ∀ (p m : Nat), m < 10 ^ p → decD (10 ^ p + m) = dgB 1 :: padD p m
  | 0, m, h => by
    obtain rfl : m = 0 := by simpa using h
    rw [decD_small (by decide)]; rfl
  | p + 1, m, h => by
    have hp : 0 < 10 ^ p := Nat.pow_pos (by decide)
    rw [Nat.pow_succ] at h
    have e1 : (10 ^ (p + 1) + m) / 10 = 10 ^ p + m / 10 := by rw [Nat.pow_succ]; omega
    have e2 : (10 ^ (p + 1) + m) % 10 = m % 10 := by rw [Nat.pow_succ]; omega
    rw [decD_great (by rw [Nat.pow_succ]; omega), e1, e2, dec_pad p (m / 10) (by omega), padD_snoc p m (by rw [Nat.pow_succ]; omega)]
    rfl
theorem trimZ_cons (c : UInt8) (l : List UInt8) : trimZ (c :: l) = if trimZ l = [] ∧ c = 48 then [] else c :: trimZ l := by
  unfold trimZ Lib.trimRightB
  rw [List.reverse_cons, List.dropWhile_append]
  cases h : l.reverse.dropWhile (· == 48) with
  | nil =>
    by_cases hc : c = 48
    · subst hc; simp
    · simp [hc]
  | cons d r => simp
theorem trim_pad : ∀ (p m : Nat), m < 10 ^ p → trimZ (padD p m) = fracD p m
  | 0, m, h => rfl
  | p + 1, m, h => by
    have hp : 0 < 10 ^ p := Nat.pow_pos (by decide)
    have ih := trim_pad p (m % 10 ^ p) (Nat.mod_lt _ hp)
    rw [Nat.pow_succ] at h
    have hd : m / 10 ^ p < 10 := by rw [Nat.div_lt_iff_lt_mul hp]; omega
    show trimZ (dgB (m / 10 ^ p) :: padD p (m % 10 ^ p)) = if m = 0 then [] else _
    rw [trimZ_cons, ih]
    have hz : dgB (m / 10 ^ p) = 48 ↔ m / 10 ^ p = 0 := by
      have ⟨a, b⟩ := dgB_dg hd
      have := dg_zero a
      rw [b] at this; exact this.symm
    by_cases hm : m = 0
    · subst hm
      rw [if_pos rfl, if_pos ⟨by rw [Nat.zero_mod]; exact fracD_zero p, by rw [hz]; exact Nat.zero_div _⟩]
    · rw [if_neg hm, if_neg]
      rintro ⟨h1, h2⟩
      have x1 := (fracD_nil (Nat.mod_lt m hp)).1 h1
      have x2 := hz.1 h2
      have := Nat.div_add_mod m (10 ^ p)
      rw [x1, x2] at this; simp at this; omega
theorem decDigits_eq (n : Nat) : Lib.decDigits n = decD n := by
  induction n using Nat.strongRecOn with
  | ind n ih =>
    rw [Lib.decDigits]
    by_cases h : n < 10
    · rw [dif_pos h, decD_small h]; rfl
    · rw [dif_neg h, decD_great h, ih (n / 10) (by omega)]; rfl
/-- The document's way of the places behind the point. -/
theorem frac_next {q m : Nat} (hq : q < 6) (hm : m ≠ 0) : fracD (q + 1) m = dgB (m * 10 ^ (5 - q) / 100000) :: fracD q (m % 10 ^ q) := by
  show (if m = 0 then [] else _) = _
  rw [if_neg hm]
  have e : m / 10 ^ q = m * 10 ^ (5 - q) / 100000 := by
    rcases (show q = 0 ∨ q = 1 ∨ q = 2 ∨ q = 3 ∨ q = 4 ∨ q = 5 by omega) with h | h | h | h | h | h <;> subst h <;> simp <;> omega
  rw [e]
theorem frac_rest {q m : Nat} (hq : q < 6) : m * 10 ^ (5 - q) % 100000 * 10 = m % 10 ^ q * 10 ^ (6 - q) := by
  rcases (show q = 0 ∨ q = 1 ∨ q = 2 ∨ q = 3 ∨ q = 4 ∨ q = 5 by omega) with h | h | h | h | h | h <;> subst h <;> simp <;> omega
/-- A text's parts, by the first point. -/
theorem cut_no {l : List UInt8} (h : (46 : UInt8) ∉ l) : Lib.cut l [46] = (l, [], false) := by
  have e : Lib.index l [46] = -1 := by
    rw [Lib.index_one]
    induction l with
    | nil => rfl
    | cons b l ih =>
      have hb : b ≠ 46 := fun x => h (by rw [x]; exact List.mem_cons_self ..)
      have := ih (fun x => h (List.mem_cons_of_mem _ x))
      unfold Lib.indexByte
      rw [this]; simp [hb]
  unfold Lib.cut; rw [e]; rfl
theorem cut_yes {a b : List UInt8} (h : (46 : UInt8) ∉ a) : Lib.cut (a ++ 46 :: b) [46] = (a, b, true) := by
  have e : Lib.index (a ++ 46 :: b) [46] = (a.length : Int) := by
    rw [Lib.index_one]
    induction a with
    | nil => simp [Lib.indexByte]
    | cons c a ih =>
      have hb : c ≠ 46 := fun x => h (by rw [x]; exact List.mem_cons_self ..)
      have := ih (fun x => h (List.mem_cons_of_mem _ x))
      rw [List.cons_append]
      unfold Lib.indexByte
      have h0 : ¬ ((a.length : Int) == -1) = true := by simp
      rw [this, if_neg (by simpa using hb), if_neg h0]; simp
  unfold Lib.cut; rw [e, if_pos (by omega)]
  simp
/-- Where there is a point, there is a first one. -/
theorem first_point {l : List UInt8} (h : (46 : UInt8) ∈ l) : ∃ a b, l = a ++ 46 :: b ∧ (46 : UInt8) ∉ a := by
  induction l with
  | nil => cases h
  | cons c l ih =>
    by_cases hc : c = 46
    · subst hc; exact ⟨[], l, rfl, by simp⟩
    · rcases List.mem_cons.1 h with e | e
      · exact absurd e.symm hc
      · obtain ⟨a, b, rfl, hn⟩ := ih e
        refine ⟨c :: a, b, rfl, ?_⟩
        intro x
        rcases List.mem_cons.1 x with y | y
        · exact hc y.symm
        · exact hn y
theorem dg_no_point {l : List UInt8} (h : ∀ c ∈ l, isDg c = true) : (46 : UInt8) ∉ l := fun x => by
  have := h 46 x; revert this; decide
def allD (l : List UInt8) : Bool := l.all isDg
theorem allD_iff (l : List UInt8) : allD l = true ↔ ∀ c ∈ l, isDg c = true := by unfold allD; rw [List.all_eq_true]
theorem neg_prefix (l : List UInt8) : Lib.hasPrefix l [45] = negV l := by
  cases l with
  | nil => rfl
  | cons c l =>
    unfold Lib.hasPrefix negV
    simp [List.isPrefixOf]
    rw [Bool.eq_iff_iff]; simp; exact eq_comm
theorem body_prefix (l : List UInt8) : Lib.trimPrefix l [45] = bodyV l := by
  unfold Lib.trimPrefix bodyV
  rw [neg_prefix]
  cases h : negV l with
  | false => simp
  | true =>
    cases l with
    | nil => cases h
    | cons c l => rfl
end Go.Proofs.YtfjfkkbgkjmghaaGreatDoor

namespace Go.Proofs.YtfjfkkbgkjmghaaGreatDoor
open Go.RowKit
set_option maxRecDepth 100000
theorem byteTypesN : ByteTypes Tryz.prog 87 5 9 := ⟨Tryz.underlying87, Tryz.underlying5, Tryz.underlying9, by kernel_rfl⟩
/-- 'string([]byte{c})'. -/
theorem one_textN (w : World) (y : Int) (c : UInt8) (h : y = (c.toNat : Int)) :
    (convert 87 9 (.slice (some ⟨w.heap.size, 0, none⟩) 1 1)).run Tryz.prog (w.alloc (.cells #[.int .u8 y] 5)) = .ok (.string (txt [c])) (w.alloc (.cells #[.int .u8 y] 5)) := by
  subst h
  have := run_convert_bytes_arg (P := Tryz.prog) (w.alloc (.cells #[.int .u8 (c.toNat : Int)] 5)) 87 5 byteTypesN.sl byteTypesN.el w.heap.size 0 1 1 [(c.toNat : Int)] rfl (fun i hi => by
    obtain rfl : i = 0 := by omega
    rw [World.cell?_alloc_new]; rfl) 9 byteTypesN.str
  rw [this, show ([(c.toNat : Int)] : List Int) = [c].map (fun c => (c.toNat : Int)) from rfl, strOfNums_bytes]
/-- What is left to be told, and what is told already. -/
structure DecsAtN (n m : Nat) (l : List UInt8) : Prop where
  is : decD n = decD m ++ l
theorem txt_appN (l k : List UInt8) : txt l ++ txt k = txt (l ++ k) := by
  apply ByteArray.ext
  apply Array.ext'
  simp [txt]
set_option maxHeartbeats 1000000 in
theorem refDigitsN_any (n : Nat) (w : World) (hn : n < 18446744073709551616) :
    Calls Tryz.prog 95 #[.int .u64 n] w fun e w' => e = .returned (.string (txt (decD n))) ∧ Below w.heap.size w w' := by
  go_enter Tryz.func95, Tryz.ntmps95
  go_wp2_with fail
  go_loopw [0, 3] (fun a v wr => ∃ (m : Nat) (l : List UInt8), m ≤ n ∧ a = .int .u64 m ∧ v = .string (txt l) ∧ DecsAtN n m l ∧ Below w.heap.size w wr) (fun a _ _ => (intOf a).toNat)
  case atStart => exact ⟨n, [], Nat.le_refl _, rfl, rfl, ⟨by rw [List.append_nil]⟩, Below.refl _ _⟩
  case round =>
    obtain ⟨m, l, hm, rfl, rfl, hd, hb⟩ := hrel
    rename World => wr
    have hwb := hb.size
    have hl : (txt l).size ≤ 20 := by
      have h1 := congrArg List.length hd.is
      rw [List.length_append] at h1
      have h2 := decD_len (n := n) (k := 20) (by omega) (by decide)
      rw [txt_size]; omega
    have hone : ∀ c : UInt8, (txt [c]).size = 1 := fun c => rfl
    by_cases hg : m < 10
    · have E : Hid (decD n = [dgB m] ++ l) := hide (by rw [hd.is, decD_small hg])
      have hcv := one_textN wr (48 + (m : Int)) (dgB m) (by rw [dgB_toNat hg]; omega)
      have hg' : (m : Int) ≤ 9 := by omega
      have hg0 : 0 ≤ (m : Int) := by omega
      have HCV := hide hcv
      clear hd hg hn hm hcv
      generalize (m : Int) = x at *
      go_wp2_with fail
      rw [HCV.out]
      clear HCV
      go_wp2_with fail
      go_ret
      refine ⟨ret_str ?_, hb.alloc hwb _⟩
      rw [E.out, txt_appN]
    · have E : DecsAtN n (m / 10) ([dgB (m % 10)] ++ l) := ⟨by rw [hd.is, decD_great hg, List.append_assoc]⟩
      have hcv := one_textN wr (48 + (m : Int) % 10) (dgB (m % 10)) (by rw [dgB_toNat (by omega)]; omega)
      have hg' : 9 < (m : Int) := by omega
      have hx : (m : Int) < 18446744073709551616 := by omega
      have HM : Hid (m / 10 ≤ n ∧ 9 < m) := ⟨by omega, by omega⟩
      have HX : Hid ((m : Int) / 10 = ((m / 10 : Nat) : Int) ∧ (m : Int) = (m : Int)) := ⟨by omega, rfl⟩
      have HT := hide (txt_appN [dgB (m % 10)] l)
      have hxx : Hid ((m : Int).toNat = m) := by show _ = _; omega
      have HCV := hide hcv
      clear hd hg hn hm hcv
      generalize (m : Int) = x at *
      go_wp2_with fail
      rw [HCV.out]
      clear HCV
      go_wp2_with fail
      go_roundw
      case rel => exact ⟨m / 10, [dgB (m % 10)] ++ l, HM.out.1, by rw [HX.out.1], by rw [HT.out], E, hb.alloc hwb _⟩
      case measure =>
        have h1 := hxx.out
        have h2 := HX.out.1
        have h3 := HM.out.2
        simp [intOf]; omega
end Go.Proofs.YtfjfkkbgkjmghaaGreatDoor

namespace Go.Proofs.YtfjfkkbgkjmghaaGreatDoor
open Go.RowKit
/-- Places behind the point: what is told already, and what is left. -/
structure ShowAt (full : List UInt8) (r : Nat) (acc : List UInt8) (p m : Nat) : Prop where
  le : p ≤ 6
  lt : m < 10 ^ p
  rest : r = m * 10 ^ (6 - p)
  is : full = acc ++ fracD p m
theorem showAt_start (pre : List UInt8) {m : Nat} (h : m < 1000000) : ShowAt (pre ++ fracD 6 m) m pre 6 m :=
  ⟨Nat.le_refl _, h, by simp, rfl⟩
theorem showAt_end {full acc : List UInt8} {p m : Nat} (h : ShowAt full 0 acc p m) : full = acc := by
  have hp : 0 < 10 ^ (6 - p) := Nat.pow_pos (by decide)
  have : m = 0 := by
    have := h.rest
    rcases Nat.eq_zero_or_pos m with e | e
    · exact e
    · have := Nat.mul_pos e hp; omega
  rw [h.is, this, fracD_zero, List.append_nil]
theorem showAt_less {full acc : List UInt8} {r p m : Nat} (h : ShowAt full r acc p m) : r < 1000000 := by
  have hp : 0 < 10 ^ (6 - p) := Nat.pow_pos (by decide)
  rw [h.rest]
  have h1 : m * 10 ^ (6 - p) < 10 ^ p * 10 ^ (6 - p) := (Nat.mul_lt_mul_right hp).2 h.lt
  rw [← Nat.pow_add, Nat.add_sub_cancel' h.le] at h1
  exact h1
theorem showAt_next {full acc : List UInt8} {r p m : Nat} (h : ShowAt full r acc p m) (h0 : 0 < r) : acc.length < full.length ∧ ∃ m', ShowAt full (r % 100000 * 10) (acc ++ [dgB (r / 100000)]) (p - 1) m' := by
  have hm : m ≠ 0 := by
    intro e
    have := h.rest
    rw [e] at this; omega
  obtain ⟨q, rfl⟩ : ∃ q, p = q + 1 := ⟨p - 1, by
    have := h.lt
    rcases Nat.eq_zero_or_pos p with e | e
    · rw [e] at this; simp at this; omega
    · omega⟩
  have hq : q < 6 := by have := h.le; omega
  have e1 : 6 - (q + 1) = 5 - q := by omega
  have er := h.rest
  rw [e1] at er
  have en := frac_next hq hm
  rw [← er] at en
  have ei := h.is
  rw [en] at ei
  refine ⟨by rw [ei, List.length_append, List.length_cons]; omega, m % 10 ^ q, ⟨by show q ≤ 6; omega, Nat.mod_lt _ (Nat.pow_pos (by decide)), ?_, ?_⟩⟩
  · rw [er]; exact frac_rest hq
  · show full = _
    rw [ei, List.append_assoc]; rfl
theorem decD_one {n : Nat} (h : n < 10) : decD n = [dgB n] := decD_small h
/-- What is told of a number's amount, behind what stands ahead. -/
def tellL (pre : List UInt8) (u : Nat) : List UInt8 := (pre ++ decD (u / 1000000)) ++ (if u % 1000000 = 0 then [] else 46 :: fracD 6 (u % 1000000))
theorem tell_no {pre : List UInt8} {u : Nat} (h : u % 1000000 = 0) : tellL pre u = pre ++ decD (u / 1000000) := by
  unfold tellL; rw [if_pos h, List.append_nil]
theorem tell_yes {pre : List UInt8} {u : Nat} (h : u % 1000000 ≠ 0) : tellL pre u = (pre ++ decD (u / 1000000) ++ [46]) ++ fracD 6 (u % 1000000) := by
  unfold tellL; rw [if_neg h]; simp
theorem tell_is (n : Int) : showL n = tellL (if n < 0 then [45] else []) n.natAbs := rfl
theorem tell_len {pre : List UInt8} {u : Nat} (hp : pre.length ≤ 1) (hu : u < 18446744073709551616) : (tellL pre u).length ≤ 30 := by
  have h1 := decD_len (n := u / 1000000) (k := 20) (by omega) (by decide)
  have h2 := fracD_len 6 (u % 1000000)
  unfold tellL
  split
  · simp; omega
  · simp; omega
end Go.Proofs.YtfjfkkbgkjmghaaGreatDoor

namespace Go.Proofs.YtfjfkkbgkjmghaaGreatDoor
open Go.RowKit
set_option maxRecDepth 100000
set_option maxHeartbeats 2000000 in
theorem refShow_p0 (u : Nat) (w : World) (hu : u ≤ 9223372036854775807) (hr : u % 1000000 = 0) :
    Calls Tryz.prog 70 #[.int .i64 ((u : Int))] w fun e w' => e = .returned (.string (txt (tellL [] u))) ∧ Below w.heap.size w w' := by
  have hD := fun w => refDigitsN_any (u / 1000000) w (by omega)
  have hdl := decD_len (n := u / 1000000) (k := 20) (by omega) (by decide)
  have hle := tell_len (pre := []) (u := u) (by decide) (by omega)
  rw [show ((u / 1000000 : Nat) : Int) = (u : Int) / 1000000 by omega] at hD
  have HT := hide (tell_no (pre := []) hr)
  have hr' : ((u : Int) % 1000000 == 0) = true := by simp; omega
  generalize hdd : decD (u / 1000000) = d at *
  have hz : (txt d).size ≤ 20 := by rw [txt_size]; omega
  have HD := hide hD
  clear hD hr hdd
  have hx0 : 0 ≤ (u : Int) := by omega
  have hx1 : (u : Int) ≤ 9223372036854775807 := by omega
  clear hu
  generalize hxx : (u : Int) = x at *
  clear hxx
  go_enter Tryz.func70, Tryz.ntmps70
  go_wp2_with fail
  refine (HD.out _).mono ?_
  rintro e w1 ⟨rfl, b1⟩
  go_wp2_with fail
  go_ret
  refine ⟨ret_str ?_, b1⟩
  rw [HT.out]; rfl
set_option maxHeartbeats 2000000 in
theorem refShow_p1 (u : Nat) (w : World) (hu : u ≤ 9223372036854775807) (hr : u % 1000000 ≠ 0) :
    Calls Tryz.prog 70 #[.int .i64 ((u : Int))] w fun e w' => e = .returned (.string (txt (tellL [] u))) ∧ Below w.heap.size w w' := by
  have hD := fun w => refDigitsN_any (u / 1000000) w (by omega)
  have hdl := decD_len (n := u / 1000000) (k := 20) (by omega) (by decide)
  have hle := tell_len (pre := []) (u := u) (by decide) (by omega)
  rw [show ((u / 1000000 : Nat) : Int) = (u : Int) / 1000000 by omega] at hD
  have HT := hide (tell_yes (pre := []) hr)
  have hr' : ((u : Int) % 1000000 == 0) = false := by simp; omega
  have HS := hide (showAt_start ([] ++ decD (u / 1000000) ++ [46]) (m := u % 1000000) (by omega))
  have HX : Hid ((u : Int) % 1000000 = ((u % 1000000 : Nat) : Int)) := hide (by omega)
  generalize hdd : decD (u / 1000000) = d at *
  have hz : (txt d).size ≤ 20 := by rw [txt_size]; omega
  have HD := hide hD
  clear hD hr hdd
  have hx0 : 0 ≤ (u : Int) := by omega
  have hx1 : (u : Int) ≤ 9223372036854775807 := by omega
  clear hu
  generalize hxx : (u : Int) = x at *
  clear hxx
  go_enter Tryz.func70, Tryz.ntmps70
  go_wp2_with fail
  refine (HD.out _).mono ?_
  rintro e w1 ⟨rfl, b1⟩
  go_wp2_with fail
  go_loopw [3, 5] (fun v a wr => ∃ (r p m : Nat) (acc : List UInt8), v = .string (txt acc) ∧ a = .int .u64 r ∧ ShowAt (tellL [] u) r acc p m ∧ Below w.heap.size w wr) (fun v _ _ => 40 - Lib.strSize v)
  case atStart => exact ⟨u % 1000000, 6, u % 1000000, [] ++ d ++ [46], by show Value.string _ = _; rw [← txt_appN]; rfl, by rw [HX.out], by rw [HT.out]; exact HS.out, b1⟩
  case round =>
    obtain ⟨r, p, m, acc, rfl, rfl, hS, hb⟩ := hrel
    rename World => wr
    clear HD HX HS HT hr' hz hx0 hx1
    have hless := showAt_less hS
    by_cases h0 : 0 < r
    · obtain ⟨hlen, m', hS'⟩ := showAt_next hS h0
      have hD2 := fun w => refDigitsN_any (r / 100000) w (by omega)
      rw [decD_one (show r / 100000 < 10 by omega), show ((r / 100000 : Nat) : Int) = (r : Int) / 100000 by omega] at hD2
      have hac : (txt acc).size ≤ 30 := by rw [txt_size]; omega
      have hone : (txt [dgB (r / 100000)]).size = 1 := rfl
      have HAC := hide (show acc.length ≤ 29 by omega)
      have HAP := hide (txt_appN acc [dgB (r / 100000)])
      have HD2 := hide hD2
      have HS2 := hide hS'
      have HM : Hid ((r : Int) % 100000 * 10 = ((r % 100000 * 10 : Nat) : Int)) := hide (by omega)
      have hy0 : 0 < (r : Int) := by omega
      have hy1 : (r : Int) < 1000000 := by omega
      clear hD2 hS' hS hlen hle h0 hless
      generalize hyy : (r : Int) = y at *
      clear hyy
      go_wp2_with fail
      refine (HD2.out _).mono ?_
      rintro e w2 ⟨rfl, b2⟩
      go_wp2_with fail
      go_roundw
      case rel => exact ⟨r % 100000 * 10, p - 1, m', acc ++ [dgB (r / 100000)], by rw [← HAP.out], by rw [HM.out], HS2.out, hb.trans (b2.mono hb.size)⟩
      case measure =>
        have := HAC.out
        simp [Lib.strSize, txt_size, ByteArray.size_append]; omega
    · obtain rfl : r = 0 := by omega
      have E := hide (showAt_end hS)
      clear hS h0 hless
      go_wp2_with fail
      go_ret
      exact ⟨ret_str (by rw [E.out]), hb⟩
set_option maxHeartbeats 2000000 in
theorem refShow_n0 (u : Nat) (w : World) (hu : u ≤ 9223372036854775808) (h1 : 1 ≤ u) (hr : u % 1000000 = 0) :
    Calls Tryz.prog 70 #[.int .i64 (-(u : Int))] w fun e w' => e = .returned (.string (txt (tellL [45] u))) ∧ Below w.heap.size w w' := by
  have hD := fun w => refDigitsN_any (u / 1000000) w (by omega)
  have hdl := decD_len (n := u / 1000000) (k := 20) (by omega) (by decide)
  have hle := tell_len (pre := [45]) (u := u) (by decide) (by omega)
  rw [show ((u / 1000000 : Nat) : Int) = (u : Int) / 1000000 by omega] at hD
  have HT := hide (tell_no (pre := [45]) hr)
  have hr' : ((u : Int) % 1000000 == 0) = true := by simp; omega
  generalize hdd : decD (u / 1000000) = d at *
  have hz : (txt d).size ≤ 20 := by rw [txt_size]; omega
  have HD := hide hD
  clear hD hr hdd
  have hx0 : 1 ≤ (u : Int) := by omega
  have hx1 : (u : Int) ≤ 9223372036854775808 := by omega
  have hzp : (⟨#[45]⟩ : ByteArray).size = 1 := rfl
  have HA : Hid ((⟨#[45]⟩ : ByteArray) ++ txt d = txt ([45] ++ d)) := hide (txt_appN [45] d)
  have hneg : ∀ x : Int, -(-x + 1) + 1 = x := fun x => by omega
  clear hu h1
  generalize hxx : (u : Int) = x at *
  clear hxx
  go_enter Tryz.func70, Tryz.ntmps70
  go_wp2_with fail
  refine (HD.out _).mono ?_
  rintro e w1 ⟨rfl, b1⟩
  go_wp2_with fail
  go_ret
  refine ⟨ret_str ?_, b1⟩
  rw [HT.out]; exact HA.out
set_option maxHeartbeats 2000000 in
theorem refShow_n1 (u : Nat) (w : World) (hu : u ≤ 9223372036854775808) (h1 : 1 ≤ u) (hr : u % 1000000 ≠ 0) :
    Calls Tryz.prog 70 #[.int .i64 (-(u : Int))] w fun e w' => e = .returned (.string (txt (tellL [45] u))) ∧ Below w.heap.size w w' := by
  have hD := fun w => refDigitsN_any (u / 1000000) w (by omega)
  have hdl := decD_len (n := u / 1000000) (k := 20) (by omega) (by decide)
  have hle := tell_len (pre := [45]) (u := u) (by decide) (by omega)
  rw [show ((u / 1000000 : Nat) : Int) = (u : Int) / 1000000 by omega] at hD
  have HT := hide (tell_yes (pre := [45]) hr)
  have hr' : ((u : Int) % 1000000 == 0) = false := by simp; omega
  have HS := hide (showAt_start ([45] ++ decD (u / 1000000) ++ [46]) (m := u % 1000000) (by omega))
  have HX : Hid ((u : Int) % 1000000 = ((u % 1000000 : Nat) : Int)) := hide (by omega)
  generalize hdd : decD (u / 1000000) = d at *
  have hz : (txt d).size ≤ 20 := by rw [txt_size]; omega
  have HD := hide hD
  clear hD hr hdd
  have hx0 : 1 ≤ (u : Int) := by omega
  have hx1 : (u : Int) ≤ 9223372036854775808 := by omega
  have hzp : (⟨#[45]⟩ : ByteArray).size = 1 := rfl
  have HA : Hid ((⟨#[45]⟩ : ByteArray) ++ txt d = txt ([45] ++ d)) := hide (txt_appN [45] d)
  have hneg : ∀ x : Int, -(-x + 1) + 1 = x := fun x => by omega
  clear hu h1
  generalize hxx : (u : Int) = x at *
  clear hxx
  go_enter Tryz.func70, Tryz.ntmps70
  go_wp2_with fail
  refine (HD.out _).mono ?_
  rintro e w1 ⟨rfl, b1⟩
  go_wp2_with fail
  go_loopw [3, 5] (fun v a wr => ∃ (r p m : Nat) (acc : List UInt8), v = .string (txt acc) ∧ a = .int .u64 r ∧ ShowAt (tellL [45] u) r acc p m ∧ Below w.heap.size w wr) (fun v _ _ => 40 - Lib.strSize v)
  case atStart => exact ⟨u % 1000000, 6, u % 1000000, [45] ++ d ++ [46], by show Value.string _ = _; rw [← txt_appN, ← txt_appN]; rfl, by rw [HX.out], by rw [HT.out]; exact HS.out, b1⟩
  case round =>
    obtain ⟨r, p, m, acc, rfl, rfl, hS, hb⟩ := hrel
    rename World => wr
    clear HD HX HS HT hr' hz hx0 hx1 hzp hneg HA
    have hless := showAt_less hS
    by_cases h0 : 0 < r
    · obtain ⟨hlen, m', hS'⟩ := showAt_next hS h0
      have hD2 := fun w => refDigitsN_any (r / 100000) w (by omega)
      rw [decD_one (show r / 100000 < 10 by omega), show ((r / 100000 : Nat) : Int) = (r : Int) / 100000 by omega] at hD2
      have hac : (txt acc).size ≤ 30 := by rw [txt_size]; omega
      have hone : (txt [dgB (r / 100000)]).size = 1 := rfl
      have HAC := hide (show acc.length ≤ 29 by omega)
      have HAP := hide (txt_appN acc [dgB (r / 100000)])
      have HD2 := hide hD2
      have HS2 := hide hS'
      have HM : Hid ((r : Int) % 100000 * 10 = ((r % 100000 * 10 : Nat) : Int)) := hide (by omega)
      have hy0 : 0 < (r : Int) := by omega
      have hy1 : (r : Int) < 1000000 := by omega
      clear hD2 hS' hS hlen hle h0 hless
      generalize hyy : (r : Int) = y at *
      clear hyy
      go_wp2_with fail
      refine (HD2.out _).mono ?_
      rintro e w2 ⟨rfl, b2⟩
      go_wp2_with fail
      go_roundw
      case rel => exact ⟨r % 100000 * 10, p - 1, m', acc ++ [dgB (r / 100000)], by rw [← HAP.out], by rw [HM.out], HS2.out, hb.trans (b2.mono hb.size)⟩
      case measure =>
        have := HAC.out
        simp [Lib.strSize, txt_size, ByteArray.size_append]; omega
    · obtain rfl : r = 0 := by omega
      have E := hide (showAt_end hS)
      clear hS h0 hless
      go_wp2_with fail
      go_ret
      exact ⟨ret_str (by rw [E.out]), hb⟩
theorem refShow_any (n : Int) (w : World) (h1 : -9223372036854775808 ≤ n) (h2 : n ≤ 9223372036854775807) :
    Calls Tryz.prog 70 #[.int .i64 n] w fun e w' => e = .returned (.string (txt (showL n))) ∧ Below w.heap.size w w' := by
  rw [tell_is]
  by_cases hn : n < 0
  · obtain ⟨u, rfl⟩ : ∃ u : Nat, n = -(u : Int) := ⟨n.natAbs, by omega⟩
    have e : (-(u : Int)).natAbs = u := by omega
    rw [if_pos hn, e]
    by_cases hr : u % 1000000 = 0
    · exact refShow_n0 u w (by omega) (by omega) hr
    · exact refShow_n1 u w (by omega) (by omega) hr
  · obtain ⟨u, rfl⟩ : ∃ u : Nat, n = (u : Int) := ⟨n.toNat, by omega⟩
    have e : (u : Int).natAbs = u := by omega
    rw [if_neg hn, e]
    by_cases hr : u % 1000000 = 0
    · exact refShow_p0 u w (by omega) hr
    · exact refShow_p1 u w (by omega) hr
end Go.Proofs.YtfjfkkbgkjmghaaGreatDoor

namespace Go.Proofs.YtfjfkkbgkjmghaaGreatDoor
open Go.RowKit
set_option maxRecDepth 100000
theorem allD_take {s : ByteArray} {k : Nat} (hk : k < s.size) (h : allD (s.data.toList.take k) = true) (hd : isDg s[k] = true) : allD (s.data.toList.take (k + 1)) = true := by
  rw [byteAt_take s k hk, ← byteAt_eq s k hk]
  unfold allD at h ⊢
  rw [List.all_append, h]; simp [hd]
theorem allD_not {s : ByteArray} {k : Nat} (hk : k < s.size) (hd : isDg s[k] = false) : allD s.data.toList = false := by
  unfold allD
  rw [List.all_eq_false]
  refine ⟨s[k], ?_, by rw [hd]; decide⟩
  have : s[k] = s.data.toList[k]'(by simpa using hk) := by simp; rfl
  rw [this]; exact List.getElem_mem _
theorem take_size (s : ByteArray) : s.data.toList.take s.size = s.data.toList := List.take_of_length_le (by simp)
set_option maxHeartbeats 1000000 in
theorem allDigits_any (s : ByteArray) (w : World) (hs : s.size ≤ maxLen) :
    Calls Tryz.prog 184 #[.string s] w fun e w' => e = .returned (.bool (allD s.data.toList)) ∧ w' = w := by
  unfold maxLen at hs
  go_enter Tryz.func184, Tryz.ntmps184
  go_wp2_with fail
  go_loop [6] (fun i => ∃ k : Nat, k ≤ s.size ∧ i = .int .i64 k ∧ Hid (allD (s.data.toList.take k) = true)) (fun i => s.size - (intOf i).toNat)
  case atStart => exact ⟨0, Nat.zero_le _, rfl, rfl⟩
  case round =>
    obtain ⟨k, hk, rfl, hl⟩ := hrel
    by_cases hlt : k < s.size
    · have A1 := fun h => hide (allD_take hlt hl.out h)
      have A2 := fun h => hide (allD_not hlt h)
      have hI := isDg_iff s[k]
      have hN := isDg_not s[k]
      rcases (show (s[k].toNat : Int) < 48 ∨ (48 ≤ (s[k].toNat : Int) ∧ 57 < (s[k].toNat : Int)) ∨ (48 ≤ (s[k].toNat : Int) ∧ (s[k].toNat : Int) ≤ 57) by omega) with h1 | ⟨h1, h2⟩ | ⟨h1, h2⟩
      · have E := A2 (hN.2 (by omega))
        clear A1 A2 hI hN
        go_wp2_with fail
        go_ret
        exact ⟨ret_bool E.out.symm, rfl⟩
      · have E := A2 (hN.2 (by omega))
        clear A1 A2 hI hN
        go_wp2_with fail
        go_ret
        exact ⟨ret_bool E.out.symm, rfl⟩
      · have E := A1 (hI.2 (by omega))
        clear A1 A2 hI hN
        go_wp2_with fail
        go_round
        case rel => exact ⟨k + 1, by omega, by go_num, E⟩
        case measure => simp [intOf]; omega
    · obtain rfl : k = s.size := by omega
      rw [take_size] at hl
      go_wp2_with fail
      go_ret
      exact ⟨ret_bool hl.out.symm, rfl⟩

/-- Digits read so far, none beyond the bound; what is left to be read. -/
structure WholeAt (s : ByteArray) (k n : Nat) : Prop where
  le : n ≤ MW
  rest : wholeV 0 s.data.toList = wholeV n (s.data.toList.drop k)
theorem wholeAt_start (s : ByteArray) : WholeAt s 0 0 := ⟨by unfold MW; omega, rfl⟩
theorem drop_at {s : ByteArray} {k : Nat} (hk : k < s.size) : s.data.toList.drop k = s[k] :: s.data.toList.drop (k + 1) := by
  have : s[k] = s.data.toList[k]'(by simpa using hk) := by simp; rfl
  rw [this]; exact List.drop_eq_getElem_cons _
theorem wholeAt_stop {s : ByteArray} {k n : Nat} (h : WholeAt s k n) (hk : k < s.size) (hg : MW < 10 * n + dg s[k]) : wholeV 0 s.data.toList = 10 * n + dg s[k] := by
  rw [h.rest, drop_at hk]
  show (if _ then _ else _) = _
  rw [if_pos hg]
theorem wholeAt_next {s : ByteArray} {k n : Nat} (h : WholeAt s k n) (hk : k < s.size) (hg : ¬ MW < 10 * n + dg s[k]) : WholeAt s (k + 1) (10 * n + dg s[k]) := by
  refine ⟨by omega, ?_⟩
  rw [h.rest, drop_at hk]
  show (if _ then _ else _) = _
  rw [if_neg hg]
theorem wholeAt_end {s : ByteArray} {n : Nat} (h : WholeAt s s.size n) : wholeV 0 s.data.toList = n := by
  rw [h.rest, List.drop_of_length_le (by simp)]; rfl
theorem dg_nat {c : UInt8} (h : isDg c = true) : ((dg c : Nat) : Int) = (c.toNat : Int) - 48 := by
  have := (isDg_iff c).1 h
  unfold dg; omega
theorem mem_at {s : ByteArray} {k : Nat} (hk : k < s.size) : s[k] ∈ s.data.toList := by
  have : s[k] = s.data.toList[k]'(by simpa using hk) := by simp; rfl
  rw [this]; exact List.getElem_mem _
set_option maxHeartbeats 1000000 in
theorem wholePart_any (s : ByteArray) (w : World) (hs : s.size ≤ maxLen) (hd : ∀ c ∈ s.data.toList, isDg c = true) :
    Calls Tryz.prog 147 #[.string s] w fun e w' => e = .returned (.int .i64 (wholeV 0 s.data.toList : Nat)) ∧ w' = w := by
  unfold maxLen at hs
  go_enter Tryz.func147, Tryz.ntmps147
  go_wp2_with fail
  go_loop [3, 7] (fun v i => ∃ k n : Nat, k ≤ s.size ∧ i = .int .i64 k ∧ v = .int .i64 n ∧ WholeAt s k n) (fun _ i => s.size - (intOf i).toNat)
  case atStart => exact ⟨0, 0, Nat.zero_le _, rfl, rfl, wholeAt_start s⟩
  case round =>
    obtain ⟨k, n, hk, rfl, rfl, hl⟩ := hrel
    have hle := hl.le
    unfold MW at hle
    by_cases hlt : k < s.size
    · have hdk := hd _ (mem_at hlt)
      have ⟨d1, d2⟩ := (isDg_iff s[k]).1 hdk
      have hn := dg_nat hdk
      have A1 := wholeAt_stop hl hlt
      have A2 := wholeAt_next hl hlt
      unfold MW at A1 A2
      clear hd hl hdk
      by_cases hg : 1000000000000 < 10 * n + dg s[k]
      · have E := hide (A1 hg)
        have hg' : (1000000000000 : Int) < (n : Int) * 10 + ((s[k].toNat : Int) - 48) := by omega
        have HN := hide hn
        clear A1 A2 hg hn
        go_wp2_with fail
        go_ret
        exact ⟨ret_int (by rw [E.out]; have := HN.out; omega), rfl⟩
      · have E := hide (A2 hg)
        have hg' : (n : Int) * 10 + ((s[k].toNat : Int) - 48) ≤ 1000000000000 := by omega
        have HN := hide hn
        clear A1 A2 hg hn
        go_wp2_with fail
        go_round
        case rel => exact ⟨k + 1, 10 * n + dg s[k], by omega, by go_num, by have := HN.out; go_num, E.out⟩
        case measure => simp [intOf]; omega
    · obtain rfl : k = s.size := by omega
      have E := hide (wholeAt_end hl)
      clear hd hl
      go_wp2_with fail
      go_ret
      exact ⟨ret_int (by rw [E.out]), rfl⟩

set_option maxHeartbeats 1000000 in
theorem leftU_any (n s : Nat) (w : World) (h3 : 1 ≤ s) (_h2 : n ≤ 18446744073709551615) (h4 : s ≤ 18446744073709551615) :
    Calls Tryz.prog 197 #[.int .u64 n, .int .u64 s] w fun e w' => e = .returned (.int .u64 (n % s : Nat)) ∧ w' = w := by
  have hlt := Nat.mod_lt n (show 0 < s by omega)
  have hw : (n : Int).tmod (s : Int) = ((n % s : Nat) : Int) := rfl
  go_enter Tryz.func197, Tryz.ntmps197
  go_wp2_with fail
  go_ret
  exact ⟨ret_int (by simp), rfl⟩

/-- How many digits stand at a place. -/
def cntV (l : List UInt8) (at' : Nat) : Nat := ((l.drop at').takeWhile isDg).length
theorem cnt_stop {l : List UInt8} {a k : Nat} (h : ∀ j, j < k → ∃ c, l[a + j]? = some c ∧ isDg c = true) (h2 : ∀ c, l[a + k]? = some c → isDg c = false) : cntV l a = k := by
  unfold cntV
  induction k generalizing a with
  | zero =>
    cases g : l.drop a with
    | nil => rfl
    | cons c r =>
      have e : l[a]? = some c := by
        have := List.getElem?_drop (xs := l) (i := a) (j := 0)
        rw [g] at this; simpa using this.symm
      have := h2 c (by simpa using e)
      simp [this]
  | succ k ih =>
    obtain ⟨c, hc, hd⟩ := h 0 (by omega)
    rw [Nat.add_zero] at hc
    have ⟨hlt, he⟩ := List.getElem?_eq_some_iff.1 hc
    have := ih (a := a + 1) (fun j hj => by
      obtain ⟨d, h3, h4⟩ := h (j + 1) (by omega)
      exact ⟨d, by rw [show a + 1 + j = a + (j + 1) by omega]; exact h3, h4⟩) (fun d h3 => h2 d (by rw [show a + (k + 1) = a + 1 + k by omega]; exact h3))
    rw [List.drop_eq_getElem_cons hlt, he, List.takeWhile_cons, if_pos hd, List.length_cons, this]
theorem at_get {s : ByteArray} {k : Nat} (hk : k < s.size) : s.data.toList[k]? = some s[k] := by
  have : s[k] = s.data.toList[k]'(by simpa using hk) := by simp; rfl
  rw [this]; exact List.getElem?_eq_getElem _
/-- The first k bytes from a place on are digits. -/
def DigsAt (s : ByteArray) (a k : Nat) : Prop := ∀ j, j < k → ∃ c, s.data.toList[a + j]? = some c ∧ isDg c = true
theorem digsAt_next {s : ByteArray} {a k : Nat} (h : DigsAt s a k) (hk : a + k < s.size) (hd : isDg s[a + k] = true) : DigsAt s a (k + 1) := by
  intro j hj
  rcases Nat.lt_or_ge j k with g | g
  · exact h j g
  · obtain rfl : j = k := by omega
    exact ⟨_, at_get hk, hd⟩
theorem digsAt_stop {s : ByteArray} {a k : Nat} (h : DigsAt s a k) (hk : a + k < s.size) (hd : isDg s[a + k] = false) : cntV s.data.toList a = k :=
  cnt_stop h (fun c hc => by rw [at_get hk] at hc; cases hc; exact hd)
theorem digsAt_end {s : ByteArray} {a k : Nat} (h : DigsAt s a k) (hk : ¬ a + k < s.size) : cntV s.data.toList a = k :=
  cnt_stop h (fun c hc => by
    rw [List.getElem?_eq_none (by simp; omega)] at hc; cases hc)
set_option maxHeartbeats 1000000 in
theorem refCount_any (s : ByteArray) (a : Nat) (w : World) (hs : s.size ≤ maxLen) (ha : a ≤ s.size) :
    Calls Tryz.prog 92 #[.string s, .int .i64 a] w fun e w' => e = .returned (.int .i64 (cntV s.data.toList a : Nat)) ∧ w' = w := by
  unfold maxLen at hs
  go_enter Tryz.func92, Tryz.ntmps92
  go_wp2_with fail
  go_loop [5] (fun v => ∃ k : Nat, a + k ≤ s.size ∧ v = .int .i64 k ∧ DigsAt s a k) (fun i => s.size - (intOf i).toNat)
  case atStart => exact ⟨0, ha, rfl, fun j hj => absurd hj (Nat.not_lt_zero _)⟩
  case round =>
    obtain ⟨k, hk, rfl, hl⟩ := hrel
    by_cases hlt : a + k < s.size
    · have A1 := fun h => hide (digsAt_next hl hlt h)
      have A2 := fun h => hide (digsAt_stop hl hlt h)
      have hI := isDg_iff s[a + k]
      have hN := isDg_not s[a + k]
      have hz : ((a : Int) + (k : Int)).toNat = a + k := by omega
      rcases (show (s[a + k].toNat : Int) < 48 ∨ (48 ≤ (s[a + k].toNat : Int) ∧ 57 < (s[a + k].toNat : Int)) ∨ (48 ≤ (s[a + k].toNat : Int) ∧ (s[a + k].toNat : Int) ≤ 57) by omega) with h1 | ⟨h1, h2⟩ | ⟨h1, h2⟩
      · have E := A2 (hN.2 (by omega))
        clear A1 A2 hI hN
        go_wp2_with fail
        go_ret
        exact ⟨ret_int (by rw [E.out]), rfl⟩
      · have E := A2 (hN.2 (by omega))
        clear A1 A2 hI hN
        go_wp2_with fail
        go_ret
        exact ⟨ret_int (by rw [E.out]), rfl⟩
      · have E := A1 (hI.2 (by omega))
        clear A1 A2 hI hN
        go_wp2_with fail
        go_round
        case rel => exact ⟨k + 1, by omega, by go_num, E.out⟩
        case measure => simp [intOf]; omega
    · have E := hide (digsAt_end hl hlt)
      go_wp2_with fail
      go_ret
      exact ⟨ret_int (by rw [E.out]), rfl⟩
end Go.Proofs.YtfjfkkbgkjmghaaGreatDoor

namespace Go.Proofs.YtfjfkkbgkjmghaaGreatDoor
open Go.RowKit
theorem take_next {s : ByteArray} {a k : Nat} (h : a + k < s.size) : (s.data.toList.drop a).take (k + 1) = (s.data.toList.drop a).take k ++ [s[a + k]] := by
  have hl : k < (s.data.toList.drop a).length := by simp; omega
  rw [List.take_succ_eq_append_getElem hl]
  congr 2
  rw [List.getElem_drop]
  simp; rfl
theorem take_len {s : ByteArray} {a k : Nat} (h : a + k ≤ s.size) : ((s.data.toList.drop a).take k).length = k := by
  rw [List.length_take, List.length_drop]; simp; omega
/-- Behind k digits ahead of the point. -/
structure WhAt (s : ByteArray) (a k n : Nat) : Prop where
  is : n = wholeR 0 ((s.data.toList.drop a).take k)
  le : n ≤ 10 * MW + 9
theorem whAt_start (s : ByteArray) (a : Nat) : WhAt s a 0 0 := ⟨rfl, by unfold MW; omega⟩
theorem whAt_yes {s : ByteArray} {a k n : Nat} (h : WhAt s a k n) (hk : a + k < s.size) (hd : isDg s[a + k] = true) (hn : n ≤ MW) : WhAt s a (k + 1) (10 * n + dg s[a + k]) := by
  have := dg_lt hd
  refine ⟨?_, by omega⟩
  rw [take_next hk, wholeR_append, ← h.is]
  show _ = if n ≤ MW then 10 * n + dg s[a + k] else n
  rw [if_pos hn]
theorem whAt_no {s : ByteArray} {a k n : Nat} (h : WhAt s a k n) (hk : a + k < s.size) (hn : MW < n) : WhAt s a (k + 1) n := by
  refine ⟨?_, h.le⟩
  rw [take_next hk, wholeR_append, ← h.is]
  show _ = if n ≤ MW then 10 * n + dg s[a + k] else n
  rw [if_neg (by omega)]
theorem whAt_end {s : ByteArray} {a k n : Nat} {w : List UInt8} (h : WhAt s a k n) (hw : (s.data.toList.drop a).take k = w) : n = wholeV 0 w := by
  rw [h.is, hw]; exact wholeR_eq 0 w (by unfold MW; omega)
theorem fracOf_snoc : ∀ (p : Nat) (l : List UInt8) (c : UInt8), fracOf (p + 1) (l ++ [c]) = fracOf (p + 1) l + dg c * (10 ^ p / 10 ^ l.length)
  | p, [], c => by
    show dg c * 10 ^ p + fracOf p [] = 0 + dg c * (10 ^ p / 10 ^ 0)
    rw [fracOf_zeros, Nat.pow_zero, Nat.div_one]; omega
  | 0, b :: l, c => by
    show dg b * 10 ^ 0 + 0 = dg b * 10 ^ 0 + 0 + dg c * (10 ^ 0 / 10 ^ (l.length + 1))
    have : 10 ^ 0 / 10 ^ (l.length + 1) = 0 := Nat.div_eq_of_lt (Nat.one_lt_pow (by omega) (by decide))
    rw [this]; omega
  | p + 1, b :: l, c => by
    have ih := fracOf_snoc p l c
    show dg b * 10 ^ (p + 1) + fracOf (p + 1) (l ++ [c]) = dg b * 10 ^ (p + 1) + fracOf (p + 1) l + dg c * (10 ^ (p + 1) / 10 ^ (l.length + 1))
    have : 10 ^ (p + 1) / 10 ^ (l.length + 1) = 10 ^ p / 10 ^ l.length := by
      rw [Nat.pow_succ, Nat.pow_succ, Nat.mul_div_mul_right _ _ (by decide)]
    rw [ih, this]; omega
/-- Behind k digits behind the point. -/
structure PtAt (s : ByteArray) (p k n o u : Nat) : Prop where
  out : o = n * 1000000 + fracOf 6 ((s.data.toList.drop p).take k)
  unit : u = 100000 / 10 ^ k
  most : n = MW → someD ((s.data.toList.drop p).take k) = false
  six : someD (((s.data.toList.drop p).take k).drop 6) = false
  dgs : ∀ c ∈ (s.data.toList.drop p).take k, isDg c = true
theorem ptAt_start (s : ByteArray) (p n : Nat) : PtAt s p 0 n (n * 1000000) 100000 := ⟨by rw [List.take_zero, fracOf_zeros, Nat.add_zero], by simp, fun _ => rfl, rfl, fun c hc => by simp at hc⟩
theorem ptAt_next {s : ByteArray} {p k n o u : Nat} (h : PtAt s p k n o u) (hk : p + k < s.size) (hd : isDg s[p + k] = true) (hc : dg s[p + k] = 0 ∨ (n ≠ MW ∧ k < 6)) : PtAt s p (k + 1) n (o + dg s[p + k] * u) (u / 10) := by
  have hl := take_len (s := s) (a := p) (k := k) (by omega)
  refine ⟨?_, ?_, ?_, ?_, ?_⟩
  · have e : fracOf 6 ((s.data.toList.drop p).take k ++ [s[p + k]]) = fracOf 6 ((s.data.toList.drop p).take k) + dg s[p + k] * (10 ^ 5 / 10 ^ ((s.data.toList.drop p).take k).length) := fracOf_snoc 5 _ _
    have e5 : 10 ^ 5 = 100000 := by decide
    rw [hl, e5, ← h.unit] at e
    rw [take_next hk, e, h.out]
    omega
  · rw [h.unit, Nat.div_div_eq_div_mul, Nat.pow_succ]
  · intro e
    rw [take_next hk, someD_append, h.most e]
    have : dg s[p + k] = 0 := by
      rcases hc with x | x
      · exact x
      · exact absurd e x.1
    rw [(dg_zero hd).1 this]; rfl
  · rw [take_next hk]
    rcases Nat.lt_or_ge k 6 with g | g
    · rw [List.drop_of_length_le (by rw [List.length_append, hl]; simp; omega)]; rfl
    · have : dg s[p + k] = 0 := by
        rcases hc with x | x
        · exact x
        · omega
      rw [List.drop_append_of_le_length (by omega), someD_append, h.six, (dg_zero hd).1 this]; rfl
  · intro c hc'
    rw [take_next hk] at hc'
    rcases List.mem_append.1 hc' with x | x
    · exact h.dgs c x
    · rw [List.mem_singleton.1 x]; exact hd
theorem ptAt_less {s : ByteArray} {p k n o u : Nat} (h : PtAt s p k n o u) : o < n * 1000000 + 1000000 ∧ u ≤ 100000 := by
  have := fracOf_lt 6 _ h.dgs
  have e : 10 ^ 6 = 1000000 := by decide
  rw [e] at this
  refine ⟨by rw [h.out]; omega, ?_⟩
  rw [h.unit]; exact Nat.div_le_self _ _
theorem ptAt_bad {s : ByteArray} {p k : Nat} (hk : p + k < s.size) (hd : isDg s[p + k] = true) (h0 : dg s[p + k] ≠ 0) : someD (s.data.toList.drop p) = true ∧ (6 ≤ k → someD ((s.data.toList.drop p).drop 6) = true) := by
  have hne : s[p + k] ≠ 48 := fun e => h0 ((dg_zero hd).2 e)
  have hg : (s.data.toList.drop p)[k]? = some s[p + k] := by rw [List.getElem?_drop]; exact at_get hk
  constructor
  · unfold someD
    exact List.any_eq_true.2 ⟨_, List.mem_of_getElem? hg, by simpa using hne⟩
  · intro h6
    have : ((s.data.toList.drop p).drop 6)[k - 6]? = some s[p + k] := by
      rw [List.getElem?_drop, show 6 + (k - 6) = k by omega]; exact hg
    unfold someD
    exact List.any_eq_true.2 ⟨_, List.mem_of_getElem? this, by simpa using hne⟩
theorem num_most {neg : Bool} {w f : List UInt8} (h : wholeV 0 w = MW) (hs : someD f = true) (hf : ∀ c ∈ f, isDg c = true) : numV neg w f = (0, 2) := by
  cases g : someD (f.drop 6) with
  | true => exact num_bad (.inr (.inr g)) hf
  | false => exact num_bad (.inr (.inl ⟨h, (frac_some hf g).1 hs⟩)) hf
theorem num_end {neg : Bool} {s : ByteArray} {p k o u : Nat} {w f : List UInt8} (hw : wholeV 0 w ≤ MW) (h : PtAt s p k (wholeV 0 w) o u) (hf : (s.data.toList.drop p).take k = f) :
    numV neg w f = (if neg then -(o : Int) else (o : Int), 0) := by
  have hd := h.dgs
  have h6 := h.six
  have hm := h.most
  have ho := h.out
  rw [hf] at hd h6 hm ho
  rw [num_fine hw (fun x => by
    have := hm x.1
    rw [(frac_some hd h6).2 x.2] at this; cases this) h6 hd, ← ho]
/-- The parts of a text, by places. -/
theorem body_drop (l : List UInt8) : bodyV l = l.drop (if negV l then 1 else 0) := by
  unfold bodyV
  cases negV l with
  | true => rw [if_pos rfl, if_pos rfl, List.drop_one]
  | false => rw [if_neg (by decide), if_neg (by decide), List.drop_zero]
theorem takeWhile_take (l : List UInt8) : l.take (l.takeWhile isDg).length = l.takeWhile isDg := by
  have h : l = l.takeWhile isDg ++ l.dropWhile isDg := (List.takeWhile_append_dropWhile ..).symm
  have := congrArg (List.take (l.takeWhile isDg).length) h
  rw [List.take_left] at this; exact this
theorem takeWhile_drop (l : List UInt8) : l.drop (l.takeWhile isDg).length = l.dropWhile isDg := by
  have h : l = l.takeWhile isDg ++ l.dropWhile isDg := (List.takeWhile_append_dropWhile ..).symm
  have := congrArg (List.drop (l.takeWhile isDg).length) h
  rw [List.drop_left] at this; exact this
theorem cnt_digs {s : ByteArray} {a : Nat} : DigsAt s a (cntV s.data.toList a) := by
  intro j hj
  unfold cntV at hj
  refine ⟨((s.data.toList.drop a).takeWhile isDg)[j], ?_, ?_⟩
  · rw [← List.getElem?_drop]
    have h := takeWhile_take (s.data.toList.drop a)
    have e : (s.data.toList.drop a)[j]? = ((s.data.toList.drop a).take ((s.data.toList.drop a).takeWhile isDg).length)[j]? := by
      rw [List.getElem?_take, if_pos hj]
    rw [e, h]; exact List.getElem?_eq_getElem hj
  · have := List.all_takeWhile (p := isDg) (l := s.data.toList.drop a)
    exact List.all_eq_true.1 this _ (List.getElem_mem _)
theorem cnt_room {s : ByteArray} {a : Nat} (ha : a ≤ s.size) : a + cntV s.data.toList a ≤ s.size := by
  have h := congrArg List.length (takeWhile_take (s.data.toList.drop a))
  rw [List.length_take, List.length_drop] at h
  have e : s.data.toList.length = s.size := by simp
  unfold cntV; omega
theorem digs_is {s : ByteArray} {a n k : Nat} (h : DigsAt s a n) (hk : k < n) (hs : a + k < s.size) : isDg s[a + k] = true := by
  obtain ⟨c, h1, h2⟩ := h k hk
  rw [at_get hs] at h1
  cases h1; exact h2

end Go.Proofs.YtfjfkkbgkjmghaaGreatDoor
