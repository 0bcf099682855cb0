/- Numbers as texts, exact to six places, as lists of bytes: reading, showing, there and back; plain facts of no program. No condition. -/
import Derived.Test.YtkllknfgojjphaaDoorKit
namespace Go.Proofs.YtkllknfgojjphaaDoor
open Go.RowKit

def isDg (c : UInt8) : Bool := decide (48 ≤ c.toNat ∧ c.toNat ≤ 57)
def dg (c : UInt8) : Nat := c.toNat - 48
def dgB (n : Nat) : UInt8 := UInt8.ofNat (48 + n)
theorem isDg_iff (c : UInt8) : isDg c = true ↔ 48 ≤ c.toNat ∧ c.toNat ≤ 57 := by unfold isDg; simp
theorem isDg_not (c : UInt8) : isDg c = false ↔ ¬ (48 ≤ c.toNat ∧ c.toNat ≤ 57) := by unfold isDg; simp
theorem dgB_toNat {n : Nat} (h : n < 10) : (dgB n).toNat = 48 + n := by unfold dgB; simp; omega
theorem dgB_dg {n : Nat} (h : n < 10) : isDg (dgB n) = true ∧ dg (dgB n) = n := by
  have e := dgB_toNat h
  refine ⟨(isDg_iff _).2 (by omega), ?_⟩
  unfold dg; omega
theorem dg_lt {c : UInt8} (h : isDg c = true) : dg c < 10 := by
  have := (isDg_iff c).1 h; unfold dg; omega
theorem dg_zero {c : UInt8} (h : isDg c = true) : dg c = 0 ↔ c = 48 := by
  have := (isDg_iff c).1 h
  unfold dg
  constructor
  · intro e; exact UInt8.toNat_inj.1 (by show c.toNat = 48; omega)
  · intro e; subst e; rfl

/-- The number that digits tell. -/
def natFrom (n : Nat) : List UInt8 → Nat
  | [] => n
  | c :: l => natFrom (10 * n + dg c) l
def natOf (l : List UInt8) : Nat := natFrom 0 l
theorem natFrom_append (n : Nat) : ∀ (l k : List UInt8), natFrom n (l ++ k) = natFrom (natFrom n l) k := by
  intro l; induction l generalizing n with
  | nil => intro k; rfl
  | cons c l ih => intro k; exact ih _ k
theorem natFrom_mono {n m : Nat} (h : n ≤ m) : ∀ l : List UInt8, natFrom n l ≤ natFrom m l
  | [] => h
  | c :: l => natFrom_mono (by omega) l
theorem natFrom_ge (n : Nat) : ∀ l : List UInt8, n ≤ natFrom n l
  | [] => Nat.le_refl _
  | c :: l => Nat.le_trans (by omega) (natFrom_ge (10 * n + dg c) l)
/-- The number that stands behind the point, in millionths: p places are left. -/
def fracOf : Nat → List UInt8 → Nat
  | 0, _ => 0
  | _ + 1, [] => 0
  | p + 1, c :: l => dg c * 10 ^ p + fracOf p l
theorem fracOf_lt : ∀ (p : Nat) (l : List UInt8), (∀ c ∈ l, isDg c = true) → fracOf p l < 10 ^ p
  | 0, _, _ => by simp [fracOf]
  | p + 1, [], _ => by simp [fracOf]; exact Nat.pow_pos (by decide)
  | p + 1, c :: l, h => by
    have ih := fracOf_lt p l (fun d hd => h d (List.mem_cons_of_mem _ hd))
    have hd := dg_lt (h c (List.mem_cons_self ..))
    have : dg c * 10 ^ p ≤ 9 * 10 ^ p := Nat.mul_le_mul_right _ (by omega)
    unfold fracOf; rw [Nat.pow_succ]; omega
/-- Is there a digit other than 0? -/
def someD (l : List UInt8) : Bool := l.any fun c => c != 48
def MW : Nat := 1000000000000
def numV (neg : Bool) (w f : List UInt8) : Int × Int :=
  if MW < natOf w ∨ (natOf w = MW ∧ someD f = true) ∨ someD (f.drop 6) = true then (0, 2)
  else (if neg then -((natOf w * 1000000 + fracOf 6 f : Nat) : Int) else ((natOf w * 1000000 + fracOf 6 f : Nat) : Int), 0)
/-- The digits ahead of the point and behind it, if the text is formed so. -/
def partsV (l : List UInt8) : Option (List UInt8 × List UInt8) :=
  match l.dropWhile isDg with
  | [] => if l.takeWhile isDg = [] then none else some (l.takeWhile isDg, [])
  | c :: f => if c = 46 ∧ f ≠ [] ∧ f.all isDg = true then some (l.takeWhile isDg, f) else none
def negV (l : List UInt8) : Bool := l.head? == some 45
def bodyV (l : List UInt8) : List UInt8 := if negV l then l.tail else l
def parseV (l : List UInt8) : Int × Int :=
  match partsV (bodyV l) with
  | none => (0, 1)
  | some (w, f) => numV (negV l) w f

/-- The digits of a number. -/
def decD (n : Nat) : List UInt8 := if n < 10 then [dgB n] else decD (n / 10) ++ [dgB (n % 10)]
theorem decD_small {n : Nat} (h : n < 10) : decD n = [dgB n] := by rw [decD, if_pos h]
theorem decD_great {n : Nat} (h : ¬ n < 10) : decD n = decD (n / 10) ++ [dgB (n % 10)] := by rw [decD, if_neg h]
theorem decD_dg (n : Nat) : ∀ c ∈ decD n, isDg c = true := by
  induction n using Nat.strongRecOn with
  | ind n ih =>
    intro c hc
    by_cases h : n < 10
    · rw [decD_small h] at hc
      simp at hc; subst hc; exact (dgB_dg h).1
    · rw [decD_great h, List.mem_append] at hc
      rcases hc with hc | hc
      · exact ih (n / 10) (by omega) c hc
      · simp at hc; subst hc; exact (dgB_dg (by omega)).1
theorem decD_ne (n : Nat) : decD n ≠ [] := by
  by_cases h : n < 10
  · rw [decD_small h]; simp
  · rw [decD_great h]; simp
theorem natOf_decD (n : Nat) : natOf (decD n) = n := by
  induction n using Nat.strongRecOn with
  | ind n ih =>
    by_cases h : n < 10
    · rw [decD_small h]
      show 10 * 0 + dg (dgB n) = n
      rw [(dgB_dg h).2]; omega
    · unfold natOf at ih ⊢
      rw [decD_great h, natFrom_append, ih (n / 10) (by omega)]
      show 10 * (n / 10) + dg (dgB (n % 10)) = n
      rw [(dgB_dg (by omega)).2]; omega
theorem decD_len {n k : Nat} (h : n < 10 ^ k) (hk : 0 < k) : (decD n).length ≤ k := by
  induction n using Nat.strongRecOn generalizing k with
  | ind n ih =>
    by_cases h1 : n < 10
    · rw [decD_small h1]; simp; omega
    · rw [decD_great h1, List.length_append]
      obtain ⟨j, rfl⟩ : ∃ j, k = j + 1 := ⟨k - 1, by omega⟩
      rw [Nat.pow_succ] at h
      have hj : 0 < j := by
        rcases Nat.eq_zero_or_pos j with e | e
        · subst e; simp at h; omega
        · exact e
      have := ih (n / 10) (by omega) (k := j) (by omega) hj
      simp; omega
theorem natFrom_lt (n : Nat) : ∀ l : List UInt8, (∀ c ∈ l, isDg c = true) → natFrom n l < (n + 1) * 10 ^ l.length
  | [], _ => by
    show n < (n + 1) * 10 ^ 0
    rw [Nat.pow_zero]; omega
  | c :: l, h => by
    have hd := dg_lt (h c (List.mem_cons_self ..))
    have ih := natFrom_lt (10 * n + dg c) l (fun d hd => h d (List.mem_cons_of_mem _ hd))
    have h2 : (10 * n + dg c + 1) * 10 ^ l.length ≤ (10 * (n + 1)) * 10 ^ l.length := Nat.mul_le_mul_right _ (by omega)
    show natFrom (10 * n + dg c) l < _
    rw [List.length_cons, Nat.pow_succ]
    have e : (n + 1) * (10 ^ l.length * 10) = (10 * (n + 1)) * 10 ^ l.length := by
      rw [Nat.mul_comm (10 ^ l.length) 10, ← Nat.mul_assoc, Nat.mul_comm (n + 1) 10]
    omega
theorem natOf_lt (l : List UInt8) (h : ∀ c ∈ l, isDg c = true) : natOf l < 10 ^ l.length := by
  have := natFrom_lt 0 l h
  rw [Nat.zero_add, Nat.one_mul] at this
  exact this

/-- The digits behind the point, without the noughts at the end: p places. -/
def fracD : Nat → Nat → List UInt8
  | 0, _ => []
  | p + 1, m => if m = 0 then [] else dgB (m / 10 ^ p) :: fracD p (m % 10 ^ p)
theorem fracD_zero (p : Nat) : fracD p 0 = [] := by cases p <;> simp [fracD]
theorem fracD_dg : ∀ (p m : Nat), m < 10 ^ p → ∀ c ∈ fracD p m, isDg c = true
  | 0, m, _, c, hc => by simp [fracD] at hc
  | p + 1, m, h, c, hc => by
    unfold fracD at hc
    by_cases hm : m = 0
    · rw [if_pos hm] at hc; cases hc
    · rw [if_neg hm] at hc
      have hp : 0 < 10 ^ p := Nat.pow_pos (by decide)
      rcases List.mem_cons.1 hc with e | e
      · subst e
        refine (dgB_dg ?_).1
        rw [Nat.div_lt_iff_lt_mul hp]
        rw [Nat.pow_succ] at h; omega
      · exact fracD_dg p (m % 10 ^ p) (Nat.mod_lt _ hp) c e
theorem fracD_len : ∀ (p m : Nat), (fracD p m).length ≤ p
  | 0, m => by simp [fracD]
  | p + 1, m => by
    unfold fracD
    by_cases hm : m = 0
    · rw [if_pos hm]; simp
    · rw [if_neg hm]
      have := fracD_len p (m % 10 ^ p)
      simp; exact this
theorem fracOf_zeros : ∀ p : Nat, fracOf p [] = 0
  | 0 => rfl
  | _ + 1 => rfl
theorem fracOf_fracD : ∀ (p m : Nat), m < 10 ^ p → fracOf p (fracD p m) = m
  | 0, m, h => by simp at h; subst h; rfl
  | p + 1, m, h => by
    unfold fracD
    by_cases hm : m = 0
    · rw [if_pos hm, hm]; rfl
    · rw [if_neg hm]
      have hp : 0 < 10 ^ p := Nat.pow_pos (by decide)
      have h10 : m / 10 ^ p < 10 := by
        rw [Nat.div_lt_iff_lt_mul hp]
        rw [Nat.pow_succ] at h; omega
      show dg (dgB (m / 10 ^ p)) * 10 ^ p + fracOf p (fracD p (m % 10 ^ p)) = m
      rw [(dgB_dg h10).2, fracOf_fracD p _ (Nat.mod_lt _ hp), Nat.mul_comm]
      exact Nat.div_add_mod m (10 ^ p)
theorem fracD_nil {p m : Nat} (h : m < 10 ^ p) : fracD p m = [] ↔ m = 0 := by
  constructor
  · intro e
    have := fracOf_fracD p m h
    rw [e, fracOf_zeros] at this; omega
  · intro e; subst e; exact fracD_zero p
theorem someD_zero : ∀ (p : Nat) (l : List UInt8), (∀ c ∈ l, isDg c = true) → someD l = false → fracOf p l = 0
  | 0, _, _, _ => rfl
  | p + 1, [], _, _ => rfl
  | p + 1, c :: l, h, hs => by
    unfold someD at hs
    rw [List.any_cons, Bool.or_eq_false_iff] at hs
    have hc : c = 48 := by simpa using hs.1
    have ih := someD_zero p l (fun d hd => h d (List.mem_cons_of_mem _ hd)) hs.2
    show dg c * 10 ^ p + fracOf p l = 0
    rw [ih, hc]; simp [dg]
theorem zero_someD : ∀ (p : Nat) (l : List UInt8), (∀ c ∈ l, isDg c = true) → l.length ≤ p → fracOf p l = 0 → someD l = false
  | _, [], _, _, _ => rfl
  | 0, c :: l, _, hl, _ => by simp at hl
  | p + 1, c :: l, h, hl, e => by
    have e' : dg c * 10 ^ p + fracOf p l = 0 := e
    have hp : 0 < 10 ^ p := Nat.pow_pos (by decide)
    have h0 : dg c = 0 := by
      rcases Nat.eq_zero_or_pos (dg c) with x | x
      · exact x
      · have := Nat.mul_pos x hp; omega
    have ih := zero_someD p l (fun d hd => h d (List.mem_cons_of_mem _ hd)) (by simpa using hl) (by omega)
    have hc := (dg_zero (h c (List.mem_cons_self ..))).1 h0
    unfold someD at ih ⊢
    rw [List.any_cons, ih, hc]; rfl
/-- What is shown is no longer than what was read. -/
theorem fracD_of : ∀ (p : Nat) (l : List UInt8), (∀ c ∈ l, isDg c = true) → (fracD p (fracOf p l)).length ≤ l.length
  | 0, _, _ => by simp [fracD]
  | p + 1, [], _ => by simp [fracOf, fracD]
  | p + 1, c :: l, h => by
    have hl := fracOf_lt p l (fun d hd => h d (List.mem_cons_of_mem _ hd))
    have ih := fracD_of p l (fun d hd => h d (List.mem_cons_of_mem _ hd))
    have e : (dg c * 10 ^ p + fracOf p l) % 10 ^ p = fracOf p l := by
      rw [Nat.mul_comm, Nat.mul_add_mod, Nat.mod_eq_of_lt hl]
    show (fracD (p + 1) (dg c * 10 ^ p + fracOf p l)).length ≤ _
    unfold fracD
    split
    · simp
    · rw [e]; simpa using ih

def showL (n : Int) : List UInt8 := (if n < 0 then [45] else []) ++ decD (n.natAbs / 1000000) ++ (if n.natAbs % 1000000 = 0 then [] else 46 :: fracD 6 (n.natAbs % 1000000))

theorem takeWhile_all {l k : List UInt8} (h : ∀ c ∈ l, isDg c = true) (hk : ∀ c r, k = c :: r → isDg c = false) : (l ++ k).takeWhile isDg = l ∧ (l ++ k).dropWhile isDg = k := by
  induction l with
  | nil =>
    cases k with
    | nil => exact ⟨rfl, rfl⟩
    | cons c r =>
      have := hk c r rfl
      simp [this]
  | cons c l ih =>
    have hc := h c (List.mem_cons_self ..)
    have ⟨i1, i2⟩ := ih (fun d hd => h d (List.mem_cons_of_mem _ hd))
    simp [hc, i1, i2]
theorem partsV_whole {w : List UInt8} (h : ∀ c ∈ w, isDg c = true) (hw : w ≠ []) : partsV w = some (w, []) := by
  have ⟨h1, h2⟩ := takeWhile_all (k := []) h (fun c r e => by cases e)
  rw [List.append_nil] at h1 h2
  unfold partsV; rw [h2, h1]; simp [hw]
theorem partsV_point {w f : List UInt8} (h : ∀ c ∈ w, isDg c = true) (hf : ∀ c ∈ f, isDg c = true) (hn : f ≠ []) : partsV (w ++ 46 :: f) = some (w, f) := by
  have ⟨h1, h2⟩ := takeWhile_all (k := 46 :: f) h (fun c r e => by cases e; decide)
  unfold partsV; rw [h2, h1]
  show (if _ then _ else _) = _
  rw [if_pos ⟨rfl, hn, List.all_eq_true.2 hf⟩]
/-- What formed texts are made of. -/
theorem partsV_some {l w f : List UInt8} (h : partsV l = some (w, f)) : (∀ c ∈ w, isDg c = true) ∧ (∀ c ∈ f, isDg c = true) ∧ ((f = [] ∧ w ≠ [] ∧ l = w) ∨ (f ≠ [] ∧ l = w ++ 46 :: f)) := by
  have hw : ∀ c ∈ l.takeWhile isDg, isDg c = true := fun c hc => by
    have := List.all_takeWhile (p := isDg) (l := l)
    exact List.all_eq_true.1 this c hc
  have hl : l = l.takeWhile isDg ++ l.dropWhile isDg := (List.takeWhile_append_dropWhile ..).symm
  unfold partsV at h
  cases hd : l.dropWhile isDg with
  | nil =>
    rw [hd] at h hl
    simp only at h
    by_cases e : l.takeWhile isDg = []
    · rw [if_pos e] at h; cases h
    · rw [if_neg e] at h; cases h
      refine ⟨hw, by simp, .inl ⟨rfl, e, ?_⟩⟩
      rw [List.append_nil] at hl; exact hl
  | cons c r =>
    rw [hd] at h hl
    simp only at h
    by_cases e : c = 46 ∧ r ≠ [] ∧ r.all isDg = true
    · rw [if_pos e] at h; cases h
      refine ⟨hw, List.all_eq_true.1 e.2.2, .inr ⟨e.2.1, ?_⟩⟩
      rw [← e.1]; exact hl
    · rw [if_neg e] at h; cases h

theorem showL_parts (n : Int) : negV (showL n) = decide (n < 0) ∧ partsV (bodyV (showL n)) = some (decD (n.natAbs / 1000000), fracD 6 (n.natAbs % 1000000)) := by
  have hd := decD_dg (n.natAbs / 1000000)
  have hne := decD_ne (n.natAbs / 1000000)
  have hm : n.natAbs % 1000000 < 10 ^ 6 := Nat.mod_lt _ (by decide)
  have hf := fracD_dg 6 (n.natAbs % 1000000) hm
  have hnil := fracD_nil hm
  have body : partsV (decD (n.natAbs / 1000000) ++ (if n.natAbs % 1000000 = 0 then [] else 46 :: fracD 6 (n.natAbs % 1000000))) = some (decD (n.natAbs / 1000000), fracD 6 (n.natAbs % 1000000)) := by
    by_cases e : n.natAbs % 1000000 = 0
    · rw [if_pos e, List.append_nil, hnil.2 e]; exact partsV_whole hd hne
    · rw [if_neg e]; exact partsV_point hd hf (fun x => e (hnil.1 x))
  unfold showL
  by_cases h : n < 0
  · rw [if_pos h]
    have e1 : negV ([45] ++ decD (n.natAbs / 1000000) ++ (if n.natAbs % 1000000 = 0 then [] else 46 :: fracD 6 (n.natAbs % 1000000))) = true := rfl
    refine ⟨by rw [e1]; simp [h], ?_⟩
    unfold bodyV; rw [e1]
    exact body
  · rw [if_neg h]
    have e1 : negV ([] ++ decD (n.natAbs / 1000000) ++ (if n.natAbs % 1000000 = 0 then [] else 46 :: fracD 6 (n.natAbs % 1000000))) = false := by
      cases hx : decD (n.natAbs / 1000000) with
      | nil => exact absurd hx hne
      | cons c r =>
        have hc := (isDg_iff c).1 (hd c (by rw [hx]; exact List.mem_cons_self ..))
        show (some c == some 45) = false
        have : c ≠ 45 := by intro e; subst e; revert hc; decide
        simpa using this
    refine ⟨by rw [e1]; simp [h], ?_⟩
    unfold bodyV; rw [e1]
    exact body

/-- There and back. -/
theorem parse_show (n : Int) : parseV (showL n) = if n.natAbs ≤ 1000000000000000000 then (n, 0) else (0, 2) := by
  have ⟨h1, h2⟩ := showL_parts n
  have hm : n.natAbs % 1000000 < 10 ^ 6 := Nat.mod_lt _ (by decide)
  have hl := fracD_len 6 (n.natAbs % 1000000)
  have hfd := fracD_dg 6 (n.natAbs % 1000000) hm
  have hv := fracOf_fracD 6 _ hm
  unfold parseV; rw [h2, h1]
  show numV _ _ _ = _
  unfold numV
  rw [natOf_decD, hv, List.drop_of_length_le hl]
  have hs : someD ([] : List UInt8) = false := rfl
  have hsd : someD (fracD 6 (n.natAbs % 1000000)) = true ↔ n.natAbs % 1000000 ≠ 0 := by
    constructor
    · intro h e
      rw [e, fracD_zero] at h; cases h
    · intro h
      cases g : someD (fracD 6 (n.natAbs % 1000000)) with
      | true => rfl
      | false => exact absurd ((hv).symm.trans (someD_zero 6 _ hfd g)) h
  rw [hs]
  by_cases h : n.natAbs ≤ 1000000000000000000
  · rw [if_pos h, if_neg]
    · have e : n.natAbs / 1000000 * 1000000 + n.natAbs % 1000000 = n.natAbs := by omega
      rw [e]
      by_cases hn : n < 0
      · rw [decide_eq_true hn, if_pos rfl]
        have : -((n.natAbs : Nat) : Int) = n := by omega
        rw [this]
      · rw [decide_eq_false hn, if_neg (by decide)]
        have : ((n.natAbs : Nat) : Int) = n := by omega
        rw [this]
    · rw [hsd]
      unfold MW
      intro hx
      rcases hx with hx | ⟨hx, hy⟩ | hx
      · omega
      · omega
      · cases hx
  · rw [if_neg h, if_pos]
    rw [hsd]
    unfold MW
    omega

/-- What is read is within the bound, and is shown by a text that is no longer, but for a nought ahead of the point. -/
theorem parse_normal {l : List UInt8} {n : Int} (h : parseV l = (n, 0)) : n.natAbs ≤ 1000000000000000000 ∧ (showL n).length ≤ l.length + 1 := by
  unfold parseV at h
  cases hp : partsV (bodyV l) with
  | none => rw [hp] at h; cases h
  | some x =>
    obtain ⟨w, f⟩ := x
    rw [hp] at h
    simp only at h
    have ⟨hw, hf, hc⟩ := partsV_some hp
    have hb : (bodyV l).length + (if negV l then 1 else 0) = l.length := by
      unfold bodyV
      cases hn : negV l with
      | false => simp
      | true =>
        cases l with
        | nil => cases hn
        | cons c r => simp
    have hfl := fracOf_lt 6 f hf
    have hfs := fracD_of 6 f hf
    have hz := someD_zero 6 f hf
    unfold numV at h
    by_cases hx : MW < natOf w ∨ (natOf w = MW ∧ someD f = true) ∨ someD (f.drop 6) = true
    · rw [if_pos hx] at h; cases h
    · rw [if_neg hx] at h
      have hN : natOf w ≤ MW := by omega
      have hN2 : natOf w = MW → fracOf 6 f = 0 := fun e => hz (by
        cases g : someD f with
        | false => rfl
        | true => exact absurd (.inr (.inl ⟨e, g⟩)) hx)
      have habs : n.natAbs = natOf w * 1000000 + fracOf 6 f := by
        cases hn : negV l with
        | true => rw [hn, if_pos rfl] at h; cases h; simp; omega
        | false => rw [hn, if_neg (by decide)] at h; cases h; simp; omega
      have hneg : n < 0 → negV l = true := by
        intro hlt
        cases hn : negV l with
        | true => rfl
        | false => rw [hn, if_neg (by decide)] at h; cases h; omega
      have hdl : (decD (natOf w)).length ≤ w.length + (if w = [] then 1 else 0) := by
        by_cases e : w = []
        · subst e; rw [if_pos rfl]
          exact decD_len (n := natOf []) (k := 1) (by decide) (by decide)
        · rw [if_neg e]
          exact decD_len (natOf_lt w hw) (List.length_pos_iff.2 e)
      have e1 : n.natAbs / 1000000 = natOf w := by rw [habs]; omega
      have e2 : n.natAbs % 1000000 = fracOf 6 f := by rw [habs]; omega
      unfold MW at hN hN2
      refine ⟨by omega, ?_⟩
      unfold showL
      rw [e1, e2, List.length_append, List.length_append]
      have hs : (if n < 0 then ([45] : List UInt8) else []).length ≤ if negV l then 1 else 0 := by
        by_cases hlt : n < 0
        · rw [if_pos hlt, hneg hlt]; simp
        · rw [if_neg hlt]; simp
      rcases hc with ⟨hf0, hwn, hbl⟩ | ⟨hfn, hbl⟩
      · subst hf0
        have hfz : fracOf 6 [] = 0 := rfl
        rw [hfz, if_pos rfl, if_neg hwn] at *
        rw [hbl] at hb
        simp only [List.length_nil]
        omega
      · rw [hbl] at hb
        rw [List.length_append, List.length_cons] at hb
        have hq : (if fracOf 6 f = 0 then [] else 46 :: fracD 6 (fracOf 6 f)).length ≤ f.length + 1 := by
          by_cases e : fracOf 6 f = 0
          · rw [if_pos e]; simp
          · rw [if_neg e]; simp; exact hfs
        have : (if w = [] then 1 else 0) ≤ 1 := by split <;> omega
        omega

end Go.Proofs.YtkllknfgojjphaaDoor
