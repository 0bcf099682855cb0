/- Joined texts. Num: Numbers as texts, exact to six places, as lists of bytes: reading, showing, there and back; plain facts of no program. No condition. Mom: Moments as texts, as lists of bytes: reading and showing; plain facts of no program. No condition. MomShow: Which text a number has, of each kind, there and back: plain facts of no program. No condition. -/
import Derived.Test.YtpkpkpiphgjbaaaGreatDoorJcl2
import Derived.Test.YtpkpkpiphgjbaaaGreatDoorJcl1
namespace Go.Proofs.YtpkpkpiphgjbaaaGreatDoor
open Go.RowKit

def isDg (c : UInt8) : Bool := decide (48 ≤ c.toNat ∧ c.toNat ≤ 57)
def dg (c : UInt8) : Nat := c.toNat - 48
def dgB (n : Nat) : UInt8 := UInt8.ofNat (48 + n)
theorem isDg_iff (c : UInt8) : isDg c = true ↔ 48 ≤ c.toNat ∧ c.toNat ≤ 57 := by unfold isDg; simp
theorem isDg_not (c : UInt8) : isDg c = false ↔ ¬ (48 ≤ c.toNat ∧ c.toNat ≤ 57) := by unfold isDg; simp
theorem dgB_toNat {n : Nat} (h : n < 10) : (dgB n).toNat = 48 + n := by unfold dgB; simp; omega
theorem dgB_dg {n : Nat} (h : n < 10) : isDg (dgB n) = true ∧ dg (dgB n) = n := by
  have e := dgB_toNat h
  refine ⟨(isDg_iff _).2 (by omega), ?_⟩
  unfold dg; omega
theorem dg_lt {c : UInt8} (h : isDg c = true) : dg c < 10 := by
  have := (isDg_iff c).1 h; unfold dg; omega
theorem dg_zero {c : UInt8} (h : isDg c = true) : dg c = 0 ↔ c = 48 := by
  have := (isDg_iff c).1 h
  unfold dg
  constructor
  · intro e; exact UInt8.toNat_inj.1 (by show c.toNat = 48; omega)
  · intro e; subst e; rfl

/-- The number that digits tell. -/
def natFrom (n : Nat) : List UInt8 → Nat
  | [] => n
  | c :: l => natFrom (10 * n + dg c) l
def natOf (l : List UInt8) : Nat := natFrom 0 l
theorem natFrom_append (n : Nat) : ∀ (l k : List UInt8), natFrom n (l ++ k) = natFrom (natFrom n l) k := by
  intro l; induction l generalizing n with
  | nil => intro k; rfl
  | cons c l ih => intro k; exact ih _ k
theorem natFrom_mono {n m : Nat} (h : n ≤ m) : ∀ l : List UInt8, natFrom n l ≤ natFrom m l
  | [] => h
  | c :: l => natFrom_mono (by omega) l
theorem natFrom_ge (n : Nat) : ∀ l : List UInt8, n ≤ natFrom n l
  | [] => Nat.le_refl _
  | c :: l => Nat.le_trans (by omega) (natFrom_ge (10 * n + dg c) l)
/-- The number that stands behind the point, in millionths: p places are left. -/
def fracOf : Nat → List UInt8 → Nat
  | 0, _ => 0
  | _ + 1, [] => 0
  | p + 1, c :: l => dg c * 10 ^ p + fracOf p l
theorem fracOf_lt : ∀ (p : Nat) (l : List UInt8), (∀ c ∈ l, isDg c = true) → fracOf p l < 10 ^ p
  | 0, _, _ => by simp [fracOf]
  | p + 1, [], _ => by simp [fracOf]; exact Nat.pow_pos (by decide)
  | p + 1, c :: l, h => by
    have ih := fracOf_lt p l (fun d hd => h d (List.mem_cons_of_mem _ hd))
    have hd := dg_lt (h c (List.mem_cons_self ..))
    have : dg c * 10 ^ p ≤ 9 * 10 ^ p := Nat.mul_le_mul_right _ (by omega)
    unfold fracOf; rw [Nat.pow_succ]; omega
/-- Is there a digit other than 0? -/
def someD (l : List UInt8) : Bool := l.any fun c => c != 48
def MW : Nat := 1000000000000
def numV (neg : Bool) (w f : List UInt8) : Int × Int :=
  if MW < natOf w ∨ (natOf w = MW ∧ someD f = true) ∨ someD (f.drop 6) = true then (0, 2)
  else (if neg then -((natOf w * 1000000 + fracOf 6 f : Nat) : Int) else ((natOf w * 1000000 + fracOf 6 f : Nat) : Int), 0)
/-- The digits ahead of the point and behind it, if the text is formed so. -/
def partsV (l : List UInt8) : Option (List UInt8 × List UInt8) :=
  match l.dropWhile isDg with
  | [] => if l.takeWhile isDg = [] then none else some (l.takeWhile isDg, [])
  | c :: f => if c = 46 ∧ f ≠ [] ∧ f.all isDg = true then some (l.takeWhile isDg, f) else none
def negV (l : List UInt8) : Bool := l.head? == some 45
def bodyV (l : List UInt8) : List UInt8 := if negV l then l.tail else l
def parseV (l : List UInt8) : Int × Int :=
  match partsV (bodyV l) with
  | none => (0, 1)
  | some (w, f) => numV (negV l) w f

/-- The digits of a number. -/
def decD (n : Nat) : List UInt8 := if n < 10 then [dgB n] else decD (n / 10) ++ [dgB (n % 10)]
theorem decD_small {n : Nat} (h : n < 10) : decD n = [dgB n] := by rw [decD, if_pos h]
theorem decD_great {n : Nat} (h : ¬ n < 10) : decD n = decD (n / 10) ++ [dgB (n % 10)] := by rw [decD, if_neg h]
theorem decD_dg (n : Nat) : ∀ c ∈ decD n, isDg c = true := by
  induction n using Nat.strongRecOn with
  | ind n ih =>
    intro c hc
    by_cases h : n < 10
    · rw [decD_small h] at hc
      simp at hc; subst hc; exact (dgB_dg h).1
    · rw [decD_great h, List.mem_append] at hc
      rcases hc with hc | hc
      · exact ih (n / 10) (by omega) c hc
      · simp at hc; subst hc; exact (dgB_dg (by omega)).1
theorem decD_ne (n : Nat) : decD n ≠ [] := by
  by_cases h : n < 10
  · rw [decD_small h]; simp
  · rw [decD_great h]; simp
theorem natOf_decD (n : Nat) : natOf (decD n) = n := by
  induction n using Nat.strongRecOn with
  | ind n ih =>
    by_cases h : n < 10
    · rw [decD_small h]
      show 10 * 0 + dg (dgB n) = n
      rw [(dgB_dg h).2]; omega
    · unfold natOf at ih ⊢
      rw [decD_great h, natFrom_append, ih (n / 10) (by omega)]
      show 10 * (n / 10) + dg (dgB (n % 10)) = n
      rw [(dgB_dg (by omega)).2]; omega
theorem decD_len {n k : Nat} (h : n < 10 ^ k) (hk : 0 < k) : (decD n).length ≤ k := by
  induction n using Nat.strongRecOn generalizing k with
  | ind n ih =>
    by_cases h1 : n < 10
    · rw [decD_small h1]; simp; omega
    · rw [decD_great h1, List.length_append]
      obtain ⟨j, rfl⟩ : ∃ j, k = j + 1 := ⟨k - 1, by omega⟩
      rw [Nat.pow_succ] at h
      have hj : 0 < j := by
        rcases Nat.eq_zero_or_pos j with e | e
        · subst e; simp at h; omega
        · exact e
      have := ih (n / 10) (by omega) (k := j) (by omega) hj
      simp; omega
theorem natFrom_lt (n : Nat) : ∀ l : List UInt8, (∀ c ∈ l, isDg c = true) → natFrom n l < (n + 1) * 10 ^ l.length
  | [], _ => by
    show n < (n + 1) * 10 ^ 0
    rw [Nat.pow_zero]; omega
  | c :: l, h => by
    have hd := dg_lt (h c (List.mem_cons_self ..))
    have ih := natFrom_lt (10 * n + dg c) l (fun d hd => h d (List.mem_cons_of_mem _ hd))
    have h2 : (10 * n + dg c + 1) * 10 ^ l.length ≤ (10 * (n + 1)) * 10 ^ l.length := Nat.mul_le_mul_right _ (by omega)
    show natFrom (10 * n + dg c) l < _
    rw [List.length_cons, Nat.pow_succ]
    have e : (n + 1) * (10 ^ l.length * 10) = (10 * (n + 1)) * 10 ^ l.length := by
      rw [Nat.mul_comm (10 ^ l.length) 10, ← Nat.mul_assoc, Nat.mul_comm (n + 1) 10]
    omega
theorem natOf_lt (l : List UInt8) (h : ∀ c ∈ l, isDg c = true) : natOf l < 10 ^ l.length := by
  have := natFrom_lt 0 l h
  rw [Nat.zero_add, Nat.one_mul] at this
  exact this

/-- The digits behind the point, without the noughts at the end: p places. -/
def fracD : Nat → Nat → List UInt8
  | 0, _ => []
  | p + 1, m => if m = 0 then [] else dgB (m / 10 ^ p) :: fracD p (m % 10 ^ p)
theorem fracD_zero (p : Nat) : fracD p 0 = [] := by cases p <;> simp [fracD]
theorem fracD_dg : ∀ (p m : Nat), m < 10 ^ p → ∀ c ∈ fracD p m, isDg c = true
  | 0, m, _, c, hc => by simp [fracD] at hc
  | p + 1, m, h, c, hc => by
    unfold fracD at hc
    by_cases hm : m = 0
    · rw [if_pos hm] at hc; cases hc
    · rw [if_neg hm] at hc
      have hp : 0 < 10 ^ p := Nat.pow_pos (by decide)
      rcases List.mem_cons.1 hc with e | e
      · subst e
        refine (dgB_dg ?_).1
        rw [Nat.div_lt_iff_lt_mul hp]
        rw [Nat.pow_succ] at h; omega
      · exact fracD_dg p (m % 10 ^ p) (Nat.mod_lt _ hp) c e
theorem fracD_len : ∀ (p m : Nat), (fracD p m).length ≤ p
  | 0, m => by simp [fracD]
  | p + 1, m => by
    unfold fracD
    by_cases hm : m = 0
    · rw [if_pos hm]; simp
    · rw [if_neg hm]
      have := fracD_len p (m % 10 ^ p)
      simp; exact this
theorem fracOf_zeros : ∀ p : Nat, fracOf p [] = 0
  | 0 => rfl
  | _ + 1 => rfl
theorem fracOf_fracD : ∀ (p m : Nat), m < 10 ^ p → fracOf p (fracD p m) = m
  | 0, m, h => by simp at h; subst h; rfl
  | p + 1, m, h => by
    unfold fracD
    by_cases hm : m = 0
    · rw [if_pos hm, hm]; rfl
    · rw [if_neg hm]
      have hp : 0 < 10 ^ p := Nat.pow_pos (by decide)
      have h10 : m / 10 ^ p < 10 := by
        rw [Nat.div_lt_iff_lt_mul hp]
        rw [Nat.pow_succ] at h; omega
      show dg (dgB (m / 10 ^ p)) * 10 ^ p + fracOf p (fracD p (m % 10 ^ p)) = m
      rw [(dgB_dg h10).2, fracOf_fracD p _ (Nat.mod_lt _ hp), Nat.mul_comm]
      exact Nat.div_add_mod m (10 ^ p)
theorem fracD_nil {p m : Nat} (h : m < 10 ^ p) : fracD p m = [] ↔ m = 0 := by
  constructor
  · intro e
    have := fracOf_fracD p m h
    rw [e, fracOf_zeros] at this; omega
  · intro e; subst e; exact fracD_zero p
theorem someD_zero : ∀ (p : Nat) (l : List UInt8), (∀ c ∈ l, isDg c = true) → someD l = false → fracOf p l = 0
  | 0, _, _, _ => rfl
  | p + 1, [], _, _ => rfl
  | p + 1, c :: l, h, hs => by
    unfold someD at hs
    rw [List.any_cons, Bool.or_eq_false_iff] at hs
    have hc : c = 48 := by simpa using hs.1
    have ih := someD_zero p l (fun d hd => h d (List.mem_cons_of_mem _ hd)) hs.2
    show dg c * 10 ^ p + fracOf p l = 0
    rw [ih, hc]; simp [dg]
theorem zero_someD : ∀ (p : Nat) (l : List UInt8), (∀ c ∈ l, isDg c = true) → l.length ≤ p → fracOf p l = 0 → someD l = false
  | _, [], _, _, _ => rfl
  | 0, c :: l, _, hl, _ => by simp at hl
  | p + 1, c :: l, h, hl, e => by
    have e' : dg c * 10 ^ p + fracOf p l = 0 := e
    have hp : 0 < 10 ^ p := Nat.pow_pos (by decide)
    have h0 : dg c = 0 := by
      rcases Nat.eq_zero_or_pos (dg c) with x | x
      · exact x
      · have := Nat.mul_pos x hp; omega
    have ih := zero_someD p l (fun d hd => h d (List.mem_cons_of_mem _ hd)) (by simpa using hl) (by omega)
    have hc := (dg_zero (h c (List.mem_cons_self ..))).1 h0
    unfold someD at ih ⊢
    rw [List.any_cons, ih, hc]; rfl
/-- What is shown is no longer than what was read. -/
theorem fracD_of : ∀ (p : Nat) (l : List UInt8), (∀ c ∈ l, isDg c = true) → (fracD p (fracOf p l)).length ≤ l.length
  | 0, _, _ => by simp [fracD]
  | p + 1, [], _ => by simp [fracOf, fracD]
  | p + 1, c :: l, h => by
    have hl := fracOf_lt p l (fun d hd => h d (List.mem_cons_of_mem _ hd))
    have ih := fracD_of p l (fun d hd => h d (List.mem_cons_of_mem _ hd))
    have e : (dg c * 10 ^ p + fracOf p l) % 10 ^ p = fracOf p l := by
      rw [Nat.mul_comm, Nat.mul_add_mod, Nat.mod_eq_of_lt hl]
    show (fracD (p + 1) (dg c * 10 ^ p + fracOf p l)).length ≤ _
    unfold fracD
    split
    · simp
    · rw [e]; simpa using ih

def showL (n : Int) : List UInt8 := (if n < 0 then [45] else []) ++ decD (n.natAbs / 1000000) ++ (if n.natAbs % 1000000 = 0 then [] else 46 :: fracD 6 (n.natAbs % 1000000))

theorem takeWhile_all {l k : List UInt8} (h : ∀ c ∈ l, isDg c = true) (hk : ∀ c r, k = c :: r → isDg c = false) : (l ++ k).takeWhile isDg = l ∧ (l ++ k).dropWhile isDg = k := by
  induction l with
  | nil =>
    cases k with
    | nil => exact ⟨rfl, rfl⟩
    | cons c r =>
      have := hk c r rfl
      simp [this]
  | cons c l ih =>
    have hc := h c (List.mem_cons_self ..)
    have ⟨i1, i2⟩ := ih (fun d hd => h d (List.mem_cons_of_mem _ hd))
    simp [hc, i1, i2]
theorem partsV_whole {w : List UInt8} (h : ∀ c ∈ w, isDg c = true) (hw : w ≠ []) : partsV w = some (w, []) := by
  have ⟨h1, h2⟩ := takeWhile_all (k := []) h (fun c r e => by cases e)
  rw [List.append_nil] at h1 h2
  unfold partsV; rw [h2, h1]; simp [hw]
theorem partsV_point {w f : List UInt8} (h : ∀ c ∈ w, isDg c = true) (hf : ∀ c ∈ f, isDg c = true) (hn : f ≠ []) : partsV (w ++ 46 :: f) = some (w, f) := by
  have ⟨h1, h2⟩ := takeWhile_all (k := 46 :: f) h (fun c r e => by cases e; decide)
  unfold partsV; rw [h2, h1]
  show (if _ then _ else _) = _
  rw [if_pos ⟨rfl, hn, List.all_eq_true.2 hf⟩]
/-- What formed texts are made of. -/
theorem partsV_some {l w f : List UInt8} (h : partsV l = some (w, f)) : (∀ c ∈ w, isDg c = true) ∧ (∀ c ∈ f, isDg c = true) ∧ ((f = [] ∧ w ≠ [] ∧ l = w) ∨ (f ≠ [] ∧ l = w ++ 46 :: f)) := by
  have hw : ∀ c ∈ l.takeWhile isDg, isDg c = true := fun c hc => by
    have := List.all_takeWhile (p := isDg) (l := l)
    exact List.all_eq_true.1 this c hc
  have hl : l = l.takeWhile isDg ++ l.dropWhile isDg := (List.takeWhile_append_dropWhile ..).symm
  unfold partsV at h
  cases hd : l.dropWhile isDg with
  | nil =>
    rw [hd] at h hl
    simp only at h
    by_cases e : l.takeWhile isDg = []
    · rw [if_pos e] at h; cases h
    · rw [if_neg e] at h; cases h
      refine ⟨hw, by simp, .inl ⟨rfl, e, ?_⟩⟩
      rw [List.append_nil] at hl; exact hl
  | cons c r =>
    rw [hd] at h hl
    simp only at h
    by_cases e : c = 46 ∧ r ≠ [] ∧ r.all isDg = true
    · rw [if_pos e] at h; cases h
      refine ⟨hw, List.all_eq_true.1 e.2.2, .inr ⟨e.2.1, ?_⟩⟩
      rw [← e.1]; exact hl
    · rw [if_neg e] at h; cases h

theorem showL_parts (n : Int) : negV (showL n) = decide (n < 0) ∧ partsV (bodyV (showL n)) = some (decD (n.natAbs / 1000000), fracD 6 (n.natAbs % 1000000)) := by
  have hd := decD_dg (n.natAbs / 1000000)
  have hne := decD_ne (n.natAbs / 1000000)
  have hm : n.natAbs % 1000000 < 10 ^ 6 := Nat.mod_lt _ (by decide)
  have hf := fracD_dg 6 (n.natAbs % 1000000) hm
  have hnil := fracD_nil hm
  have body : partsV (decD (n.natAbs / 1000000) ++ (if n.natAbs % 1000000 = 0 then [] else 46 :: fracD 6 (n.natAbs % 1000000))) = some (decD (n.natAbs / 1000000), fracD 6 (n.natAbs % 1000000)) := by
    by_cases e : n.natAbs % 1000000 = 0
    · rw [if_pos e, List.append_nil, hnil.2 e]; exact partsV_whole hd hne
    · rw [if_neg e]; exact partsV_point hd hf (fun x => e (hnil.1 x))
  unfold showL
  by_cases h : n < 0
  · rw [if_pos h]
    have e1 : negV ([45] ++ decD (n.natAbs / 1000000) ++ (if n.natAbs % 1000000 = 0 then [] else 46 :: fracD 6 (n.natAbs % 1000000))) = true := rfl
    refine ⟨by rw [e1]; simp [h], ?_⟩
    unfold bodyV; rw [e1]
    exact body
  · rw [if_neg h]
    have e1 : negV ([] ++ decD (n.natAbs / 1000000) ++ (if n.natAbs % 1000000 = 0 then [] else 46 :: fracD 6 (n.natAbs % 1000000))) = false := by
      cases hx : decD (n.natAbs / 1000000) with
      | nil => exact absurd hx hne
      | cons c r =>
        have hc := (isDg_iff c).1 (hd c (by rw [hx]; exact List.mem_cons_self ..))
        show (some c == some 45) = false
        have : c ≠ 45 := by intro e; subst e; revert hc; decide
        simpa using this
    refine ⟨by rw [e1]; simp [h], ?_⟩
    unfold bodyV; rw [e1]
    exact body

/-- There and back. -/
theorem parse_show (n : Int) : parseV (showL n) = if n.natAbs ≤ 1000000000000000000 then (n, 0) else (0, 2) := by
  have ⟨h1, h2⟩ := showL_parts n
  have hm : n.natAbs % 1000000 < 10 ^ 6 := Nat.mod_lt _ (by decide)
  have hl := fracD_len 6 (n.natAbs % 1000000)
  have hfd := fracD_dg 6 (n.natAbs % 1000000) hm
  have hv := fracOf_fracD 6 _ hm
  unfold parseV; rw [h2, h1]
  show numV _ _ _ = _
  unfold numV
  rw [natOf_decD, hv, List.drop_of_length_le hl]
  have hs : someD ([] : List UInt8) = false := rfl
  have hsd : someD (fracD 6 (n.natAbs % 1000000)) = true ↔ n.natAbs % 1000000 ≠ 0 := by
    constructor
    · intro h e
      rw [e, fracD_zero] at h; cases h
    · intro h
      cases g : someD (fracD 6 (n.natAbs % 1000000)) with
      | true => rfl
      | false => exact absurd ((hv).symm.trans (someD_zero 6 _ hfd g)) h
  rw [hs]
  by_cases h : n.natAbs ≤ 1000000000000000000
  · rw [if_pos h, if_neg]
    · have e : n.natAbs / 1000000 * 1000000 + n.natAbs % 1000000 = n.natAbs := by omega
      rw [e]
      by_cases hn : n < 0
      · rw [decide_eq_true hn, if_pos rfl]
        have : -((n.natAbs : Nat) : Int) = n := by omega
        rw [this]
      · rw [decide_eq_false hn, if_neg (by decide)]
        have : ((n.natAbs : Nat) : Int) = n := by omega
        rw [this]
    · rw [hsd]
      unfold MW
      intro hx
      rcases hx with hx | ⟨hx, hy⟩ | hx
      · omega
      · omega
      · cases hx
  · rw [if_neg h, if_pos]
    rw [hsd]
    unfold MW
    omega

/-- What is read is within the bound, and is shown by a text that is no longer, but for a nought ahead of the point. -/
theorem parse_normal {l : List UInt8} {n : Int} (h : parseV l = (n, 0)) : n.natAbs ≤ 1000000000000000000 ∧ (showL n).length ≤ l.length + 1 := by
  unfold parseV at h
  cases hp : partsV (bodyV l) with
  | none => rw [hp] at h; cases h
  | some x =>
    obtain ⟨w, f⟩ := x
    rw [hp] at h
    simp only at h
    have ⟨hw, hf, hc⟩ := partsV_some hp
    have hb : (bodyV l).length + (if negV l then 1 else 0) = l.length := by
      unfold bodyV
      cases hn : negV l with
      | false => simp
      | true =>
        cases l with
        | nil => cases hn
        | cons c r => simp
    have hfl := fracOf_lt 6 f hf
    have hfs := fracD_of 6 f hf
    have hz := someD_zero 6 f hf
    unfold numV at h
    by_cases hx : MW < natOf w ∨ (natOf w = MW ∧ someD f = true) ∨ someD (f.drop 6) = true
    · rw [if_pos hx] at h; cases h
    · rw [if_neg hx] at h
      have hN : natOf w ≤ MW := by omega
      have hN2 : natOf w = MW → fracOf 6 f = 0 := fun e => hz (by
        cases g : someD f with
        | false => rfl
        | true => exact absurd (.inr (.inl ⟨e, g⟩)) hx)
      have habs : n.natAbs = natOf w * 1000000 + fracOf 6 f := by
        cases hn : negV l with
        | true => rw [hn, if_pos rfl] at h; cases h; simp; omega
        | false => rw [hn, if_neg (by decide)] at h; cases h; simp; omega
      have hneg : n < 0 → negV l = true := by
        intro hlt
        cases hn : negV l with
        | true => rfl
        | false => rw [hn, if_neg (by decide)] at h; cases h; omega
      have hdl : (decD (natOf w)).length ≤ w.length + (if w = [] then 1 else 0) := by
        by_cases e : w = []
        · subst e; rw [if_pos rfl]
          exact decD_len (n := natOf []) (k := 1) (by decide) (by decide)
        · rw [if_neg e]
          exact decD_len (natOf_lt w hw) (List.length_pos_iff.2 e)
      have e1 : n.natAbs / 1000000 = natOf w := by rw [habs]; omega
      have e2 : n.natAbs % 1000000 = fracOf 6 f := by rw [habs]; omega
      unfold MW at hN hN2
      refine ⟨by omega, ?_⟩
      unfold showL
      rw [e1, e2, List.length_append, List.length_append]
      have hs : (if n < 0 then ([45] : List UInt8) else []).length ≤ if negV l then 1 else 0 := by
        by_cases hlt : n < 0
        · rw [if_pos hlt, hneg hlt]; simp
        · rw [if_neg hlt]; simp
      rcases hc with ⟨hf0, hwn, hbl⟩ | ⟨hfn, hbl⟩
      · subst hf0
        have hfz : fracOf 6 [] = 0 := rfl
        rw [hfz, if_pos rfl, if_neg hwn] at *
        rw [hbl] at hb
        simp only [List.length_nil]
        omega
      · rw [hbl] at hb
        rw [List.length_append, List.length_cons] at hb
        have hq : (if fracOf 6 f = 0 then [] else 46 :: fracD 6 (fracOf 6 f)).length ≤ f.length + 1 := by
          by_cases e : fracOf 6 f = 0
          · rw [if_pos e]; simp
          · rw [if_neg e]; simp; exact hfs
        have : (if w = [] then 1 else 0) ≤ 1 := by split <;> omega
        omega

end Go.Proofs.YtpkpkpiphgjbaaaGreatDoor

namespace Go.Proofs.YtpkpkpiphgjbaaaGreatDoor
open Go.RowKit

/-- The number of two digits; -1: they are none. -/
def twoV (a b : UInt8) : Int := if isDg a = true ∧ isDg b = true then (10 * dg a + dg b : Nat) else -1
theorem two_yes {a b : UInt8} (h1 : isDg a = true) (h2 : isDg b = true) : twoV a b = (10 * dg a + dg b : Nat) := if_pos ⟨h1, h2⟩
theorem two_no {a b : UInt8} (h : ¬ (isDg a = true ∧ isDg b = true)) : twoV a b = -1 := if_neg h
theorem two_bounds (a b : UInt8) : -1 ≤ twoV a b ∧ twoV a b ≤ 99 := by
  by_cases h : isDg a = true ∧ isDg b = true
  · have := dg_lt h.1; have := dg_lt h.2
    rw [two_yes h.1 h.2]; omega
  · rw [two_no h]; omega
/-- A year's digits. -/
def yrV (ds : List UInt8) : Option Int := if 4 ≤ ds.length ∧ 1 ≤ natOf ds ∧ natOf ds ≤ 275760 then some (natOf ds : Int) else none
theorem yr_yes {ds : List UInt8} (h : 4 ≤ ds.length ∧ 1 ≤ natOf ds ∧ natOf ds ≤ 275760) : yrV ds = some (natOf ds : Int) := if_pos h
theorem yr_no {ds : List UInt8} (h : ¬ (4 ≤ ds.length ∧ 1 ≤ natOf ds ∧ natOf ds ≤ 275760)) : yrV ds = none := if_neg h
/-- The number of a day, if there is one. -/
def numD (y m d : Int) : Option Int := if 1 ≤ d ∧ d ≤ LenV y m then some (newV y + aheadI y m + (d - 1)) else none
def dateTail (y : Int) : List UInt8 → Option Int
  | [p, a, b, q, c, d] => if p = 45 ∧ q = 45 then numD y (twoV a b) (twoV c d) else none
  | _ => none
/-- The number of the day that a Date's text tells. -/
def dateT (l : List UInt8) : Option Int := (yrV (l.takeWhile isDg)).bind fun y => dateTail y (l.dropWhile isDg)
def monthTail (y : Int) : List UInt8 → Option Int
  | [p, a, b] => if p = 45 ∧ 1 ≤ twoV a b ∧ twoV a b ≤ 12 then some ((y - 1970) * 12 + twoV a b - 1) else none
  | _ => none
def monthT (l : List UInt8) : Option Int := (yrV (l.takeWhile isDg)).bind fun y => monthTail y (l.dropWhile isDg)
def weekTail (y : Int) : List UInt8 → Option Int
  | [p, q, a, b] => if p = 45 ∧ q = 87 ∧ 1 ≤ twoV a b ∧ twoV a b ≤ WeeksV y then some (firstV y + 7 * (twoV a b - 1)) else none
  | _ => none
/-- The number of the Monday that a Week's text tells. -/
def weekT (l : List UInt8) : Option Int := (yrV (l.takeWhile isDg)).bind fun y => weekTail y (l.dropWhile isDg)
def fracT (n : Int) : List UInt8 → Option Int
  | [] => some n
  | s :: f => if s = 46 ∧ 1 ≤ f.length ∧ f.length ≤ 3 ∧ f.all isDg = true then some (n + fracOf 3 f) else none
def secT (n : Int) : List UInt8 → Option Int
  | [] => some n
  | q :: e :: f :: r => if q = 58 ∧ 0 ≤ twoV e f ∧ twoV e f ≤ 59 then fracT (n + twoV e f * 1000) r else none
  | _ => none
/-- The thousandths of a second that a Time's text tells. -/
def clockT : List UInt8 → Option Int
  | a :: b :: p :: c :: d :: r => if p = 58 ∧ 0 ≤ twoV a b ∧ twoV a b ≤ 23 ∧ 0 ≤ twoV c d ∧ twoV c d ≤ 59 then secT (twoV a b * 3600000 + twoV c d * 60000) r else none
  | _ => none
def isSep (c : UInt8) : Bool := c == 84 || c == 32
def localRest (o : Option Int) : List UInt8 → Option Int
  | [] => none
  | _ :: r => o.bind fun d => (clockT r).bind fun t => some (d * 86400000 + t)
def localT (l : List UInt8) : Option Int := localRest (dateT (l.takeWhile fun c => !isSep c)) (l.dropWhile fun c => !isSep c)
def momT (kind : Int) (l : List UInt8) : Option Int :=
  if kind = 1 then (dateT l).map (· * 86400000) else if kind = 2 then monthT l else if kind = 3 then (weekT l).map (· * 86400000) else if kind = 4 then clockT l else localT l
def outM : Option Int → Int × Int
  | none => (0, 1)
  | some n => (n, 0)
/-- What Parse answers. -/
def momV (kind : Int) (l : List UInt8) : Int × Int := if 1 ≤ kind ∧ kind ≤ 5 then outM (momT kind l) else (0, 3)

theorem dateTail_eq (y : Int) (p a b q c d : UInt8) : dateTail y [p, a, b, q, c, d] = if p = 45 ∧ q = 45 then numD y (twoV a b) (twoV c d) else none := rfl
theorem monthTail_eq (y : Int) (p a b : UInt8) : monthTail y [p, a, b] = if p = 45 ∧ 1 ≤ twoV a b ∧ twoV a b ≤ 12 then some ((y - 1970) * 12 + twoV a b - 1) else none := rfl
theorem weekTail_eq (y : Int) (p q a b : UInt8) : weekTail y [p, q, a, b] = if p = 45 ∧ q = 87 ∧ 1 ≤ twoV a b ∧ twoV a b ≤ WeeksV y then some (firstV y + 7 * (twoV a b - 1)) else none := rfl
theorem fracT_eq (n : Int) (s : UInt8) (f : List UInt8) : fracT n (s :: f) = if s = 46 ∧ 1 ≤ f.length ∧ f.length ≤ 3 ∧ f.all isDg = true then some (n + fracOf 3 f) else none := rfl
theorem secT_eq (n : Int) (q e f : UInt8) (r : List UInt8) : secT n (q :: e :: f :: r) = if q = 58 ∧ 0 ≤ twoV e f ∧ twoV e f ≤ 59 then fracT (n + twoV e f * 1000) r else none := rfl
theorem clockT_eq (a b p c d : UInt8) (r : List UInt8) : clockT (a :: b :: p :: c :: d :: r) = if p = 58 ∧ 0 ≤ twoV a b ∧ twoV a b ≤ 23 ∧ 0 ≤ twoV c d ∧ twoV c d ≤ 59 then secT (twoV a b * 3600000 + twoV c d * 60000) r else none := rfl

/-- A number with noughts ahead. -/
def padL (n w : Nat) : List UInt8 := List.replicate (w - (decD n).length) 48 ++ decD n
theorem natFrom_noughts : ∀ (k : Nat) (l : List UInt8), natFrom 0 (List.replicate k 48 ++ l) = natFrom 0 l
  | 0, _ => rfl
  | k + 1, l => by
    rw [List.replicate_succ]
    exact natFrom_noughts k l
theorem pad_nat (n w : Nat) : natOf (padL n w) = n := by
  unfold padL natOf
  rw [natFrom_noughts]; exact natOf_decD n
theorem pad_dg (n w : Nat) : ∀ c ∈ padL n w, isDg c = true := by
  intro c hc
  rcases List.mem_append.1 hc with h | h
  · rw [List.eq_of_mem_replicate h]; decide
  · exact decD_dg n c h
theorem pad_len (n w : Nat) : w ≤ (padL n w).length := by
  unfold padL
  rw [List.length_append, List.length_replicate]; omega
theorem pad_most {n w k : Nat} (h : n < 10 ^ k) (hk : 0 < k) (hw : w ≤ k) : (padL n w).length ≤ k := by
  have := decD_len h hk
  unfold padL
  rw [List.length_append, List.length_replicate]; omega
theorem pad_2 {n : Nat} (h : n < 100) : padL n 2 = [dgB (n / 10), dgB (n % 10)] := by
  unfold padL
  by_cases h1 : n < 10
  · rw [decD_small h1, show n / 10 = 0 by omega, show n % 10 = n by omega]; rfl
  · rw [decD_great h1, decD_small (show n / 10 < 10 by omega)]; rfl
theorem two_pad {n : Nat} (h : n < 100) : twoV (dgB (n / 10)) (dgB (n % 10)) = (n : Int) := by
  have a := dgB_dg (show n / 10 < 10 by omega)
  have b := dgB_dg (show n % 10 < 10 by omega)
  rw [two_yes a.1 b.1, a.2, b.2]; omega
def dateL (y m d : Nat) : List UInt8 := padL y 4 ++ 45 :: padL m 2 ++ 45 :: padL d 2
def monthL (y m : Nat) : List UInt8 := padL y 4 ++ 45 :: padL m 2
def weekL (y k : Nat) : List UInt8 := padL y 4 ++ 45 :: 87 :: padL k 2
def clockL (n : Nat) : List UInt8 := padL (n / 3600000) 2 ++ 58 :: padL (n / 60000 % 60) 2 ++ (if n % 60000 = 0 then [] else 58 :: padL (n / 1000 % 60) 2 ++ (if n % 1000 = 0 then [] else 46 :: fracD 3 (n % 1000)))
theorem pad_year {y : Nat} (h1 : 1 ≤ y) (h2 : y ≤ 275760) : yrV (padL y 4) = some (y : Int) := by
  rw [yr_yes (by rw [pad_nat]; exact ⟨pad_len _ _, h1, h2⟩), pad_nat]
theorem year_take {y : Nat} {c : UInt8} {r : List UInt8} (h : isDg c = false) : (padL y 4 ++ c :: r).takeWhile isDg = padL y 4 ∧ (padL y 4 ++ c :: r).dropWhile isDg = c :: r :=
  takeWhile_all (pad_dg y 4) (fun d r' e => by cases e; exact h)
/-- A day's text is read to its number. -/
theorem date_back {n : Int} {y m d : Nat} (h : IsDay n y m d) : dateT (dateL y m d) = some n := by
  have y1 := h.y1; have y2 := h.y2; have m1 := h.m1; have m2 := h.m2; have d1 := h.d1; have d2 := h.d2
  have b := len_bounds y m
  have e := h.len
  unfold dateT dateL
  rw [pad_2 (show m < 100 by omega), pad_2 (show d < 100 by omega)]
  have ⟨t1, t2⟩ := year_take (y := y) (c := 45) (r := [dgB (m / 10), dgB (m % 10)] ++ 45 :: [dgB (d / 10), dgB (d % 10)]) (by decide)
  rw [List.append_assoc, List.cons_append, t1, t2, pad_year (by omega) (by omega)]
  show dateTail (y : Int) [45, dgB (m / 10), dgB (m % 10), 45, dgB (d / 10), dgB (d % 10)] = _
  rw [dateTail_eq, if_pos ⟨rfl, rfl⟩, two_pad (by omega), two_pad (by omega)]
  unfold numD
  rw [if_pos ⟨d1, by rw [e]; exact d2⟩, h.is]
theorem month_back {y m : Nat} (y1 : 1 ≤ y) (y2 : y ≤ 275760) (m1 : 1 ≤ m) (m2 : m ≤ 12) : monthT (monthL y m) = some (((y : Int) - 1970) * 12 + m - 1) := by
  unfold monthT monthL
  rw [pad_2 (show m < 100 by omega)]
  have ⟨t1, t2⟩ := year_take (y := y) (c := 45) (r := [dgB (m / 10), dgB (m % 10)]) (by decide)
  rw [t1, t2, pad_year y1 y2]
  show monthTail (y : Int) [45, dgB (m / 10), dgB (m % 10)] = _
  rw [monthTail_eq, two_pad (by omega), if_pos ⟨rfl, by omega, by omega⟩]
theorem week_back {y k : Nat} (y1 : 1 ≤ y) (y2 : y ≤ 275760) (k1 : 1 ≤ k) (k2 : (k : Int) ≤ weeksV y) : weekT (weekL y k) = some (firstV y + 7 * ((k : Int) - 1)) := by
  have b := (weeks_is y).2
  unfold weekT weekL
  rw [pad_2 (show k < 100 by omega)]
  have ⟨t1, t2⟩ := year_take (y := y) (c := 45) (r := 87 :: [dgB (k / 10), dgB (k % 10)]) (by decide)
  rw [t1, t2, pad_year y1 y2]
  show weekTail (y : Int) [45, 87, dgB (k / 10), dgB (k % 10)] = _
  rw [weekTail_eq, two_pad (by omega), if_pos ⟨rfl, rfl, by omega, by rw [weeks_in (by omega)]; exact k2⟩]
theorem clock_back {n : Nat} (h : n < 86400000) : clockT (clockL n) = some (n : Int) := by
  unfold clockL
  rw [pad_2 (show n / 3600000 < 100 by omega), pad_2 (show n / 60000 % 60 < 100 by omega), pad_2 (show n / 1000 % 60 < 100 by omega)]
  show clockT (_ :: _ :: _ :: _ :: _ :: _) = _
  rw [clockT_eq, two_pad (by omega), two_pad (by omega), if_pos ⟨rfl, by omega, by omega, by omega, by omega⟩]
  by_cases h1 : n % 60000 = 0
  · rw [if_pos h1]
    show some _ = _
    congr 1; omega
  · rw [if_neg h1]
    show secT _ (_ :: _ :: _ :: _) = _
    rw [secT_eq, two_pad (by omega), if_pos ⟨rfl, by omega, by omega⟩]
    by_cases h2 : n % 1000 = 0
    · rw [if_pos h2]
      show some _ = _
      congr 1; omega
    · rw [if_neg h2]
      have hm : n % 1000 < 10 ^ 3 := by omega
      have hne : fracD 3 (n % 1000) ≠ [] := fun e => h2 ((fracD_nil hm).1 e)
      have hl := fracD_len 3 (n % 1000)
      show fracT _ (_ :: _) = _
      rw [fracT_eq, if_pos ⟨rfl, List.length_pos_iff.2 hne, hl, List.all_eq_true.2 (fracD_dg 3 _ hm)⟩, fracOf_fracD 3 _ hm]
      congr 1; omega

end Go.Proofs.YtpkpkpiphgjbaaaGreatDoor

namespace Go.Proofs.YtpkpkpiphgjbaaaGreatDoor
open Go.RowKit

def Daily : Int := 86400000
/-- The text t is the text of the number n of that kind. -/
def ShowIs (kind n : Int) (t : List UInt8) : Prop :=
  (kind = 1 ∧ ∃ (k : Int) (y m d : Nat), IsDay k y m d ∧ n = k * 86400000 ∧ t = dateL y m d) ∨
  (kind = 2 ∧ ∃ y m : Nat, 1 ≤ y ∧ y ≤ 275760 ∧ 1 ≤ m ∧ m ≤ 12 ∧ n = ((y : Int) - 1970) * 12 + m - 1 ∧ t = monthL y m) ∨
  (kind = 3 ∧ ∃ y k : Nat, 1 ≤ y ∧ y ≤ 275760 ∧ 1 ≤ k ∧ (k : Int) ≤ weeksV y ∧ n = (firstV y + 7 * ((k : Int) - 1)) * 86400000 ∧ t = weekL y k) ∨
  (kind = 4 ∧ ∃ k : Nat, k < 86400000 ∧ n = k ∧ t = clockL k) ∨
  (kind = 5 ∧ ∃ (k : Int) (y m d r : Nat), IsDay k y m d ∧ r < 86400000 ∧ n = k * 86400000 + r ∧ t = dateL y m d ++ 84 :: clockL r)
/-- No text of that kind has the number n. -/
def ShowNo (kind n : Int) : Prop :=
  (kind = 1 ∧ (¬ n % 86400000 = 0 ∨ n / 86400000 < newV 1 ∨ newV 275761 ≤ n / 86400000)) ∨
  (kind = 2 ∧ (n / 12 < -1969 ∨ 273790 < n / 12)) ∨
  (kind = 3 ∧ (¬ n % 86400000 = 0 ∨ n / 86400000 < firstV 1 ∨ firstV 275761 ≤ n / 86400000 ∨ ¬ wdayV (n / 86400000) = 1)) ∨
  (kind = 4 ∧ (n < 0 ∨ 86400000 ≤ n)) ∨
  (kind = 5 ∧ (n / 86400000 < newV 1 ∨ newV 275761 ≤ n / 86400000))
theorem day_nat {n y m d : Int} (h : IsDay n y m d) : ∃ Y M D : Nat, IsDay n Y M D ∧ (Y : Int) = y ∧ (M : Int) = m ∧ (D : Int) = d := by
  have h1 := h.y1; have h2 := h.m1; have h3 := h.d1
  obtain ⟨Y, rfl⟩ : ∃ Y : Nat, y = Y := ⟨y.toNat, by omega⟩
  obtain ⟨M, rfl⟩ : ∃ M : Nat, m = M := ⟨m.toNat, by omega⟩
  obtain ⟨D, rfl⟩ : ∃ D : Nat, d = D := ⟨d.toNat, by omega⟩
  exact ⟨Y, M, D, h, rfl, rfl, rfl⟩
theorem week_nat {n y : Int} (h : InWeeks n y) (y1 : 1 ≤ y) (hw : wdayV n = 1) : ∃ Y k : Nat, (Y : Int) = y ∧ 1 ≤ k ∧ (k : Int) ≤ weeksV y ∧ (k : Int) = weekV n y ∧ n = firstV y + 7 * ((k : Int) - 1) := by
  have ⟨a, b, c, d⟩ := week_is h
  obtain ⟨Y, rfl⟩ : ∃ Y : Nat, y = Y := ⟨y.toNat, by omega⟩
  obtain ⟨k, hk⟩ : ∃ k : Nat, weekV n Y = k := ⟨(weekV n Y).toNat, by omega⟩
  rw [hk] at a b c d
  refine ⟨Y, k, rfl, by omega, b, hk.symm, ?_⟩
  have f := first_monday Y
  unfold wdayV at f hw
  omega
theorem show_cases {kind : Int} (n : Int) (h1 : 1 ≤ kind) (h2 : kind ≤ 5) : (∃ t, ShowIs kind n t) ∨ ShowNo kind n := by
  rcases (show kind = 1 ∨ kind = 2 ∨ kind = 3 ∨ kind = 4 ∨ kind = 5 by omega) with h | h | h | h | h
  · by_cases g : n % 86400000 = 0 ∧ newV 1 ≤ n / 86400000 ∧ n / 86400000 < newV 275761
    · obtain ⟨y, m, d, hd⟩ := day_some g.2.1 g.2.2
      obtain ⟨Y, M, D, hd', -⟩ := day_nat hd
      exact .inl ⟨_, .inl ⟨h, _, Y, M, D, hd', by omega, rfl⟩⟩
    · exact .inr (.inl ⟨h, by omega⟩)
  · by_cases g : n / 12 < -1969 ∨ 273790 < n / 12
    · exact .inr (.inr (.inl ⟨h, g⟩))
    · exact .inl ⟨_, .inr (.inl ⟨h, (n / 12 + 1970).toNat, (n % 12 + 1).toNat, by omega, by omega, by omega, by omega, by omega, rfl⟩)⟩
  · by_cases g : n % 86400000 = 0 ∧ firstV 1 ≤ n / 86400000 ∧ n / 86400000 < firstV 275761 ∧ wdayV (n / 86400000) = 1
    · obtain ⟨y, y1, y2, hy⟩ := inWeeks_some g.2.1 g.2.2.1
      obtain ⟨Y, k, rfl, k1, k2, k3, e⟩ := week_nat hy y1 g.2.2.2
      exact .inl ⟨_, .inr (.inr (.inl ⟨h, Y, k, by omega, by omega, k1, k2, by rw [← e]; omega, rfl⟩))⟩
    · exact .inr (.inr (.inr (.inl ⟨h, by omega⟩)))
  · by_cases g : n < 0 ∨ 86400000 ≤ n
    · exact .inr (.inr (.inr (.inr (.inl ⟨h, g⟩))))
    · exact .inl ⟨_, .inr (.inr (.inr (.inl ⟨h, n.toNat, by omega, by omega, rfl⟩)))⟩
  · by_cases g : newV 1 ≤ n / 86400000 ∧ n / 86400000 < newV 275761
    · obtain ⟨y, m, d, hd⟩ := day_some g.1 g.2
      obtain ⟨Y, M, D, hd', -⟩ := day_nat hd
      exact .inl ⟨_, .inr (.inr (.inr (.inr ⟨h, _, Y, M, D, (n % 86400000).toNat, hd', by omega, by omega, rfl⟩)))⟩
    · exact .inr (.inr (.inr (.inr (.inr ⟨h, by omega⟩))))
theorem sep_take {p : UInt8 → Bool} {l k : List UInt8} {c : UInt8} (h : ∀ x ∈ l, p x = true) (hc : p c = false) : (l ++ c :: k).takeWhile p = l ∧ (l ++ c :: k).dropWhile p = c :: k := by
  induction l with
  | nil => simp [hc]
  | cons x l ih =>
    have hx := h x (List.mem_cons_self ..)
    have ⟨i1, i2⟩ := ih (fun d hd => h d (List.mem_cons_of_mem _ hd))
    simp [hx, i1, i2]
/-- A day's text, a sign, a time's text. -/
theorem local_is {l k : List UInt8} {c : UInt8} (h : ∀ x ∈ l, isSep x = false) (hc : isSep c = true) : localT (l ++ c :: k) = (dateT l).bind fun d => (clockT k).bind fun t => some (d * 86400000 + t) := by
  have ⟨a, b⟩ := sep_take (p := fun c => !isSep c) (l := l) (k := k) (c := c) (fun x hx => by simp [h x hx]) (by simp [hc])
  unfold localT
  rw [a, b]; rfl
theorem dg_sep {c : UInt8} (h : isDg c = true) : isSep c = false := by
  have := (isDg_iff c).1 h
  unfold isSep
  have a : c ≠ 84 := by intro e; subst e; revert this; decide
  have b : c ≠ 32 := by intro e; subst e; revert this; decide
  simp [a, b]
theorem dateL_sep (y m d : Nat) : ∀ x ∈ dateL y m d, isSep x = false := by
  intro x hx
  unfold dateL at hx
  simp only [List.append_assoc, List.cons_append, List.mem_append, List.mem_cons] at hx
  rcases hx with h | h | h | h | h
  · exact dg_sep (pad_dg _ _ x h)
  · subst h; decide
  · exact dg_sep (pad_dg _ _ x h)
  · subst h; decide
  · exact dg_sep (pad_dg _ _ x h)
/-- There and back. -/
theorem mom_back {kind n : Int} {t : List UInt8} (h : ShowIs kind n t) : momT kind t = some n := by
  rcases h with ⟨rfl, k, y, m, d, hd, rfl, rfl⟩ | ⟨rfl, y, m, y1, y2, m1, m2, rfl, rfl⟩ | ⟨rfl, y, k, y1, y2, k1, k2, rfl, rfl⟩ | ⟨rfl, k, hk, rfl, rfl⟩ | ⟨rfl, k, y, m, d, r, hd, hr, rfl, rfl⟩
  · show (dateT _).map _ = _
    rw [date_back hd]; rfl
  · show monthT _ = _
    exact month_back y1 y2 m1 m2
  · show (weekT _).map _ = _
    rw [week_back y1 y2 k1 k2]; rfl
  · show clockT _ = _
    exact clock_back hk
  · show localT _ = _
    rw [local_is (dateL_sep y m d) (by decide), date_back hd, clock_back hr]; rfl
theorem year_of {l : List UInt8} {y : Int} (h : yrV l = some y) : 1 ≤ y ∧ y ≤ 275760 := by
  unfold yrV at h
  split at h
  · cases h; omega
  · cases h
theorem date_of_text {l : List UInt8} {k : Int} (h : dateT l = some k) : ∃ y m d : Nat, IsDay k y m d := by
  unfold dateT at h
  rw [Option.bind_eq_some_iff] at h
  obtain ⟨y, hy, ht⟩ := h
  unfold dateTail at ht
  split at ht
  · split at ht
    · unfold numD at ht
      split at ht
      · rename_i g
        cases ht
        obtain ⟨Y, M, D, hd, -⟩ := day_nat (day_is g.1 g.2)
        exact ⟨Y, M, D, hd⟩
      · cases ht
    · cases ht
  · cases ht
theorem frac_some_T {l : List UInt8} {n k : Int} (h : fracT n l = some k) : n ≤ k ∧ k < n + 1000 := by
  unfold fracT at h
  split at h
  · cases h; omega
  · split at h
    · rename_i g
      cases h
      have := fracOf_lt 3 _ (List.all_eq_true.1 g.2.2.2)
      omega
    · cases h
theorem sec_some {l : List UInt8} {n k : Int} (h : secT n l = some k) : n ≤ k ∧ k < n + 60000 := by
  unfold secT at h
  split at h
  · cases h; omega
  · split at h
    · have := frac_some_T h
      omega
    · cases h
  · cases h
theorem clock_some {l : List UInt8} {k : Int} (h : clockT l = some k) : 0 ≤ k ∧ k < 86400000 := by
  unfold clockT at h
  split at h
  · split at h
    · have := sec_some h
      omega
    · cases h
  · cases h
/-- What is read has a text. -/
theorem mom_normal {kind n : Int} {l : List UInt8} (h1 : 1 ≤ kind) (h2 : kind ≤ 5) (h : momT kind l = some n) : ∃ t, ShowIs kind n t := by
  rcases (show kind = 1 ∨ kind = 2 ∨ kind = 3 ∨ kind = 4 ∨ kind = 5 by omega) with rfl | rfl | rfl | rfl | rfl
  · have h : (dateT l).map (· * 86400000) = some n := h
    rw [Option.map_eq_some_iff] at h
    obtain ⟨k, hk, rfl⟩ := h
    obtain ⟨y, m, d, hd⟩ := date_of_text hk
    exact ⟨_, .inl ⟨rfl, k, y, m, d, hd, rfl, rfl⟩⟩
  · have h : monthT l = some n := h
    unfold monthT at h
    rw [Option.bind_eq_some_iff] at h
    obtain ⟨y, hy, ht⟩ := h
    have ⟨y1, y2⟩ := year_of hy
    unfold monthTail at ht
    split at ht
    · split at ht
      · cases ht
        rename_i a b _ g
        exact ⟨_, .inr (.inl ⟨rfl, y.toNat, (twoV a b).toNat, by omega, by omega, by omega, by omega, by omega, rfl⟩)⟩
      · cases ht
    · cases ht
  · have h : (weekT l).map (· * 86400000) = some n := h
    rw [Option.map_eq_some_iff] at h
    obtain ⟨k, hk, rfl⟩ := h
    unfold weekT at hk
    rw [Option.bind_eq_some_iff] at hk
    obtain ⟨y, hy, ht⟩ := hk
    have ⟨y1, y2⟩ := year_of hy
    unfold weekTail at ht
    split at ht
    · split at ht
      · cases ht
        rename_i a b _ g
        rw [weeks_in ⟨y1, y2⟩] at g
        obtain ⟨Y, rfl⟩ : ∃ Y : Nat, y = Y := ⟨y.toNat, by omega⟩
        exact ⟨_, .inr (.inr (.inl ⟨rfl, Y, (twoV a b).toNat, by omega, by omega, by omega, by omega, by rw [show (((twoV a b).toNat : Nat) : Int) = twoV a b by omega], rfl⟩))⟩
      · cases ht
    · cases ht
  · have h : clockT l = some n := h
    have := clock_some h
    exact ⟨_, .inr (.inr (.inr (.inl ⟨rfl, n.toNat, by omega, by omega, rfl⟩)))⟩
  · have h : localT l = some n := h
    unfold localT localRest at h
    split at h
    · cases h
    · rw [Option.bind_eq_some_iff] at h
      obtain ⟨d, hd, h⟩ := h
      rw [Option.bind_eq_some_iff] at h
      obtain ⟨t, ht, h⟩ := h
      cases h
      obtain ⟨y, m, e, he⟩ := date_of_text hd
      have := clock_some ht
      exact ⟨_, .inr (.inr (.inr (.inr ⟨rfl, d, y, m, e, t.toNat, he, by omega, by omega, rfl⟩)))⟩

end Go.Proofs.YtpkpkpiphgjbaaaGreatDoor
