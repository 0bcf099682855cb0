/- Small letters of texts, as lists of bytes. Numbers as texts, exact to six places, as lists of bytes. Moments as texts, as lists of bytes. Which text a number has, of each kind, there and back. The document's Digits and Pad answer by decD and padL; blocks are laid behind, and no more. The document's Day (a day's text) answers by dateL; blocks are laid behind, and no more. The document's Clock (a time's text) answers by clockL; blocks are laid behind, and no more. -/
import Derived.Test.YtfjfkkbgkjmghaaGreatDoorJct1
import Derived.Shelf.SlSortCmp.QuietGrown
import Derived.BigQuiet

namespace Go.Proofs.YtfjfkkbgkjmghaaGreatDoor
open Go.RowKit
/-- The small letter of a byte. -/
def lowB (c : UInt8) : UInt8 := if 65 ≤ c.toNat ∧ c.toNat ≤ 90 then c + 32 else c
def lowL (l : List UInt8) : List UInt8 := l.map lowB
def lowS (s : ByteArray) : ByteArray := txt (lowL s.data.toList)
def byteAt (s : ByteArray) (j : Nat) : UInt8 := s.data.toList.getD j 0
theorem byteAt_eq (s : ByteArray) (j : Nat) (h : j < s.size) : s[j] = byteAt s j := by
  unfold byteAt; simp [List.getD, h]; rfl
theorem byteAt_take (s : ByteArray) (k : Nat) (h : k < s.size) : s.data.toList.take (k + 1) = s.data.toList.take k ++ [byteAt s k] := by
  rw [List.take_succ_eq_append_getElem (by simpa using h), ← byteAt_eq s k h]; rfl
theorem lowB_yes (c : UInt8) (h1 : 65 ≤ c.toNat) (h2 : c.toNat ≤ 90) : (lowB c).toNat = c.toNat + 32 := by
  unfold lowB; rw [if_pos ⟨h1, h2⟩]; simp; omega
theorem lowB_no (c : UInt8) (h : ¬ (65 ≤ c.toNat ∧ c.toNat ≤ 90)) : lowB c = c := by
  unfold lowB; rw [if_neg h]
theorem lowL_length (l : List UInt8) : (lowL l).length = l.length := by simp [lowL]
theorem lowL_take (s : ByteArray) (k : Nat) (h : k < s.size) : lowL (s.data.toList.take (k + 1)) = lowL (s.data.toList.take k) ++ [lowB (byteAt s k)] := by
  rw [byteAt_take s k h]; simp [lowL]
theorem lowS_data (s : ByteArray) : (lowS s).data.toList = lowL s.data.toList := rfl
theorem lowS_size (s : ByteArray) : (lowS s).size = s.size := by
  unfold lowS; rw [txt_size, lowL_length]; simp
end Go.Proofs.YtfjfkkbgkjmghaaGreatDoor

namespace Go.Proofs.YtfjfkkbgkjmghaaGreatDoor
open Go.RowKit
def isDg (c : UInt8) : Bool := decide (48 ≤ c.toNat ∧ c.toNat ≤ 57)
def dg (c : UInt8) : Nat := c.toNat - 48
def dgB (n : Nat) : UInt8 := UInt8.ofNat (48 + n)
theorem isDg_iff (c : UInt8) : isDg c = true ↔ 48 ≤ c.toNat ∧ c.toNat ≤ 57 := by unfold isDg; simp
theorem isDg_not (c : UInt8) : isDg c = false ↔ ¬ (48 ≤ c.toNat ∧ c.toNat ≤ 57) := by unfold isDg; simp
theorem dgB_toNat {n : Nat} (h : n < 10) : (dgB n).toNat = 48 + n := by unfold dgB; simp; omega
theorem dgB_dg {n : Nat} (h : n < 10) : isDg (dgB n) = true ∧ dg (dgB n) = n := by
  have e := dgB_toNat h
  refine ⟨(isDg_iff _).2 (by omega), ?_⟩
  unfold dg; omega
theorem dg_lt {c : UInt8} (h : isDg c = true) : dg c < 10 := by
  have := (isDg_iff c).1 h; unfold dg; omega
theorem dg_zero {c : UInt8} (h : isDg c = true) : dg c = 0 ↔ c = 48 := by
  have := (isDg_iff c).1 h
  unfold dg
  constructor
  · intro e; exact UInt8.toNat_inj.1 (by show c.toNat = 48; omega)
  · intro e; subst e; rfl
/-- The number that digits tell. -/
def natFrom (n : Nat) : List UInt8 → Nat
  | [] => n
  | c :: l => natFrom (10 * n + dg c) l
def natOf (l : List UInt8) : Nat := natFrom 0 l
theorem natFrom_ge (n : Nat) : ∀ l : List UInt8, n ≤ natFrom n l
  | [] => Nat.le_refl _
  | c :: l => Nat.le_trans (by omega) (natFrom_ge (10 * n + dg c) l)
/-- The number that stands behind the point, in millionths: p places are left. -/
def fracOf : Nat → List UInt8 → Nat
  | 0, _ => 0
  | _ + 1, [] => 0
  | p + 1, c :: l => dg c * 10 ^ p + fracOf p l
theorem fracOf_lt : ∀ (p : Nat) (l : List UInt8), (∀ c ∈ l, isDg c = true) → fracOf p l < 10 ^ p
  | 0, _, _ => by simp [fracOf]
  | p + 1, [], _ => by simp [fracOf]; exact Nat.pow_pos (by decide)
  | p + 1, c :: l, h => by
    have ih := fracOf_lt p l (fun d hd => h d (List.mem_cons_of_mem _ hd))
    have hd := dg_lt (h c (List.mem_cons_self ..))
    have : dg c * 10 ^ p ≤ 9 * 10 ^ p := Nat.mul_le_mul_right _ (by omega)
    unfold fracOf; rw [Nat.pow_succ]; omega
/-- Is there a digit other than 0? -/
def someD (l : List UInt8) : Bool := l.any fun c => c != 48
def MW : Nat := 1000000000000
def numV (neg : Bool) (w f : List UInt8) : Int × Int :=
  if MW < natOf w ∨ (natOf w = MW ∧ someD f = true) ∨ someD (f.drop 6) = true then (0, 2)
  else (if neg then -((natOf w * 1000000 + fracOf 6 f : Nat) : Int) else ((natOf w * 1000000 + fracOf 6 f : Nat) : Int), 0)
/-- The digits ahead of the point and behind it, if the text is formed so. -/
def partsV (l : List UInt8) : Option (List UInt8 × List UInt8) :=
  match l.dropWhile isDg with
  | [] => if l.takeWhile isDg = [] then none else some (l.takeWhile isDg, [])
  | c :: f => if c = 46 ∧ f ≠ [] ∧ f.all isDg = true then some (l.takeWhile isDg, f) else none
def negV (l : List UInt8) : Bool := l.head? == some 45
def bodyV (l : List UInt8) : List UInt8 := if negV l then l.tail else l
def parseV (l : List UInt8) : Int × Int :=
  match partsV (bodyV l) with
  | none => (0, 1)
  | some (w, f) => numV (negV l) w f
/-- The digits of a number. -/
def decD (n : Nat) : List UInt8 := if n < 10 then [dgB n] else decD (n / 10) ++ [dgB (n % 10)]
theorem decD_small {n : Nat} (h : n < 10) : decD n = [dgB n] := by rw [decD, if_pos h]
theorem decD_great {n : Nat} (h : ¬ n < 10) : decD n = decD (n / 10) ++ [dgB (n % 10)] := by rw [decD, if_neg h]
theorem decD_len {n k : Nat} (h : n < 10 ^ k) (hk : 0 < k) : (decD n).length ≤ k := by
  induction n using Nat.strongRecOn generalizing k with
  | ind n ih =>
    by_cases h1 : n < 10
    · rw [decD_small h1]; simp; omega
    · rw [decD_great h1, List.length_append]
      obtain ⟨j, rfl⟩ : ∃ j, k = j + 1 := ⟨k - 1, by omega⟩
      rw [Nat.pow_succ] at h
      have hj : 0 < j := by
        rcases Nat.eq_zero_or_pos j with e | e
        · subst e; simp at h; omega
        · exact e
      have := ih (n / 10) (by omega) (k := j) (by omega) hj
      simp; omega
theorem natFrom_lt (n : Nat) : ∀ l : List UInt8, (∀ c ∈ l, isDg c = true) → natFrom n l < (n + 1) * 10 ^ l.length
  | [], _ => by
    show n < (n + 1) * 10 ^ 0
    rw [Nat.pow_zero]; omega
  | c :: l, h => by
    have hd := dg_lt (h c (List.mem_cons_self ..))
    have ih := natFrom_lt (10 * n + dg c) l (fun d hd => h d (List.mem_cons_of_mem _ hd))
    have h2 : (10 * n + dg c + 1) * 10 ^ l.length ≤ (10 * (n + 1)) * 10 ^ l.length := Nat.mul_le_mul_right _ (by omega)
    show natFrom (10 * n + dg c) l < _
    rw [List.length_cons, Nat.pow_succ]
    have e : (n + 1) * (10 ^ l.length * 10) = (10 * (n + 1)) * 10 ^ l.length := by
      rw [Nat.mul_comm (10 ^ l.length) 10, ← Nat.mul_assoc, Nat.mul_comm (n + 1) 10]
    omega
theorem natOf_lt (l : List UInt8) (h : ∀ c ∈ l, isDg c = true) : natOf l < 10 ^ l.length := by
  have := natFrom_lt 0 l h
  rw [Nat.zero_add, Nat.one_mul] at this
  exact this
/-- The digits behind the point, without the noughts at the end: p places. -/
def fracD : Nat → Nat → List UInt8
  | 0, _ => []
  | p + 1, m => if m = 0 then [] else dgB (m / 10 ^ p) :: fracD p (m % 10 ^ p)
theorem fracD_zero (p : Nat) : fracD p 0 = [] := by cases p <;> simp [fracD]
theorem fracD_len : ∀ (p m : Nat), (fracD p m).length ≤ p
  | 0, m => by simp [fracD]
  | p + 1, m => by
    unfold fracD
    by_cases hm : m = 0
    · rw [if_pos hm]; simp
    · rw [if_neg hm]
      have := fracD_len p (m % 10 ^ p)
      simp; exact this
theorem fracOf_zeros : ∀ p : Nat, fracOf p [] = 0
  | 0 => rfl
  | _ + 1 => rfl
theorem fracOf_fracD : ∀ (p m : Nat), m < 10 ^ p → fracOf p (fracD p m) = m
  | 0, m, h => by simp at h; subst h; rfl
  | p + 1, m, h => by
    unfold fracD
    by_cases hm : m = 0
    · rw [if_pos hm, hm]; rfl
    · rw [if_neg hm]
      have hp : 0 < 10 ^ p := Nat.pow_pos (by decide)
      have h10 : m / 10 ^ p < 10 := by
        rw [Nat.div_lt_iff_lt_mul hp]
        rw [Nat.pow_succ] at h; omega
      show dg (dgB (m / 10 ^ p)) * 10 ^ p + fracOf p (fracD p (m % 10 ^ p)) = m
      rw [(dgB_dg h10).2, fracOf_fracD p _ (Nat.mod_lt _ hp), Nat.mul_comm]
      exact Nat.div_add_mod m (10 ^ p)
theorem fracD_nil {p m : Nat} (h : m < 10 ^ p) : fracD p m = [] ↔ m = 0 := by
  constructor
  · intro e
    have := fracOf_fracD p m h
    rw [e, fracOf_zeros] at this; omega
  · intro e; subst e; exact fracD_zero p
theorem someD_zero : ∀ (p : Nat) (l : List UInt8), (∀ c ∈ l, isDg c = true) → someD l = false → fracOf p l = 0
  | 0, _, _, _ => rfl
  | p + 1, [], _, _ => rfl
  | p + 1, c :: l, h, hs => by
    unfold someD at hs
    rw [List.any_cons, Bool.or_eq_false_iff] at hs
    have hc : c = 48 := by simpa using hs.1
    have ih := someD_zero p l (fun d hd => h d (List.mem_cons_of_mem _ hd)) hs.2
    show dg c * 10 ^ p + fracOf p l = 0
    rw [ih, hc]; simp [dg]
theorem zero_someD : ∀ (p : Nat) (l : List UInt8), (∀ c ∈ l, isDg c = true) → l.length ≤ p → fracOf p l = 0 → someD l = false
  | _, [], _, _, _ => rfl
  | 0, c :: l, _, hl, _ => by simp at hl
  | p + 1, c :: l, h, hl, e => by
    have e' : dg c * 10 ^ p + fracOf p l = 0 := e
    have hp : 0 < 10 ^ p := Nat.pow_pos (by decide)
    have h0 : dg c = 0 := by
      rcases Nat.eq_zero_or_pos (dg c) with x | x
      · exact x
      · have := Nat.mul_pos x hp; omega
    have ih := zero_someD p l (fun d hd => h d (List.mem_cons_of_mem _ hd)) (by simpa using hl) (by omega)
    have hc := (dg_zero (h c (List.mem_cons_self ..))).1 h0
    unfold someD at ih ⊢
    rw [List.any_cons, ih, hc]; rfl
def showL (n : Int) : List UInt8 := (if n < 0 then [45] else []) ++ decD (n.natAbs / 1000000) ++ (if n.natAbs % 1000000 = 0 then [] else 46 :: fracD 6 (n.natAbs % 1000000))
theorem takeWhile_all {l k : List UInt8} (h : ∀ c ∈ l, isDg c = true) (hk : ∀ c r, k = c :: r → isDg c = false) : (l ++ k).takeWhile isDg = l ∧ (l ++ k).dropWhile isDg = k := by
  induction l with
  | nil =>
    cases k with
    | nil => exact ⟨rfl, rfl⟩
    | cons c r =>
      have := hk c r rfl
      simp [this]
  | cons c l ih =>
    have hc := h c (List.mem_cons_self ..)
    have ⟨i1, i2⟩ := ih (fun d hd => h d (List.mem_cons_of_mem _ hd))
    simp [hc, i1, i2]
theorem partsV_whole {w : List UInt8} (h : ∀ c ∈ w, isDg c = true) (hw : w ≠ []) : partsV w = some (w, []) := by
  have ⟨h1, h2⟩ := takeWhile_all (k := []) h (fun c r e => by cases e)
  rw [List.append_nil] at h1 h2
  unfold partsV; rw [h2, h1]; simp [hw]
theorem partsV_point {w f : List UInt8} (h : ∀ c ∈ w, isDg c = true) (hf : ∀ c ∈ f, isDg c = true) (hn : f ≠ []) : partsV (w ++ 46 :: f) = some (w, f) := by
  have ⟨h1, h2⟩ := takeWhile_all (k := 46 :: f) h (fun c r e => by cases e; decide)
  unfold partsV; rw [h2, h1]
  show (if _ then _ else _) = _
  rw [if_pos ⟨rfl, hn, List.all_eq_true.2 hf⟩]
/-- What formed texts are made of. -/
theorem partsV_some {l w f : List UInt8} (h : partsV l = some (w, f)) : (∀ c ∈ w, isDg c = true) ∧ (∀ c ∈ f, isDg c = true) ∧ ((f = [] ∧ w ≠ [] ∧ l = w) ∨ (f ≠ [] ∧ l = w ++ 46 :: f)) := by
  have hw : ∀ c ∈ l.takeWhile isDg, isDg c = true := fun c hc => by
    have := List.all_takeWhile (p := isDg) (l := l)
    exact List.all_eq_true.1 this c hc
  have hl : l = l.takeWhile isDg ++ l.dropWhile isDg := (List.takeWhile_append_dropWhile ..).symm
  unfold partsV at h
  cases hd : l.dropWhile isDg with
  | nil =>
    rw [hd] at h hl
    simp only at h
    by_cases e : l.takeWhile isDg = []
    · rw [if_pos e] at h; cases h
    · rw [if_neg e] at h; cases h
      refine ⟨hw, by simp, .inl ⟨rfl, e, ?_⟩⟩
      rw [List.append_nil] at hl; exact hl
  | cons c r =>
    rw [hd] at h hl
    simp only at h
    by_cases e : c = 46 ∧ r ≠ [] ∧ r.all isDg = true
    · rw [if_pos e] at h; cases h
      refine ⟨hw, List.all_eq_true.1 e.2.2, .inr ⟨e.2.1, ?_⟩⟩
      rw [← e.1]; exact hl
    · rw [if_neg e] at h; cases h
end Go.Proofs.YtfjfkkbgkjmghaaGreatDoor

namespace Go.Proofs.YtfjfkkbgkjmghaaGreatDoor
open Go.RowKit
/-- The number of two digits; -1: they are none. -/
def twoV (a b : UInt8) : Int := if isDg a = true ∧ isDg b = true then (10 * dg a + dg b : Nat) else -1
theorem two_yes {a b : UInt8} (h1 : isDg a = true) (h2 : isDg b = true) : twoV a b = (10 * dg a + dg b : Nat) := if_pos ⟨h1, h2⟩
theorem two_no {a b : UInt8} (h : ¬ (isDg a = true ∧ isDg b = true)) : twoV a b = -1 := if_neg h
theorem two_bounds (a b : UInt8) : -1 ≤ twoV a b ∧ twoV a b ≤ 99 := by
  by_cases h : isDg a = true ∧ isDg b = true
  · have := dg_lt h.1; have := dg_lt h.2
    rw [two_yes h.1 h.2]; omega
  · rw [two_no h]; omega
/-- A year's digits. -/
def yrV (ds : List UInt8) : Option Int := if 4 ≤ ds.length ∧ 1 ≤ natOf ds ∧ natOf ds ≤ 275760 then some (natOf ds : Int) else none
theorem yr_yes {ds : List UInt8} (h : 4 ≤ ds.length ∧ 1 ≤ natOf ds ∧ natOf ds ≤ 275760) : yrV ds = some (natOf ds : Int) := if_pos h
/-- The number of a day, if there is one. -/
def numD (y m d : Int) : Option Int := if 1 ≤ d ∧ d ≤ LenV y m then some (newV y + aheadI y m + (d - 1)) else none
def dateTail (y : Int) : List UInt8 → Option Int
  | [p, a, b, q, c, d] => if p = 45 ∧ q = 45 then numD y (twoV a b) (twoV c d) else none
  | _ => none
/-- The number of the day that a Date's text tells. -/
def dateT (l : List UInt8) : Option Int := (yrV (l.takeWhile isDg)).bind fun y => dateTail y (l.dropWhile isDg)
def monthTail (y : Int) : List UInt8 → Option Int
  | [p, a, b] => if p = 45 ∧ 1 ≤ twoV a b ∧ twoV a b ≤ 12 then some ((y - 1970) * 12 + twoV a b - 1) else none
  | _ => none
def monthT (l : List UInt8) : Option Int := (yrV (l.takeWhile isDg)).bind fun y => monthTail y (l.dropWhile isDg)
def weekTail (y : Int) : List UInt8 → Option Int
  | [p, q, a, b] => if p = 45 ∧ q = 87 ∧ 1 ≤ twoV a b ∧ twoV a b ≤ WeeksV y then some (firstV y + 7 * (twoV a b - 1)) else none
  | _ => none
/-- The number of the Monday that a Week's text tells. -/
def weekT (l : List UInt8) : Option Int := (yrV (l.takeWhile isDg)).bind fun y => weekTail y (l.dropWhile isDg)
def fracT (n : Int) : List UInt8 → Option Int
  | [] => some n
  | s :: f => if s = 46 ∧ 1 ≤ f.length ∧ f.length ≤ 3 ∧ f.all isDg = true then some (n + fracOf 3 f) else none
def secT (n : Int) : List UInt8 → Option Int
  | [] => some n
  | q :: e :: f :: r => if q = 58 ∧ 0 ≤ twoV e f ∧ twoV e f ≤ 59 then fracT (n + twoV e f * 1000) r else none
  | _ => none
/-- The thousandths of a second that a Time's text tells. -/
def clockT : List UInt8 → Option Int
  | a :: b :: p :: c :: d :: r => if p = 58 ∧ 0 ≤ twoV a b ∧ twoV a b ≤ 23 ∧ 0 ≤ twoV c d ∧ twoV c d ≤ 59 then secT (twoV a b * 3600000 + twoV c d * 60000) r else none
  | _ => none
def isSep (c : UInt8) : Bool := c == 84 || c == 32
def localRest (o : Option Int) : List UInt8 → Option Int
  | [] => none
  | _ :: r => o.bind fun d => (clockT r).bind fun t => some (d * 86400000 + t)
def localT (l : List UInt8) : Option Int := localRest (dateT (l.takeWhile fun c => !isSep c)) (l.dropWhile fun c => !isSep c)
def momT (kind : Int) (l : List UInt8) : Option Int :=
  if kind = 1 then (dateT l).map (· * 86400000) else if kind = 2 then monthT l else if kind = 3 then (weekT l).map (· * 86400000) else if kind = 4 then clockT l else localT l
def outM : Option Int → Int × Int
  | none => (0, 1)
  | some n => (n, 0)
/-- What Parse answers. -/
def momV (kind : Int) (l : List UInt8) : Int × Int := if 1 ≤ kind ∧ kind ≤ 5 then outM (momT kind l) else (0, 3)
theorem dateTail_eq (y : Int) (p a b q c d : UInt8) : dateTail y [p, a, b, q, c, d] = if p = 45 ∧ q = 45 then numD y (twoV a b) (twoV c d) else none := rfl
theorem monthTail_eq (y : Int) (p a b : UInt8) : monthTail y [p, a, b] = if p = 45 ∧ 1 ≤ twoV a b ∧ twoV a b ≤ 12 then some ((y - 1970) * 12 + twoV a b - 1) else none := rfl
theorem weekTail_eq (y : Int) (p q a b : UInt8) : weekTail y [p, q, a, b] = if p = 45 ∧ q = 87 ∧ 1 ≤ twoV a b ∧ twoV a b ≤ WeeksV y then some (firstV y + 7 * (twoV a b - 1)) else none := rfl
theorem fracT_eq (n : Int) (s : UInt8) (f : List UInt8) : fracT n (s :: f) = if s = 46 ∧ 1 ≤ f.length ∧ f.length ≤ 3 ∧ f.all isDg = true then some (n + fracOf 3 f) else none := rfl
theorem secT_eq (n : Int) (q e f : UInt8) (r : List UInt8) : secT n (q :: e :: f :: r) = if q = 58 ∧ 0 ≤ twoV e f ∧ twoV e f ≤ 59 then fracT (n + twoV e f * 1000) r else none := rfl
theorem clockT_eq (a b p c d : UInt8) (r : List UInt8) : clockT (a :: b :: p :: c :: d :: r) = if p = 58 ∧ 0 ≤ twoV a b ∧ twoV a b ≤ 23 ∧ 0 ≤ twoV c d ∧ twoV c d ≤ 59 then secT (twoV a b * 3600000 + twoV c d * 60000) r else none := rfl
/-- A number with noughts ahead. -/
def padL (n w : Nat) : List UInt8 := List.replicate (w - (decD n).length) 48 ++ decD n
theorem pad_most {n w k : Nat} (h : n < 10 ^ k) (hk : 0 < k) (hw : w ≤ k) : (padL n w).length ≤ k := by
  have := decD_len h hk
  unfold padL
  rw [List.length_append, List.length_replicate]; omega
def dateL (y m d : Nat) : List UInt8 := padL y 4 ++ 45 :: padL m 2 ++ 45 :: padL d 2
def monthL (y m : Nat) : List UInt8 := padL y 4 ++ 45 :: padL m 2
def weekL (y k : Nat) : List UInt8 := padL y 4 ++ 45 :: 87 :: padL k 2
def clockL (n : Nat) : List UInt8 := padL (n / 3600000) 2 ++ 58 :: padL (n / 60000 % 60) 2 ++ (if n % 60000 = 0 then [] else 58 :: padL (n / 1000 % 60) 2 ++ (if n % 1000 = 0 then [] else 46 :: fracD 3 (n % 1000)))
end Go.Proofs.YtfjfkkbgkjmghaaGreatDoor

namespace Go.Proofs.YtfjfkkbgkjmghaaGreatDoor
open Go.RowKit
/-- The text t is the text of the number n of that kind. -/
def ShowIs (kind n : Int) (t : List UInt8) : Prop :=
  (kind = 1 ∧ ∃ (k : Int) (y m d : Nat), IsDay k y m d ∧ n = k * 86400000 ∧ t = dateL y m d) ∨
  (kind = 2 ∧ ∃ y m : Nat, 1 ≤ y ∧ y ≤ 275760 ∧ 1 ≤ m ∧ m ≤ 12 ∧ n = ((y : Int) - 1970) * 12 + m - 1 ∧ t = monthL y m) ∨
  (kind = 3 ∧ ∃ y k : Nat, 1 ≤ y ∧ y ≤ 275760 ∧ 1 ≤ k ∧ (k : Int) ≤ weeksV y ∧ n = (firstV y + 7 * ((k : Int) - 1)) * 86400000 ∧ t = weekL y k) ∨
  (kind = 4 ∧ ∃ k : Nat, k < 86400000 ∧ n = k ∧ t = clockL k) ∨
  (kind = 5 ∧ ∃ (k : Int) (y m d r : Nat), IsDay k y m d ∧ r < 86400000 ∧ n = k * 86400000 + r ∧ t = dateL y m d ++ 84 :: clockL r)
/-- No text of that kind has the number n. -/
def ShowNo (kind n : Int) : Prop :=
  (kind = 1 ∧ (¬ n % 86400000 = 0 ∨ n / 86400000 < newV 1 ∨ newV 275761 ≤ n / 86400000)) ∨
  (kind = 2 ∧ (n / 12 < -1969 ∨ 273790 < n / 12)) ∨
  (kind = 3 ∧ (¬ n % 86400000 = 0 ∨ n / 86400000 < firstV 1 ∨ firstV 275761 ≤ n / 86400000 ∨ ¬ wdayV (n / 86400000) = 1)) ∨
  (kind = 4 ∧ (n < 0 ∨ 86400000 ≤ n)) ∨
  (kind = 5 ∧ (n / 86400000 < newV 1 ∨ newV 275761 ≤ n / 86400000))
theorem day_nat {n y m d : Int} (h : IsDay n y m d) : ∃ Y M D : Nat, IsDay n Y M D ∧ (Y : Int) = y ∧ (M : Int) = m ∧ (D : Int) = d := by
  have h1 := h.y1; have h2 := h.m1; have h3 := h.d1
  obtain ⟨Y, rfl⟩ : ∃ Y : Nat, y = Y := ⟨y.toNat, by omega⟩
  obtain ⟨M, rfl⟩ : ∃ M : Nat, m = M := ⟨m.toNat, by omega⟩
  obtain ⟨D, rfl⟩ : ∃ D : Nat, d = D := ⟨d.toNat, by omega⟩
  exact ⟨Y, M, D, h, rfl, rfl, rfl⟩
theorem week_nat {n y : Int} (h : InWeeks n y) (y1 : 1 ≤ y) (hw : wdayV n = 1) : ∃ Y k : Nat, (Y : Int) = y ∧ 1 ≤ k ∧ (k : Int) ≤ weeksV y ∧ (k : Int) = weekV n y ∧ n = firstV y + 7 * ((k : Int) - 1) := by
  have ⟨a, b, c, d⟩ := week_is h
  obtain ⟨Y, rfl⟩ : ∃ Y : Nat, y = Y := ⟨y.toNat, by omega⟩
  obtain ⟨k, hk⟩ : ∃ k : Nat, weekV n Y = k := ⟨(weekV n Y).toNat, by omega⟩
  rw [hk] at a b c d
  refine ⟨Y, k, rfl, by omega, b, hk.symm, ?_⟩
  have f := first_monday Y
  unfold wdayV at f hw
  omega
theorem show_cases {kind : Int} (n : Int) (h1 : 1 ≤ kind) (h2 : kind ≤ 5) : (∃ t, ShowIs kind n t) ∨ ShowNo kind n := by
  rcases (show kind = 1 ∨ kind = 2 ∨ kind = 3 ∨ kind = 4 ∨ kind = 5 by omega) with h | h | h | h | h
  · by_cases g : n % 86400000 = 0 ∧ newV 1 ≤ n / 86400000 ∧ n / 86400000 < newV 275761
    · obtain ⟨y, m, d, hd⟩ := day_some g.2.1 g.2.2
      obtain ⟨Y, M, D, hd', -⟩ := day_nat hd
      exact .inl ⟨_, .inl ⟨h, _, Y, M, D, hd', by omega, rfl⟩⟩
    · exact .inr (.inl ⟨h, by omega⟩)
  · by_cases g : n / 12 < -1969 ∨ 273790 < n / 12
    · exact .inr (.inr (.inl ⟨h, g⟩))
    · exact .inl ⟨_, .inr (.inl ⟨h, (n / 12 + 1970).toNat, (n % 12 + 1).toNat, by omega, by omega, by omega, by omega, by omega, rfl⟩)⟩
  · by_cases g : n % 86400000 = 0 ∧ firstV 1 ≤ n / 86400000 ∧ n / 86400000 < firstV 275761 ∧ wdayV (n / 86400000) = 1
    · obtain ⟨y, y1, y2, hy⟩ := inWeeks_some g.2.1 g.2.2.1
      obtain ⟨Y, k, rfl, k1, k2, k3, e⟩ := week_nat hy y1 g.2.2.2
      exact .inl ⟨_, .inr (.inr (.inl ⟨h, Y, k, by omega, by omega, k1, k2, by rw [← e]; omega, rfl⟩))⟩
    · exact .inr (.inr (.inr (.inl ⟨h, by omega⟩)))
  · by_cases g : n < 0 ∨ 86400000 ≤ n
    · exact .inr (.inr (.inr (.inr (.inl ⟨h, g⟩))))
    · exact .inl ⟨_, .inr (.inr (.inr (.inl ⟨h, n.toNat, by omega, by omega, rfl⟩)))⟩
  · by_cases g : newV 1 ≤ n / 86400000 ∧ n / 86400000 < newV 275761
    · obtain ⟨y, m, d, hd⟩ := day_some g.1 g.2
      obtain ⟨Y, M, D, hd', -⟩ := day_nat hd
      exact .inl ⟨_, .inr (.inr (.inr (.inr ⟨h, _, Y, M, D, (n % 86400000).toNat, hd', by omega, by omega, rfl⟩)))⟩
    · exact .inr (.inr (.inr (.inr (.inr ⟨h, by omega⟩))))
theorem sep_take {p : UInt8 → Bool} {l k : List UInt8} {c : UInt8} (h : ∀ x ∈ l, p x = true) (hc : p c = false) : (l ++ c :: k).takeWhile p = l ∧ (l ++ c :: k).dropWhile p = c :: k := by
  induction l with
  | nil => simp [hc]
  | cons x l ih =>
    have hx := h x (List.mem_cons_self ..)
    have ⟨i1, i2⟩ := ih (fun d hd => h d (List.mem_cons_of_mem _ hd))
    simp [hx, i1, i2]
/-- A day's text, a sign, a time's text. -/
theorem local_is {l k : List UInt8} {c : UInt8} (h : ∀ x ∈ l, isSep x = false) (hc : isSep c = true) : localT (l ++ c :: k) = (dateT l).bind fun d => (clockT k).bind fun t => some (d * 86400000 + t) := by
  have ⟨a, b⟩ := sep_take (p := fun c => !isSep c) (l := l) (k := k) (c := c) (fun x hx => by simp [h x hx]) (by simp [hc])
  unfold localT
  rw [a, b]; rfl
theorem dg_sep {c : UInt8} (h : isDg c = true) : isSep c = false := by
  have := (isDg_iff c).1 h
  unfold isSep
  have a : c ≠ 84 := by intro e; subst e; revert this; decide
  have b : c ≠ 32 := by intro e; subst e; revert this; decide
  simp [a, b]
theorem year_of {l : List UInt8} {y : Int} (h : yrV l = some y) : 1 ≤ y ∧ y ≤ 275760 := by
  unfold yrV at h
  split at h
  · cases h; omega
  · cases h
theorem date_of_text {l : List UInt8} {k : Int} (h : dateT l = some k) : ∃ y m d : Nat, IsDay k y m d := by
  unfold dateT at h
  rw [Option.bind_eq_some_iff] at h
  obtain ⟨y, hy, ht⟩ := h
  unfold dateTail at ht
  split at ht
  · split at ht
    · unfold numD at ht
      split at ht
      · rename_i g
        cases ht
        obtain ⟨Y, M, D, hd, -⟩ := day_nat (day_is g.1 g.2)
        exact ⟨Y, M, D, hd⟩
      · cases ht
    · cases ht
  · cases ht
theorem frac_some_T {l : List UInt8} {n k : Int} (h : fracT n l = some k) : n ≤ k ∧ k < n + 1000 := by
  unfold fracT at h
  split at h
  · cases h; omega
  · split at h
    · rename_i g
      cases h
      have := fracOf_lt 3 _ (List.all_eq_true.1 g.2.2.2)
      omega
    · cases h
theorem sec_some {l : List UInt8} {n k : Int} (h : secT n l = some k) : n ≤ k ∧ k < n + 60000 := by
  unfold secT at h
  split at h
  · cases h; omega
  · split at h
    · have := frac_some_T h
      omega
    · cases h
  · cases h
theorem clock_some {l : List UInt8} {k : Int} (h : clockT l = some k) : 0 ≤ k ∧ k < 86400000 := by
  unfold clockT at h
  split at h
  · split at h
    · have := sec_some h
      omega
    · cases h
  · cases h
/-- What is read has a text. -/
theorem mom_normal {kind n : Int} {l : List UInt8} (h1 : 1 ≤ kind) (h2 : kind ≤ 5) (h : momT kind l = some n) : ∃ t, ShowIs kind n t := by
  rcases (show kind = 1 ∨ kind = 2 ∨ kind = 3 ∨ kind = 4 ∨ kind = 5 by omega) with rfl | rfl | rfl | rfl | rfl
  · have h : (dateT l).map (· * 86400000) = some n := h
    rw [Option.map_eq_some_iff] at h
    obtain ⟨k, hk, rfl⟩ := h
    obtain ⟨y, m, d, hd⟩ := date_of_text hk
    exact ⟨_, .inl ⟨rfl, k, y, m, d, hd, rfl, rfl⟩⟩
  · have h : monthT l = some n := h
    unfold monthT at h
    rw [Option.bind_eq_some_iff] at h
    obtain ⟨y, hy, ht⟩ := h
    have ⟨y1, y2⟩ := year_of hy
    unfold monthTail at ht
    split at ht
    · split at ht
      · cases ht
        rename_i a b _ g
        exact ⟨_, .inr (.inl ⟨rfl, y.toNat, (twoV a b).toNat, by omega, by omega, by omega, by omega, by omega, rfl⟩)⟩
      · cases ht
    · cases ht
  · have h : (weekT l).map (· * 86400000) = some n := h
    rw [Option.map_eq_some_iff] at h
    obtain ⟨k, hk, rfl⟩ := h
    unfold weekT at hk
    rw [Option.bind_eq_some_iff] at hk
    obtain ⟨y, hy, ht⟩ := hk
    have ⟨y1, y2⟩ := year_of hy
    unfold weekTail at ht
    split at ht
    · split at ht
      · cases ht
        rename_i a b _ g
        rw [weeks_in ⟨y1, y2⟩] at g
        obtain ⟨Y, rfl⟩ : ∃ Y : Nat, y = Y := ⟨y.toNat, by omega⟩
        exact ⟨_, .inr (.inr (.inl ⟨rfl, Y, (twoV a b).toNat, by omega, by omega, by omega, by omega, by rw [show (((twoV a b).toNat : Nat) : Int) = twoV a b by omega], rfl⟩))⟩
      · cases ht
    · cases ht
  · have h : clockT l = some n := h
    have := clock_some h
    exact ⟨_, .inr (.inr (.inr (.inl ⟨rfl, n.toNat, by omega, by omega, rfl⟩)))⟩
  · have h : localT l = some n := h
    unfold localT localRest at h
    split at h
    · cases h
    · rw [Option.bind_eq_some_iff] at h
      obtain ⟨d, hd, h⟩ := h
      rw [Option.bind_eq_some_iff] at h
      obtain ⟨t, ht, h⟩ := h
      cases h
      obtain ⟨y, m, e, he⟩ := date_of_text hd
      have := clock_some ht
      exact ⟨_, .inr (.inr (.inr (.inr ⟨rfl, d, y, m, e, t.toNat, he, by omega, by omega, rfl⟩)))⟩
end Go.Proofs.YtfjfkkbgkjmghaaGreatDoor

namespace Go.Proofs.YtfjfkkbgkjmghaaGreatDoor
open Go.RowKit Go.Sort
set_option maxRecDepth 100000
/-- The world has drawn, and blocks have been laid behind it; no more. -/
def Grew (w w' : World) : Prop := ∃ q os, w' = grow (w.drewN q) os
theorem Grew.refl (w : World) : Grew w w := ⟨0, #[], by rw [grow_empty]; rfl⟩
theorem Grew.trans {a b c : World} (h : Grew a b) (k : Grew b c) : Grew a c := by
  obtain ⟨q, os, rfl⟩ := h
  obtain ⟨r, ps, rfl⟩ := k
  refine ⟨q + r, os ++ ps, ?_⟩
  show grow (grow ((a.drewN q).drewN r) os) ps = _
  rw [grow_grow, World.drewN_drewN]
theorem Grew.alloc {w v : World} (h : Grew w v) (o : Obj) : Grew w (v.alloc o) := h.trans ⟨0, #[o], rfl⟩
theorem Grew.below {w w' : World} (h : Grew w w') : Below w.heap.size w w' := by
  obtain ⟨q, os, rfl⟩ := h
  refine ⟨rfl, rfl, rfl, by simp [grow], fun i hi => ?_⟩
  show ((w.drewN q).heap ++ os)[i]? = _
  rw [Array.getElem?_append_left (by show i < w.heap.size; omega)]
  rfl
theorem byteTypesM : ByteTypes Tryz.prog 87 5 9 := ⟨Tryz.underlying87, Tryz.underlying5, Tryz.underlying9, by kernel_rfl⟩
/-- 'string([]byte{c})'. -/
theorem one_text (w : World) (y : Int) (c : UInt8) (h : y = (c.toNat : Int)) :
    (convert 87 9 (.slice (some ⟨w.heap.size, 0, none⟩) 1 1)).run Tryz.prog (w.alloc (.cells #[.int .u8 y] 5)) = .ok (.string (txt [c])) (w.alloc (.cells #[.int .u8 y] 5)) := by
  subst h
  have := run_convert_bytes_arg (P := Tryz.prog) (w.alloc (.cells #[.int .u8 (c.toNat : Int)] 5)) 87 5 byteTypesM.sl byteTypesM.el w.heap.size 0 1 1 [(c.toNat : Int)] rfl (fun i hi => by
    obtain rfl : i = 0 := by omega
    rw [World.cell?_alloc_new]; rfl) 9 byteTypesM.str
  rw [this, show ([(c.toNat : Int)] : List Int) = [c].map (fun c => (c.toNat : Int)) from rfl, strOfNums_bytes]
/-- What is left to be told, and what is told already. -/
structure DecsAt (n m : Nat) (l : List UInt8) : Prop where
  is : decD n = decD m ++ l
theorem txt_app (l k : List UInt8) : txt l ++ txt k = txt (l ++ k) := by
  apply ByteArray.ext
  apply Array.ext'
  simp [txt]
set_option maxHeartbeats 1000000 in
set_option maxRecDepth 100000 in
theorem refDigits_any (n : Nat) (w : World) (hn : n < 18446744073709551616) :
    Calls Tryz.prog 95 #[.int .u64 n] w fun e w' => e = .returned (.string (txt (decD n))) ∧ Grew w w' := by
  go_enter Tryz.func95, Tryz.ntmps95
  go_wp2_with fail
  go_loopw [0, 3] (fun a v wr => ∃ (m : Nat) (l : List UInt8), m ≤ n ∧ a = .int .u64 m ∧ v = .string (txt l) ∧ DecsAt n m l ∧ Grew w wr) (fun a _ _ => (intOf a).toNat)
  case atStart => exact ⟨n, [], Nat.le_refl _, rfl, rfl, ⟨by rw [List.append_nil]⟩, Grew.refl _⟩
  case round =>
    obtain ⟨m, l, hm, rfl, rfl, hd, hb⟩ := hrel
    rename World => wr
    have hl : (txt l).size ≤ 20 := by
      have h1 := congrArg List.length hd.is
      rw [List.length_append] at h1
      have h2 := decD_len (n := n) (k := 20) (by omega) (by decide)
      rw [txt_size]; omega
    have hone : ∀ c : UInt8, (txt [c]).size = 1 := fun c => rfl
    by_cases hg : m < 10
    · have E : Hid (decD n = [dgB m] ++ l) := hide (by rw [hd.is, decD_small hg])
      have hcv := one_text wr (48 + (m : Int)) (dgB m) (by rw [dgB_toNat hg]; omega)
      have hg' : (m : Int) ≤ 9 := by omega
      have hg0 : 0 ≤ (m : Int) := by omega
      have HCV := hide hcv
      clear hd hg hn hm hcv
      generalize (m : Int) = x at *
      go_wp2_with fail
      rw [HCV.out]
      clear HCV
      go_wp2_with fail
      go_ret
      refine ⟨ret_str ?_, hb.alloc _⟩
      rw [E.out, txt_app]
    · have E : DecsAt n (m / 10) ([dgB (m % 10)] ++ l) := ⟨by rw [hd.is, decD_great hg, List.append_assoc]⟩
      have hcv := one_text wr (48 + (m : Int) % 10) (dgB (m % 10)) (by rw [dgB_toNat (by omega)]; omega)
      have hg' : 9 < (m : Int) := by omega
      have hx : (m : Int) < 18446744073709551616 := by omega
      have HM : Hid (m / 10 ≤ n ∧ 9 < m) := ⟨by omega, by omega⟩
      have HX : Hid ((m : Int) / 10 = ((m / 10 : Nat) : Int) ∧ (m : Int) = (m : Int)) := ⟨by omega, rfl⟩
      have HT := hide (txt_app [dgB (m % 10)] l)
      have hxx : Hid ((m : Int).toNat = m) := by show _ = _; omega
      have HCV := hide hcv
      clear hd hg hn hm hcv
      generalize (m : Int) = x at *
      go_wp2_with fail
      rw [HCV.out]
      clear HCV
      go_wp2_with fail
      go_roundw
      case rel => exact ⟨m / 10, [dgB (m % 10)] ++ l, HM.out.1, by rw [HX.out.1], by rw [HT.out], E, hb.alloc _⟩
      case measure =>
        have h1 := hxx.out
        have h2 := HX.out.1
        have h3 := HM.out.2
        simp [intOf]; omega
theorem pad_more {n k j : Nat} (_h : j + (decD n).length < k) : txt [48] ++ txt (List.replicate j 48 ++ decD n) = txt (List.replicate (j + 1) 48 ++ decD n) := by
  rw [txt_app, List.replicate_succ]; rfl
set_option maxHeartbeats 1000000 in
theorem pad_any (n k : Nat) (w : World) (hn : n < 1000000000) (hk : k ≤ 4) :
    Calls Tryz.prog 99 #[.int .i64 n, .int .i64 k] w fun e w' => e = .returned (.string (txt (padL n k))) ∧ Grew w w' := by
  have hD := fun w => refDigits_any n w (by omega)
  have hlen := decD_len (n := n) (k := 9) (by omega) (by decide)
  have hP : Hid (padL n k = List.replicate (k - (decD n).length) 48 ++ decD n) := rfl
  have HQ := hide (fun j => pad_more (n := n) (k := k) (j := j))
  have hZ := fun j : Nat => (show (txt (List.replicate j 48 ++ decD n)).size = j + (decD n).length by rw [txt_size, List.length_append, List.length_replicate])
  have x1 : 0 ≤ (n : Int) := by omega
  have x2 : (n : Int) < 1000000000 := by omega
  have k2 : (k : Int) ≤ 4 := by omega
  have e0 : txt (decD n) = txt (List.replicate 0 48 ++ decD n) := rfl
  rw [e0] at hD
  have HD := hide hD
  have HZ := hide hZ
  clear hD hn e0 hZ
  generalize (n : Int) = x at *
  go_enter Tryz.func99, Tryz.ntmps99
  go_wp2_with fail
  refine (HD.out _).mono ?_
  rintro e v1 ⟨rfl, g1⟩
  go_wp2_with fail
  go_loop [5] (fun a => ∃ j : Nat, a = .string (txt (List.replicate j 48 ++ decD n)) ∧ j ≤ k - (decD n).length) (fun a => match a with | .string t => k - t.size | _ => 0)
  case atStart => exact ⟨0, rfl, Nat.zero_le _⟩
  case round =>
    obtain ⟨j, rfl, hj⟩ := hrel
    have hz := HZ.out j
    have hz1 := HZ.out (j + 1)
    have hq := HQ.out j
    by_cases hlt : j + (decD n).length < k
    · have hq2 := hide (hq hlt)
      generalize txt (List.replicate j 48 ++ decD n) = t at *
      have t1 : (t.size : Int) < (k : Int) := by omega
      have t2 : (⟨#[48]⟩ : ByteArray).size = 1 := rfl
      have HJ : Hid (j + 1 ≤ k - (decD n).length ∧ t.size < k ∧ t.size + 1 = j + 1 + (decD n).length) := ⟨by omega, by omega, by omega⟩
      clear hq
      go_wp2_with fail
      go_round
      case rel => exact ⟨j + 1, by first | (rw [← hq2.out]; rfl) | (show Value.string (txt [48] ++ t) = _; rw [hq2.out]), HJ.out.1⟩
      case measure =>
        have := HJ.out
        have e : (⟨#[48]⟩ ++ t : ByteArray).size = t.size + 1 := by rw [ByteArray.size_append, t2]; omega
        simp only [e]; omega
    · have hj2 : j = k - (decD n).length := by omega
      have E : Hid (txt (padL n k) = txt (List.replicate j 48 ++ decD n)) := by show _ = _; rw [hP.out, hj2]
      generalize txt (List.replicate j 48 ++ decD n) = t at *
      have t1 : (k : Int) ≤ (t.size : Int) := by omega
      clear hq hj2 hz1 hz hj hlt
      go_wp2_with fail
      go_ret
      exact ⟨ret_str E.out.symm, g1⟩
end Go.Proofs.YtfjfkkbgkjmghaaGreatDoor

namespace Go.Proofs.YtfjfkkbgkjmghaaGreatDoor
open Go.RowKit Go.Sort
set_option maxRecDepth 100000
theorem cell3 (w : World) (a b c : Value) (t : TypeId) (i : Nat) (v : Value) (h : #[a, b, c][i]? = some v) : (w.alloc (.cells #[a, b, c] t)).cell? ⟨w.heap.size, i, none⟩ = some v := by
  have hi : i < 3 := by
    rcases Nat.lt_or_ge i 3 with g | g
    · exact g
    · rw [Array.getElem?_eq_none (by first | (simp; done) | (simp; omega))] at h; cases h
  rw [World.cell?_alloc_at _ _ _ _ (by first | (simp; done) | (simp; omega))]
  exact h
set_option maxHeartbeats 1000000 in
theorem dayTxt_any (y m d : Nat) (w : World) (hy : y < 1000000000) (hm : m < 100) (hd : d < 100) :
    Calls Tryz.prog 98 #[.agg #[.int .i64 y, .int .i64 m, .int .i64 d]] w fun e w' => e = .returned (.string (txt (dateL y m d))) ∧ Grew w w' := by
  have hmix : Tryz.prog.follows .mixedOrders = true := by kernel_rfl
  have hA : ∀ w, Calls Tryz.prog 99 #[.int .i64 y, .int .i64 4] w fun e w' => e = .returned (.string (txt (padL y 4))) ∧ ∃ q os, w' = grow (w.drewN q) os := fun w => pad_any y 4 w hy (by decide)
  have hB : ∀ w, Calls Tryz.prog 99 #[.int .i64 m, .int .i64 2] w fun e w' => e = .returned (.string (txt (padL m 2))) ∧ ∃ q os, w' = grow (w.drewN q) os := fun w => pad_any m 2 w (by omega) (by decide)
  have hC : ∀ w, Calls Tryz.prog 99 #[.int .i64 d, .int .i64 2] w fun e w' => e = .returned (.string (txt (padL d 2))) ∧ ∃ q os, w' = grow (w.drewN q) os := fun w => pad_any d 2 w (by omega) (by decide)
  have z1 : (txt (padL y 4)).size ≤ 9 := by rw [txt_size]; exact pad_most (k := 9) (by omega) (by decide) (by decide)
  have z2 : (txt (padL m 2)).size ≤ 2 := by rw [txt_size]; exact pad_most (k := 2) (by omega) (by decide) (by decide)
  have z3 : (txt (padL d 2)).size ≤ 2 := by rw [txt_size]; exact pad_most (k := 2) (by omega) (by decide) (by decide)
  have E : Hid (txt (dateL y m d) = txt (padL y 4) ++ ⟨#[45]⟩ ++ txt (padL m 2) ++ ⟨#[45]⟩ ++ txt (padL d 2)) := by
    show _ = _
    unfold dateL
    rw [show (⟨#[45]⟩ : ByteArray) = txt [45] from rfl, txt_app, txt_app, txt_app, txt_app]
    simp
  have c0 := cell3 w (.int .i64 y) (.int .i64 m) (.int .i64 d) 96 0 _ rfl
  have c1 := cell3 w (.int .i64 y) (.int .i64 m) (.int .i64 d) 96 1 _ rfl
  have c2 := cell3 w (.int .i64 y) (.int .i64 m) (.int .i64 d) 96 2 _ rfl
  have g0 := fun n os => cell_grown (by show w.heap.size < _; simp) c0 n os
  have g1 := fun n os => cell_grown (by show w.heap.size < _; simp) c1 n os
  have g2 := fun n os => cell_grown (by show w.heap.size < _; simp) c2 n os
  generalize txt (padL y 4) = a at *
  generalize txt (padL m 2) = b at *
  generalize txt (padL d 2) = c at *
  have HA := hide hA
  have HB := hide hB
  have HC := hide hC
  have ze : (⟨#[45]⟩ : ByteArray).size = 1 := rfl
  have p1 := fun w => run_string_add_sum (P := Tryz.prog) w a ⟨#[45]⟩ (by omega)
  have p2 := fun w => run_string_add_sum (P := Tryz.prog) w (a ++ ⟨#[45]⟩) b (by rw [ByteArray.size_append]; omega)
  have p3 := fun w => run_string_add_sum (P := Tryz.prog) w (a ++ ⟨#[45]⟩ ++ b) ⟨#[45]⟩ (by rw [ByteArray.size_append, ByteArray.size_append]; omega)
  have p4 := fun w => run_string_add_sum (P := Tryz.prog) w (a ++ ⟨#[45]⟩ ++ b ++ ⟨#[45]⟩) c (by rw [ByteArray.size_append, ByteArray.size_append, ByteArray.size_append]; omega)
  clear ze z1 z2 z3
  generalize a ++ ⟨#[45]⟩ ++ b ++ ⟨#[45]⟩ ++ c = s4 at *
  generalize a ++ ⟨#[45]⟩ ++ b ++ ⟨#[45]⟩ = s3 at *
  generalize a ++ ⟨#[45]⟩ ++ b = s2 at *
  generalize a ++ ⟨#[45]⟩ = s1 at *
  have Q1 := hide p1
  have Q2 := hide p2
  have Q3 := hide p3
  have Q4 := hide p4
  clear p1 p2 p3 p4
  clear hA hB hC c0 c1 c2 hy hm hd
  generalize (y : Int) = Y at *
  generalize (m : Int) = M at *
  generalize (d : Int) = D at *
  go_enter Tryz.func98, Tryz.ntmps98
  go_wp2
  have p1 := Q1.out
  have p2 := Q2.out
  have p3 := Q3.out
  have p4 := Q4.out
  clear Q1 Q2 Q3 Q4
  go_quiet_grown (first | with_reducible exact Calls.grown_of (HA.out _) | with_reducible exact Calls.grown_of (HB.out _) | with_reducible exact Calls.grown_of (HC.out _))
  go_wp2
  go_ret
  exact ⟨ret_str E.out.symm, Grew.trans ((Grew.refl w).alloc _) ⟨nq, osq, rfl⟩⟩
end Go.Proofs.YtfjfkkbgkjmghaaGreatDoor

namespace Go.Proofs.YtfjfkkbgkjmghaaGreatDoor
open Go.RowKit Go.Sort
set_option maxRecDepth 100000
/-- Without the noughts at its end. -/
def tz (l : List UInt8) : List UInt8 := (l.reverse.dropWhile (· == 48)).reverse
theorem tz_snoc (p : List UInt8) (c : UInt8) : tz (p ++ [c]) = if c = 48 then tz p else p ++ [c] := by
  unfold tz
  rw [List.reverse_append]
  show (List.dropWhile _ (c :: p.reverse)).reverse = _
  rw [List.dropWhile_cons]
  by_cases h : c = 48
  · subst h; simp
  · simp [h]
theorem tz_nil : tz [] = [] := rfl
theorem dgB_0 {n : Nat} (h : n < 10) : dgB n = 48 ↔ n = 0 := by
  constructor
  · intro e
    have := congrArg UInt8.toNat e
    rw [dgB_toNat h] at this
    have t : (48 : UInt8).toNat = 48 := rfl
    omega
  · intro e; subst e; rfl
theorem pad_3 {n : Nat} (h : n < 1000) : padL n 3 = [dgB (n / 100), dgB (n / 10 % 10), dgB (n % 10)] := by
  unfold padL
  by_cases h1 : n < 10
  · rw [decD_small h1, show n / 100 = 0 by omega, show n / 10 % 10 = 0 by omega, show n % 10 = n by omega]; rfl
  · by_cases h2 : n < 100
    · rw [decD_great h1, decD_small (show n / 10 < 10 by omega), show n / 100 = 0 by omega, show n / 10 % 10 = n / 10 by omega]; rfl
    · rw [decD_great h1, decD_great (show ¬ n / 10 < 10 by omega), decD_small (show n / 10 / 10 < 10 by omega), show n / 10 / 10 = n / 100 by omega]; rfl
theorem tz_pad {n : Nat} (h : n < 1000) (h0 : n ≠ 0) : tz (padL n 3) = fracD 3 n := by
  rw [pad_3 h]
  have e : [dgB (n / 100), dgB (n / 10 % 10), dgB (n % 10)] = ([dgB (n / 100)] ++ [dgB (n / 10 % 10)]) ++ [dgB (n % 10)] := rfl
  have e1 : [dgB (n / 100)] = [] ++ [dgB (n / 100)] := rfl
  rw [e, tz_snoc]
  unfold fracD fracD fracD fracD
  rw [if_neg h0]
  by_cases c : n % 10 = 0
  · rw [if_pos ((dgB_0 (by omega)).2 c), tz_snoc]
    by_cases b : n / 10 % 10 = 0
    · rw [if_pos ((dgB_0 (by omega)).2 b), e1, tz_snoc, if_neg (fun x => by have := (dgB_0 (by omega)).1 x; omega), if_pos (by omega)]; rfl
    · rw [if_neg (fun x => b ((dgB_0 (by omega)).1 x)), if_neg (by omega), if_pos (by omega), show n % 10 ^ 2 / 10 ^ 1 = n / 10 % 10 by omega]; rfl
  · rw [if_neg (fun x => c ((dgB_0 (by omega)).1 x)), if_neg (by omega), if_neg (by omega), show n % 10 ^ 2 / 10 ^ 1 = n / 10 % 10 by omega, show n % 10 ^ 2 % 10 ^ 1 / 10 ^ 0 = n % 10 by omega]; rfl
theorem last_at (p : List UInt8) (c : UInt8) (w : World) : (Instr.index 9 (.string (txt (p ++ [c]))) (.int .i64 (((txt (p ++ [c])).size : Int) - 1))).run Tryz.prog w = .ok (.int .u8 (c.toNat : Int)) w := by
  have hz : (txt (p ++ [c])).size = p.length + 1 := by rw [txt_size]; simp
  rw [run_index_string _ _ _ _ _ Tryz.underlying9, dif_pos ⟨by omega, by omega⟩]
  have e : ((((txt (p ++ [c])).size : Int) - 1)).toNat = p.length := by omega
  have : ∀ (k : Nat) (hk : k < (txt (p ++ [c])).size), k = p.length → ((txt (p ++ [c]))[k]'hk) = c := by
    intro k hk e
    subst e
    have hk2 : p.length < (p ++ [c]).toArray.size := by simp
    have e3 : (p ++ [c]).toArray[p.length]'hk2 = c := by simp
    exact e3
  rw [this _ _ e]
theorem last_cut (p : List UInt8) (c : UInt8) (k : Nat) (h : k = p.length) : (txt (p ++ [c])).extract 0 k = txt p := by
  subst h
  apply ByteArray.ext
  apply Array.ext'
  simp [txt]
set_option maxHeartbeats 2000000 in
theorem clockTxt_any (n : Nat) (w : World) (hn : n < 86400000) :
    Calls Tryz.prog 102 #[.int .i64 n] w fun e w' => e = .returned (.string (txt (clockL n))) ∧ Grew w w' := by
  have hA : ∀ w, Calls Tryz.prog 99 #[.int .i64 ((n : Int) / 3600000), .int .i64 2] w fun e w' => e = .returned (.string (txt (padL (n / 3600000) 2))) ∧ Grew w w' := fun w => by
    have := pad_any (n / 3600000) 2 w (by omega) (by decide)
    rw [show ((n / 3600000 : Nat) : Int) = (n : Int) / 3600000 by omega] at this; exact this
  have hB : ∀ w, Calls Tryz.prog 99 #[.int .i64 ((n : Int) / 60000 % 60), .int .i64 2] w fun e w' => e = .returned (.string (txt (padL (n / 60000 % 60) 2))) ∧ Grew w w' := fun w => by
    have := pad_any (n / 60000 % 60) 2 w (by omega) (by decide)
    rw [show ((n / 60000 % 60 : Nat) : Int) = (n : Int) / 60000 % 60 by omega] at this; exact this
  have hC : ∀ w, Calls Tryz.prog 99 #[.int .i64 ((n : Int) / 1000 % 60), .int .i64 2] w fun e w' => e = .returned (.string (txt (padL (n / 1000 % 60) 2))) ∧ Grew w w' := fun w => by
    have := pad_any (n / 1000 % 60) 2 w (by omega) (by decide)
    rw [show ((n / 1000 % 60 : Nat) : Int) = (n : Int) / 1000 % 60 by omega] at this; exact this
  have hD : ∀ w, Calls Tryz.prog 99 #[.int .i64 ((n : Int) % 1000), .int .i64 3] w fun e w' => e = .returned (.string (txt (padL (n % 1000) 3))) ∧ Grew w w' := fun w => by
    have := pad_any (n % 1000) 3 w (by omega) (by decide)
    rw [show ((n % 1000 : Nat) : Int) = (n : Int) % 1000 by omega] at this; exact this
  have z1 : (txt (padL (n / 3600000) 2)).size ≤ 2 := by rw [txt_size]; exact pad_most (k := 2) (by omega) (by decide) (by decide)
  have z2 : (txt (padL (n / 60000 % 60) 2)).size ≤ 2 := by rw [txt_size]; exact pad_most (k := 2) (by omega) (by decide) (by decide)
  have z3 : (txt (padL (n / 1000 % 60) 2)).size ≤ 2 := by rw [txt_size]; exact pad_most (k := 2) (by omega) (by decide) (by decide)
  have zc : (⟨#[58]⟩ : ByteArray).size = 1 := rfl
  have zp : (⟨#[46]⟩ : ByteArray).size = 1 := rfl
  have ec : (⟨#[58]⟩ : ByteArray) = txt [58] := rfl
  have ep : (⟨#[46]⟩ : ByteArray) = txt [46] := rfl
  have hr : n % 1000 ≠ 0 → tz (padL (n % 1000) 3) = fracD 3 (n % 1000) := tz_pad (by omega)
  have hf := pad_3 (show n % 1000 < 1000 by omega)
  have E1 : Hid (n % 60000 = 0 → txt (clockL n) = txt (padL (n / 3600000) 2) ++ ⟨#[58]⟩ ++ txt (padL (n / 60000 % 60) 2)) := fun h => by
    unfold clockL; rw [if_pos h, ec, txt_app, txt_app]; simp
  have E2 : Hid (n % 60000 ≠ 0 → n % 1000 = 0 → txt (clockL n) = txt (padL (n / 3600000) 2) ++ ⟨#[58]⟩ ++ txt (padL (n / 60000 % 60) 2) ++ (⟨#[58]⟩ ++ txt (padL (n / 1000 % 60) 2))) := fun h h' => by
    unfold clockL; rw [if_neg h, if_pos h', ec, txt_app, txt_app, txt_app, txt_app]; simp
  have E3 : Hid (n % 60000 ≠ 0 → n % 1000 ≠ 0 → txt (clockL n) = txt (padL (n / 3600000) 2) ++ ⟨#[58]⟩ ++ txt (padL (n / 60000 % 60) 2) ++ (⟨#[58]⟩ ++ txt (padL (n / 1000 % 60) 2)) ++ ⟨#[46]⟩ ++ txt (fracD 3 (n % 1000))) := fun h h' => by
    unfold clockL; rw [if_neg h, if_neg h', ec, ep, txt_app, txt_app, txt_app, txt_app, txt_app, txt_app]; simp
  clear ec ep
  generalize txt (padL (n / 3600000) 2) = a at *
  generalize txt (padL (n / 60000 % 60) 2) = b at *
  generalize txt (padL (n / 1000 % 60) 2) = c at *
  have x1 : 0 ≤ (n : Int) := by omega
  have x2 : (n : Int) < 86400000 := by omega
  have HA := hide hA
  have HB := hide hB
  have HC := hide hC
  have HD := hide hD
  clear hA hB hC hD
  by_cases h1 : n % 60000 = 0
  · have E := hide (E1.out h1)
    have t1 : ((n : Int) % 60000 == 0) = true := beq_yes (by omega)
    clear E1 E2 E3 h1 hr hf hn
    generalize (n : Int) = x at *
    go_enter Tryz.func102, Tryz.ntmps102
    go_wp2_with fail
    refine (HA.out _).mono ?_
    rintro e v1 ⟨rfl, g1⟩
    go_wp2_with fail
    refine (HB.out _).mono ?_
    rintro e v2 ⟨rfl, g2⟩
    go_wp2_with fail
    go_ret
    exact ⟨ret_str E.out.symm, g1.trans g2⟩
  · have t1 : ((n : Int) % 60000 == 0) = false := beq_no (by omega)
    by_cases h2 : n % 1000 = 0
    · have E := hide (E2.out h1 h2)
      have t2 : ((n : Int) % 1000 == 0) = true := beq_yes (by omega)
      clear E1 E2 E3 h1 h2 hr hf hn
      generalize (n : Int) = x at *
      go_enter Tryz.func102, Tryz.ntmps102
      go_wp2_with fail
      refine (HA.out _).mono ?_
      rintro e v1 ⟨rfl, g1⟩
      go_wp2_with fail
      refine (HB.out _).mono ?_
      rintro e v2 ⟨rfl, g2⟩
      go_wp2_with fail
      refine (HC.out _).mono ?_
      rintro e v3 ⟨rfl, g3⟩
      go_wp2_with fail
      go_ret
      exact ⟨ret_str E.out.symm, (g1.trans g2).trans g3⟩
    · have E := hide (E3.out h1 h2)
      have t2 : ((n : Int) % 1000 == 0) = false := beq_no (by omega)
      have HR := hide (hr h2)
      have HF := hide hf
      have HE := hide (fun e => h2 ((fracD_nil (p := 3) (m := n % 1000) (by omega)).1 e))
      clear E1 E2 E3 h1 h2 hr hf hn
      generalize n % 1000 = r at *
      generalize (n : Int) = x at *
      go_enter Tryz.func102, Tryz.ntmps102
      go_wp2_with fail
      refine (HA.out _).mono ?_
      rintro e v1 ⟨rfl, g1⟩
      go_wp2_with fail
      refine (HB.out _).mono ?_
      rintro e v2 ⟨rfl, g2⟩
      go_wp2_with fail
      refine (HC.out _).mono ?_
      rintro e v3 ⟨rfl, g3⟩
      go_wp2_with fail
      refine (HD.out _).mono ?_
      rintro e v4 ⟨rfl, g4⟩
      go_wp2_with fail
      go_loop [4] (fun v => ∃ (p : List UInt8) (d : UInt8), v = .string (txt (p ++ [d])) ∧ p.length ≤ 2 ∧ Hid (tz (p ++ [d]) = fracD 3 r)) (fun v => match v with | .string t => t.size | _ => 0)
      case atStart => exact ⟨[dgB (r / 100), dgB (r / 10 % 10)], dgB (r % 10), by rw [HF.out]; rfl, by simp, hide (by rw [← HR.out, HF.out]; rfl)⟩
      case round =>
        obtain ⟨p, d, rfl, hp, hT⟩ := hrel
        have hix := last_at p d
        have hz : (txt (p ++ [d])).size = p.length + 1 := by rw [txt_size]; simp
        have hts := tz_snoc p d
        by_cases hd : d = 48
        · rw [if_pos hd] at hts
          have hpn : p ≠ [] := fun e => by
            have := hT.out
            rw [hts, e, tz_nil] at this
            exact HE.out this.symm
          obtain ⟨p', d', rfl⟩ : ∃ p' d', p = p' ++ [d'] := ⟨p.dropLast, p.getLast hpn, (List.dropLast_concat_getLast hpn).symm⟩
          have hN : Hid (tz (p' ++ [d']) = fracD 3 r) := by show _ = _; rw [← hts]; exact hT.out
          have hd2 : ((d.toNat : Int) == 48) = true := by subst hd; rfl
          have hcut := last_cut (p' ++ [d']) d
          have hpl : p'.length ≤ 1 := by simp at hp; omega
          have hz2 : (txt (p' ++ [d'])).size = p'.length + 1 := by rw [txt_size]; simp
          have hz3 : (txt (p' ++ [d'] ++ [d])).size = p'.length + 2 := by rw [hz]; simp
          have hl2 : (p' ++ [d']).length = p'.length + 1 := by simp
          have HCU := hide hcut
          have HL := hide hl2
          clear hts hpn hT hd hp hcut hz hl2
          generalize txt (p' ++ [d'] ++ [d]) = t at *
          have t3 : 2 ≤ t.size := by omega
          have t4 : t.size ≤ 3 := by omega
          have HZ := hide (show t.size = p'.length + 2 ∧ (txt (p' ++ [d'])).size = p'.length + 1 from ⟨hz3, hz2⟩)
          clear hz3 hz2
          go_wp2_with fail
          go_round
          case rel => exact ⟨p', d', by rw [HCU.out _ (by rw [HL.out]; have := HZ.out.1; omega)], by omega, hN⟩
          case measure => rw [HCU.out _ (by rw [HL.out]; have := HZ.out.1; omega)]; simp only [HZ.out.1, HZ.out.2]; omega
        · rw [if_neg hd] at hts
          have hE : Hid (txt (p ++ [d]) = txt (fracD 3 r)) := by show _ = _; rw [← hts, hT.out]
          have hd2 : ((d.toNat : Int) == 48) = false := beq_no (fun e => hd (UInt8.toNat_inj.1 (show d.toNat = 48 by omega)))
          clear hts hT hd
          have E' : Hid (txt (clockL n) = a ++ ⟨#[58]⟩ ++ b ++ (⟨#[58]⟩ ++ c) ++ ⟨#[46]⟩ ++ txt (p ++ [d])) := by show _ = _; rw [E.out, hE.out]
          generalize txt (p ++ [d]) = t at *
          have t3 : 1 ≤ t.size := by omega
          have t4 : t.size ≤ 3 := by omega
          clear hz
          go_wp2_with fail
          go_ret
          exact ⟨ret_str E'.out.symm, ((g1.trans g2).trans g3).trans g4⟩

end Go.Proofs.YtfjfkkbgkjmghaaGreatDoor
