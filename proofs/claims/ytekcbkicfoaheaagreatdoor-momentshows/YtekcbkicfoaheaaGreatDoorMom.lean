/- Moments as texts, as lists of bytes: reading and showing; plain facts of no program. No condition. -/
import Derived.Test.YtekcbkicfoaheaaGreatDoorNum
import Derived.Test.YtekcbkicfoaheaaGreatDoorDayMore
namespace Go.Proofs.YtekcbkicfoaheaaGreatDoor
open Go.RowKit

/-- The number of two digits; -1: they are none. -/
def twoV (a b : UInt8) : Int := if isDg a = true ∧ isDg b = true then (10 * dg a + dg b : Nat) else -1
theorem two_yes {a b : UInt8} (h1 : isDg a = true) (h2 : isDg b = true) : twoV a b = (10 * dg a + dg b : Nat) := if_pos ⟨h1, h2⟩
theorem two_no {a b : UInt8} (h : ¬ (isDg a = true ∧ isDg b = true)) : twoV a b = -1 := if_neg h
theorem two_bounds (a b : UInt8) : -1 ≤ twoV a b ∧ twoV a b ≤ 99 := by
  by_cases h : isDg a = true ∧ isDg b = true
  · have := dg_lt h.1; have := dg_lt h.2
    rw [two_yes h.1 h.2]; omega
  · rw [two_no h]; omega
/-- A year's digits. -/
def yrV (ds : List UInt8) : Option Int := if 4 ≤ ds.length ∧ 1 ≤ natOf ds ∧ natOf ds ≤ 275760 then some (natOf ds : Int) else none
theorem yr_yes {ds : List UInt8} (h : 4 ≤ ds.length ∧ 1 ≤ natOf ds ∧ natOf ds ≤ 275760) : yrV ds = some (natOf ds : Int) := if_pos h
theorem yr_no {ds : List UInt8} (h : ¬ (4 ≤ ds.length ∧ 1 ≤ natOf ds ∧ natOf ds ≤ 275760)) : yrV ds = none := if_neg h
/-- The number of a day, if there is one. -/
def numD (y m d : Int) : Option Int := if 1 ≤ d ∧ d ≤ LenV y m then some (newV y + aheadI y m + (d - 1)) else none
def dateTail (y : Int) : List UInt8 → Option Int
  | [p, a, b, q, c, d] => if p = 45 ∧ q = 45 then numD y (twoV a b) (twoV c d) else none
  | _ => none
/-- The number of the day that a Date's text tells. -/
def dateT (l : List UInt8) : Option Int := (yrV (l.takeWhile isDg)).bind fun y => dateTail y (l.dropWhile isDg)
def monthTail (y : Int) : List UInt8 → Option Int
  | [p, a, b] => if p = 45 ∧ 1 ≤ twoV a b ∧ twoV a b ≤ 12 then some ((y - 1970) * 12 + twoV a b - 1) else none
  | _ => none
def monthT (l : List UInt8) : Option Int := (yrV (l.takeWhile isDg)).bind fun y => monthTail y (l.dropWhile isDg)
def weekTail (y : Int) : List UInt8 → Option Int
  | [p, q, a, b] => if p = 45 ∧ q = 87 ∧ 1 ≤ twoV a b ∧ twoV a b ≤ WeeksV y then some (firstV y + 7 * (twoV a b - 1)) else none
  | _ => none
/-- The number of the Monday that a Week's text tells. -/
def weekT (l : List UInt8) : Option Int := (yrV (l.takeWhile isDg)).bind fun y => weekTail y (l.dropWhile isDg)
def fracT (n : Int) : List UInt8 → Option Int
  | [] => some n
  | s :: f => if s = 46 ∧ 1 ≤ f.length ∧ f.length ≤ 3 ∧ f.all isDg = true then some (n + fracOf 3 f) else none
def secT (n : Int) : List UInt8 → Option Int
  | [] => some n
  | q :: e :: f :: r => if q = 58 ∧ 0 ≤ twoV e f ∧ twoV e f ≤ 59 then fracT (n + twoV e f * 1000) r else none
  | _ => none
/-- The thousandths of a second that a Time's text tells. -/
def clockT : List UInt8 → Option Int
  | a :: b :: p :: c :: d :: r => if p = 58 ∧ 0 ≤ twoV a b ∧ twoV a b ≤ 23 ∧ 0 ≤ twoV c d ∧ twoV c d ≤ 59 then secT (twoV a b * 3600000 + twoV c d * 60000) r else none
  | _ => none
def isSep (c : UInt8) : Bool := c == 84 || c == 32
def localRest (o : Option Int) : List UInt8 → Option Int
  | [] => none
  | _ :: r => o.bind fun d => (clockT r).bind fun t => some (d * 86400000 + t)
def localT (l : List UInt8) : Option Int := localRest (dateT (l.takeWhile fun c => !isSep c)) (l.dropWhile fun c => !isSep c)
def momT (kind : Int) (l : List UInt8) : Option Int :=
  if kind = 1 then (dateT l).map (· * 86400000) else if kind = 2 then monthT l else if kind = 3 then (weekT l).map (· * 86400000) else if kind = 4 then clockT l else localT l
def outM : Option Int → Int × Int
  | none => (0, 1)
  | some n => (n, 0)
/-- What Parse answers. -/
def momV (kind : Int) (l : List UInt8) : Int × Int := if 1 ≤ kind ∧ kind ≤ 5 then outM (momT kind l) else (0, 3)

theorem dateTail_eq (y : Int) (p a b q c d : UInt8) : dateTail y [p, a, b, q, c, d] = if p = 45 ∧ q = 45 then numD y (twoV a b) (twoV c d) else none := rfl
theorem monthTail_eq (y : Int) (p a b : UInt8) : monthTail y [p, a, b] = if p = 45 ∧ 1 ≤ twoV a b ∧ twoV a b ≤ 12 then some ((y - 1970) * 12 + twoV a b - 1) else none := rfl
theorem weekTail_eq (y : Int) (p q a b : UInt8) : weekTail y [p, q, a, b] = if p = 45 ∧ q = 87 ∧ 1 ≤ twoV a b ∧ twoV a b ≤ WeeksV y then some (firstV y + 7 * (twoV a b - 1)) else none := rfl
theorem fracT_eq (n : Int) (s : UInt8) (f : List UInt8) : fracT n (s :: f) = if s = 46 ∧ 1 ≤ f.length ∧ f.length ≤ 3 ∧ f.all isDg = true then some (n + fracOf 3 f) else none := rfl
theorem secT_eq (n : Int) (q e f : UInt8) (r : List UInt8) : secT n (q :: e :: f :: r) = if q = 58 ∧ 0 ≤ twoV e f ∧ twoV e f ≤ 59 then fracT (n + twoV e f * 1000) r else none := rfl
theorem clockT_eq (a b p c d : UInt8) (r : List UInt8) : clockT (a :: b :: p :: c :: d :: r) = if p = 58 ∧ 0 ≤ twoV a b ∧ twoV a b ≤ 23 ∧ 0 ≤ twoV c d ∧ twoV c d ≤ 59 then secT (twoV a b * 3600000 + twoV c d * 60000) r else none := rfl

/-- A number with noughts ahead. -/
def padL (n w : Nat) : List UInt8 := List.replicate (w - (decD n).length) 48 ++ decD n
theorem natFrom_noughts : ∀ (k : Nat) (l : List UInt8), natFrom 0 (List.replicate k 48 ++ l) = natFrom 0 l
  | 0, _ => rfl
  | k + 1, l => by
    rw [List.replicate_succ]
    exact natFrom_noughts k l
theorem pad_nat (n w : Nat) : natOf (padL n w) = n := by
  unfold padL natOf
  rw [natFrom_noughts]; exact natOf_decD n
theorem pad_dg (n w : Nat) : ∀ c ∈ padL n w, isDg c = true := by
  intro c hc
  rcases List.mem_append.1 hc with h | h
  · rw [List.eq_of_mem_replicate h]; decide
  · exact decD_dg n c h
theorem pad_len (n w : Nat) : w ≤ (padL n w).length := by
  unfold padL
  rw [List.length_append, List.length_replicate]; omega
theorem pad_most {n w k : Nat} (h : n < 10 ^ k) (hk : 0 < k) (hw : w ≤ k) : (padL n w).length ≤ k := by
  have := decD_len h hk
  unfold padL
  rw [List.length_append, List.length_replicate]; omega
theorem pad_2 {n : Nat} (h : n < 100) : padL n 2 = [dgB (n / 10), dgB (n % 10)] := by
  unfold padL
  by_cases h1 : n < 10
  · rw [decD_small h1, show n / 10 = 0 by omega, show n % 10 = n by omega]; rfl
  · rw [decD_great h1, decD_small (show n / 10 < 10 by omega)]; rfl
theorem two_pad {n : Nat} (h : n < 100) : twoV (dgB (n / 10)) (dgB (n % 10)) = (n : Int) := by
  have a := dgB_dg (show n / 10 < 10 by omega)
  have b := dgB_dg (show n % 10 < 10 by omega)
  rw [two_yes a.1 b.1, a.2, b.2]; omega
def dateL (y m d : Nat) : List UInt8 := padL y 4 ++ 45 :: padL m 2 ++ 45 :: padL d 2
def monthL (y m : Nat) : List UInt8 := padL y 4 ++ 45 :: padL m 2
def weekL (y k : Nat) : List UInt8 := padL y 4 ++ 45 :: 87 :: padL k 2
def clockL (n : Nat) : List UInt8 := padL (n / 3600000) 2 ++ 58 :: padL (n / 60000 % 60) 2 ++ (if n % 60000 = 0 then [] else 58 :: padL (n / 1000 % 60) 2 ++ (if n % 1000 = 0 then [] else 46 :: fracD 3 (n % 1000)))
theorem pad_year {y : Nat} (h1 : 1 ≤ y) (h2 : y ≤ 275760) : yrV (padL y 4) = some (y : Int) := by
  rw [yr_yes (by rw [pad_nat]; exact ⟨pad_len _ _, h1, h2⟩), pad_nat]
theorem year_take {y : Nat} {c : UInt8} {r : List UInt8} (h : isDg c = false) : (padL y 4 ++ c :: r).takeWhile isDg = padL y 4 ∧ (padL y 4 ++ c :: r).dropWhile isDg = c :: r :=
  takeWhile_all (pad_dg y 4) (fun d r' e => by cases e; exact h)
/-- A day's text is read to its number. -/
theorem date_back {n : Int} {y m d : Nat} (h : IsDay n y m d) : dateT (dateL y m d) = some n := by
  have y1 := h.y1; have y2 := h.y2; have m1 := h.m1; have m2 := h.m2; have d1 := h.d1; have d2 := h.d2
  have b := len_bounds y m
  have e := h.len
  unfold dateT dateL
  rw [pad_2 (show m < 100 by omega), pad_2 (show d < 100 by omega)]
  have ⟨t1, t2⟩ := year_take (y := y) (c := 45) (r := [dgB (m / 10), dgB (m % 10)] ++ 45 :: [dgB (d / 10), dgB (d % 10)]) (by decide)
  rw [List.append_assoc, List.cons_append, t1, t2, pad_year (by omega) (by omega)]
  show dateTail (y : Int) [45, dgB (m / 10), dgB (m % 10), 45, dgB (d / 10), dgB (d % 10)] = _
  rw [dateTail_eq, if_pos ⟨rfl, rfl⟩, two_pad (by omega), two_pad (by omega)]
  unfold numD
  rw [if_pos ⟨d1, by rw [e]; exact d2⟩, h.is]
theorem month_back {y m : Nat} (y1 : 1 ≤ y) (y2 : y ≤ 275760) (m1 : 1 ≤ m) (m2 : m ≤ 12) : monthT (monthL y m) = some (((y : Int) - 1970) * 12 + m - 1) := by
  unfold monthT monthL
  rw [pad_2 (show m < 100 by omega)]
  have ⟨t1, t2⟩ := year_take (y := y) (c := 45) (r := [dgB (m / 10), dgB (m % 10)]) (by decide)
  rw [t1, t2, pad_year y1 y2]
  show monthTail (y : Int) [45, dgB (m / 10), dgB (m % 10)] = _
  rw [monthTail_eq, two_pad (by omega), if_pos ⟨rfl, by omega, by omega⟩]
theorem week_back {y k : Nat} (y1 : 1 ≤ y) (y2 : y ≤ 275760) (k1 : 1 ≤ k) (k2 : (k : Int) ≤ weeksV y) : weekT (weekL y k) = some (firstV y + 7 * ((k : Int) - 1)) := by
  have b := (weeks_is y).2
  unfold weekT weekL
  rw [pad_2 (show k < 100 by omega)]
  have ⟨t1, t2⟩ := year_take (y := y) (c := 45) (r := 87 :: [dgB (k / 10), dgB (k % 10)]) (by decide)
  rw [t1, t2, pad_year y1 y2]
  show weekTail (y : Int) [45, 87, dgB (k / 10), dgB (k % 10)] = _
  rw [weekTail_eq, two_pad (by omega), if_pos ⟨rfl, rfl, by omega, by rw [weeks_in (by omega)]; exact k2⟩]
theorem clock_back {n : Nat} (h : n < 86400000) : clockT (clockL n) = some (n : Int) := by
  unfold clockL
  rw [pad_2 (show n / 3600000 < 100 by omega), pad_2 (show n / 60000 % 60 < 100 by omega), pad_2 (show n / 1000 % 60 < 100 by omega)]
  show clockT (_ :: _ :: _ :: _ :: _ :: _) = _
  rw [clockT_eq, two_pad (by omega), two_pad (by omega), if_pos ⟨rfl, by omega, by omega, by omega, by omega⟩]
  by_cases h1 : n % 60000 = 0
  · rw [if_pos h1]
    show some _ = _
    congr 1; omega
  · rw [if_neg h1]
    show secT _ (_ :: _ :: _ :: _) = _
    rw [secT_eq, two_pad (by omega), if_pos ⟨rfl, by omega, by omega⟩]
    by_cases h2 : n % 1000 = 0
    · rw [if_pos h2]
      show some _ = _
      congr 1; omega
    · rw [if_neg h2]
      have hm : n % 1000 < 10 ^ 3 := by omega
      have hne : fracD 3 (n % 1000) ≠ [] := fun e => h2 ((fracD_nil hm).1 e)
      have hl := fracD_len 3 (n % 1000)
      show fracT _ (_ :: _) = _
      rw [fracT_eq, if_pos ⟨rfl, List.length_pos_iff.2 hne, hl, List.all_eq_true.2 (fracD_dg 3 _ hm)⟩, fracOf_fracD 3 _ hm]
      congr 1; omega

end Go.Proofs.YtekcbkicfoaheaaGreatDoor
