/- The program's reader of a text, in a block of the call's own. The program's way of reading a moment. The program's reader. What strconv.Atoi, strconv.Itoa, strings.Repeat, strings.TrimRight and strings.IndexByte answer. The program's reader. -/
import Derived.Test.YtfjfkkbgkjmghaaGreatDoorJct15
import Derived.Test.YtfjfkkbgkjmghaaGreatDoorJct20
import Derived.Lib.AtoiAll
import Derived.Lib.AtoiAllCases
import Derived.Shelf.Strconv.AtoiAll
import Derived.Shelf.Strconv.Itoa3
import Derived.Shelf.Strings.Repeat

namespace Go.Proofs.YtfjfkkbgkjmghaaGreatDoor
open Go.RowKit
set_option maxRecDepth 100000
/-- A reader in block R, of the call's own: R is behind all that lay in the world w0; it has l to read, b tells whether something was wrong. -/
structure Rd (w0 w : World) (R : Nat) (l : List UInt8) (b : Bool) : Prop where
  own : w0.heap.size ≤ R
  lies : w.heap[R]? = some (.cells #[.string (txt l), .bool b] 154 (0, 0))
  below : Below w0.heap.size w0 w
theorem Rd.cell0 {w0 w : World} {R : Nat} {l : List UInt8} {b : Bool} (h : Rd w0 w R l b) : w.cell? ⟨R, 0, none⟩ = some (.string (txt l)) := by
  have := h.lies
  simp [World.cell?, this]
theorem Rd.cell1 {w0 w : World} {R : Nat} {l : List UInt8} {b : Bool} (h : Rd w0 w R l b) : w.cell? ⟨R, 1, none⟩ = some (.bool b) := by
  have := h.lies
  simp [World.cell?, this]
theorem Rd.frozen {w0 w : World} {R : Nat} {l : List UInt8} {b : Bool} (h : Rd w0 w R l b) (k : Nat) : w.frozen? ⟨R, k, none⟩ = false := by
  have := h.lies
  simp [World.frozen?, this]
theorem Rd.set0 {w0 w : World} {R : Nat} {l : List UInt8} {b : Bool} (h : Rd w0 w R l b) (k : List UInt8) : Rd w0 (w.setCell ⟨R, 0, none⟩ (.string (txt k))) R k b :=
  ⟨h.own, by simp [World.setCell, Array.getElem?_modify, h.lies], h.below.setCell h.own _⟩
theorem Rd.set1 {w0 w : World} {R : Nat} {l : List UInt8} {b : Bool} (h : Rd w0 w R l b) (c : Bool) : Rd w0 (w.setCell ⟨R, 1, none⟩ (.bool c)) R l c :=
  ⟨h.own, by simp [World.setCell, Array.getElem?_modify, h.lies], h.below.setCell h.own _⟩
theorem Rd.lt {w0 w : World} {R : Nat} {l : List UInt8} {b : Bool} (h : Rd w0 w R l b) : R < w.heap.size := by
  have := h.lies
  rcases Nat.lt_or_ge R w.heap.size with h' | h'
  · exact h'
  · simp [Array.getElem?_eq_none h'] at this
/-- Another call, which changes nothing that was there. -/
theorem Rd.pass {w0 w w' : World} {R : Nat} {l : List UInt8} {b : Bool} (h : Rd w0 w R l b) (hb : Below w.heap.size w w') : Rd w0 w' R l b :=
  ⟨h.own, by rw [hb.block R h.lt]; exact h.lies, h.below.trans (hb.mono h.below.size)⟩
set_option maxHeartbeats 1000000 in
theorem must_any (w0 : World) (R : Nat) (l : List UInt8) (b c : Bool) (w : World) (h : Rd w0 w R l b) :
    Calls Tryz.prog 190 #[.pointer (some ⟨R, 0, none⟩), .bool c] w fun e w' => e = .returned (.tuple #[]) ∧ Rd w0 w' R l (b || !c) := by
  have f1 := h.frozen 1; have c1 := h.cell1
  have h0 := hide h
  clear h
  go_enter Tryz.func190, Tryz.ntmps190
  cases c with
  | true =>
    go_wp2_with fail
    go_end0
    exact ⟨rfl, by simpa using h0.out⟩
  | false =>
    go_wp2_with fail
    go_end0
    exact ⟨rfl, by simpa using h0.out.set1 true⟩
end Go.Proofs.YtfjfkkbgkjmghaaGreatDoor

namespace Go.Proofs.YtfjfkkbgkjmghaaGreatDoor
open Go.RowKit
/-- What is read, and what is left. -/
abbrev Got := Option (Int × List UInt8)
/-- What a step of reading tells: whether something was wrong before it, and whether something is behind it. -/
def Tell (b : Bool) (p : Got) (v : Int) (l : List UInt8) (b' : Bool) : Prop := (b = false ∧ b' = false ∧ p = some (v, l)) ∨ (b' = true ∧ (b = true ∨ p = none))
theorem Tell.bind {b b1 b2 : Bool} {p : Got} {v v2 : Int} {l l2 : List UInt8} {f : Int → List UInt8 → Got} (h1 : Tell b p v l b1) (h2 : Tell b1 (f v l) v2 l2 b2) : Tell b (p.bind fun x => f x.1 x.2) v2 l2 b2 := by
  rcases h1 with ⟨e1, e2, e3⟩ | ⟨e1, e2⟩
  · subst e3
    rcases h2 with ⟨_, g2, g3⟩ | ⟨g1, g2⟩
    · exact .inl ⟨e1, g2, g3⟩
    · rcases g2 with g2 | g2
      · rw [g2] at e2; cases e2
      · exact .inr ⟨g1, .inr g2⟩
  · rcases h2 with ⟨g1, _, _⟩ | ⟨g1, _⟩
    · rw [e1] at g1; cases g1
    · refine .inr ⟨g1, ?_⟩
      rcases e2 with e2 | e2
      · exact .inl e2
      · subst e2; exact .inr rfl
theorem Tell.pure {b : Bool} {v : Int} {l : List UInt8} : Tell b (some (v, l)) v l b := by
  cases b
  · exact .inl ⟨rfl, rfl, rfl⟩
  · exact .inr ⟨rfl, .inl rfl⟩
/-- 'must' of a condition, and the step behind it. -/
theorem Tell.must {b : Bool} {c : Bool} {v : Int} {l : List UInt8} : Tell b (if c = true then some (v, l) else none) v l (b || !c) := by
  cases b <;> cases c
  · exact .inr ⟨rfl, .inr rfl⟩
  · exact .inl ⟨rfl, rfl, rfl⟩
  · exact .inr ⟨rfl, .inl rfl⟩
  · exact .inr ⟨rfl, .inl rfl⟩
/-- The digits that come next, k at most. -/
def digsOf (k : Nat) (l : List UInt8) : List UInt8 := (l.take k).takeWhile isDg
theorem digs_dg (k : Nat) (l : List UInt8) : ∀ c ∈ digsOf k l, isDg c = true := fun c hc => by
  have := List.all_takeWhile (p := isDg) (l := l.take k)
  rw [List.all_eq_true] at this
  exact this c hc
theorem digs_len (k : Nat) (l : List UInt8) : (digsOf k l).length ≤ k ∧ (digsOf k l).length ≤ l.length := by
  have h1 := (List.takeWhile_sublist isDg (l := l.take k)).length_le
  have h2 := List.length_take_le k l
  have h3 := List.length_take_le' k l
  unfold digsOf
  omega
theorem digs_pre (k : Nat) (l : List UInt8) : l.take (digsOf k l).length = digsOf k l := by
  have h1 : (l.take k).take (digsOf k l).length = digsOf k l := by
    have := List.takeWhile_prefix isDg (l := l.take k)
    exact (List.prefix_iff_eq_take.1 this).symm
  rw [List.take_take, Nat.min_eq_left (digs_len k l).1] at h1
  exact h1
def maxI : Nat := 9223372036854775807
/-- The number that digits tell, if an int holds it. -/
def valV (ds : List UInt8) : Option Int := if ds ≠ [] ∧ natOf ds ≤ maxI then some (natOf ds : Int) else none
def yrP (l : List UInt8) : Got := if 4 ≤ (l.takeWhile isDg).length ∧ natOf (l.takeWhile isDg) ≤ maxI then some ((natOf (l.takeWhile isDg) : Int), l.dropWhile isDg) else none
def twoP (l : List UInt8) : Got := if (digsOf 2 l).length = 2 then some ((natOf (digsOf 2 l) : Int), l.drop (digsOf 2 l).length) else none
def signP (p : UInt8 → Bool) : List UInt8 → Got
  | [] => none
  | c :: r => if p c = true then some (0, r) else none
def belowP (k : Int) (l : List UInt8) : Got := (twoP l).bind fun x => if decide (x.1 < k) = true then some (x.1, x.2) else none
def isHy (c : UInt8) : Bool := c == 45
def isCol (c : UInt8) : Bool := c == 58
def isPt (c : UInt8) : Bool := c == 46
def isW (c : UInt8) : Bool := c == 87
def dateP (l : List UInt8) : Got := (yrP l).bind fun y => (signP isHy y.2).bind fun s => (twoP s.2).bind fun m => (signP isHy m.2).bind fun t => (twoP t.2).bind fun d => (numD y.1 m.1 d.1).bind fun n => some (n * 86400000, d.2)
def monthP (l : List UInt8) : Got := (yrP l).bind fun y => (signP isHy y.2).bind fun s => (twoP s.2).bind fun m => if decide (0 < LenV y.1 m.1) = true then some ((y.1 - 1970) * 12 + (m.1 - 1), m.2) else none
def weekP (l : List UInt8) : Got := (yrP l).bind fun y => (signP isHy y.2).bind fun s => (signP isW s.2).bind fun t => (twoP t.2).bind fun k => if 1 ≤ k.1 ∧ k.1 ≤ WeeksV y.1 then some ((firstV y.1 + 7 * (k.1 - 1)) * 86400000, k.2) else none
def thP (l : List UInt8) : Got := if digsOf 3 l ≠ [] then some ((fracOf 3 (digsOf 3 l) : Int), l.drop (digsOf 3 l).length) else none
def fracP (n : Int) (l : List UInt8) : Got :=
  match signP isPt l with
  | none => some (n, l)
  | some x => (thP x.2).bind fun f => some (n + f.1, f.2)
def secP (n : Int) (l : List UInt8) : Got :=
  match signP isCol l with
  | none => some (n, l)
  | some x => (belowP 60 x.2).bind fun s => fracP (n + s.1 * 1000) s.2
def timeP (l : List UInt8) : Got := (belowP 24 l).bind fun h => (signP isCol h.2).bind fun s => (belowP 60 s.2).bind fun m => secP (h.1 * 3600000 + m.1 * 60000) m.2
def localP (l : List UInt8) : Got := (dateP l).bind fun d => (signP isSep d.2).bind fun s => (timeP s.2).bind fun t => some (d.1 + t.1, t.2)
/-- How Parse ends: nothing may be left. -/
def fin : Got → Option Int
  | some (v, []) => some v
  | _ => none
theorem fin_some (v : Int) : fin (some (v, [])) = some v := rfl
theorem two_one (a : UInt8) : twoP [a] = none := by
  unfold twoP
  rw [if_neg]
  have := digs_len 2 [a]
  simp at this; omega
theorem two_is (a b : UInt8) (r : List UInt8) : twoP (a :: b :: r) = if 0 ≤ twoV a b then some (twoV a b, r) else none := by
  cases ha : isDg a with
  | false =>
    rw [two_no (by simp [ha]), if_neg (by omega)]
    unfold twoP digsOf
    simp [ha]
  | true =>
    cases hb : isDg b with
    | false =>
      rw [two_no (by simp [hb]), if_neg (by omega)]
      unfold twoP digsOf
      simp [ha, hb]
    | true =>
      have hd := two_yes ha hb
      rw [hd, if_pos (by omega)]
      have e : digsOf 2 (a :: b :: r) = [a, b] := by unfold digsOf; simp [ha, hb]
      have e2 : natOf [a, b] = 10 * dg a + dg b := by
        show 10 * (10 * 0 + dg a) + dg b = _
        omega
      unfold twoP
      rw [e, e2]
      exact if_pos rfl
theorem below_is (k : Int) (a b : UInt8) (r : List UInt8) : belowP k (a :: b :: r) = if 0 ≤ twoV a b ∧ twoV a b < k then some (twoV a b, r) else none := by
  unfold belowP
  rw [two_is]
  by_cases h : 0 ≤ twoV a b
  · rw [if_pos h]
    by_cases g : twoV a b < k
    · simp [h, g]
    · simp [g]
  · rw [if_neg h, if_neg (by omega)]; rfl
theorem below_one (k : Int) (a : UInt8) : belowP k [a] = none := by unfold belowP; rw [two_one]; rfl
theorem sign_cons (p : UInt8 → Bool) (c : UInt8) (r : List UInt8) : signP p (c :: r) = if p c = true then some (0, r) else none := rfl
theorem isHy_iff (c : UInt8) : isHy c = true ↔ c = 45 := by unfold isHy; simp
theorem isCol_iff (c : UInt8) : isCol c = true ↔ c = 58 := by unfold isCol; simp
theorem isPt_iff (c : UInt8) : isPt c = true ↔ c = 46 := by unfold isPt; simp
theorem isW_iff (c : UInt8) : isW c = true ↔ c = 87 := by unfold isW; simp
theorem year_len {y m : Int} (h : ¬ (1 ≤ y ∧ y ≤ 275760)) : LenV y m = 0 := len_out (fun x => h ⟨x.1, x.2.1⟩)
theorem numD_out {y m d : Int} (h : LenV y m = 0) : numD y m d = none := by unfold numD; rw [if_neg (by omega)]
theorem year_yes {l : List UInt8} {y : Int} (h : yrV (l.takeWhile isDg) = some y) : yrP l = some (y, l.dropWhile isDg) ∧ 1 ≤ y ∧ y ≤ 275760 := by
  have hb := year_of h
  unfold yrV at h
  split at h
  · rename_i g
    cases h
    refine ⟨?_, hb⟩
    unfold yrP
    rw [if_pos ⟨g.1, by unfold maxI; omega⟩]
  · cases h
theorem year_none {l : List UInt8} (h : yrV (l.takeWhile isDg) = none) : yrP l = none ∨ ∃ y, yrP l = some (y, l.dropWhile isDg) ∧ ¬ (1 ≤ y ∧ y ≤ 275760) := by
  unfold yrP
  split
  · rename_i g
    refine .inr ⟨_, rfl, ?_⟩
    intro x
    rw [yr_yes ⟨g.1, by omega, by omega⟩] at h
    cases h
  · exact .inl rfl
def dateR (y : Int) (l : List UInt8) : Got := (signP isHy l).bind fun s => (twoP s.2).bind fun m => (signP isHy m.2).bind fun t => (twoP t.2).bind fun d => (numD y m.1 d.1).bind fun n => some (n * 86400000, d.2)
theorem dateP_eq (l : List UInt8) : dateP l = (yrP l).bind fun y => dateR y.1 y.2 := rfl
theorem dateR_shape {y : Int} {l k : List UInt8} {v : Int} (h : dateR y l = some (v, k)) : ∃ a b c d n, l = 45 :: a :: b :: 45 :: c :: d :: k ∧ 0 ≤ twoV a b ∧ 0 ≤ twoV c d ∧ numD y (twoV a b) (twoV c d) = some n ∧ v = n * 86400000 := by
  unfold dateR at h
  rcases l with _ | ⟨p, _ | ⟨a, _ | ⟨b, l⟩⟩⟩
  · cases h
  · rw [sign_cons] at h; split at h <;> cases h
  · rw [sign_cons] at h
    split at h
    · rw [Option.bind_some, two_one] at h; cases h
    · cases h
  · rw [sign_cons] at h
    split at h
    · rename_i hp
      rw [Option.bind_some, two_is] at h
      split at h
      · rename_i hab
        rw [Option.bind_some] at h
        rcases l with _ | ⟨q, _ | ⟨c, _ | ⟨d, l⟩⟩⟩
        · cases h
        · rw [sign_cons] at h; split at h <;> cases h
        · rw [sign_cons] at h
          split at h
          · rw [Option.bind_some, two_one] at h; cases h
          · cases h
        · rw [sign_cons] at h
          split at h
          · rename_i hq
            rw [Option.bind_some, two_is] at h
            split at h
            · rename_i hcd
              rw [Option.bind_some, Option.bind_eq_some_iff] at h
              obtain ⟨n, hn, e⟩ := h
              cases e
              obtain rfl := (isHy_iff p).1 hp
              obtain rfl := (isHy_iff q).1 hq
              exact ⟨a, b, c, d, n, rfl, hab, hcd, hn, rfl⟩
            · cases h
          · cases h
      · cases h
    · cases h
theorem dateR_is {y : Int} {a b c d : UInt8} {n : Int} (k : List UInt8) (h1 : 0 ≤ twoV a b) (h2 : 0 ≤ twoV c d) (h : numD y (twoV a b) (twoV c d) = some n) : dateR y (45 :: a :: b :: 45 :: c :: d :: k) = some (n * 86400000, k) := by
  unfold dateR
  rw [sign_cons, if_pos (by decide), Option.bind_some, two_is, if_pos h1, Option.bind_some, sign_cons, if_pos (by decide), Option.bind_some, two_is, if_pos h2, Option.bind_some, h]; rfl
theorem dateR_none {y : Int} (l : List UInt8) (h : ¬ (1 ≤ y ∧ y ≤ 275760)) : dateR y l = none := by
  cases e : dateR y l with
  | none => rfl
  | some x =>
    obtain ⟨a, b, c, d, n, _, _, _, hn, _⟩ := dateR_shape (v := x.1) (k := x.2) e
    rw [numD_out (year_len h)] at hn; cases hn
theorem dateR_fin (y : Int) (l : List UInt8) : fin (dateR y l) = (dateTail y l).map (· * 86400000) := by
  cases e : dateR y l with
  | some x =>
    obtain ⟨v, k⟩ := x
    obtain ⟨a, b, c, d, n, rfl, h1, h2, hn, rfl⟩ := dateR_shape e
    cases k with
    | nil => rw [dateTail_eq, if_pos ⟨rfl, rfl⟩, hn]; rfl
    | cons => rfl
  | none =>
    cases g : dateTail y l with
    | none => rfl
    | some n =>
      exfalso
      unfold dateTail at g
      split at g
      · rename_i p a b q c d
        split at g
        · rename_i hpq
          obtain ⟨rfl, rfl⟩ := hpq
          have h1 : 0 ≤ twoV a b := by
            rcases Int.lt_or_le (twoV a b) 0 with x | x
            · rw [numD_out (len_out (by omega))] at g; cases g
            · exact x
          have h2 : 0 ≤ twoV c d := by
            rcases Int.lt_or_le (twoV c d) 0 with x | x
            · unfold numD at g; rw [if_neg (by omega)] at g; cases g
            · exact x
          rw [dateR_is [] h1 h2 g] at e; cases e
        · cases g
      · cases g
theorem date_fin (l : List UInt8) : fin (dateP l) = (dateT l).map (· * 86400000) := by
  rw [dateP_eq]
  unfold dateT
  cases h : yrV (l.takeWhile isDg) with
  | none =>
    rcases year_none h with e | ⟨y, e, hy⟩
    · rw [e]; rfl
    · rw [e, Option.bind_some, dateR_none _ hy]; rfl
  | some y =>
    rw [(year_yes h).1, Option.bind_some, Option.bind_some]
    exact dateR_fin y _
theorem month_fin (l : List UInt8) : fin (monthP l) = monthT l := by
  have key : ∀ (y : Int) (t : List UInt8), (1 ≤ y ∧ y ≤ 275760) → fin ((signP isHy t).bind fun s => (twoP s.2).bind fun m => if decide (0 < LenV y m.1) = true then some ((y - 1970) * 12 + (m.1 - 1), m.2) else none) = monthTail y t := by
    intro y t hy
    rcases t with _ | ⟨p, _ | ⟨a, _ | ⟨b, r⟩⟩⟩
    · rfl
    · rw [sign_cons]; split <;> rfl
    · rw [sign_cons]
      split
      · rw [Option.bind_some, two_one]; rfl
      · rfl
    · rw [sign_cons]
      have hb := two_bounds a b
      by_cases hp : p = 45
      · subst hp
        rw [if_pos (by decide), Option.bind_some, two_is]
        by_cases h0 : 0 ≤ twoV a b
        · rw [if_pos h0, Option.bind_some]
          by_cases hm : 1 ≤ twoV a b ∧ twoV a b ≤ 12
          · have := len_bounds y (twoV a b)
            have e := len_in (y := y) (m := twoV a b) ⟨hy.1, hy.2, hm.1, hm.2⟩
            rw [if_pos (by rw [decide_eq_true_iff, e]; omega)]
            cases r with
            | nil =>
              rw [fin_some, monthTail_eq, if_pos ⟨rfl, hm.1, hm.2⟩]
              congr 1; omega
            | cons => rfl
          · have e := len_out (y := y) (m := twoV a b) (fun x => hm ⟨x.2.2.1, x.2.2.2⟩)
            rw [if_neg (by rw [decide_eq_true_iff, e]; omega)]
            cases r with
            | nil => rw [monthTail_eq, if_neg (fun x => hm ⟨x.2.1, x.2.2⟩)]; rfl
            | cons => rfl
        · rw [if_neg h0]
          cases r with
          | nil => rw [monthTail_eq, if_neg (by omega)]; rfl
          | cons => rfl
      · rw [if_neg (by rw [isHy_iff]; exact hp)]
        cases r with
        | nil => rw [monthTail_eq, if_neg (fun x => hp x.1)]; rfl
        | cons => rfl
  unfold monthT monthP
  cases h : yrV (l.takeWhile isDg) with
  | none =>
    rcases year_none h with e | ⟨y, e, hy⟩
    · rw [e]; rfl
    · rw [e, Option.bind_some]
      show fin _ = none
      generalize l.dropWhile isDg = t
      dsimp only
      cases signP isHy t with
      | none => rfl
      | some s =>
        rw [Option.bind_some]
        cases twoP s.2 with
        | none => rfl
        | some m =>
          rw [Option.bind_some, year_len hy]; rfl
  | some y =>
    have := year_yes h
    rw [this.1, Option.bind_some, Option.bind_some]
    exact key y _ this.2
theorem week_fin (l : List UInt8) : fin (weekP l) = (weekT l).map (· * 86400000) := by
  have key : ∀ (y : Int) (t : List UInt8), fin ((signP isHy t).bind fun s => (signP isW s.2).bind fun t => (twoP t.2).bind fun k => if 1 ≤ k.1 ∧ k.1 ≤ WeeksV y then some ((firstV y + 7 * (k.1 - 1)) * 86400000, k.2) else none) = (weekTail y t).map (· * 86400000) := by
    intro y t
    rcases t with _ | ⟨p, _ | ⟨q, _ | ⟨a, _ | ⟨b, r⟩⟩⟩⟩
    · rfl
    · rw [sign_cons]; split <;> rfl
    · rw [sign_cons]
      split
      · rw [Option.bind_some, sign_cons]; split <;> rfl
      · rfl
    · rw [sign_cons]
      split
      · rw [Option.bind_some, sign_cons]
        split
        · rw [Option.bind_some, two_one]; rfl
        · rfl
      · rfl
    · rw [sign_cons]
      have hb := two_bounds a b
      have hr : ∀ c r', weekTail y (p :: q :: a :: b :: c :: r') = none := fun _ _ => rfl
      by_cases hp : p = 45
      · subst hp
        rw [if_pos (by decide), Option.bind_some, sign_cons]
        by_cases hq : q = 87
        · subst hq
          rw [if_pos (by decide), Option.bind_some, two_is]
          by_cases h0 : 0 ≤ twoV a b
          · rw [if_pos h0, Option.bind_some]
            by_cases hm : 1 ≤ twoV a b ∧ twoV a b ≤ WeeksV y
            · rw [if_pos hm]
              cases r with
              | nil => rw [fin_some, weekTail_eq, if_pos ⟨rfl, rfl, hm.1, hm.2⟩]; rfl
              | cons => rfl
            · rw [if_neg hm]
              cases r with
              | nil => rw [weekTail_eq, if_neg (fun x => hm ⟨x.2.2.1, x.2.2.2⟩)]; rfl
              | cons => rfl
          · rw [if_neg h0]
            cases r with
            | nil => rw [weekTail_eq, if_neg (by omega)]; rfl
            | cons => rfl
        · rw [if_neg (by rw [isW_iff]; exact hq)]
          cases r with
          | nil => rw [weekTail_eq, if_neg (fun x => hq x.2.1)]; rfl
          | cons => rfl
      · rw [if_neg (by rw [isHy_iff]; exact hp)]
        cases r with
        | nil => rw [weekTail_eq, if_neg (fun x => hp x.1)]; rfl
        | cons => rfl
  unfold weekT weekP
  cases h : yrV (l.takeWhile isDg) with
  | none =>
    rcases year_none h with e | ⟨y, e, hy⟩
    · rw [e]; rfl
    · rw [e, Option.bind_some]
      show fin _ = none
      generalize l.dropWhile isDg = t
      dsimp only
      cases signP isHy t with
      | none => rfl
      | some s =>
        rw [Option.bind_some]
        cases signP isW s.2 with
        | none => rfl
        | some s =>
          rw [Option.bind_some]
          cases twoP s.2 with
          | none => rfl
          | some m =>
            rw [Option.bind_some, weeks_out hy, if_neg (by omega)]; rfl
  | some y =>
    have := year_yes h
    rw [this.1, Option.bind_some, Option.bind_some]
    exact key y _
theorem frac_fin (n : Int) (l : List UInt8) : fin (fracP n l) = fracT n l := by
  cases l with
  | nil => rfl
  | cons c f =>
    unfold fracP
    rw [sign_cons, fracT_eq]
    by_cases hc : c = 46
    · subst hc
      rw [if_pos (by decide)]
      show fin ((thP f).bind _) = _
      unfold thP
      have hl := digs_len 3 f
      have hd := digs_dg 3 f
      have hp := digs_pre 3 f
      by_cases h : f.length ≤ 3 ∧ f.all isDg = true
      · have e : digsOf 3 f = f := by
          unfold digsOf
          rw [List.take_of_length_le h.1]
          have := (takeWhile_all (k := []) (List.all_eq_true.1 h.2) (fun _ _ e => by cases e)).1
          rw [List.append_nil] at this
          exact this
        rw [e]
        cases f with
        | nil => rfl
        | cons d f =>
          rw [if_pos (by simp), if_pos ⟨rfl, by simp, h.1, h.2⟩, Option.bind_some, List.drop_length]; rfl
      · have hno : ¬ ((46 : UInt8) = 46 ∧ 1 ≤ f.length ∧ f.length ≤ 3 ∧ f.all isDg = true) := fun x => h ⟨x.2.2.1, x.2.2.2⟩
        rw [if_neg hno]
        by_cases g : digsOf 3 f = []
        · rw [if_neg (fun x => x g)]; rfl
        · rw [if_pos g, Option.bind_some]
          cases e : f.drop (digsOf 3 f).length with
          | cons => rfl
          | nil =>
            exfalso
            have e1 : digsOf 3 f = f := by
              have := List.take_append_drop (digsOf 3 f).length f
              rw [e, hp, List.append_nil] at this
              exact this
            rw [e1] at hl hd
            exact h ⟨hl.1, List.all_eq_true.2 hd⟩
    · rw [if_neg (by rw [isPt_iff]; exact hc), if_neg (fun x => hc x.1)]; rfl
theorem sec_fin (n : Int) (l : List UInt8) : fin (secP n l) = secT n l := by
  unfold secP
  rcases l with _ | ⟨q, _ | ⟨e, _ | ⟨f, r⟩⟩⟩
  · rfl
  · rw [sign_cons]
    cases isCol q <;> rfl
  · rw [sign_cons]
    by_cases hq : q = 58
    · subst hq
      rw [if_pos (by decide)]
      show fin ((belowP 60 [e]).bind _) = none
      rw [below_one]; rfl
    · rw [if_neg (by rw [isCol_iff]; exact hq)]; rfl
  · rw [sign_cons, secT_eq]
    by_cases hq : q = 58
    · subst hq
      rw [if_pos (by decide)]
      show fin ((belowP 60 (e :: f :: r)).bind _) = _
      rw [below_is]
      by_cases h : 0 ≤ twoV e f ∧ twoV e f < 60
      · rw [if_pos h, if_pos ⟨rfl, h.1, by omega⟩, Option.bind_some]
        exact frac_fin _ _
      · rw [if_neg h, if_neg (by omega)]; rfl
    · rw [if_neg (by rw [isCol_iff]; exact hq), if_neg (fun x => hq x.1)]; rfl
theorem time_fin (l : List UInt8) : fin (timeP l) = clockT l := by
  unfold timeP
  rcases l with _ | ⟨a, _ | ⟨b, _ | ⟨p, _ | ⟨c, _ | ⟨d, r⟩⟩⟩⟩⟩
  · rfl
  · rw [below_one]; rfl
  · rw [below_is]; split <;> rfl
  · rw [below_is]
    split
    · rw [Option.bind_some, sign_cons]; split <;> rfl
    · rfl
  · rw [below_is]
    split
    · rw [Option.bind_some, sign_cons]
      split
      · rw [Option.bind_some, below_one]; rfl
      · rfl
    · rfl
  · rw [below_is, clockT_eq]
    by_cases h : 0 ≤ twoV a b ∧ twoV a b < 24
    · rw [if_pos h, Option.bind_some, sign_cons]
      by_cases hp : p = 58
      · subst hp
        rw [if_pos (by decide), Option.bind_some, below_is]
        by_cases g : 0 ≤ twoV c d ∧ twoV c d < 60
        · rw [if_pos g, if_pos ⟨rfl, h.1, by omega, g.1, by omega⟩, Option.bind_some]
          exact sec_fin _ _
        · rw [if_neg g, if_neg (by omega)]; rfl
      · rw [if_neg (by rw [isCol_iff]; exact hp), if_neg (fun x => hp x.1)]; rfl
    · rw [if_neg h, if_neg (by omega)]; rfl
/-- A day's text ahead of whatever. -/
theorem date_shape {l k : List UInt8} {v : Int} (h : dateP l = some (v, k)) : ∃ pre, l = pre ++ k ∧ (∀ x ∈ pre, isSep x = false) ∧ ∀ j, dateP (pre ++ j) = some (v, j) := by
  rw [dateP_eq, Option.bind_eq_some_iff] at h
  obtain ⟨⟨y, t⟩, hy, ht⟩ := h
  obtain ⟨a, b, c, d, n, et, h1, h2, hn, rfl⟩ := dateR_shape ht
  have hdg : ∀ a b : UInt8, 0 ≤ twoV a b → isDg a = true ∧ isDg b = true := by
    intro a b h
    by_cases g : isDg a = true ∧ isDg b = true
    · exact g
    · rw [two_no g] at h; omega
  have ⟨ha, hb⟩ := hdg a b h1
  have ⟨hc, hd⟩ := hdg c d h2
  unfold yrP at hy
  split at hy
  · rename_i g
    cases hy
    have hall : ∀ x ∈ l.takeWhile isDg, isDg x = true := fun x hx => by
      have := List.all_takeWhile (p := isDg) (l := l)
      rw [List.all_eq_true] at this
      exact this x hx
    refine ⟨l.takeWhile isDg ++ [45, a, b, 45, c, d], ?_, ?_, ?_⟩
    · have := List.takeWhile_append_dropWhile (p := isDg) (l := l)
      rw [List.append_assoc]
      show l = _ ++ (45 :: a :: b :: 45 :: c :: d :: k)
      rw [← et]; exact this.symm
    · intro x hx
      rw [List.mem_append] at hx
      simp only [List.mem_cons, List.not_mem_nil, or_false] at hx
      rcases hx with hx | rfl | rfl | rfl | rfl | rfl | rfl
      · exact dg_sep (hall x hx)
      · decide
      · exact dg_sep ha
      · exact dg_sep hb
      · decide
      · exact dg_sep hc
      · exact dg_sep hd
    · intro j
      rw [List.append_assoc]
      show dateP (_ ++ (45 :: a :: b :: 45 :: c :: d :: j)) = _
      have ⟨t1, t2⟩ := takeWhile_all (k := 45 :: a :: b :: 45 :: c :: d :: j) hall (fun x r' e => by cases e; decide)
      rw [dateP_eq]
      unfold yrP
      rw [t1, t2, if_pos g, Option.bind_some]
      exact dateR_is j h1 h2 hn
  · cases hy
theorem drop_none : ∀ {l : List UInt8}, (∀ x ∈ l, isSep x = false) → l.dropWhile (fun c => !isSep c) = []
  | [], _ => rfl
  | c :: l, h => by
    rw [List.dropWhile_cons, h c (List.mem_cons_self ..)]
    exact drop_none (fun x hx => h x (List.mem_cons_of_mem _ hx))
theorem local_fin (l : List UInt8) : fin (localP l) = localT l := by
  unfold localP
  have hsplit := List.takeWhile_append_dropWhile (p := fun c => !isSep c) (l := l)
  cases e : dateP l with
  | none =>
    rw [Option.bind_none]
    show none = localT l
    symm
    unfold localT
    cases g : l.dropWhile (fun c => !isSep c) with
    | nil => rfl
    | cons c r =>
      show (dateT _).bind _ = none
      cases h : dateT (l.takeWhile fun c => !isSep c) with
      | none => rfl
      | some n =>
        exfalso
        have hf := date_fin (l.takeWhile fun c => !isSep c)
        rw [h] at hf
        cases q : dateP (l.takeWhile fun c => !isSep c) with
        | none => rw [q] at hf; cases hf
        | some x =>
          obtain ⟨v, k⟩ := x
          obtain ⟨pre, hp, _, hj⟩ := date_shape q
          rw [g, hp, List.append_assoc] at hsplit
          have := hj (k ++ c :: r)
          rw [hsplit, e] at this
          cases this
  | some x =>
    obtain ⟨v, k⟩ := x
    obtain ⟨pre, rfl, hs, hj⟩ := date_shape e
    rw [Option.bind_some]
    have hpre : (dateT pre).map (· * 86400000) = some v := by
      rw [← date_fin]
      have := hj []
      rw [List.append_nil] at this
      rw [this]; rfl
    cases k with
    | nil =>
      have : (pre ++ []).dropWhile (fun c => !isSep c) = [] := by
        rw [List.append_nil]
        exact drop_none hs
      show none = localT _
      unfold localT
      rw [this]; rfl
    | cons c r =>
      rw [sign_cons]
      cases hc : isSep c with
      | true =>
        rw [if_pos rfl, Option.bind_some, local_is hs hc]
        cases hd : dateT pre with
        | none => rw [hd] at hpre; cases hpre
        | some n =>
          rw [hd] at hpre
          cases hpre
          rw [Option.bind_some, ← time_fin]
          cases timeP r with
          | none => rfl
          | some x =>
            obtain ⟨t, k⟩ := x
            cases k <;> rfl
      | false =>
        rw [if_neg (by simp)]
        show none = localT _
        symm
        unfold localT
        have h1 : (pre ++ c :: r).takeWhile (fun c => !isSep c) = pre ++ c :: r.takeWhile (fun c => !isSep c) := by
          rw [List.takeWhile_append_of_pos (fun x hx => by simp [hs x hx]), List.takeWhile_cons, hc]; rfl
        rw [h1]
        have h2 : dateT (pre ++ c :: r.takeWhile (fun c => !isSep c)) = none := by
          have := date_fin (pre ++ c :: r.takeWhile (fun c => !isSep c))
          rw [hj] at this
          cases q : dateT (pre ++ c :: r.takeWhile (fun c => !isSep c)) with
          | none => rfl
          | some n => rw [q] at this; cases this
        rw [h2]
        cases (pre ++ c :: r).dropWhile (fun c => !isSep c) <;> rfl
/-- What strconv.Atoi answers for digits. -/
theorem mag_digits : ∀ (l : List UInt8) (acc : Nat), (∀ c ∈ l, isDg c = true) → acc < 18446744073709551616 →
    (Lib.parseUint10 acc l = .ok (natFrom acc l) ∧ natFrom acc l < 18446744073709551616) ∨ (Lib.parseUint10 acc l = .range ∧ 18446744073709551616 ≤ natFrom acc l)
  | [], acc, _, ha => .inl ⟨rfl, ha⟩
  | c :: r, acc, h, ha => by
    have hc := (isDg_iff c).1 (h c (List.mem_cons_self ..))
    have e : natFrom acc (c :: r) = natFrom (acc * 10 + (c.toNat - 48)) r := by
      show natFrom (10 * acc + dg c) r = _
      rw [Nat.mul_comm]; rfl
    have hg := natFrom_ge (acc * 10 + (c.toNat - 48)) r
    unfold Lib.parseUint10
    rw [if_pos hc, e]
    by_cases h1 : 1844674407370955162 ≤ acc
    · rw [if_pos h1]; exact .inr ⟨rfl, by omega⟩
    · rw [if_neg h1]
      by_cases h2 : 18446744073709551616 ≤ acc * 10 + (c.toNat - 48)
      · rw [if_pos h2]; exact .inr ⟨rfl, by omega⟩
      · rw [if_neg h2]
        exact mag_digits r _ (fun d hd => h d (List.mem_cons_of_mem _ hd)) (by omega)
theorem atoi_digits {ds : List UInt8} (h : ∀ c ∈ ds, isDg c = true) :
    (ds = [] ∧ valV ds = none) ∨ (Lib.atoiAll ds = .ok (natOf ds) ∧ natOf ds ≤ maxI ∧ valV ds = some (natOf ds : Int)) ∨ (Lib.atoiAll ds = .range ∧ Lib.atoiSat ds = 9223372036854775807 ∧ valV ds = none) := by
  cases ds with
  | nil => exact .inl ⟨rfl, rfl⟩
  | cons c r =>
    have hc := (isDg_iff c).1 (h c (List.mem_cons_self ..))
    right
    rw [Lib.atoiAll_plain c r (by omega) (by omega), Lib.atoiSat_other c r (by omega)]
    have hm : Lib.parseMag (c :: r) = Lib.parseUint10 0 (c :: r) := by unfold Lib.parseMag; rw [if_neg (by simp)]
    rw [hm]
    unfold valV maxI
    rcases mag_digits (c :: r) 0 h (by decide) with ⟨e, g⟩ | ⟨e, g⟩
    · rw [e]
      have g' : natOf (c :: r) < 18446744073709551616 := g
      show (Lib.signless (.ok (natOf (c :: r))) = _ ∧ _) ∨ _
      rw [show natFrom 0 (c :: r) = natOf (c :: r) from rfl]
      generalize natOf (c :: r) = N at *
      by_cases hN : 9223372036854775808 ≤ N
      · right
        refine ⟨?_, rfl, if_neg (by omega)⟩
        unfold Lib.signless
        simp [hN]
      · left
        refine ⟨?_, by omega, if_pos ⟨by simp, by omega⟩⟩
        unfold Lib.signless
        simp [hN]
    · right
      rw [e]
      have g' : 18446744073709551616 ≤ natOf (c :: r) := g
      exact ⟨rfl, rfl, if_neg (by omega)⟩
end Go.Proofs.YtfjfkkbgkjmghaaGreatDoor

namespace Go.Proofs.YtfjfkkbgkjmghaaGreatDoor
open Go.RowKit
set_option maxRecDepth 100000
theorem all_takeDg {l : List UInt8} (h : ∀ c ∈ l, isDg c = true) : l.takeWhile isDg = l := by
  have := (takeWhile_all (k := []) h (fun _ _ e => by cases e)).1
  rw [List.append_nil] at this
  exact this
/-- The digits end at a place. -/
theorem digs_at {s : ByteArray} {m k : Nat} (hk : k ≤ s.size) (hm : k ≤ m) (h : ∀ c ∈ s.data.toList.take k, isDg c = true) (he : k = m ∨ k = s.size ∨ ∃ g : k < s.size, isDg s[k] = false) : digsOf m s.data.toList = s.data.toList.take k := by
  unfold digsOf
  have hl : s.data.toList.length = s.size := by simp
  rcases he with e | e | ⟨g, e⟩
  · subst e; exact all_takeDg h
  · subst e
    rw [List.take_of_length_le (show s.data.toList.length ≤ m by omega)]
    rw [List.take_of_length_le (show s.data.toList.length ≤ s.size by omega)] at h ⊢
    exact all_takeDg h
  · have e1 : s.data.toList = s.data.toList.take k ++ s[k] :: s.data.toList.drop (k + 1) := by
      have : s[k] = s.data.toList[k]'(by simpa using g) := by simp; rfl
      rw [this, ← List.drop_eq_getElem_cons]
      exact (List.take_append_drop k _).symm
    rcases Nat.lt_or_ge k m with g2 | g2
    · have e2 : s.data.toList.take m = s.data.toList.take k ++ s[k] :: (s.data.toList.drop (k + 1)).take (m - k - 1) := by
        have := congrArg (List.take m) e1
        rw [List.take_append, List.length_take, List.take_take, Nat.min_eq_right (by omega), Nat.min_eq_left (by omega)] at this
        rw [this]
        obtain ⟨j, rfl⟩ : ∃ j, m = k + 1 + j := ⟨m - k - 1, by omega⟩
        rw [show k + 1 + j - k = j + 1 by omega, show j + 1 - 1 = j by omega, List.take_succ_cons]
      rw [e2]
      exact (takeWhile_all h (fun c r' x => by cases x; exact e)).1
    · obtain rfl : k = m := by omega
      exact all_takeDg h
theorem txt_pre (s : ByteArray) (k : Nat) : s.extract 0 k = txt (s.data.toList.take k) := by
  apply ByteArray.ext
  rw [show (txt (s.data.toList.take k)).data = (s.data.toList.take k).toArray from rfl]
  apply Array.ext'
  simp
theorem txt_post (s : ByteArray) (k : Nat) : s.extract k s.size = txt (s.data.toList.drop k) := by
  apply ByteArray.ext
  rw [show (txt (s.data.toList.drop k)).data = (s.data.toList.drop k).toArray from rfl]
  apply Array.ext'
  have : (s.extract k s.size).data.toList = (s.data.toList.drop k).take (s.size - k) := by simp
  rw [this, List.take_of_length_le (by simp)]
set_option maxHeartbeats 1000000 in
theorem digits_any (w0 : World) (R : Nat) (l : List UInt8) (b : Bool) (m : Nat) (w : World) (h : Rd w0 w R l b) (hm : m ≤ 1000000) (hl : l.length ≤ 1000000) :
    Calls Tryz.prog 214 #[.pointer (some ⟨R, 0, none⟩), .int .i64 m] w fun e w' => e = .returned (.string (txt (digsOf m l))) ∧ Rd w0 w' R (l.drop (digsOf m l).length) b := by
  obtain ⟨s, rfl⟩ : ∃ s : ByteArray, l = s.data.toList := ⟨txt l, rfl⟩
  have hs : s.size ≤ 1000000 := by simpa using hl
  have f0 := h.frozen 0
  have c0 : w.cell? ⟨R, 0, none⟩ = some (.string s) := h.cell0
  have h0 := hide h
  clear h hl
  go_enter Tryz.func214, Tryz.ntmps214
  go_wp2_with fail
  go_loop [5] (fun i => ∃ k : Nat, k ≤ s.size ∧ k ≤ m ∧ i = .int .i64 k ∧ Hid (∀ c ∈ s.data.toList.take k, isDg c = true)) (fun i => s.size - (intOf i).toNat)
  case atStart => exact ⟨0, Nat.zero_le _, Nat.zero_le _, rfl, by intro c hc; simp at hc⟩
  case round =>
    obtain ⟨k, hk, hkm, rfl, hd⟩ := hrel
    have END : (k = m ∨ k = s.size ∨ ∃ g : k < s.size, isDg s[k] = false) → Hid (txt (digsOf m s.data.toList) = s.extract 0 k ∧ Rd w0 (w.setCell ⟨R, 0, none⟩ (.string (s.extract k s.size))) R (s.data.toList.drop (digsOf m s.data.toList).length) b) := by
      intro he
      have e := digs_at hk hkm hd.out he
      refine ⟨by rw [e, txt_pre], ?_⟩
      rw [e, txt_post, List.length_take, Nat.min_eq_left (by simpa using hk)]
      exact h0.out.set0 _
    by_cases h1 : k < m
    · by_cases h2 : k < s.size
      · have hI := isDg_iff s[k]
        have hN := isDg_not s[k]
        have NX : isDg s[k] = true → Hid (∀ c ∈ s.data.toList.take (k + 1), isDg c = true) := by
          intro g c hc
          have : s[k] = s.data.toList[k]'(by simpa using h2) := by simp; rfl
          rw [List.take_succ_eq_append_getElem (by simpa using h2), ← this] at hc
          rcases List.mem_append.1 hc with hc | hc
          · exact hd.out c hc
          · simp at hc; subst hc; exact g
        have i1 : (k : Int) < (m : Int) := by omega
        rcases (show (s[k].toNat : Int) < 48 ∨ (48 ≤ (s[k].toNat : Int) ∧ 57 < (s[k].toNat : Int)) ∨ (48 ≤ (s[k].toNat : Int) ∧ (s[k].toNat : Int) ≤ 57) by omega) with g1 | ⟨g1, g2⟩ | ⟨g1, g2⟩
        · have E := END (.inr (.inr ⟨h2, hN.2 (by omega)⟩))
          clear hI hN NX END hd
          go_wp2_with fail
          go_ret
          exact ⟨ret_str E.out.1.symm, E.out.2⟩
        · have E := END (.inr (.inr ⟨h2, hN.2 (by omega)⟩))
          clear hI hN NX END hd
          go_wp2_with fail
          go_ret
          exact ⟨ret_str E.out.1.symm, E.out.2⟩
        · have E := NX (hI.2 (by omega))
          clear hI hN NX END hd
          go_wp2_with fail
          go_round
          case rel => exact ⟨k + 1, by omega, by omega, by go_num, E⟩
          case measure => simp [intOf]; omega
      · have E := END (.inr (.inl (by omega)))
        have i1 : (k : Int) < (m : Int) := by omega
        have i2 : (s.size : Int) ≤ (k : Int) := by omega
        clear END hd
        go_wp2_with fail
        go_ret
        exact ⟨ret_str E.out.1.symm, E.out.2⟩
    · have E := END (.inl (by omega))
      have i1 : (m : Int) ≤ (k : Int) := by omega
      clear END hd
      go_wp2_with fail
      go_ret
      exact ⟨ret_str E.out.1.symm, E.out.2⟩
end Go.Proofs.YtfjfkkbgkjmghaaGreatDoor

namespace Go.Proofs.YtfjfkkbgkjmghaaGreatDoor
open Go.Shelf Go.RowKit
set_option maxRecDepth 100000
def atren : Go.Shelf.Ren := ⟨fun | 129 => 248 | 171 => 224 | 172 => 231 | 205 => 261 | 243 => 239 | 244 => 243 | 245 => 244 | 246 => 252 | 247 => 253 | 279 => 254 | 280 => 255 | 281 => 256 | 282 => 257 | 283 => 235 | 284 => 236 | 285 => 237 | 286 => 238 | 287 => 260 | 316 => 55 | 317 => 247 | 318 => 249 | 319 => 250 | 320 => 251 | 321 => 262 | 322 => 263 | 337 => 258 | 338 => 259 | n => n, fun | 0 => 0 | 2 => 2 | 3 => 3 | 4 => 4 | 5 => 5 | 9 => 9 | 20 => 20 | 21 => 21 | 37 => 87 | 46 => 194 | 51 => 207 | 53 => 92 | 72 => 108 | 75 => 111 | 76 => 112 | 80 => 115 | 85 => 220 | 127 => 88 | 143 => 234 | 145 => 236 | 167 => 219 | 168 => 222 | 171 => 201 | 173 => 204 | 175 => 226 | 210 => 229 | 212 => 215 | 213 => 216 | 232 => 231 | 233 => 232 | n => n, fun | 15 => 6 | 16 => 7 | 17 => 5 | 18 => 8 | 19 => 9 | n => n⟩
theorem laysC172 : Go.Proofs.LaysC.n172 Tryz.prog atren := {
  mixed := by kernel_rfl
  f129 := Tryz.func248.trans (congrArg some (by kernel_rfl))
  f171 := Tryz.func224.trans (congrArg some (by kernel_rfl))
  f172 := Tryz.func231.trans (congrArg some (by kernel_rfl))
  f205 := Tryz.func261.trans (congrArg some (by kernel_rfl))
  f243 := Tryz.func239.trans (congrArg some (by kernel_rfl))
  f244 := Tryz.func243.trans (congrArg some (by kernel_rfl))
  f245 := Tryz.func244.trans (congrArg some (by kernel_rfl))
  f246 := Tryz.func252.trans (congrArg some (by kernel_rfl))
  f247 := Tryz.func253.trans (congrArg some (by kernel_rfl))
  f279 := Tryz.func254.trans (congrArg some (by kernel_rfl))
  f280 := Tryz.func255.trans (congrArg some (by kernel_rfl))
  f281 := Tryz.func256.trans (congrArg some (by kernel_rfl))
  f282 := Tryz.func257.trans (congrArg some (by kernel_rfl))
  f283 := Tryz.func235.trans (congrArg some (by kernel_rfl))
  f284 := Tryz.func236.trans (congrArg some (by kernel_rfl))
  f285 := Tryz.func237.trans (congrArg some (by kernel_rfl))
  f286 := Tryz.func238.trans (congrArg some (by kernel_rfl))
  f287 := Tryz.func260.trans (congrArg some (by kernel_rfl))
  f316 := Tryz.func55.trans (congrArg some (by kernel_rfl))
  f317 := Tryz.func247.trans (congrArg some (by kernel_rfl))
  f318 := Tryz.func249.trans (congrArg some (by kernel_rfl))
  f319 := Tryz.func250.trans (congrArg some (by kernel_rfl))
  f320 := Tryz.func251.trans (congrArg some (by kernel_rfl))
  f321 := Tryz.func262.trans (congrArg some (by kernel_rfl))
  f322 := Tryz.func263.trans (congrArg some (by kernel_rfl))
  f337 := Tryz.func258.trans (congrArg some (by kernel_rfl))
  f338 := Tryz.func259.trans (congrArg some (by kernel_rfl))
  t0 := Tryz.underlying0
  a0 := Tryz.isAgg0
  z0 := Tryz.sizeOf0
  v0 := Tryz.zeroValue0
  t2 := Tryz.underlying2
  a2 := Tryz.isAgg2
  z2 := Tryz.sizeOf2
  v2 := Tryz.zeroValue2
  t3 := Tryz.underlying3
  a3 := Tryz.isAgg3
  z3 := Tryz.sizeOf3
  v3 := Tryz.zeroValue3
  t4 := Tryz.underlying4
  a4 := Tryz.isAgg4
  z4 := Tryz.sizeOf4
  v4 := Tryz.zeroValue4
  t5 := Tryz.underlying5
  a5 := Tryz.isAgg5
  z5 := Tryz.sizeOf5
  v5 := Tryz.zeroValue5
  t9 := Tryz.underlying9
  a9 := Tryz.isAgg9
  z9 := Tryz.sizeOf9
  v9 := Tryz.zeroValue9
  t20 := Tryz.underlying20
  a20 := Tryz.isAgg20
  z20 := Tryz.sizeOf20
  v20 := Tryz.zeroValue20
  t21 := Tryz.underlying21
  a21 := Tryz.isAgg21
  z21 := Tryz.sizeOf21
  v21 := Tryz.zeroValue21
  t37 := Tryz.underlying87
  a37 := Tryz.isAgg87
  z37 := Tryz.sizeOf87
  v37 := Tryz.zeroValue87
  t46 := Tryz.underlying194
  a46 := Tryz.isAgg194
  z46 := Tryz.sizeOf194
  v46 := Tryz.zeroValue194
  t51 := Tryz.underlying207
  a51 := Tryz.isAgg207
  z51 := Tryz.sizeOf207
  v51 := Tryz.zeroValue207
  t53 := Tryz.underlying92
  a53 := Tryz.isAgg92
  z53 := Tryz.sizeOf92
  v53 := Tryz.zeroValue92
  t75 := Tryz.underlying111
  a75 := Tryz.isAgg111
  z75 := Tryz.sizeOf111
  v75 := Tryz.zeroValue111
  t76 := Tryz.underlying112
  a76 := Tryz.isAgg112
  z76 := Tryz.sizeOf112
  v76 := Tryz.zeroValue112
  t85 := Tryz.underlying220
  a85 := Tryz.isAgg220
  z85 := Tryz.sizeOf220
  v85 := Tryz.zeroValue220
  t127 := Tryz.underlying88
  a127 := Tryz.isAgg88
  z127 := Tryz.sizeOf88
  v127 := Tryz.zeroValue88
  t143 := Tryz.underlying234
  a143 := Tryz.isAgg234
  z143 := Tryz.sizeOf234
  v143 := Tryz.zeroValue234
  t145 := Tryz.underlying236
  a145 := Tryz.isAgg236
  z145 := Tryz.sizeOf236
  v145 := Tryz.zeroValue236
  t167 := Tryz.underlying219
  a167 := Tryz.isAgg219
  z167 := Tryz.sizeOf219
  v167 := Tryz.zeroValue219
  t168 := Tryz.underlying222
  a168 := Tryz.isAgg222
  z168 := Tryz.sizeOf222
  v168 := Tryz.zeroValue222
  t171 := Tryz.underlying201
  a171 := Tryz.isAgg201
  z171 := Tryz.sizeOf201
  v171 := Tryz.zeroValue201
  t173 := Tryz.underlying204
  a173 := Tryz.isAgg204
  z173 := Tryz.sizeOf204
  v173 := Tryz.zeroValue204
  t175 := Tryz.underlying226
  a175 := Tryz.isAgg226
  z175 := Tryz.sizeOf226
  v175 := Tryz.zeroValue226
  t210 := Tryz.underlying229
  a210 := Tryz.isAgg229
  z210 := Tryz.sizeOf229
  v210 := Tryz.zeroValue229
  t212 := Tryz.underlying215
  a212 := Tryz.isAgg215
  z212 := Tryz.sizeOf215
  v212 := Tryz.zeroValue215
  t213 := Tryz.underlying216
  a213 := Tryz.isAgg216
  z213 := Tryz.sizeOf216
  t232 := Tryz.underlying231
  a232 := Tryz.isAgg231
  z232 := Tryz.sizeOf231
  v232 := Tryz.zeroValue231
  t233 := Tryz.underlying232
  a233 := Tryz.isAgg232
  z233 := Tryz.sizeOf232
  v233 := Tryz.zeroValue232
  g15 := by kernel_rfl
  g16 := by kernel_rfl
  g17 := by kernel_rfl
  g18 := by kernel_rfl
  g19 := by kernel_rfl
  t80 := Tryz.underlying115
  a80 := Tryz.isAgg115
  z80 := Tryz.sizeOf115
  v80 := Tryz.zeroValue115
  i0 := by kernel_rfl
  i2 := by kernel_rfl
  i3 := by kernel_rfl
  i4 := by kernel_rfl
  i5 := by kernel_rfl
  i9 := by kernel_rfl
  i20 := by kernel_rfl
  i21 := by kernel_rfl
  i37 := by kernel_rfl
  i46 := by kernel_rfl
  i51 := by kernel_rfl
  i53 := by kernel_rfl
  i75 := by kernel_rfl
  i76 := by kernel_rfl
  i80 := by kernel_rfl
  i85 := by kernel_rfl
  i127 := by kernel_rfl
  i143 := by kernel_rfl
  i145 := by kernel_rfl
  i167 := by kernel_rfl
  i168 := by kernel_rfl
  i171 := by kernel_rfl
  i173 := by kernel_rfl
  i175 := by kernel_rfl
  i210 := by kernel_rfl
  i212 := by kernel_rfl
  i232 := by kernel_rfl
  i233 := by kernel_rfl
  m15 := by kernel_rfl
  m16 := by kernel_rfl
  m17 := by kernel_rfl
  m18 := by kernel_rfl
  m19 := by kernel_rfl
  c0 := by kernel_rfl
  c2 := by kernel_rfl
  c3 := by kernel_rfl
  c4 := by kernel_rfl
  c5 := by kernel_rfl
  c9 := by kernel_rfl
  c20 := by kernel_rfl
  c21 := by kernel_rfl
  c37 := by kernel_rfl
  c46 := by kernel_rfl
  c51 := by kernel_rfl
  c53 := by kernel_rfl
  c75 := by kernel_rfl
  c76 := by kernel_rfl
  c80 := by kernel_rfl
  c85 := by kernel_rfl
  c127 := by kernel_rfl
  c143 := by kernel_rfl
  c145 := by kernel_rfl
  c167 := by kernel_rfl
  c168 := by kernel_rfl
  c171 := by kernel_rfl
  c173 := by kernel_rfl
  c175 := by kernel_rfl
  c210 := by kernel_rfl
  c212 := by kernel_rfl
  c213 := by kernel_rfl
  c232 := by kernel_rfl
  c233 := by kernel_rfl }
def itren : Go.Shelf.Ren := ⟨fun | 129 => 248 | 171 => 224 | 243 => 239 | 246 => 252 | 283 => 235 | 284 => 236 | 285 => 237 | 286 => 238 | 317 => 247 | 318 => 249 | 319 => 250 | 320 => 251 | 337 => 258 | 338 => 259 | n => n, fun | 0 => 0 | 2 => 2 | 3 => 3 | 4 => 4 | 5 => 5 | 9 => 9 | 20 => 20 | 37 => 87 | 46 => 194 | 51 => 207 | 53 => 92 | 72 => 108 | 171 => 201 | 173 => 204 | 212 => 215 | 213 => 216 | 232 => 231 | 233 => 232 | n => n, fun | 17 => 5 | 18 => 8 | 19 => 9 | n => n⟩
theorem laysM171 : Go.Proofs.LaysM.n171 Tryz.prog itren := {
  mixed := by kernel_rfl
  f129 := Tryz.func248.trans (congrArg some (by kernel_rfl))
  f171 := Tryz.func224.trans (congrArg some (by kernel_rfl))
  f243 := Tryz.func239.trans (congrArg some (by kernel_rfl))
  f246 := Tryz.func252.trans (congrArg some (by kernel_rfl))
  f283 := Tryz.func235.trans (congrArg some (by kernel_rfl))
  f284 := Tryz.func236.trans (congrArg some (by kernel_rfl))
  f285 := Tryz.func237.trans (congrArg some (by kernel_rfl))
  f286 := Tryz.func238.trans (congrArg some (by kernel_rfl))
  f317 := Tryz.func247.trans (congrArg some (by kernel_rfl))
  f318 := Tryz.func249.trans (congrArg some (by kernel_rfl))
  f319 := Tryz.func250.trans (congrArg some (by kernel_rfl))
  f320 := Tryz.func251.trans (congrArg some (by kernel_rfl))
  f337 := Tryz.func258.trans (congrArg some (by kernel_rfl))
  f338 := Tryz.func259.trans (congrArg some (by kernel_rfl))
  t0 := Tryz.underlying0
  a0 := Tryz.isAgg0
  z0 := Tryz.sizeOf0
  v0 := Tryz.zeroValue0
  t2 := Tryz.underlying2
  a2 := Tryz.isAgg2
  z2 := Tryz.sizeOf2
  v2 := Tryz.zeroValue2
  t3 := Tryz.underlying3
  a3 := Tryz.isAgg3
  z3 := Tryz.sizeOf3
  v3 := Tryz.zeroValue3
  t4 := Tryz.underlying4
  a4 := Tryz.isAgg4
  z4 := Tryz.sizeOf4
  v4 := Tryz.zeroValue4
  t5 := Tryz.underlying5
  a5 := Tryz.isAgg5
  z5 := Tryz.sizeOf5
  v5 := Tryz.zeroValue5
  t9 := Tryz.underlying9
  a9 := Tryz.isAgg9
  z9 := Tryz.sizeOf9
  v9 := Tryz.zeroValue9
  t20 := Tryz.underlying20
  a20 := Tryz.isAgg20
  z20 := Tryz.sizeOf20
  v20 := Tryz.zeroValue20
  t37 := Tryz.underlying87
  a37 := Tryz.isAgg87
  z37 := Tryz.sizeOf87
  v37 := Tryz.zeroValue87
  t46 := Tryz.underlying194
  a46 := Tryz.isAgg194
  z46 := Tryz.sizeOf194
  v46 := Tryz.zeroValue194
  t51 := Tryz.underlying207
  a51 := Tryz.isAgg207
  z51 := Tryz.sizeOf207
  v51 := Tryz.zeroValue207
  t53 := Tryz.underlying92
  a53 := Tryz.isAgg92
  z53 := Tryz.sizeOf92
  v53 := Tryz.zeroValue92
  t171 := Tryz.underlying201
  a171 := Tryz.isAgg201
  z171 := Tryz.sizeOf201
  v171 := Tryz.zeroValue201
  t173 := Tryz.underlying204
  a173 := Tryz.isAgg204
  z173 := Tryz.sizeOf204
  v173 := Tryz.zeroValue204
  t212 := Tryz.underlying215
  a212 := Tryz.isAgg215
  z212 := Tryz.sizeOf215
  v212 := Tryz.zeroValue215
  t213 := Tryz.underlying216
  a213 := Tryz.isAgg216
  z213 := Tryz.sizeOf216
  t232 := Tryz.underlying231
  a232 := Tryz.isAgg231
  z232 := Tryz.sizeOf231
  v232 := Tryz.zeroValue231
  t233 := Tryz.underlying232
  a233 := Tryz.isAgg232
  z233 := Tryz.sizeOf232
  v233 := Tryz.zeroValue232
  g17 := by kernel_rfl
  g18 := by kernel_rfl
  g19 := by kernel_rfl
  i0 := by kernel_rfl
  i2 := by kernel_rfl
  i3 := by kernel_rfl
  i4 := by kernel_rfl
  i5 := by kernel_rfl
  i9 := by kernel_rfl
  i20 := by kernel_rfl
  i37 := by kernel_rfl
  i46 := by kernel_rfl
  i51 := by kernel_rfl
  i53 := by kernel_rfl
  i171 := by kernel_rfl
  i173 := by kernel_rfl
  i212 := by kernel_rfl
  i232 := by kernel_rfl
  i233 := by kernel_rfl
  m17 := by kernel_rfl
  m18 := by kernel_rfl
  m19 := by kernel_rfl }
def rpren : Go.Shelf.Ren := ⟨fun | 99 => 233 | 105 => 221 | 165 => 106 | 166 => 107 | 169 => 109 | 170 => 234 | 206 => 230 | 212 => 232 | 240 => 136 | 241 => 137 | 263 => 245 | 264 => 246 | 276 => 173 | 277 => 174 | n => n, fun | 0 => 0 | 3 => 3 | 4 => 4 | 5 => 5 | 9 => 9 | 20 => 20 | 37 => 87 | 46 => 194 | 51 => 207 | 53 => 92 | 70 => 106 | 72 => 108 | 75 => 111 | 76 => 112 | 80 => 115 | 109 => 199 | 127 => 88 | 146 => 208 | 148 => 212 | 164 => 164 | n => n, fun  | n => n⟩
theorem lays105 : Go.Proofs.Lays.n105 Tryz.prog rpren := {
  mixed := by kernel_rfl
  f99 := Tryz.func233.trans (congrArg some (by kernel_rfl))
  f105 := Tryz.func221.trans (congrArg some (by kernel_rfl))
  f165 := Tryz.func106.trans (congrArg some (by kernel_rfl))
  f166 := Tryz.func107.trans (congrArg some (by kernel_rfl))
  f169 := Tryz.func109.trans (congrArg some (by kernel_rfl))
  f170 := Tryz.func234.trans (congrArg some (by kernel_rfl))
  f206 := Tryz.func230.trans (congrArg some (by kernel_rfl))
  f212 := Tryz.func232.trans (congrArg some (by kernel_rfl))
  f240 := Tryz.func136.trans (congrArg some (by kernel_rfl))
  f241 := Tryz.func137.trans (congrArg some (by kernel_rfl))
  f263 := Tryz.func245.trans (congrArg some (by kernel_rfl))
  f264 := Tryz.func246.trans (congrArg some (by kernel_rfl))
  f276 := Tryz.func173.trans (congrArg some (by kernel_rfl))
  f277 := Tryz.func174.trans (congrArg some (by kernel_rfl))
  t0 := Tryz.underlying0
  a0 := Tryz.isAgg0
  z0 := Tryz.sizeOf0
  v0 := Tryz.zeroValue0
  t3 := Tryz.underlying3
  a3 := Tryz.isAgg3
  z3 := Tryz.sizeOf3
  v3 := Tryz.zeroValue3
  t4 := Tryz.underlying4
  a4 := Tryz.isAgg4
  z4 := Tryz.sizeOf4
  v4 := Tryz.zeroValue4
  t5 := Tryz.underlying5
  a5 := Tryz.isAgg5
  z5 := Tryz.sizeOf5
  v5 := Tryz.zeroValue5
  t9 := Tryz.underlying9
  a9 := Tryz.isAgg9
  z9 := Tryz.sizeOf9
  v9 := Tryz.zeroValue9
  t20 := Tryz.underlying20
  a20 := Tryz.isAgg20
  z20 := Tryz.sizeOf20
  v20 := Tryz.zeroValue20
  t37 := Tryz.underlying87
  a37 := Tryz.isAgg87
  z37 := Tryz.sizeOf87
  v37 := Tryz.zeroValue87
  t46 := Tryz.underlying194
  a46 := Tryz.isAgg194
  z46 := Tryz.sizeOf194
  v46 := Tryz.zeroValue194
  t51 := Tryz.underlying207
  a51 := Tryz.isAgg207
  z51 := Tryz.sizeOf207
  v51 := Tryz.zeroValue207
  t53 := Tryz.underlying92
  a53 := Tryz.isAgg92
  z53 := Tryz.sizeOf92
  v53 := Tryz.zeroValue92
  t70 := Tryz.underlying106
  a70 := Tryz.isAgg106
  z70 := Tryz.sizeOf106
  v70 := Tryz.zeroValue106
  t72 := Tryz.underlying108
  a72 := Tryz.isAgg108
  z72 := Tryz.sizeOf108
  v72 := Tryz.zeroValue108
  t75 := Tryz.underlying111
  a75 := Tryz.isAgg111
  z75 := Tryz.sizeOf111
  v75 := Tryz.zeroValue111
  t76 := Tryz.underlying112
  a76 := Tryz.isAgg112
  z76 := Tryz.sizeOf112
  v76 := Tryz.zeroValue112
  t109 := Tryz.underlying199
  a109 := Tryz.isAgg199
  z109 := Tryz.sizeOf199
  v109 := Tryz.zeroValue199
  t127 := Tryz.underlying88
  a127 := Tryz.isAgg88
  z127 := Tryz.sizeOf88
  v127 := Tryz.zeroValue88
  t146 := Tryz.underlying208
  a146 := Tryz.isAgg208
  z146 := Tryz.sizeOf208
  v146 := Tryz.zeroValue208
  t148 := Tryz.underlying212
  a148 := Tryz.isAgg212
  z148 := Tryz.sizeOf212
  v148 := Tryz.zeroValue212
  t164 := Tryz.underlying164
  a164 := Tryz.isAgg164
  z164 := Tryz.sizeOf164
  v164 := Tryz.zeroValue164 }
theorem extraRp : Builder.Extra Tryz.prog rpren := {
  sizeBuilder := by kernel_rfl
  liesBuilder := by kernel_rfl
  t5 := Tryz.underlying5
  a5 := Tryz.isAgg5
  z5 := Tryz.sizeOf5
  v5 := Tryz.zeroValue5
  infoByte := by kernel_rfl
  cellsByte := by kernel_rfl
  sizeByte := by kernel_rfl
  neB5 := by decide }
/-- A variable that holds an error, or none. -/
def ErrAt (g : Nat) (w : World) : Prop := ∃ ev, w.cell? ⟨g, 0, none⟩ = some ev ∧ (ev = .nilIface ∨ ∃ te pe, ev = .iface te pe)
theorem ErrAt.below {g : Nat} {w w' : World} (h : ErrAt g w) (hb : Below w.heap.size w w') : ErrAt g w' := by
  obtain ⟨ev, h1, h2⟩ := h
  exact ⟨ev, (hb.cell (World.block_lt_of_cell? _ _ h1)).trans h1, h2⟩
/-- The library's two errors. -/
def Errs (w : World) : Prop := ErrAt 6 w ∧ ErrAt 7 w
theorem Errs.below {w w' : World} (h : Errs w) (hb : Below w.heap.size w w') : Errs w' := ⟨h.1.below hb, h.2.below hb⟩
theorem atoi_ok (ds : List UInt8) (n : Int) (w : World) (hl : ds.length ≤ 1000000) (h : Lib.atoiAll ds = .ok n) :
    Calls Tryz.prog 231 #[.string (txt ds)] w fun e w' => e = .returned (.tuple #[.int .i64 n, .nilIface]) ∧ Below w.heap.size w w' := by
  refine (Any.strconv_Atoi_ok laysC172 (txt ds) (by rw [txt_size]; omega) n h w).mono ?_
  rintro e w' ⟨rfl, rfl | ⟨t, rfl⟩⟩
  · exact ⟨rfl, Below.refl _ _⟩
  · exact ⟨rfl, Lib.bytesWorld_below _ _ _⟩
theorem atoi_empty (w : World) (hT : Errs w) :
    Calls Tryz.prog 231 #[.string (txt [])] w fun e w' => ∃ N, e = .returned (.tuple #[.int .i64 0, .iface 222 (.pointer (some ⟨N, 0, none⟩))]) ∧ Below w.heap.size w w' := by
  obtain ⟨ev, h1, h2⟩ := hT.1
  refine (Any.strconv_Atoi_syntax laysC172 (txt []) (by decide) rfl ev w h1 h2).mono ?_
  rintro e w' ⟨N, rfl, _, _, hb⟩
  exact ⟨N, rfl, hb⟩
theorem atoi_range (ds : List UInt8) (w : World) (hl : ds.length ≤ 1000000) (h : Lib.atoiAll ds = .range) (hs : Lib.atoiSat ds = 9223372036854775807) (hT : Errs w) :
    Calls Tryz.prog 231 #[.string (txt ds)] w fun e w' => ∃ N, e = .returned (.tuple #[.int .i64 9223372036854775807, .iface 222 (.pointer (some ⟨N, 0, none⟩))]) ∧ Below w.heap.size w w' := by
  obtain ⟨ev, h1, h2⟩ := hT.2
  refine (Any.strconv_Atoi_range laysC172 (txt ds) (by rw [txt_size]; omega) h ev w h1 h2).mono ?_
  rintro e w' ⟨N, rfl, _, _, hb⟩
  exact ⟨N, by rw [show (txt ds).data.toList = ds from rfl, hs]; rfl, hb⟩
theorem itoa_any (n : Nat) (w : World) (hn : n ≤ 1000000) (hT : Tens w) :
    Calls Tryz.prog 224 #[.int .i64 n] w fun e w' => e = .returned (.string (txt (decD n))) ∧ Below w.heap.size w w' := by
  refine (Any.strconv_Itoa laysM171 (n : Int) (by omega) (by omega) w hT).mono ?_
  rintro e w' ⟨rfl, k, os, rfl⟩
  rw [Lib.itoa_nonneg, decDigits_eq]
  exact ⟨rfl, Lib.below_grow _ _ (Nat.le_refl _) k os⟩
theorem repeat_noughts (c : Nat) (w : World) (hc : c ≤ 1000000) :
    Calls Tryz.prog 221 #[.string ⟨#[48]⟩, .int .i64 c] w fun e w' => e = .returned (.string (txt (List.replicate c 48))) ∧ Below w.heap.size w w' := by
  refine (Any.strings_Repeat lays105 extraRp ⟨#[48]⟩ c w (by omega) (by show 1 * c ≤ _; omega)).mono ?_
  rintro e w' ⟨rfl, hb⟩
  refine ⟨?_, hb⟩
  have : ∀ c, Lib.repeatL [48] c = List.replicate c (48 : UInt8) := by
    intro c
    induction c with
    | zero => rfl
    | succ c ih =>
      show [48] ++ Lib.repeatL [48] c = _
      rw [ih]; rfl
  show Ending.returned (.string ⟨(Lib.repeatL [48] c).toArray⟩) = _
  rw [this]; rfl
end Go.Proofs.YtfjfkkbgkjmghaaGreatDoor

namespace Go.Proofs.YtfjfkkbgkjmghaaGreatDoor
open Go.RowKit
set_option maxRecDepth 100000
/-- The signs of a text. -/
def SignsOf (g : ByteArray) (p : UInt8 → Bool) : Prop := ∀ c, (p c = true → 0 ≤ Lib.indexByte g.data.toList c) ∧ (p c = false → Lib.indexByte g.data.toList c < 0)
theorem signs_one {d : UInt8} {p : UInt8 → Bool} (h : ∀ c, p c = true ↔ c = d) : SignsOf ⟨#[d]⟩ p := by
  intro c
  have e : Lib.indexByte [d] c = if d == c then 0 else -1 := by
    unfold Lib.indexByte
    split <;> rfl
  show (_ → 0 ≤ Lib.indexByte [d] c) ∧ (_ → Lib.indexByte [d] c < 0)
  rw [e]
  constructor
  · intro g
    obtain rfl := (h c).1 g
    simp
  · intro g
    have : ¬ c = d := fun x => by rw [(h c).2 x] at g; cases g
    have : (d == c) = false := by simp; exact fun x => this x.symm
    rw [this]; decide
theorem signs_sep : SignsOf ⟨#[84, 32]⟩ isSep := by
  intro c
  have e : Lib.indexByte [84, 32] c = if (84 : UInt8) == c then 0 else if (32 : UInt8) == c then 1 else -1 := by
    unfold Lib.indexByte Lib.indexByte
    cases (84 : UInt8) == c <;> cases (32 : UInt8) == c <;> rfl
  show (_ → 0 ≤ Lib.indexByte [84, 32] c) ∧ (_ → Lib.indexByte [84, 32] c < 0)
  rw [e]
  unfold isSep
  rw [show (c == 84) = ((84 : UInt8) == c) from BEq.comm, show (c == 32) = ((32 : UInt8) == c) from BEq.comm]
  cases (84 : UInt8) == c <;> cases (32 : UInt8) == c <;> simp
theorem signs_hy : SignsOf ⟨#[45]⟩ isHy := signs_one isHy_iff
theorem signs_col : SignsOf ⟨#[58]⟩ isCol := signs_one isCol_iff
theorem signs_pt : SignsOf ⟨#[46]⟩ isPt := signs_one isPt_iff
theorem signs_W : SignsOf ⟨#[87]⟩ isW := signs_one isW_iff
set_option maxHeartbeats 1000000 in
theorem next_no (w0 : World) (R : Nat) (l : List UInt8) (b : Bool) (g : ByteArray) (p : UInt8 → Bool) (w : World) (h : Rd w0 w R l b) (hl : l.length ≤ 1000000) (hp : SignsOf g p) (hn : signP p l = none) :
    Calls Tryz.prog 194 #[.pointer (some ⟨R, 0, none⟩), .string g] w fun e w' => e = .returned (.bool false) ∧ w' = w := by
  cases l with
  | nil =>
    have c0 : w.cell? ⟨R, 0, none⟩ = some (.string ⟨#[]⟩) := h.cell0
    clear hp hn h
    go_enter Tryz.func194, Tryz.ntmps194
    go_wp2_with fail
    go_ret
    exact ⟨rfl, rfl⟩
  | cons c r =>
    obtain ⟨s, hse⟩ : ∃ s : ByteArray, c :: r = s.data.toList := ⟨txt (c :: r), rfl⟩
    have hs1 : s.size = r.length + 1 := by
      have := congrArg List.length hse
      simpa using this.symm
    have hs : 0 < s.size := by omega
    have hs2 : s.size ≤ 1000000 := by rw [hs1]; exact hl
    have hc : c = s[0] := by
      have : s[0] = s.data.toList[0]'(by simpa using hs) := by simp; rfl
      rw [this]; simp [← hse]
    rw [hse] at h
    have c0 : w.cell? ⟨R, 0, none⟩ = some (.string s) := h.cell0
    have hpc : p s[0] = false := by
      rw [← hc]
      cases e : p c with
      | false => rfl
      | true => rw [sign_cons, e] at hn; cases hn
    have hi := (hp s[0]).2 hpc
    have hne : ¬ s.toList = [] := by rw [ByteArray.toList_eq, ← hse]; simp
    have hne2 : s.toList.isEmpty = false := by rw [ByteArray.toList_eq, ← hse]; rfl
    have HI := hide (fun w => indexByte_is g s[0] w)
    generalize Lib.indexByte g.data.toList s[0] = x at hi HI
    clear hp hn h hse hc hpc hs1 hl
    go_enter Tryz.func194, Tryz.ntmps194
    go_wp2_with fail
    refine (HI.out _).mono ?_
    rintro e v ⟨rfl, rfl⟩
    go_wp2_with fail
    go_ret
    exact ⟨rfl, rfl⟩
set_option maxHeartbeats 1000000 in
theorem next_yes (w0 : World) (R : Nat) (l k : List UInt8) (b : Bool) (g : ByteArray) (p : UInt8 → Bool) (w : World) (h : Rd w0 w R l b) (hl : l.length ≤ 1000000) (hp : SignsOf g p) (hn : signP p l = some (0, k)) :
    Calls Tryz.prog 194 #[.pointer (some ⟨R, 0, none⟩), .string g] w fun e w' => e = .returned (.bool true) ∧ Rd w0 w' R k b := by
  cases l with
  | nil => cases hn
  | cons c r =>
    obtain ⟨s, hse⟩ : ∃ s : ByteArray, c :: r = s.data.toList := ⟨txt (c :: r), rfl⟩
    have hs1 : s.size = r.length + 1 := by
      have := congrArg List.length hse
      simpa using this.symm
    have hs : 0 < s.size := by omega
    have hs2 : s.size ≤ 1000000 := by rw [hs1]; exact hl
    have hc : c = s[0] := by
      have : s[0] = s.data.toList[0]'(by simpa using hs) := by simp; rfl
      rw [this]; simp [← hse]
    have hpc : p c = true ∧ r = k := by
      rw [sign_cons] at hn
      split at hn
      · rename_i e; cases hn; exact ⟨e, rfl⟩
      · cases hn
    obtain ⟨hpc, rfl⟩ := hpc
    rw [hc] at hpc
    have hi := (hp s[0]).1 hpc
    have hne : ¬ s.toList = [] := by rw [ByteArray.toList_eq, ← hse]; simp
    have hne2 : s.toList.isEmpty = false := by rw [ByteArray.toList_eq, ← hse]; rfl
    have HI := hide (fun w => indexByte_is g s[0] w)
    have hdr : r = s.data.toList.drop 1 := by rw [← hse]; rfl
    rw [hse] at h
    have c0 : w.cell? ⟨R, 0, none⟩ = some (.string s) := h.cell0
    have f0 := h.frozen 0
    have E := hide (show Rd w0 (w.setCell ⟨R, 0, none⟩ (.string (s.extract 1 s.size))) R r b by
      rw [txt_post, hdr]; exact h.set0 _)
    generalize Lib.indexByte g.data.toList s[0] = x at hi HI
    clear hp hn h hse hc hpc hs1 hdr hl
    go_enter Tryz.func194, Tryz.ntmps194
    go_wp2_with fail
    refine (HI.out _).mono ?_
    rintro e v ⟨rfl, rfl⟩
    go_wp2_with fail
    go_ret
    exact ⟨rfl, E.out⟩
theorem sign_len {p : UInt8 → Bool} {l k : List UInt8} {v : Int} (h : signP p l = some (v, k)) : k.length ≤ l.length := by
  cases l with
  | nil => cases h
  | cons c r =>
    rw [sign_cons] at h
    split at h
    · cases h; simp
    · cases h
set_option maxHeartbeats 1000000 in
theorem sign_any (w0 : World) (R : Nat) (l : List UInt8) (b : Bool) (g : ByteArray) (p : UInt8 → Bool) (w : World) (h : Rd w0 w R l b) (hl : l.length ≤ 1000000) (hp : SignsOf g p) :
    Calls Tryz.prog 187 #[.pointer (some ⟨R, 0, none⟩), .string g] w fun e w' => ∃ k b', e = .returned (.tuple #[]) ∧ Rd w0 w' R k b' ∧ k.length ≤ 1000000 ∧ Tell b (signP p l) 0 k b' := by
  cases hn : signP p l with
  | none =>
    have HN := hide (next_no w0 R l b g p w h hl hp hn)
    have HM := hide (must_any w0 R l b false w h)
    clear hp hn h
    go_enter Tryz.func187, Tryz.ntmps187
    go_wp2_with fail
    refine HN.out.mono ?_
    rintro e v ⟨rfl, rfl⟩
    go_wp2_with fail
    refine HM.out.mono ?_
    rintro e v ⟨rfl, h1⟩
    go_wp2_with fail
    go_end0
    exact ⟨l, _, rfl, h1, hl, .inr ⟨by simp, .inr rfl⟩⟩
  | some x =>
    obtain ⟨v, k⟩ := x
    have hv : v = 0 := by
      cases l with
      | nil => cases hn
      | cons c r =>
        rw [sign_cons] at hn
        split at hn
        · cases hn; rfl
        · cases hn
    subst hv
    have HN := hide (next_yes w0 R l k b g p w h hl hp hn)
    have hk : k.length ≤ 1000000 := Nat.le_trans (sign_len hn) hl
    clear hp hn h
    go_enter Tryz.func187, Tryz.ntmps187
    go_wp2_with fail
    refine HN.out.mono ?_
    rintro e v ⟨rfl, h1⟩
    go_wp2_with fail
    refine (must_any w0 R k b true v h1).mono ?_
    rintro e v2 ⟨rfl, h2⟩
    go_wp2_with fail
    go_end0
    refine ⟨k, b, rfl, by simpa using h2, hk, Tell.pure⟩

end Go.Proofs.YtfjfkkbgkjmghaaGreatDoor
