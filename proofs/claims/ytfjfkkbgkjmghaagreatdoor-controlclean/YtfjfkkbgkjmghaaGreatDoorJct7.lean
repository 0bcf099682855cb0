/- A range's value, cleaned. Blanks at the ends of texts, as lists of bytes. Ends of lines in texts, as lists of bytes. Addresses of mail as lists of bytes. What a value becomes when it is cleaned, by its kind and attributes. The document's digit, two, at, year. The document's at, year, day, clock. The document's day and clock. -/
import Derived.Test.YtfjfkkbgkjmghaaGreatDoorJct6
import Derived.Test.YtfjfkkbgkjmghaaGreatDoorJct8
import Derived.Lib.SlTrimSet

namespace Go.Proofs.YtfjfkkbgkjmghaaGreatDoor
open Go.RowKit
def defG (lo hi : Int) : Int := if hi < lo then lo else lo + (hi - lo) / 2
/-- Between the bounds. -/
def heldG (lo hi n : Int) : Int := if n < lo then lo else if hi < n ∧ lo ≤ hi then hi else n
def loG (n base st : Int) : Int := n - muchV n base st
/-- Onto the steps. -/
def ontoG (lo hi base st n : Int) : Int := if fitV n base st = true then n else
  if loG n base st + st ≤ hi ∧ (loG n base st + st - n ≤ n - loG n base st ∨ loG n base st < lo) then loG n base st + st else if lo ≤ loG n base st then loG n base st else n
def stepG (lo hi base : Int) (S : Option Int) (n : Int) : Int := match S with
  | none => n
  | some st => ontoG lo hi base st n
def rangeG (lo hi base : Int) (S own : Option Int) : Int := stepG lo hi base S (heldG lo hi (own.getD (defG lo hi)))
theorem def_in (lo hi : Int) : lo ≤ defG lo hi ∧ (defG lo hi ≤ hi ∨ hi < lo) := by
  unfold defG
  split <;> omega
theorem held_in (lo hi n : Int) : lo ≤ heldG lo hi n ∧ (heldG lo hi n ≤ hi ∨ hi < lo) := by
  unfold heldG
  split
  · omega
  · split <;> omega
theorem lo_fits {n base st : Int} (h : 1 ≤ st) : fitV (loG n base st) base st = true ∧ fitV (loG n base st + st) base st = true ∧ loG n base st ≤ n ∧ n < loG n base st + st := by
  have m := much_bounds (n := n) (base := base) h
  have f : fitV (loG n base st) base st = true := down_fits h
  have e : loG n base st % st = base % st := (of_decide_eq_true f).2
  refine ⟨f, decide_eq_true ⟨h, ?_⟩, ?_, ?_⟩
  · rw [Int.add_emod_right]; exact e
  · unfold loG; omega
  · unfold loG; omega
/-- What is put onto steps: it fits, or no number between the bounds does; it stays between the bounds. -/
theorem onto_is {lo hi base st n : Int} (h : 1 ≤ st) (h1 : lo ≤ n) (h2 : n ≤ hi ∨ hi < lo) :
    lo ≤ ontoG lo hi base st n ∧ (ontoG lo hi base st n ≤ hi ∨ hi < lo) ∧ (fitV (ontoG lo hi base st n) base st = true ∨ (ontoG lo hi base st n = n ∧ (hi < lo ∨ hi - lo < st))) := by
  obtain ⟨f1, f2, l1, l2⟩ := lo_fits (n := n) (base := base) h
  unfold ontoG
  split
  · rename_i q
    exact ⟨h1, h2, .inl q⟩
  · split
    · exact ⟨by omega, by omega, .inl f2⟩
    · split
      · exact ⟨by omega, by omega, .inl f1⟩
      · exact ⟨h1, h2, .inr ⟨rfl, by omega⟩⟩
theorem range_is {lo hi base : Int} {S own : Option Int} (hS : ∀ st, S = some st → 1 ≤ st) :
    lo ≤ rangeG lo hi base S own ∧ (rangeG lo hi base S own ≤ hi ∨ hi < lo) ∧ (∀ st, S = some st → fitV (rangeG lo hi base S own) base st = true ∨ hi < lo ∨ hi - lo < st) := by
  have hh := held_in lo hi (own.getD (defG lo hi))
  unfold rangeG
  cases S with
  | none => exact ⟨hh.1, hh.2, fun st e => by cases e⟩
  | some st =>
    have o := onto_is (base := base) (hS st rfl) hh.1 hh.2
    refine ⟨o.1, o.2.1, fun st' e => ?_⟩
    cases e
    rcases o.2.2 with q | ⟨_, q⟩
    · exact .inl q
    · exact .inr q
end Go.Proofs.YtfjfkkbgkjmghaaGreatDoor

namespace Go.Proofs.YtfjfkkbgkjmghaaGreatDoor
open Go.RowKit
def blanks : List UInt8 := [9, 10, 12, 13, 32]
def isBl (c : UInt8) : Bool := blanks.contains c
def stripL (l : List UInt8) : List UInt8 := Lib.trimS l blanks
def stripS (s : ByteArray) : ByteArray := txt (stripL s.data.toList)
theorem isBl_iff (c : UInt8) : isBl c = true ↔ (c.toNat : Int) = 9 ∨ (c.toNat : Int) = 10 ∨ (c.toNat : Int) = 12 ∨ (c.toNat : Int) = 13 ∨ (c.toNat : Int) = 32 := by
  have e : ∀ d : UInt8, c = d ↔ (c.toNat : Int) = (d.toNat : Int) := fun d => by rw [← UInt8.toNat_inj]; omega
  have : isBl c = true ↔ c = 9 ∨ c = 10 ∨ c = 12 ∨ c = 13 ∨ c = 32 := by
    unfold isBl blanks; simp
  rw [this, e 9, e 10, e 12, e 13, e 32]; rfl
theorem trimLeft_suffix (l : List UInt8) : Lib.trimLeftS l blanks <:+ l := List.dropWhile_suffix _
theorem stripL_le (l : List UInt8) : (stripL l).length ≤ l.length := by
  have h1 : (stripL l).length ≤ (Lib.trimRightS l blanks).length := (trimLeft_suffix _).length_le
  have h2 : (Lib.trimRightS l blanks).length ≤ l.length := by
    unfold Lib.trimRightS
    have := (List.dropWhile_suffix (fun x => blanks.contains x) (l := l.reverse)).length_le
    simpa using this
  omega
theorem stripS_size (s : ByteArray) : (stripS s).size ≤ s.size := by
  unfold stripS; rw [txt_size]; have := stripL_le s.data.toList; simpa using this
/-- What two loops, from the left and from the right, find. -/
theorem stripL_found (l : List UInt8) (p q : Nat) (h1 : p ≤ q) (h2 : q ≤ l.length) (hl : ∀ j b, j < p → l[j]? = some b → isBl b = true) (hr : ∀ j b, q ≤ j → l[j]? = some b → isBl b = true)
    (hp : ∀ b, l[p]? = some b → isBl b = false) (hq : q = p ∨ ∀ b, l[q - 1]? = some b → isBl b = false) : stripL l = (l.drop p).take (q - p) := by
  rcases hq with rfl | hq
  · have e0 : Lib.trimRightS l blanks = l.take 0 := Lib.trimRightS_take l blanks 0 (Nat.zero_le _) (fun j b _ hb => by
      rcases Nat.lt_or_ge j q with h | h
      · exact hl j b h hb
      · exact hr j b h hb) (fun b h => absurd h (by omega))
    unfold stripL Lib.trimS
    rw [e0, Nat.sub_self]
    simp [Lib.trimLeftS]
  have hqb : ∀ b, 0 < q → l[q - 1]? = some b → isBl b = false := fun b _ hb => hq b hb
  unfold stripL Lib.trimS
  rw [Lib.trimRightS_take l blanks q h2 (fun j b hj hb => hr j b hj hb) hqb]
  have := Lib.trimLeftS_drop (l.take q) blanks p (by simp; omega) (fun j b hj hb => hl j b hj (by rw [List.getElem?_take_of_lt (by omega)] at hb; exact hb)) (fun b hb => by
    rw [List.getElem?_take] at hb
    split at hb
    · exact hp b hb
    · cases hb)
  rw [this, List.drop_take]
theorem at_some (s : ByteArray) (k : Nat) (h : k < s.size) : s.data.toList[k]? = some s[k] := by
  rw [List.getElem?_eq_getElem (by simpa using h)]; rfl
theorem at_none (s : ByteArray) (k : Nat) (h : s.size ≤ k) : s.data.toList[k]? = none := List.getElem?_eq_none (by simpa using h)
/-- All bytes ahead of k are blanks. -/
def LeftB (s : ByteArray) (k : Nat) : Prop := ∀ j b, j < k → s.data.toList[j]? = some b → isBl b = true
/-- All bytes from k on are blanks. -/
def RightB (s : ByteArray) (k : Nat) : Prop := ∀ j b, k ≤ j → s.data.toList[j]? = some b → isBl b = true
/-- The byte at k, if there is one, is none. -/
def NoneB (s : ByteArray) (k : Nat) : Prop := ∀ b, s.data.toList[k]? = some b → isBl b = false
theorem leftB_zero (s : ByteArray) : LeftB s 0 := fun j b h => absurd h (by omega)
theorem leftB_succ {s : ByteArray} {k : Nat} (h : LeftB s k) (hk : k < s.size) (hb : isBl s[k] = true) : LeftB s (k + 1) := fun j b hj e => by
  rcases Nat.lt_or_ge j k with h' | h'
  · exact h j b h' e
  · obtain rfl : j = k := by omega
    rw [at_some s j hk] at e; cases e; exact hb
theorem rightB_end (s : ByteArray) : RightB s s.size := fun j b hj e => by rw [at_none s j hj] at e; cases e
theorem rightB_pred {s : ByteArray} {k : Nat} (h : RightB s (k + 1)) (hk : k < s.size) (hb : isBl s[k] = true) : RightB s k := fun j b hj e => by
  rcases Nat.lt_or_ge k j with h' | h'
  · exact h j b h' e
  · obtain rfl : j = k := by omega
    rw [at_some s j hk] at e; cases e; exact hb
theorem noneB_at {s : ByteArray} {k : Nat} (hk : k < s.size) (hb : isBl s[k] = false) : NoneB s k := fun b e => by rw [at_some s k hk] at e; cases e; exact hb
theorem noneB_end {s : ByteArray} {k : Nat} (hk : s.size ≤ k) : NoneB s k := fun b e => by rw [at_none s k hk] at e; cases e
theorem stripS_found {s : ByteArray} {p q : Nat} (h1 : p ≤ q) (h2 : q ≤ s.size) (hl : LeftB s p) (hr : RightB s q) (hp : NoneB s p) (hq : q = p ∨ NoneB s (q - 1)) : stripS s = s.extract p q := by
  unfold stripS
  rw [stripL_found s.data.toList p q h1 (by simpa using h2) hl hr hp hq]
  unfold txt
  congr 1
  apply Array.ext'
  simp
end Go.Proofs.YtfjfkkbgkjmghaaGreatDoor

namespace Go.Proofs.YtfjfkkbgkjmghaaGreatDoor
open Go.RowKit
/-- What a byte c behind a byte p becomes. -/
def piece (e : List UInt8) (p c : UInt8) : List UInt8 := if c = 10 ∧ p = 13 then [] else if c = 10 ∨ c = 13 then e else [c]
def endsP (e : List UInt8) : UInt8 → List UInt8 → List UInt8
  | _, [] => []
  | p, c :: r => piece e p c ++ endsP e c r
def endsS (e s : ByteArray) : ByteArray := txt (endsP e.data.toList 0 s.data.toList)
def prevAt (s : ByteArray) (k : Nat) : UInt8 := if k = 0 then 0 else byteAt s (k - 1)
theorem piece_none {e : List UInt8} {p c : UInt8} (h1 : c = 10) (h2 : p = 13) : piece e p c = [] := by unfold piece; rw [if_pos ⟨h1, h2⟩]
theorem piece_end {e : List UInt8} {p c : UInt8} (h1 : ¬ (c = 10 ∧ p = 13)) (h2 : c = 10 ∨ c = 13) : piece e p c = e := by unfold piece; rw [if_neg h1, if_pos h2]
theorem piece_byte {e : List UInt8} {p c : UInt8} (h1 : c ≠ 10) (h2 : c ≠ 13) : piece e p c = [c] := by
  unfold piece; rw [if_neg (fun h => h1 h.1), if_neg (fun h => h.elim h1 h2)]
theorem piece_le (e : List UInt8) (p c : UInt8) (h : e.length ≤ 2) : (piece e p c).length ≤ 2 := by
  unfold piece; split
  · simp
  · split
    · exact h
    · simp
theorem endsP_snoc (e : List UInt8) (c : UInt8) : ∀ (l : List UInt8) (p : UInt8), endsP e p (l ++ [c]) = endsP e p l ++ piece e (l.getLastD p) c
  | [], p => by simp [endsP]
  | a :: r, p => by
    have ih := endsP_snoc e c r a
    have hl : (a :: r).getLastD p = r.getLastD a := by cases r <;> rfl
    show piece e p a ++ endsP e a (r ++ [c]) = piece e p a ++ endsP e a r ++ _
    rw [ih, hl, List.append_assoc]
theorem endsP_le (e : List UInt8) (h : e.length ≤ 2) : ∀ (l : List UInt8) (p : UInt8), (endsP e p l).length ≤ 2 * l.length
  | [], p => by simp [endsP]
  | a :: r, p => by
    have ih := endsP_le e h r a
    have := piece_le e p a h
    simp only [endsP, List.length_append, List.length_cons]; omega
theorem getLastD_take (l : List UInt8) (k : Nat) (h : k < l.length) : (l.take (k + 1)).getLastD 0 = l.getD k 0 := by
  have : l.take (k + 1) = l.take k ++ [l[k]] := List.take_succ_eq_append_getElem h
  rw [this, List.getLastD_concat]
  simp [List.getD, h]
theorem last_take (s : ByteArray) (k : Nat) (h : k < s.size) : (s.data.toList.take k).getLastD 0 = prevAt s k := by
  unfold prevAt
  by_cases e : k = 0
  · subst e; simp
  · rw [if_neg e]
    obtain ⟨j, rfl⟩ : ∃ j, k = j + 1 := ⟨k - 1, by omega⟩
    exact getLastD_take _ _ (by simp; omega)
theorem endsP_take (e : List UInt8) (s : ByteArray) (k : Nat) (h : k < s.size) : endsP e 0 (s.data.toList.take (k + 1)) = endsP e 0 (s.data.toList.take k) ++ piece e (prevAt s k) (byteAt s k) := by
  rw [byteAt_take s k h, endsP_snoc, last_take s k h]
theorem take_len_le (s : ByteArray) (k : Nat) : (s.data.toList.take k).length ≤ k := List.length_take_le _ _
theorem endsP_take_le (e s : ByteArray) (k : Nat) (h : e.size ≤ 2) : (endsP e.data.toList 0 (s.data.toList.take k)).length ≤ 2 * k := by
  have := endsP_le e.data.toList (by simpa using h) (s.data.toList.take k) 0
  have := take_len_le s k
  omega
theorem take_all (s : ByteArray) : s.data.toList.take s.size = s.data.toList := List.take_of_length_le (by simp)
theorem b10 (c : UInt8) : c = 10 ↔ (c.toNat : Int) = 10 := by rw [← UInt8.toNat_inj]; simp; omega
theorem b13 (c : UInt8) : c = 13 ↔ (c.toNat : Int) = 13 := by rw [← UInt8.toNat_inj]; simp; omega
theorem prevAt_zero (s : ByteArray) : ¬ prevAt s 0 = 13 := by unfold prevAt; rw [if_pos rfl]; decide
theorem next_free (s : ByteArray) (k : Nat) (h : ¬ byteAt s k = 13) (_ : k + 1 < s.size) : ¬ (byteAt s (k + 1) = 10 ∧ prevAt s (k + 1) = 13) := by
  intro g; have := g.2; unfold prevAt at this; rw [if_neg (by omega)] at this; exact h this
theorem prevAt_eq (s : ByteArray) (k : Nat) (h : k < s.size) (h0 : 0 < k) : s[k - 1]'(by omega) = prevAt s k := by
  unfold prevAt; rw [if_neg (by omega)]; exact byteAt_eq s (k - 1) (by omega)
def linesS (s : ByteArray) : ByteArray := endsS ⟨#[10]⟩ s
def noBreaksS (s : ByteArray) : ByteArray := endsS ⟨#[]⟩ s
theorem endsS_size (e s : ByteArray) (h : e.size ≤ 2) : (endsS e s).size ≤ 2 * s.size := by
  unfold endsS; rw [txt_size]
  have := endsP_le e.data.toList (by simpa using h) s.data.toList 0
  simpa using this
end Go.Proofs.YtfjfkkbgkjmghaaGreatDoor

namespace Go.Proofs.YtfjfkkbgkjmghaaGreatDoor
open Go.RowKit
/-- A text ahead of the first of a row of texts. -/
def prep (a : List UInt8) : List (List UInt8) → List (List UInt8)
  | [] => [a]
  | h :: t => (a ++ h) :: t
/-- The texts between a sign. -/
def splitL (c : UInt8) : List UInt8 → List (List UInt8)
  | [] => [[]]
  | x :: l => if x = c then [] :: splitL c l else prep [x] (splitL c l)
theorem split_ne (c : UInt8) : ∀ l : List UInt8, splitL c l ≠ []
  | [] => by simp [splitL]
  | x :: l => by
    unfold splitL
    split
    · simp
    · cases h : splitL c l with
      | nil => simp [prep]
      | cons => simp [prep]
theorem prep_nil {c : UInt8} (l : List UInt8) : prep [] (splitL c l) = splitL c l := by
  cases h : splitL c l with
  | nil => exact absurd h (split_ne c l)
  | cons => rfl
theorem prep_prep (a b : List UInt8) (m : List (List UInt8)) : prep a (prep b m) = prep (a ++ b) m := by
  cases m with
  | nil => rfl
  | cons h t => show (a ++ (b ++ h)) :: t = (a ++ b ++ h) :: t; rw [List.append_assoc]
theorem split_hit {c : UInt8} (l : List UInt8) : splitL c (c :: l) = [] :: splitL c l := if_pos rfl
theorem split_miss {c x : UInt8} (l : List UInt8) (h : ¬ x = c) : splitL c (x :: l) = prep [x] (splitL c l) := if_neg h
theorem split_alone {c : UInt8} : ∀ {l : List UInt8}, c ∉ l → splitL c l = [l]
  | [], _ => rfl
  | x :: l, h => by
    rw [split_miss l (fun e => h (by rw [e]; exact List.mem_cons_self ..)), split_alone (fun e => h (List.mem_cons_of_mem _ e))]
    rfl
theorem split_sign {c : UInt8} : ∀ {a : List UInt8} (l : List UInt8), c ∉ a → splitL c (a ++ c :: l) = a :: splitL c l
  | [], l, _ => split_hit l
  | x :: a, l, h => by
    rw [List.cons_append, split_miss _ (fun e => h (by rw [e]; exact List.mem_cons_self ..)), split_sign l (fun e => h (List.mem_cons_of_mem _ e))]
    rfl
/-- Texts with a sign between. -/
def joinL (c : UInt8) : List (List UInt8) → List UInt8
  | [] => []
  | [a] => a
  | a :: b :: t => a ++ c :: joinL c (b :: t)
theorem join_snoc (c : UInt8) : ∀ (ps : List (List UInt8)) (q : List UInt8), ps ≠ [] → joinL c (ps ++ [q]) = joinL c ps ++ c :: q
  | [], _, h => absurd rfl h
  | [a], q, _ => rfl
  | a :: b :: t, q, _ => by
    show a ++ c :: joinL c (b :: (t ++ [q])) = (a ++ c :: joinL c (b :: t)) ++ c :: q
    have := join_snoc c (b :: t) q (by simp)
    rw [List.cons_append] at this
    rw [this]; simp
theorem join_len (c : UInt8) : ∀ (ps : List (List UInt8)), (joinL c ps).length ≤ (ps.map List.length).sum + ps.length
  | [] => by simp [joinL]
  | [a] => by simp [joinL]
  | a :: b :: t => by
    have ih := join_len c (b :: t)
    show (a ++ c :: joinL c (b :: t)).length ≤ _
    simp only [List.length_append, List.length_cons, List.map_cons, List.sum_cons] at ih ⊢
    omega
def noBrL (l : List UInt8) : List UInt8 := endsP [] 0 l
def trimM (l : List UInt8) : List UInt8 := stripL (noBrL l)
def cleanM (l : List UInt8) : List UInt8 := joinL 44 ((splitL 44 l).map stripL)
end Go.Proofs.YtfjfkkbgkjmghaaGreatDoor

namespace Go.Proofs.YtfjfkkbgkjmghaaGreatDoor
open Go.RowKit
theorem most_range (k : Int) (ax : List (ByteArray × ByteArray)) : -1000000000000000000 ≤ optI (mostK k ax) ∧ optI (mostK k ax) ≤ 1000000000000000000 := by
  have l := least_range k ax
  unfold mostK
  split
  · exact attr_range k ax maxS
  · split
    · show -1000000000000000000 ≤ (if 100000000 < optI (leastK k ax) then optI (leastK k ax) else 100000000) ∧ (if 100000000 < optI (leastK k ax) then optI (leastK k ax) else 100000000) ≤ 1000000000000000000
      split <;> omega
    · exact ⟨by decide, by decide⟩
def loK (ax : List (ByteArray × ByteArray)) : Int := optI (leastK 14 ax)
def hiK (ax : List (ByteArray × ByteArray)) : Int := optI (mostK 14 ax)
/-- The number of a range's value, cleaned. -/
def rangeK (ax : List (ByteArray × ByteArray)) (l : List UInt8) : Int := rangeG (loK ax) (hiK ax) (baseK 14 ax) (stepK 14 ax) (numK 14 l)
def rangeT (ax : List (ByteArray × ByteArray)) (l : List UInt8) : List UInt8 := if numK 14 l = some (rangeK ax l) then l else showL (rangeK ax l)
theorem rangeK_is (ax : List (ByteArray × ByteArray)) (l : List UInt8) : loK ax ≤ rangeK ax l ∧ (rangeK ax l ≤ hiK ax ∨ hiK ax < loK ax) ∧ (∀ st, stepK 14 ax = some st → fitV (rangeK ax l) (baseK 14 ax) st = true ∨ hiK ax < loK ax ∨ hiK ax - loK ax < st) :=
  range_is (fun _ h => (step_range 14 ax h).1)
theorem onto_bound {lo hi base st n B : Int} (h : 1 ≤ st) (hn : n ≤ B) (hh : hi ≤ B) : ontoG lo hi base st n ≤ B := by
  obtain ⟨_, _, l1, l2⟩ := lo_fits (n := n) (base := base) h
  unfold ontoG
  split
  · exact hn
  · split
    · omega
    · split <;> omega
theorem rangeK_range (ax : List (ByteArray × ByteArray)) (l : List UInt8) : -1000000000000000000 ≤ rangeK ax l ∧ rangeK ax l ≤ 1000000000000000000 := by
  have a := least_range 14 ax
  have b := most_range 14 ax
  have r := rangeK_is ax l
  have ha : loK ax = optI (leastK 14 ax) := rfl
  have hb : hiK ax = optI (mostK 14 ax) := rfl
  refine ⟨by omega, ?_⟩
  have hd := def_in (loK ax) (hiK ax)
  have hn : (numK 14 l).getD (defG (loK ax) (hiK ax)) ≤ 1000000000000000000 := by
    cases h : numK 14 l with
    | none =>
      show defG (loK ax) (hiK ax) ≤ _
      unfold defG
      split <;> omega
    | some n => exact (num_range h).2
  have hh : heldG (loK ax) (hiK ax) ((numK 14 l).getD (defG (loK ax) (hiK ax))) ≤ 1000000000000000000 := by
    unfold heldG
    split
    · omega
    · split <;> omega
  unfold rangeK rangeG
  cases hS : stepK 14 ax with
  | none => exact hh
  | some st => exact onto_bound (step_range 14 ax hS).1 hh (by omega)
def multS : ByteArray := ⟨#[109, 117, 108, 116, 105, 112, 108, 101]⟩
/-- What a value becomes. -/
def CleanIs (k : Int) (ax : List (ByteArray × ByteArray)) (l t : List UInt8) : Prop :=
  ((k = 2 ∨ k = 3 ∨ k = 4 ∨ k = 7) ∧ t = noBrL l) ∨ (k = 5 ∧ t = trimM l) ∨ (k = 6 ∧ (findA ax multS).isSome = true ∧ t = cleanM l) ∨ (k = 6 ∧ (findA ax multS).isSome = false ∧ t = trimM l) ∨
  ((k = 8 ∨ k = 9 ∨ k = 10 ∨ k = 11 ∨ k = 13) ∧ (numK k l).isSome = true ∧ t = l) ∨ ((k = 8 ∨ k = 9 ∨ k = 10 ∨ k = 11 ∨ k = 13) ∧ (numK k l).isSome = false ∧ t = []) ∨
  (k = 12 ∧ numK 12 l = none ∧ t = []) ∨ (k = 12 ∧ ∃ n, numK 12 l = some n ∧ ShK 12 n (some t)) ∨ (k = 14 ∧ t = rangeT ax l) ∨ (k = 15 ∧ t = cleanL l) ∨ ((k < 2 ∨ 15 < k) ∧ t = l)
theorem clean_some (k : Int) (ax : List (ByteArray × ByteArray)) (l : List UInt8) : ∃ t, CleanIs k ax l t := by
  rcases (show (k = 2 ∨ k = 3 ∨ k = 4 ∨ k = 7) ∨ k = 5 ∨ k = 6 ∨ (k = 8 ∨ k = 9 ∨ k = 10 ∨ k = 11 ∨ k = 13) ∨ k = 12 ∨ k = 14 ∨ k = 15 ∨ (k < 2 ∨ 15 < k) by omega) with h | h | h | h | h | h | h | h
  · exact ⟨_, .inl ⟨h, rfl⟩⟩
  · exact ⟨_, .inr (.inl ⟨h, rfl⟩)⟩
  · cases q : (findA ax multS).isSome with
    | true => exact ⟨_, .inr (.inr (.inl ⟨h, q, rfl⟩))⟩
    | false => exact ⟨_, .inr (.inr (.inr (.inl ⟨h, q, rfl⟩)))⟩
  · cases q : (numK k l).isSome with
    | true => exact ⟨_, .inr (.inr (.inr (.inr (.inl ⟨h, q, rfl⟩))))⟩
    | false => exact ⟨_, .inr (.inr (.inr (.inr (.inr (.inl ⟨h, q, rfl⟩)))))⟩
  · cases q : numK 12 l with
    | none => exact ⟨_, .inr (.inr (.inr (.inr (.inr (.inr (.inl ⟨h, q, rfl⟩))))))⟩
    | some n =>
      obtain ⟨t, ht⟩ := shk_num q
      exact ⟨t, .inr (.inr (.inr (.inr (.inr (.inr (.inr (.inl ⟨h, n, q, ht⟩)))))))⟩
  · exact ⟨_, .inr (.inr (.inr (.inr (.inr (.inr (.inr (.inr (.inl ⟨h, rfl⟩))))))))⟩
  · exact ⟨_, .inr (.inr (.inr (.inr (.inr (.inr (.inr (.inr (.inr (.inl ⟨h, rfl⟩)))))))))⟩
  · exact ⟨_, .inr (.inr (.inr (.inr (.inr (.inr (.inr (.inr (.inr (.inr ⟨h, rfl⟩)))))))))⟩
end Go.Proofs.YtfjfkkbgkjmghaaGreatDoor

namespace Go.Proofs.YtfjfkkbgkjmghaaGreatDoor
open Go.RowKit
set_option maxRecDepth 100000
/-- Is there a digit at a place? -/
def digV (s : ByteArray) (k : Nat) : Bool := decide (k < s.size) && isDg (byteAt s k)
theorem dig_in {s : ByteArray} {k : Nat} (h : k < s.size) : digV s k = isDg s[k] := by
  unfold digV; rw [decide_eq_true h, Bool.true_and, byteAt_eq s k h]
theorem dig_out {s : ByteArray} {k : Nat} (h : ¬ k < s.size) : digV s k = false := by
  unfold digV; rw [decide_eq_false h, Bool.false_and]
set_option maxHeartbeats 1000000 in
theorem digit_any (s : ByteArray) (k : Nat) (w : World) (_hs : s.size ≤ 100000) (_hk : k ≤ 200000) :
    Calls Tryz.prog 169 #[.string s, .int .i64 k] w fun e w' => e = .returned (.bool (digV s k)) ∧ w' = w := by
  by_cases h : k < s.size
  · rw [dig_in h]
    rcases (show (s[k].toNat : Int) < 48 ∨ (48 ≤ (s[k].toNat : Int) ∧ 57 < (s[k].toNat : Int)) ∨ (48 ≤ (s[k].toNat : Int) ∧ (s[k].toNat : Int) ≤ 57) by omega) with h1 | ⟨h1, h2⟩ | ⟨h1, h2⟩
    · have E := hide ((isDg_not s[k]).2 (by omega))
      go_enter Tryz.func169, Tryz.ntmps169
      go_wp2_with fail
      go_ret
      exact ⟨ret_bool E.out.symm, rfl⟩
    · have E := hide ((isDg_not s[k]).2 (by omega))
      go_enter Tryz.func169, Tryz.ntmps169
      go_wp2_with fail
      go_ret
      exact ⟨ret_bool (by first | exact E.out.symm | (rw [E.out]; exact decide_eq_false (by omega))), rfl⟩
    · have E := hide ((isDg_iff s[k]).2 (by omega))
      go_enter Tryz.func169, Tryz.ntmps169
      go_wp2_with fail
      go_ret
      exact ⟨ret_bool (by first | exact E.out.symm | (rw [E.out]; exact decide_eq_true (by omega))), rfl⟩
  · have E := hide (dig_out h)
    have h' : s.size ≤ k := by omega
    clear h
    go_enter Tryz.func169, Tryz.ntmps169
    go_wp2_with fail
    go_ret
    exact ⟨ret_bool E.out.symm, rfl⟩
theorem index_at (s : ByteArray) (i : Int) (j : Nat) (h : i = j) (hj : j < s.size) (w : World) : (Instr.index 9 (.string s) (.int .i64 i)).run Tryz.prog w = .ok (.int .u8 (s[j].toNat : Int)) w := by
  subst h
  rw [run_index_string _ _ _ _ _ Tryz.underlying9, dif_pos ⟨by omega, by omega⟩]
  rfl
/-- The number of two digits at a place. -/
def twoAt (s : ByteArray) (k : Nat) : Int := if digV s k = true ∧ digV s (k + 1) = true then (10 * dg (byteAt s k) + dg (byteAt s (k + 1)) : Nat) else -1
theorem twoAt_in {s : ByteArray} {k : Nat} (h : k + 1 < s.size) : twoAt s k = twoV (byteAt s k) (byteAt s (k + 1)) := by
  unfold twoAt twoV
  rw [dig_in h, dig_in (by omega), byteAt_eq, byteAt_eq]
theorem dig_some {s : ByteArray} {k : Nat} (h : digV s k = true) : k < s.size ∧ isDg (byteAt s k) = true := by
  unfold digV at h
  simpa using h
set_option maxHeartbeats 1000000 in
theorem two_any (s : ByteArray) (k : Nat) (w : World) (hs : s.size ≤ 100000) (hk : k ≤ 150000) :
    Calls Tryz.prog 128 #[.string s, .int .i64 k] w fun e w' => e = .returned (.int .i64 (twoAt s k)) ∧ ∃ q, w' = w.drewN q := by
  have hA := fun w => digit_any s k w hs (by omega)
  have hB := fun w => digit_any s (k + 1) w hs (by omega)
  rw [show (((k + 1 : Nat)) : Int) = (k : Int) + 1 by omega] at hB
  unfold twoAt
  cases h1 : digV s k with
  | false =>
    rw [h1] at hA
    have HA := hide hA
    clear hA hB h1
    rw [if_neg (by simp)]
    go_enter Tryz.func128, Tryz.ntmps128
    go_wp2_with fail
    refine (HA.out _).mono ?_
    rintro e u1 ⟨rfl, rfl⟩
    go_wp2_with fail
    go_ret
    exact ⟨rfl, 0, rfl⟩
  | true =>
    rw [h1] at hA
    cases h2 : digV s (k + 1) with
    | false =>
      rw [h2] at hB
      have HA := hide hA
      have HB := hide hB
      clear hA hB h1 h2
      rw [if_neg (by simp)]
      go_enter Tryz.func128, Tryz.ntmps128
      go_wp2_with fail
      refine (HA.out _).mono ?_
      rintro e u1 ⟨rfl, rfl⟩
      go_wp2_with fail
      refine (HB.out _).mono ?_
      rintro e u1 ⟨rfl, rfl⟩
      go_wp2_with fail
      go_ret
      exact ⟨rfl, 0, rfl⟩
    | true =>
      rw [h2] at hB
      have ⟨k1, d1⟩ := dig_some h1
      have ⟨k2, d2⟩ := dig_some h2
      rw [← byteAt_eq s k k1, ← byteAt_eq s (k + 1) k2] at *
      have b1 := (isDg_iff _).1 d1
      have b2 := (isDg_iff _).1 d2
      have c1 : 48 ≤ (s[k].toNat : Int) ∧ (s[k].toNat : Int) ≤ 57 := by omega
      have c2 : 48 ≤ (s[k + 1].toNat : Int) ∧ (s[k + 1].toNat : Int) ≤ 57 := by omega
      have k3 : (k : Int) + 1 < (s.size : Int) := by omega
      have HA := hide hA
      have HB := hide hB
      have E := hide (show (((10 * dg s[k] + dg s[k + 1] : Nat)) : Int) = ((s[k].toNat : Int) - 48) * 10 + ((s[k + 1].toNat : Int) - 48) by unfold dg; omega)
      have hx := fun w => index_at s ((k : Int) + 1) (k + 1) (by omega) k2 w
      clear hA hB h1 h2 d1 d2 b1 b2
      rw [if_pos ⟨rfl, rfl⟩]
      go_enter Tryz.func128, Tryz.ntmps128
      go_wp2_with fail
      refine (HA.out _).mono ?_
      rintro e u1 ⟨rfl, rfl⟩
      go_wp2_with fail
      refine (HB.out _).mono ?_
      rintro e u1 ⟨rfl, rfl⟩
      go_wp2_with fail
      go_quiet (fail)
      go_wp2_with fail
      go_ret
      exact ⟨ret_int E.out.symm, _, rfl⟩
end Go.Proofs.YtfjfkkbgkjmghaaGreatDoor

namespace Go.Proofs.YtfjfkkbgkjmghaaGreatDoor
open Go.RowKit
set_option maxRecDepth 100000
theorem drop_one {s : ByteArray} {k : Nat} (hk : k < s.size) : s.data.toList.drop k = s[k] :: s.data.toList.drop (k + 1) := by
  have : s[k] = s.data.toList[k]'(by simpa using hk) := by simp; rfl
  rw [this]; exact List.drop_eq_getElem_cons _
/-- Does the sign c stand at a place? -/
def atV (s : ByteArray) (k : Nat) (c : UInt8) : Bool := decide (k < s.size ∧ byteAt s k = c)
theorem at_out {s : ByteArray} {k : Nat} {c : UInt8} (h : ¬ k < s.size) : atV s k c = false := decide_eq_false (fun x => h x.1)
theorem at_in {s : ByteArray} {k : Nat} {c : UInt8} (h : k < s.size) : atV s k c = (s[k] == c) := by
  unfold atV
  rw [byteAt_eq s k h]
  by_cases e : byteAt s k = c
  · rw [decide_eq_true ⟨h, e⟩]; simp [e]
  · rw [decide_eq_false (fun x => e x.2)]; simp [e]
theorem ext_one {s : ByteArray} {k : Nat} (h : k < s.size) : (s.extract k (k + 1)).toList = [s[k]] := by
  rw [ByteArray.toList_eq]
  have : (s.extract k (k + 1)).data.toList = (s.data.toList.drop k).take (k + 1 - k) := by simp
  rw [this, drop_one h, show k + 1 - k = 1 by omega]; rfl
theorem ext_two {s : ByteArray} {k : Nat} (h : k + 1 < s.size) : (s.extract k (k + 2)).toList = [s[k], s[k + 1]] := by
  rw [ByteArray.toList_eq]
  have : (s.extract k (k + 2)).data.toList = (s.data.toList.drop k).take (k + 2 - k) := by simp
  rw [this, drop_one (by omega), drop_one h, show k + 2 - k = 2 by omega]; rfl
set_option maxHeartbeats 1000000 in
theorem at1_any (s : ByteArray) (k : Nat) (c : UInt8) (w : World) (_hs : s.size ≤ 100000) (_hk : k ≤ 200000) :
    Calls Tryz.prog 129 #[.string s, .int .i64 k, .string ⟨#[c]⟩] w fun e w' => e = .returned (.bool (atV s k c)) ∧ w' = w := by
  by_cases h : k < s.size
  · have E := hide (at_in (c := c) h)
    have hz : (⟨#[c]⟩ : ByteArray).size = 1 := rfl
    have h2 : (1 : Int) ≤ (s.size : Int) - (k : Int) := by omega
    go_enter Tryz.func129, Tryz.ntmps129
    go_wp2_with fail
    go_ret
    exact ⟨ret_bool (by rw [E.out, ext_one h]; simp), rfl⟩
  · have E := hide (at_out (c := c) h)
    have hz : (⟨#[c]⟩ : ByteArray).size = 1 := rfl
    have h' : (s.size : Int) - (k : Int) < 1 := by omega
    clear h
    go_enter Tryz.func129, Tryz.ntmps129
    go_wp2_with fail
    go_ret
    exact ⟨ret_bool E.out.symm, rfl⟩
/-- Do the signs -W stand at a place? -/
def atW (s : ByteArray) (k : Nat) : Bool := decide (k + 1 < s.size ∧ byteAt s k = 45 ∧ byteAt s (k + 1) = 87)
theorem atW_out {s : ByteArray} {k : Nat} (h : ¬ k + 1 < s.size) : atW s k = false := decide_eq_false (fun x => h x.1)
theorem atW_in {s : ByteArray} {k : Nat} (h : k + 1 < s.size) : atW s k = ([s[k], s[k + 1]] == [45, 87]) := by
  unfold atW
  rw [byteAt_eq s k (by omega), byteAt_eq s (k + 1) h]
  by_cases e : byteAt s k = 45 ∧ byteAt s (k + 1) = 87
  · rw [decide_eq_true ⟨h, e⟩, e.1, e.2]; rfl
  · rw [decide_eq_false (fun x => e x.2)]
    symm
    simpa using e
set_option maxHeartbeats 1000000 in
theorem atW_any (s : ByteArray) (k : Nat) (w : World) (_hs : s.size ≤ 100000) (_hk : k ≤ 200000) :
    Calls Tryz.prog 129 #[.string s, .int .i64 k, .string ⟨#[45, 87]⟩] w fun e w' => e = .returned (.bool (atW s k)) ∧ w' = w := by
  by_cases h : k + 1 < s.size
  · have E := hide (atW_in h)
    have X := hide (ext_two h)
    have hz : (⟨#[45, 87]⟩ : ByteArray).size = 2 := rfl
    have h2 : (2 : Int) ≤ (s.size : Int) - (k : Int) := by omega
    go_enter Tryz.func129, Tryz.ntmps129
    go_wp2_with fail
    go_ret
    exact ⟨ret_bool (by rw [E.out, X.out]), rfl⟩
  · have E := hide (atW_out h)
    have hz : (⟨#[45, 87]⟩ : ByteArray).size = 2 := rfl
    have h' : (s.size : Int) - (k : Int) < 2 := by omega
    clear h
    go_enter Tryz.func129, Tryz.ntmps129
    go_wp2_with fail
    go_ret
    exact ⟨ret_bool E.out.symm, rfl⟩
/-- How many digits stand ahead. -/
def lead (s : ByteArray) : Nat := (s.data.toList.takeWhile isDg).length
theorem take_lead (l : List UInt8) : l.take (l.takeWhile isDg).length = l.takeWhile isDg := by
  have h : l = l.takeWhile isDg ++ l.dropWhile isDg := (List.takeWhile_append_dropWhile ..).symm
  have := congrArg (List.take (l.takeWhile isDg).length) h
  rw [this, List.take_left']; rfl
theorem drop_lead (l : List UInt8) : l.drop (l.takeWhile isDg).length = l.dropWhile isDg := by
  have h : l = l.takeWhile isDg ++ l.dropWhile isDg := (List.takeWhile_append_dropWhile ..).symm
  have := congrArg (List.drop (l.takeWhile isDg).length) h
  rw [this, List.drop_left']; rfl
theorem lead_le (s : ByteArray) : lead s ≤ s.size := by
  have h : s.data.toList = s.data.toList.takeWhile isDg ++ s.data.toList.dropWhile isDg := (List.takeWhile_append_dropWhile ..).symm
  have := congrArg List.length h
  rw [List.length_append] at this
  have e : s.data.toList.length = s.size := by simp
  unfold lead; omega
theorem lead_dig {s : ByteArray} {k : Nat} (h : k < lead s) : digV s k = true := by
  have h0 := lead_le s
  have hk : k < s.size := by omega
  rw [dig_in hk]
  have e := take_lead s.data.toList
  have hm : s[k] ∈ s.data.toList.takeWhile isDg := by
    rw [← e, List.mem_take_iff_getElem]
    have hk2 : k < (s.data.toList.takeWhile isDg).length := h
    have hk3 : k < s.data.toList.length := by simpa using hk
    refine ⟨k, by omega, ?_⟩
    simp; rfl
  have := List.all_takeWhile (p := isDg) (l := s.data.toList)
  exact List.all_eq_true.1 this _ hm
theorem lead_stop (s : ByteArray) : digV s (lead s) = false := by
  by_cases hk : lead s < s.size
  · rw [dig_in hk]
    have e := drop_lead s.data.toList
    have e2 : s.data.toList.drop (lead s) = s.data.toList.dropWhile isDg := e
    rw [drop_one hk] at e2
    have := List.head?_dropWhile_not isDg s.data.toList
    rw [← e2] at this
    simpa using this
  · exact dig_out hk
/-- A year's digits, read until they are beyond the bound. -/
def satF (n : Nat) : List UInt8 → Nat
  | [] => n
  | c :: l => satF (if n ≤ 275760 then 10 * n + dg c else n) l
theorem sat_snoc (n : Nat) (c : UInt8) : ∀ l : List UInt8, satF n (l ++ [c]) = if satF n l ≤ 275760 then 10 * satF n l + dg c else satF n l := by
  intro l
  induction l generalizing n with
  | nil => rfl
  | cons d l ih => exact ih _
theorem sat_stop (n : Nat) (h : 275760 < n) : ∀ l : List UInt8, satF n l = n := by
  intro l
  induction l with
  | nil => rfl
  | cons d l ih =>
    show satF (if _ then _ else _) l = _
    rw [if_neg (by omega)]; exact ih
theorem sat_is : ∀ (n : Nat) (l : List UInt8), n ≤ 275760 → (natFrom n l ≤ 275760 → satF n l = natFrom n l) ∧ (275760 < natFrom n l → 275760 < satF n l)
  | n, [], h => ⟨fun _ => rfl, fun g => g⟩
  | n, c :: l, h => by
    show (natFrom (10 * n + dg c) l ≤ _ → satF (if _ then _ else _) l = natFrom (10 * n + dg c) l) ∧ (_ < natFrom (10 * n + dg c) l → _ < satF (if _ then _ else _) l)
    rw [if_pos h]
    by_cases g : 10 * n + dg c ≤ 275760
    · exact sat_is _ l g
    · have a := natFrom_ge (10 * n + dg c) l
      rw [sat_stop _ (by omega)]
      exact ⟨fun x => by omega, fun _ => by omega⟩
/-- The year ahead in a text, and how many digits it has. -/
def yearP (s : ByteArray) : Int × Int :=
  match yrV (s.data.toList.takeWhile isDg) with
  | some y => (y, lead s)
  | none => (0, 0)
theorem yearP_is {s : ByteArray} {y : Int} (hy : y = (satF 0 (s.data.toList.takeWhile isDg) : Nat)) : yearP s = if lead s < 4 ∨ y < 1 ∨ 275760 < y then (0, 0) else (y, (lead s : Int)) := by
  have ⟨a, b⟩ := sat_is 0 (s.data.toList.takeWhile isDg) (by omega)
  have ea : natFrom 0 (s.data.toList.takeWhile isDg) = natOf (s.data.toList.takeWhile isDg) := rfl
  rw [ea] at a b
  unfold yearP yrV
  have el : (s.data.toList.takeWhile isDg).length = lead s := rfl
  rw [el]
  by_cases h : 4 ≤ lead s ∧ 1 ≤ natOf (s.data.toList.takeWhile isDg) ∧ natOf (s.data.toList.takeWhile isDg) ≤ 275760
  · have := a h.2.2
    rw [if_pos h, if_neg (by omega), hy, this]
  · rw [if_neg h, if_pos]
    by_cases g : natOf (s.data.toList.takeWhile isDg) ≤ 275760
    · have := a g; omega
    · have := b (by omega); omega
theorem ret_pair {p : Int × Int} {a b : Int} (h : p = (a, b)) : Ending.returned (.tuple #[.int .i64 a, .int .i64 b]) = .returned (.tuple #[.int .i64 p.1, .int .i64 p.2]) := by rw [h]
set_option maxHeartbeats 1000000 in
theorem year_any (s : ByteArray) (w : World) (hs : s.size ≤ 100000) :
    Calls Tryz.prog 126 #[.string s] w fun e w' => e = .returned (.tuple #[.int .i64 (yearP s).1, .int .i64 (yearP s).2]) ∧ w' = w := by
  have hle := lead_le s
  have hD := fun (k : Nat) (h : k < lead s) w => by
    have := digit_any s k w hs (by omega)
    rw [lead_dig h] at this; exact this
  have hX := fun w => by
    have := digit_any s (lead s) w hs (by omega)
    rw [lead_stop s] at this; exact this
  have HD := hide hD
  have HX := hide hX
  have HY := hide (fun y => yearP_is (s := s) (y := y))
  have HT : Hid (s.data.toList.take (lead s) = s.data.toList.takeWhile isDg) := take_lead _
  clear hD hX
  go_enter Tryz.func126, Tryz.ntmps126
  go_wp2_with fail
  go_loop [4, 5] (fun a b => ∃ (k : Nat) (y : Int), a = .int .i64 k ∧ b = .int .i64 y ∧ k ≤ lead s ∧ 0 ≤ y ∧ y ≤ 2757609 ∧ Hid (y = (satF 0 (s.data.toList.take k) : Nat))) (fun a _ => lead s - (intOf a).toNat)
  case atStart => exact ⟨0, 0, rfl, rfl, by omega, by omega, by omega, hide rfl⟩
  case round =>
    obtain ⟨k, y, rfl, rfl, hk, y1, y2, hy⟩ := hrel
    by_cases hlt : k < lead s
    · have hks : k < s.size := by omega
      have hsn := sat_snoc 0 s[k] (s.data.toList.take k)
      have etk : s.data.toList.take (k + 1) = s.data.toList.take k ++ [s[k]] := by rw [byteAt_take s k hks, byteAt_eq s k hks]
      rw [← etk] at hsn
      have hdg : isDg s[k] = true := by rw [← dig_in hks]; exact lead_dig hlt
      have hb := (isDg_iff _).1 hdg
      have hb1 : 48 ≤ (s[k].toNat : Int) := by omega
      have hb2 : (s[k].toNat : Int) ≤ 57 := by omega
      have hdd : ((dg s[k] : Nat) : Int) = (s[k].toNat : Int) - 48 := by unfold dg; omega
      have HK := hide (HD.out k hlt)
      by_cases hy3 : y ≤ 275760
      · have E : Hid (10 * y + ((s[k].toNat : Int) - 48) = (satF 0 (s.data.toList.take (k + 1)) : Nat)) := by
          show _ = _
          have := hy.out
          rw [hsn, if_pos (by omega)]; omega
        clear hsn hdg hb etk hdd
        go_wp2_with fail
        refine (HK.out _).mono ?_
        rintro e u1 ⟨rfl, rfl⟩
        go_wp2_with fail
        go_round
        case rel => exact ⟨k + 1, _, by go_num, rfl, by omega, by omega, by omega, E⟩
        case measure => simp [intOf]; omega
      · have E : Hid (y = (satF 0 (s.data.toList.take (k + 1)) : Nat)) := by
          show _ = _
          have := hy.out
          rw [hsn, if_neg (by omega)]; exact this
        have hy4 : 275760 < y := by omega
        clear hsn hdg hb etk hdd hy3
        go_wp2_with fail
        refine (HK.out _).mono ?_
        rintro e u1 ⟨rfl, rfl⟩
        go_wp2_with fail
        go_round
        case rel => exact ⟨k + 1, _, by go_num, rfl, by omega, by omega, by omega, E⟩
        case measure => simp [intOf]; omega
    · obtain rfl : k = lead s := by omega
      have hyp := HY.out y (by rw [hy.out, HT.out])
      clear hlt hk hy
      rcases (show (lead s : Int) < 4 ∨ (4 ≤ (lead s : Int) ∧ y < 1) ∨ (4 ≤ (lead s : Int) ∧ 1 ≤ y ∧ 275760 < y) ∨ (4 ≤ (lead s : Int) ∧ 1 ≤ y ∧ y ≤ 275760) by omega) with h | ⟨h, h'⟩ | ⟨h, h', h''⟩ | ⟨h, h', h''⟩
      · rw [if_pos (by omega)] at hyp
        have E := hide hyp
        clear hyp
        go_wp2_with fail
        refine (HX.out _).mono ?_
        rintro e u1 ⟨rfl, rfl⟩
        go_wp2_with fail
        go_ret2
        exact ⟨ret_pair E.out, rfl⟩
      · rw [if_pos (by omega)] at hyp
        have E := hide hyp
        clear hyp
        go_wp2_with fail
        refine (HX.out _).mono ?_
        rintro e u1 ⟨rfl, rfl⟩
        go_wp2_with fail
        go_ret2
        exact ⟨ret_pair E.out, rfl⟩
      · rw [if_pos (by omega)] at hyp
        have E := hide hyp
        clear hyp
        go_wp2_with fail
        refine (HX.out _).mono ?_
        rintro e u1 ⟨rfl, rfl⟩
        go_wp2_with fail
        go_ret2
        exact ⟨ret_pair E.out, rfl⟩
      · rw [if_neg (by omega)] at hyp
        have E := hide hyp
        clear hyp
        go_wp2_with fail
        refine (HX.out _).mono ?_
        rintro e u1 ⟨rfl, rfl⟩
        go_wp2_with fail
        go_ret2
        exact ⟨ret_pair E.out, rfl⟩
end Go.Proofs.YtfjfkkbgkjmghaaGreatDoor

namespace Go.Proofs.YtfjfkkbgkjmghaaGreatDoor
open Go.RowKit
set_option maxRecDepth 100000
/-- A number and whether there is one. -/
def outB : Option Int → Int × Bool
  | none => (0, false)
  | some n => (n, true)
theorem ret_outB {o : Option Int} {a : Int} {b : Bool} (h : outB o = (a, b)) : Ending.returned (.tuple #[.int .i64 a, .bool b]) = .returned (.tuple #[.int .i64 (outB o).1, .bool (outB o).2]) := by rw [h]
theorem list_size (s : ByteArray) : s.data.toList.length = s.size := by simp
theorem drop_end {s : ByteArray} {k : Nat} (h : s.size ≤ k) : s.data.toList.drop k = [] := List.drop_of_length_le (by simpa using h)
theorem drop_b {s : ByteArray} {k : Nat} (hk : k < s.size) : s.data.toList.drop k = byteAt s k :: s.data.toList.drop (k + 1) := by rw [drop_one hk, byteAt_eq s k hk]
theorem rest_lead (s : ByteArray) : s.data.toList.dropWhile isDg = s.data.toList.drop (lead s) := (drop_lead _).symm
theorem yearP_no {s : ByteArray} (h : yrV (s.data.toList.takeWhile isDg) = none) : yearP s = (0, 0) := by unfold yearP; rw [h]
theorem yearP_yes {s : ByteArray} {y : Int} (h : yrV (s.data.toList.takeWhile isDg) = some y) : yearP s = (y, (lead s : Int)) ∧ 4 ≤ lead s := by
  refine ⟨by unfold yearP; rw [h], ?_⟩
  unfold yrV at h
  split at h
  · rename_i g; exact g.1
  · cases h
theorem date_none {s : ByteArray} (h : yrV (s.data.toList.takeWhile isDg) = none) : dateT s.data.toList = none := by unfold dateT; rw [h]; rfl
theorem date_some_y {s : ByteArray} {y : Int} (h : yrV (s.data.toList.takeWhile isDg) = some y) : dateT s.data.toList = dateTail y (s.data.toList.drop (lead s)) := by
  unfold dateT; rw [h, rest_lead]; rfl
theorem dateTail_len {y : Int} : ∀ {l : List UInt8}, l.length ≠ 6 → dateTail y l = none
  | [], _ => rfl
  | [_], _ => rfl
  | [_, _], _ => rfl
  | [_, _, _], _ => rfl
  | [_, _, _, _], _ => rfl
  | [_, _, _, _, _], _ => rfl
  | [_, _, _, _, _, _], h => absurd rfl h
  | _ :: _ :: _ :: _ :: _ :: _ :: _ :: _, _ => rfl
theorem drop_len (s : ByteArray) (k : Nat) : (s.data.toList.drop k).length = s.size - k := by rw [List.length_drop, list_size]
theorem date_long {s : ByteArray} {y : Int} (h : yrV (s.data.toList.takeWhile isDg) = some y) (hs : s.size ≠ lead s + 6) : dateT s.data.toList = none := by
  have := lead_le s
  rw [date_some_y h, dateTail_len (by rw [drop_len]; omega)]
theorem date_six {s : ByteArray} {y : Int} (h : yrV (s.data.toList.takeWhile isDg) = some y) (hs : s.size = lead s + 6) :
    dateT s.data.toList = if byteAt s (lead s) = 45 ∧ byteAt s (lead s + 3) = 45 then numD y (twoAt s (lead s + 1)) (twoAt s (lead s + 4)) else none := by
  rw [date_some_y h, drop_b (by omega), drop_b (by omega), drop_b (by omega), drop_b (by omega), drop_b (by omega), drop_b (by omega), drop_end (by omega), dateTail_eq, twoAt_in (by omega), twoAt_in (by omega)]
theorem at_is {s : ByteArray} {k : Nat} {c : UInt8} (h : k < s.size) : atV s k c = decide (byteAt s k = c) := by
  unfold atV
  by_cases e : byteAt s k = c
  · rw [decide_eq_true ⟨h, e⟩, decide_eq_true e]
  · rw [decide_eq_false (fun x => e x.2), decide_eq_false e]
theorem twoAt_bounds (s : ByteArray) (k : Nat) : -1 ≤ twoAt s k ∧ twoAt s k ≤ 99 := by
  unfold twoAt
  split
  · rename_i h
    have := dg_lt (dig_some h.1).2
    have := dg_lt (dig_some h.2).2
    omega
  · omega
set_option maxHeartbeats 1000000 in
theorem day_any (s : ByteArray) (w : World) (hs : s.size ≤ 100000) :
    Calls Tryz.prog 127 #[.string s] w fun e w' => e = .returned (.tuple #[.int .i64 (outB ((dateT s.data.toList).map (· * 86400000))).1, .bool (outB ((dateT s.data.toList).map (· * 86400000))).2]) ∧ ∃ q, w' = w.drewN q := by
  have hY := fun w => year_any s w hs
  cases hy : yrV (s.data.toList.takeWhile isDg) with
  | none =>
    rw [yearP_no hy] at hY
    have E : Hid (outB ((dateT s.data.toList).map (· * 86400000)) = (0, false)) := by show _ = _; rw [date_none hy]; rfl
    have HY := hide hY
    clear hY hy
    go_enter Tryz.func127, Tryz.ntmps127
    go_wp2_with fail
    refine (HY.out _).mono ?_
    rintro e u1 ⟨rfl, rfl⟩
    go_wp2_with fail
    go_ret2
    exact ⟨ret_outB E.out, 0, rfl⟩
  | some y =>
    have ⟨e1, n4⟩ := yearP_yes hy
    have hle := lead_le s
    have yb := year_of hy
    rw [e1] at hY
    have hA := fun w => at1_any s (lead s) 45 w hs (by omega)
    have hB := fun w => at1_any s (lead s + 3) 45 w hs (by omega)
    have hC := fun w => two_any s (lead s + 1) w hs (by omega)
    have hD := fun w => two_any s (lead s + 4) w hs (by omega)
    rw [show ((lead s + 3 : Nat) : Int) = (lead s : Int) + 3 by omega] at hB
    rw [show ((lead s + 1 : Nat) : Int) = (lead s : Int) + 1 by omega] at hC
    rw [show ((lead s + 4 : Nat) : Int) = (lead s : Int) + 4 by omega] at hD
    by_cases hz : s.size = lead s + 6
    · rw [at_is (by omega)] at hA
      rw [at_is (by omega)] at hB
      have hx := date_six hy hz
      have bm := twoAt_bounds s (lead s + 1)
      have bd := twoAt_bounds s (lead s + 4)
      generalize twoAt s (lead s + 1) = m at *
      generalize twoAt s (lead s + 4) = d at *
      have z1 : ((lead s : Int) == 0) = false := beq_no (by omega)
      have z2 : ((s.size : Int) != (lead s : Int) + 6) = false := by
        rw [bne, beq_yes (by omega)]; rfl
      have HY := hide hY
      clear hY hy e1 n4 hle
      by_cases h1 : byteAt s (lead s) = 45
      · rw [decide_eq_true h1] at hA
        by_cases h2 : byteAt s (lead s + 3) = 45
        · rw [decide_eq_true h2] at hB
          rw [if_pos ⟨h1, h2⟩] at hx
          unfold numD at hx
          by_cases h3 : 1 ≤ d ∧ d ≤ LenV y m
          · rw [if_pos h3] at hx
            have hd := day_is h3.1 h3.2
            generalize newV y + aheadI y m + (d - 1) = k at *
            have bk := hd.bounds
            have hN := fun w => refNumber_in k y m d w hd
            have E : Hid (outB ((dateT s.data.toList).map (· * 86400000)) = (k * 86400000, true)) := by show _ = _; rw [hx]; rfl
            have HA := hide hA
            have HB := hide hB
            have HC := hide hC
            have HD := hide hD
            have HN := hide hN
            clear hA hB hC hD hN hx hd h1 h2 h3
            go_enter Tryz.func127, Tryz.ntmps127
            go_wp2_with fail
            refine (HY.out _).mono ?_
            rintro e u1 ⟨rfl, rfl⟩
            go_wp2_with fail
            refine (HA.out _).mono ?_
            rintro e u1 ⟨rfl, rfl⟩
            go_wp2_with fail
            refine (HB.out _).mono ?_
            rintro e u1 ⟨rfl, rfl⟩
            go_wp2_with fail
            refine (HC.out _).mono ?_
            rintro e u2 ⟨rfl, q2, rfl⟩
            go_wp2_with fail
            refine (HD.out _).mono ?_
            rintro e u3 ⟨rfl, q3, rfl⟩
            go_wp2_with fail
            refine (HN.out _).mono ?_
            rintro e u1 ⟨rfl, rfl⟩
            go_wp2_with fail
            go_ret2
            exact ⟨ret_outB E.out, _, rfl⟩
          · rw [if_neg h3] at hx
            have hN := fun w => refNumber_out y m d w (by omega) (by omega) (by omega) (by omega) h3
            have E : Hid (outB ((dateT s.data.toList).map (· * 86400000)) = (0, false)) := by show _ = _; rw [hx]; rfl
            have HA := hide hA
            have HB := hide hB
            have HC := hide hC
            have HD := hide hD
            have HN := hide hN
            clear hA hB hC hD hN hx h1 h2 h3
            go_enter Tryz.func127, Tryz.ntmps127
            go_wp2_with fail
            refine (HY.out _).mono ?_
            rintro e u1 ⟨rfl, rfl⟩
            go_wp2_with fail
            refine (HA.out _).mono ?_
            rintro e u1 ⟨rfl, rfl⟩
            go_wp2_with fail
            refine (HB.out _).mono ?_
            rintro e u1 ⟨rfl, rfl⟩
            go_wp2_with fail
            refine (HC.out _).mono ?_
            rintro e u2 ⟨rfl, q2, rfl⟩
            go_wp2_with fail
            refine (HD.out _).mono ?_
            rintro e u3 ⟨rfl, q3, rfl⟩
            go_wp2_with fail
            refine (HN.out _).mono ?_
            rintro e u1 ⟨rfl, rfl⟩
            go_wp2_with fail
            go_ret2
            exact ⟨ret_outB E.out, _, rfl⟩
        · rw [decide_eq_false h2] at hB
          rw [if_neg (fun x => h2 x.2)] at hx
          have E : Hid (outB ((dateT s.data.toList).map (· * 86400000)) = (0, false)) := by show _ = _; rw [hx]; rfl
          have HA := hide hA
          have HB := hide hB
          clear hA hB hC hD hx h1 h2
          go_enter Tryz.func127, Tryz.ntmps127
          go_wp2_with fail
          refine (HY.out _).mono ?_
          rintro e u1 ⟨rfl, rfl⟩
          go_wp2_with fail
          refine (HA.out _).mono ?_
          rintro e u1 ⟨rfl, rfl⟩
          go_wp2_with fail
          refine (HB.out _).mono ?_
          rintro e u1 ⟨rfl, rfl⟩
          go_wp2_with fail
          go_ret2
          exact ⟨ret_outB E.out, 0, rfl⟩
      · rw [decide_eq_false h1] at hA
        rw [if_neg (fun x => h1 x.1)] at hx
        have E : Hid (outB ((dateT s.data.toList).map (· * 86400000)) = (0, false)) := by show _ = _; rw [hx]; rfl
        have HA := hide hA
        clear hA hB hC hD hx h1
        go_enter Tryz.func127, Tryz.ntmps127
        go_wp2_with fail
        refine (HY.out _).mono ?_
        rintro e u1 ⟨rfl, rfl⟩
        go_wp2_with fail
        refine (HA.out _).mono ?_
        rintro e u1 ⟨rfl, rfl⟩
        go_wp2_with fail
        go_ret2
        exact ⟨ret_outB E.out, 0, rfl⟩
    · have E : Hid (outB ((dateT s.data.toList).map (· * 86400000)) = (0, false)) := by show _ = _; rw [date_long hy hz]; rfl
      have z1 : ((lead s : Int) == 0) = false := beq_no (by omega)
      have z2 : ((s.size : Int) != (lead s : Int) + 6) = true := by
        rw [bne, beq_no (by omega)]; rfl
      have HY := hide hY
      clear hY hy e1 n4 hz hA hB hC hD
      go_enter Tryz.func127, Tryz.ntmps127
      go_wp2_with fail
      refine (HY.out _).mono ?_
      rintro e u1 ⟨rfl, rfl⟩
      go_wp2_with fail
      go_ret2
      exact ⟨ret_outB E.out, 0, rfl⟩

end Go.Proofs.YtfjfkkbgkjmghaaGreatDoor
