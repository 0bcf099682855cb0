/- Joined texts. CleanP: A range's value, cleaned: its number between bounds and on steps; plain facts of no program. No condition. Strip: Blanks at the ends of texts, as lists of bytes: plain facts of no program. No condition. Ends: Ends of lines in texts, as lists of bytes: each end of a line (10, 13, or 13 and 10) becomes another text: plain facts of no program. No condition. Esc: Escapes of texts, as lists of bytes: what sets escape, there and back, blanks told by +; plain facts of no program. No condition. -/
import Derived.Test.YtpkpkpiphgjbaaaGreatDoorJcl2
import Derived.Lib.SlTrimSet
import Derived.Lib.Replace
namespace Go.Proofs.YtpkpkpiphgjbaaaGreatDoor
open Go.RowKit

def defG (lo hi : Int) : Int := if hi < lo then lo else lo + (hi - lo) / 2
/-- Between the bounds. -/
def heldG (lo hi n : Int) : Int := if n < lo then lo else if hi < n ∧ lo ≤ hi then hi else n
def loG (n base st : Int) : Int := n - muchV n base st
/-- Onto the steps. -/
def ontoG (lo hi base st n : Int) : Int := if fitV n base st = true then n else
  if loG n base st + st ≤ hi ∧ (loG n base st + st - n ≤ n - loG n base st ∨ loG n base st < lo) then loG n base st + st else if lo ≤ loG n base st then loG n base st else n
def stepG (lo hi base : Int) (S : Option Int) (n : Int) : Int := match S with
  | none => n
  | some st => ontoG lo hi base st n
def rangeG (lo hi base : Int) (S own : Option Int) : Int := stepG lo hi base S (heldG lo hi (own.getD (defG lo hi)))
theorem def_in (lo hi : Int) : lo ≤ defG lo hi ∧ (defG lo hi ≤ hi ∨ hi < lo) := by
  unfold defG
  split <;> omega
theorem held_in (lo hi n : Int) : lo ≤ heldG lo hi n ∧ (heldG lo hi n ≤ hi ∨ hi < lo) := by
  unfold heldG
  split
  · omega
  · split <;> omega
theorem held_same {lo hi n : Int} (h1 : lo ≤ n) (h2 : n ≤ hi ∨ hi < lo) : heldG lo hi n = n := by
  unfold heldG
  rw [if_neg (by omega), if_neg (by omega)]
theorem lo_fits {n base st : Int} (h : 1 ≤ st) : fitV (loG n base st) base st = true ∧ fitV (loG n base st + st) base st = true ∧ loG n base st ≤ n ∧ n < loG n base st + st := by
  have m := much_bounds (n := n) (base := base) h
  have f : fitV (loG n base st) base st = true := down_fits h
  have e : loG n base st % st = base % st := (of_decide_eq_true f).2
  refine ⟨f, decide_eq_true ⟨h, ?_⟩, ?_, ?_⟩
  · rw [Int.add_emod_right]; exact e
  · unfold loG; omega
  · unfold loG; omega
/-- What is put onto steps: it fits, or no number between the bounds does; it stays between the bounds. -/
theorem onto_is {lo hi base st n : Int} (h : 1 ≤ st) (h1 : lo ≤ n) (h2 : n ≤ hi ∨ hi < lo) :
    lo ≤ ontoG lo hi base st n ∧ (ontoG lo hi base st n ≤ hi ∨ hi < lo) ∧ (fitV (ontoG lo hi base st n) base st = true ∨ (ontoG lo hi base st n = n ∧ (hi < lo ∨ hi - lo < st))) := by
  obtain ⟨f1, f2, l1, l2⟩ := lo_fits (n := n) (base := base) h
  unfold ontoG
  split
  · rename_i q
    exact ⟨h1, h2, .inl q⟩
  · split
    · exact ⟨by omega, by omega, .inl f2⟩
    · split
      · exact ⟨by omega, by omega, .inl f1⟩
      · exact ⟨h1, h2, .inr ⟨rfl, by omega⟩⟩
theorem onto_again {lo hi base st n : Int} (h : 1 ≤ st) (h1 : lo ≤ n) (h2 : n ≤ hi ∨ hi < lo) : ontoG lo hi base st (ontoG lo hi base st n) = ontoG lo hi base st n := by
  rcases (onto_is (base := base) h h1 h2).2.2 with q | ⟨q, _⟩
  · generalize ontoG lo hi base st n = m at *
    unfold ontoG
    rw [if_pos q]
  · rw [q, q]
theorem range_is {lo hi base : Int} {S own : Option Int} (hS : ∀ st, S = some st → 1 ≤ st) :
    lo ≤ rangeG lo hi base S own ∧ (rangeG lo hi base S own ≤ hi ∨ hi < lo) ∧ (∀ st, S = some st → fitV (rangeG lo hi base S own) base st = true ∨ hi < lo ∨ hi - lo < st) := by
  have hh := held_in lo hi (own.getD (defG lo hi))
  unfold rangeG
  cases S with
  | none => exact ⟨hh.1, hh.2, fun st e => by cases e⟩
  | some st =>
    have o := onto_is (base := base) (hS st rfl) hh.1 hh.2
    refine ⟨o.1, o.2.1, fun st' e => ?_⟩
    cases e
    rcases o.2.2 with q | ⟨_, q⟩
    · exact .inl q
    · exact .inr q
/-- Cleaned again it is the same. -/
theorem range_again {lo hi base : Int} {S own : Option Int} (hS : ∀ st, S = some st → 1 ≤ st) : rangeG lo hi base S (some (rangeG lo hi base S own)) = rangeG lo hi base S own := by
  have hh := held_in lo hi (own.getD (defG lo hi))
  have r := range_is (lo := lo) (hi := hi) (base := base) (own := own) hS
  have e : rangeG lo hi base S (some (rangeG lo hi base S own)) = stepG lo hi base S (heldG lo hi (rangeG lo hi base S own)) := rfl
  rw [e, held_same r.1 r.2.1]
  cases S with
  | none => rfl
  | some st => exact onto_again (hS st rfl) hh.1 hh.2

end Go.Proofs.YtpkpkpiphgjbaaaGreatDoor

namespace Go.Proofs.YtpkpkpiphgjbaaaGreatDoor
open Go.RowKit

def blanks : List UInt8 := [9, 10, 12, 13, 32]
def isBl (c : UInt8) : Bool := blanks.contains c
def stripL (l : List UInt8) : List UInt8 := Lib.trimS l blanks
def stripS (s : ByteArray) : ByteArray := txt (stripL s.data.toList)

theorem isBl_iff (c : UInt8) : isBl c = true ↔ (c.toNat : Int) = 9 ∨ (c.toNat : Int) = 10 ∨ (c.toNat : Int) = 12 ∨ (c.toNat : Int) = 13 ∨ (c.toNat : Int) = 32 := by
  have e : ∀ d : UInt8, c = d ↔ (c.toNat : Int) = (d.toNat : Int) := fun d => by rw [← UInt8.toNat_inj]; omega
  have : isBl c = true ↔ c = 9 ∨ c = 10 ∨ c = 12 ∨ c = 13 ∨ c = 32 := by
    unfold isBl blanks; simp
  rw [this, e 9, e 10, e 12, e 13, e 32]; rfl

/-- No blank at either end. -/
def Ends (l : List UInt8) : Prop := (∀ b, l.head? = some b → isBl b = false) ∧ (∀ b, l.getLast? = some b → isBl b = false)

theorem trimLeft_of_head {l : List UInt8} (h : ∀ b, l.head? = some b → isBl b = false) : Lib.trimLeftS l blanks = l := by
  unfold Lib.trimLeftS
  cases l with
  | nil => rfl
  | cons a r => rw [List.dropWhile_cons, if_neg]; have := h a rfl; unfold isBl at this; rw [this]; decide
theorem trimRight_of_last {l : List UInt8} (h : ∀ b, l.getLast? = some b → isBl b = false) : Lib.trimRightS l blanks = l := by
  unfold Lib.trimRightS
  have := trimLeft_of_head (l := l.reverse) (fun b hb => h b (by rwa [List.head?_reverse] at hb))
  unfold Lib.trimLeftS at this
  rw [this, List.reverse_reverse]
theorem trimLeft_head (l : List UInt8) : ∀ b, (Lib.trimLeftS l blanks).head? = some b → isBl b = false := by
  intro b hb
  unfold Lib.trimLeftS at hb
  have := List.head?_dropWhile_not (p := fun x => blanks.contains x) l
  rw [hb] at this
  simpa [isBl] using this
theorem trimRight_last (l : List UInt8) : ∀ b, (Lib.trimRightS l blanks).getLast? = some b → isBl b = false := by
  intro b hb
  unfold Lib.trimRightS at hb
  rw [List.getLast?_reverse] at hb
  exact trimLeft_head l.reverse b hb
theorem trimLeft_suffix (l : List UInt8) : Lib.trimLeftS l blanks <:+ l := List.dropWhile_suffix _
theorem last_of_suffix {l m : List UInt8} (h : m <:+ l) {b : UInt8} (hb : m.getLast? = some b) : l.getLast? = some b := by
  obtain ⟨t, rfl⟩ := h
  rw [List.getLast?_append, hb]; rfl
theorem stripL_ends (l : List UInt8) : Ends (stripL l) :=
  ⟨trimLeft_head _, fun b hb => trimRight_last l b (last_of_suffix (trimLeft_suffix _) hb)⟩
theorem stripL_of_ends {l : List UInt8} (h : Ends l) : stripL l = l := by
  unfold stripL Lib.trimS; rw [trimRight_of_last h.2, trimLeft_of_head h.1]
theorem stripL_stripL (l : List UInt8) : stripL (stripL l) = stripL l := stripL_of_ends (stripL_ends l)
theorem stripS_stripS (s : ByteArray) : stripS (stripS s) = stripS s := by unfold stripS; rw [txt_data, stripL_stripL]

theorem trimRight_snoc {l : List UInt8} {b : UInt8} (h : isBl b = true) : Lib.trimRightS (l ++ [b]) blanks = Lib.trimRightS l blanks := by
  unfold Lib.trimRightS
  rw [List.reverse_append]
  show (List.dropWhile _ (b :: l.reverse)).reverse = _
  rw [List.dropWhile_cons, if_pos]
  exact h
theorem trimRight_cons (a : UInt8) (l : List UInt8) : Lib.trimRightS (a :: l) blanks = if Lib.trimRightS l blanks = [] then Lib.trimRightS [a] blanks else a :: Lib.trimRightS l blanks := by
  unfold Lib.trimRightS
  rw [List.reverse_cons, List.dropWhile_append]
  by_cases h : (List.dropWhile (fun x => blanks.contains x) l.reverse) = []
  · rw [h]; simp
  · have : (List.dropWhile (fun x => blanks.contains x) l.reverse).isEmpty = false := by simpa using h
    rw [this, if_neg (by decide), if_neg (by intro e; exact h (by simpa using e)), List.reverse_append]
    rfl
theorem stripL_cons {a : UInt8} {l : List UInt8} (h : isBl a = true) : stripL (a :: l) = stripL l := by
  have h1 : Lib.trimRightS [a] blanks = [] := trimRight_snoc (l := []) h
  have h2 : ∀ m : List UInt8, Lib.trimLeftS (a :: m) blanks = Lib.trimLeftS m blanks := fun m => by
    unfold Lib.trimLeftS; rw [List.dropWhile_cons, if_pos]; exact h
  unfold stripL Lib.trimS
  rw [trimRight_cons]
  by_cases e : Lib.trimRightS l blanks = []
  · rw [if_pos e, h1, e]
  · rw [if_neg e, h2]
theorem stripL_snoc {b : UInt8} {l : List UInt8} (h : isBl b = true) : stripL (l ++ [b]) = stripL l := by
  unfold stripL Lib.trimS; rw [trimRight_snoc h]
theorem stripL_le (l : List UInt8) : (stripL l).length ≤ l.length := by
  have h1 : (stripL l).length ≤ (Lib.trimRightS l blanks).length := (trimLeft_suffix _).length_le
  have h2 : (Lib.trimRightS l blanks).length ≤ l.length := by
    unfold Lib.trimRightS
    have := (List.dropWhile_suffix (fun x => blanks.contains x) (l := l.reverse)).length_le
    simpa using this
  omega
theorem stripS_size (s : ByteArray) : (stripS s).size ≤ s.size := by
  unfold stripS; rw [txt_size]; have := stripL_le s.data.toList; simpa using this

/-- What two loops, from the left and from the right, find. -/
theorem stripL_found (l : List UInt8) (p q : Nat) (h1 : p ≤ q) (h2 : q ≤ l.length) (hl : ∀ j b, j < p → l[j]? = some b → isBl b = true) (hr : ∀ j b, q ≤ j → l[j]? = some b → isBl b = true)
    (hp : ∀ b, l[p]? = some b → isBl b = false) (hq : q = p ∨ ∀ b, l[q - 1]? = some b → isBl b = false) : stripL l = (l.drop p).take (q - p) := by
  rcases hq with rfl | hq
  · have e0 : Lib.trimRightS l blanks = l.take 0 := Lib.trimRightS_take l blanks 0 (Nat.zero_le _) (fun j b _ hb => by
      rcases Nat.lt_or_ge j q with h | h
      · exact hl j b h hb
      · exact hr j b h hb) (fun b h => absurd h (by omega))
    unfold stripL Lib.trimS
    rw [e0, Nat.sub_self]
    simp [Lib.trimLeftS]
  have hqb : ∀ b, 0 < q → l[q - 1]? = some b → isBl b = false := fun b _ hb => hq b hb
  unfold stripL Lib.trimS
  rw [Lib.trimRightS_take l blanks q h2 (fun j b hj hb => hr j b hj hb) hqb]
  have := Lib.trimLeftS_drop (l.take q) blanks p (by simp; omega) (fun j b hj hb => hl j b hj (by rw [List.getElem?_take_of_lt (by omega)] at hb; exact hb)) (fun b hb => by
    rw [List.getElem?_take] at hb
    split at hb
    · exact hp b hb
    · cases hb)
  rw [this, List.drop_take]

theorem at_some (s : ByteArray) (k : Nat) (h : k < s.size) : s.data.toList[k]? = some s[k] := by
  rw [List.getElem?_eq_getElem (by simpa using h)]; rfl
theorem at_none (s : ByteArray) (k : Nat) (h : s.size ≤ k) : s.data.toList[k]? = none := List.getElem?_eq_none (by simpa using h)
/-- All bytes ahead of k are blanks. -/
def LeftB (s : ByteArray) (k : Nat) : Prop := ∀ j b, j < k → s.data.toList[j]? = some b → isBl b = true
/-- All bytes from k on are blanks. -/
def RightB (s : ByteArray) (k : Nat) : Prop := ∀ j b, k ≤ j → s.data.toList[j]? = some b → isBl b = true
/-- The byte at k, if there is one, is none. -/
def NoneB (s : ByteArray) (k : Nat) : Prop := ∀ b, s.data.toList[k]? = some b → isBl b = false
theorem leftB_zero (s : ByteArray) : LeftB s 0 := fun j b h => absurd h (by omega)
theorem leftB_succ {s : ByteArray} {k : Nat} (h : LeftB s k) (hk : k < s.size) (hb : isBl s[k] = true) : LeftB s (k + 1) := fun j b hj e => by
  rcases Nat.lt_or_ge j k with h' | h'
  · exact h j b h' e
  · obtain rfl : j = k := by omega
    rw [at_some s j hk] at e; cases e; exact hb
theorem rightB_end (s : ByteArray) : RightB s s.size := fun j b hj e => by rw [at_none s j hj] at e; cases e
theorem rightB_pred {s : ByteArray} {k : Nat} (h : RightB s (k + 1)) (hk : k < s.size) (hb : isBl s[k] = true) : RightB s k := fun j b hj e => by
  rcases Nat.lt_or_ge k j with h' | h'
  · exact h j b h' e
  · obtain rfl : j = k := by omega
    rw [at_some s j hk] at e; cases e; exact hb
theorem noneB_at {s : ByteArray} {k : Nat} (hk : k < s.size) (hb : isBl s[k] = false) : NoneB s k := fun b e => by rw [at_some s k hk] at e; cases e; exact hb
theorem noneB_end {s : ByteArray} {k : Nat} (hk : s.size ≤ k) : NoneB s k := fun b e => by rw [at_none s k hk] at e; cases e
theorem stripS_found {s : ByteArray} {p q : Nat} (h1 : p ≤ q) (h2 : q ≤ s.size) (hl : LeftB s p) (hr : RightB s q) (hp : NoneB s p) (hq : q = p ∨ NoneB s (q - 1)) : stripS s = s.extract p q := by
  unfold stripS
  rw [stripL_found s.data.toList p q h1 (by simpa using h2) hl hr hp hq]
  unfold txt
  congr 1
  apply Array.ext'
  simp

end Go.Proofs.YtpkpkpiphgjbaaaGreatDoor

namespace Go.Proofs.YtpkpkpiphgjbaaaGreatDoor
open Go.RowKit

/-- What a byte c behind a byte p becomes. -/
def piece (e : List UInt8) (p c : UInt8) : List UInt8 := if c = 10 ∧ p = 13 then [] else if c = 10 ∨ c = 13 then e else [c]
def endsP (e : List UInt8) : UInt8 → List UInt8 → List UInt8
  | _, [] => []
  | p, c :: r => piece e p c ++ endsP e c r
def endsS (e s : ByteArray) : ByteArray := txt (endsP e.data.toList 0 s.data.toList)
def prevAt (s : ByteArray) (k : Nat) : UInt8 := if k = 0 then 0 else byteAt s (k - 1)

theorem piece_none {e : List UInt8} {p c : UInt8} (h1 : c = 10) (h2 : p = 13) : piece e p c = [] := by unfold piece; rw [if_pos ⟨h1, h2⟩]
theorem piece_end {e : List UInt8} {p c : UInt8} (h1 : ¬ (c = 10 ∧ p = 13)) (h2 : c = 10 ∨ c = 13) : piece e p c = e := by unfold piece; rw [if_neg h1, if_pos h2]
theorem piece_byte {e : List UInt8} {p c : UInt8} (h1 : c ≠ 10) (h2 : c ≠ 13) : piece e p c = [c] := by
  unfold piece; rw [if_neg (fun h => h1 h.1), if_neg (fun h => h.elim h1 h2)]
theorem piece_le (e : List UInt8) (p c : UInt8) (h : e.length ≤ 2) : (piece e p c).length ≤ 2 := by
  unfold piece; split
  · simp
  · split
    · exact h
    · simp
theorem endsP_snoc (e : List UInt8) (c : UInt8) : ∀ (l : List UInt8) (p : UInt8), endsP e p (l ++ [c]) = endsP e p l ++ piece e (l.getLastD p) c
  | [], p => by simp [endsP]
  | a :: r, p => by
    have ih := endsP_snoc e c r a
    have hl : (a :: r).getLastD p = r.getLastD a := by cases r <;> rfl
    show piece e p a ++ endsP e a (r ++ [c]) = piece e p a ++ endsP e a r ++ _
    rw [ih, hl, List.append_assoc]
theorem endsP_le (e : List UInt8) (h : e.length ≤ 2) : ∀ (l : List UInt8) (p : UInt8), (endsP e p l).length ≤ 2 * l.length
  | [], p => by simp [endsP]
  | a :: r, p => by
    have ih := endsP_le e h r a
    have := piece_le e p a h
    simp only [endsP, List.length_append, List.length_cons]; omega
theorem getLastD_take (l : List UInt8) (k : Nat) (h : k < l.length) : (l.take (k + 1)).getLastD 0 = l.getD k 0 := by
  have : l.take (k + 1) = l.take k ++ [l[k]] := List.take_succ_eq_append_getElem h
  rw [this, List.getLastD_concat]
  simp [List.getD, h]
theorem last_take (s : ByteArray) (k : Nat) (h : k < s.size) : (s.data.toList.take k).getLastD 0 = prevAt s k := by
  unfold prevAt
  by_cases e : k = 0
  · subst e; simp
  · rw [if_neg e]
    obtain ⟨j, rfl⟩ : ∃ j, k = j + 1 := ⟨k - 1, by omega⟩
    exact getLastD_take _ _ (by simp; omega)
theorem endsP_take (e : List UInt8) (s : ByteArray) (k : Nat) (h : k < s.size) : endsP e 0 (s.data.toList.take (k + 1)) = endsP e 0 (s.data.toList.take k) ++ piece e (prevAt s k) (byteAt s k) := by
  rw [byteAt_take s k h, endsP_snoc, last_take s k h]
theorem take_len_le (s : ByteArray) (k : Nat) : (s.data.toList.take k).length ≤ k := List.length_take_le _ _
theorem endsP_take_le (e s : ByteArray) (k : Nat) (h : e.size ≤ 2) : (endsP e.data.toList 0 (s.data.toList.take k)).length ≤ 2 * k := by
  have := endsP_le e.data.toList (by simpa using h) (s.data.toList.take k) 0
  have := take_len_le s k
  omega
theorem take_all (s : ByteArray) : s.data.toList.take s.size = s.data.toList := List.take_of_length_le (by simp)
theorem b10 (c : UInt8) : c = 10 ↔ (c.toNat : Int) = 10 := by rw [← UInt8.toNat_inj]; simp; omega
theorem b13 (c : UInt8) : c = 13 ↔ (c.toNat : Int) = 13 := by rw [← UInt8.toNat_inj]; simp; omega
theorem prevAt_zero (s : ByteArray) : ¬ prevAt s 0 = 13 := by unfold prevAt; rw [if_pos rfl]; decide
theorem next_free (s : ByteArray) (k : Nat) (h : ¬ byteAt s k = 13) (_ : k + 1 < s.size) : ¬ (byteAt s (k + 1) = 10 ∧ prevAt s (k + 1) = 13) := by
  intro g; have := g.2; unfold prevAt at this; rw [if_neg (by omega)] at this; exact h this
theorem prevAt_eq (s : ByteArray) (k : Nat) (h : k < s.size) (h0 : 0 < k) : s[k - 1]'(by omega) = prevAt s k := by
  unfold prevAt; rw [if_neg (by omega)]; exact byteAt_eq s (k - 1) (by omega)

theorem again_one (f : List UInt8) : ∀ (l : List UInt8) (p q : UInt8), q ≠ 13 → endsP f q (endsP [10] p l) = endsP f p l
  | [], _, _, _ => rfl
  | c :: r, p, q, hq => by
    show endsP f q (piece [10] p c ++ endsP [10] c r) = piece f p c ++ endsP f c r
    by_cases h1 : c = 10 ∧ p = 13
    · rw [piece_none h1.1 h1.2, piece_none h1.1 h1.2, List.nil_append, List.nil_append]
      exact again_one f r c q hq
    · by_cases h2 : c = 10 ∨ c = 13
      · rw [piece_end h1 h2, piece_end h1 h2]
        show piece f q 10 ++ endsP f 10 (endsP [10] c r) = f ++ endsP f c r
        rw [piece_end (fun h => hq h.2) (.inl rfl), again_one f r c 10 (by decide)]
      · have g1 : c ≠ 10 := fun h => h2 (.inl h)
        have g2 : c ≠ 13 := fun h => h2 (.inr h)
        rw [piece_byte g1 g2, piece_byte g1 g2]
        show piece f q c ++ endsP f c (endsP [10] c r) = [c] ++ endsP f c r
        rw [piece_byte g1 g2, again_one f r c c g2]
theorem again_two (f : List UInt8) : ∀ (l : List UInt8) (p q : UInt8), endsP f q (endsP [13, 10] p l) = endsP f p l
  | [], _, _ => rfl
  | c :: r, p, q => by
    show endsP f q (piece [13, 10] p c ++ endsP [13, 10] c r) = piece f p c ++ endsP f c r
    by_cases h1 : c = 10 ∧ p = 13
    · rw [piece_none h1.1 h1.2, piece_none h1.1 h1.2, List.nil_append, List.nil_append]
      exact again_two f r c q
    · by_cases h2 : c = 10 ∨ c = 13
      · rw [piece_end h1 h2, piece_end h1 h2]
        show piece f q 13 ++ (piece f 13 10 ++ endsP f 10 (endsP [13, 10] c r)) = f ++ endsP f c r
        rw [piece_end (fun h => absurd h.1 (by decide)) (.inr rfl), piece_none rfl rfl, List.nil_append, again_two f r c 10]
      · have g1 : c ≠ 10 := fun h => h2 (.inl h)
        have g2 : c ≠ 13 := fun h => h2 (.inr h)
        rw [piece_byte g1 g2, piece_byte g1 g2]
        show piece f q c ++ endsP f c (endsP [13, 10] c r) = [c] ++ endsP f c r
        rw [piece_byte g1 g2, again_two f r c c]

def linesS (s : ByteArray) : ByteArray := endsS ⟨#[10]⟩ s
def pairsS (s : ByteArray) : ByteArray := endsS ⟨#[13, 10]⟩ s
def noBreaksS (s : ByteArray) : ByteArray := endsS ⟨#[]⟩ s
theorem ends_lines (f s : ByteArray) : endsS f (linesS s) = endsS f s := by
  unfold linesS endsS; rw [txt_data]; exact congrArg txt (again_one _ _ _ _ (by decide))
theorem ends_pairs (f s : ByteArray) : endsS f (pairsS s) = endsS f s := by
  unfold pairsS endsS; rw [txt_data]; exact congrArg txt (again_two _ _ _ _)
theorem endsS_size (e s : ByteArray) (h : e.size ≤ 2) : (endsS e s).size ≤ 2 * s.size := by
  unfold endsS; rw [txt_size]
  have := endsP_le e.data.toList (by simpa using h) s.data.toList 0
  simpa using this
theorem linesS_size (s : ByteArray) : (linesS s).size ≤ 2 * s.size := endsS_size _ _ (by decide)
theorem pairsS_size (s : ByteArray) : (pairsS s).size ≤ 2 * s.size := endsS_size _ _ (by decide)

end Go.Proofs.YtpkpkpiphgjbaaaGreatDoor

namespace Go.Proofs.YtpkpkpiphgjbaaaGreatDoor
open Go.RowKit

def repA (old new s : List UInt8) : List UInt8 := Lib.replaceK old new (Lib.count s old) s
theorem repA_all {old new : List UInt8} (h : old ≠ new) (s : List UInt8) : Lib.replaceAll s old new = repA old new s := by
  unfold Lib.replaceAll Lib.replace
  rw [if_neg (by simpa using h)]
  unfold Lib.replaceNum
  rw [if_pos (.inl (by decide))]; rfl
theorem repA_nil {old new : List UInt8} (h : old ≠ []) : repA old new [] = [] := by
  have : Lib.index [] old = -1 := by
    unfold Lib.index; rw [if_neg (by simpa using h)]
  unfold repA; rw [Lib.count_miss this]; rfl
theorem repA_hit {old new : List UInt8} (h : old ≠ []) (r : List UInt8) : repA old new (old ++ r) = new ++ repA old new r := by
  have hi : Lib.index (old ++ r) old = (0 : Nat) := Lib.index_first (Nat.zero_le _) (by simp [Lib.occAt]) (fun _ h => absurd h (Nat.not_lt_zero _))
  unfold repA
  rw [Lib.count_hit h hi, Nat.add_comm 1, Lib.replaceK_hit _ _ _ _ 0 hi]
  simp
theorem repA_miss {old new : List UInt8} (h : old ≠ []) (c : UInt8) (l : List UInt8) (hp : old.isPrefixOf (c :: l) = false) : repA old new (c :: l) = c :: repA old new l := by
  have e : Lib.index (c :: l) old = if Lib.index l old == -1 then -1 else Lib.index l old + 1 := by
    show (if old.isPrefixOf (c :: l) = true then (0 : Int) else _) = _
    rw [if_neg (by rw [hp]; decide)]
  have ge := Lib.index_ge l old
  by_cases g : Lib.index l old = -1
  · have e1 : Lib.index (c :: l) old = -1 := by rw [e, g]; rfl
    unfold repA; rw [Lib.count_miss g, Lib.count_miss e1]; rfl
  · obtain ⟨i, hi⟩ : ∃ i : Nat, Lib.index l old = i := ⟨(Lib.index l old).toNat, by omega⟩
    have e1 : Lib.index (c :: l) old = ((i + 1 : Nat) : Int) := by
      rw [e, if_neg (by simpa using g), hi]; rfl
    unfold repA
    rw [Lib.count_hit h hi, Lib.count_hit h e1, Nat.add_comm 1, Nat.add_comm 1, Lib.replaceK_hit _ _ _ _ i hi, Lib.replaceK_hit _ _ _ _ (i + 1) e1]
    have e2 : i + 1 + old.length = (i + old.length) + 1 := by omega
    rw [e2]; simp

/-- Does the byte stand in the list? -/
def hasB (l : List UInt8) (c : UInt8) : Bool := l.contains c

def querySg : List UInt8 := [32, 34, 35, 60, 62]
def pathSg : List UInt8 := [32, 34, 35, 60, 62, 63, 94, 123, 125, 96]
def userSg : List UInt8 := [32, 34, 35, 60, 62, 63, 94, 123, 125, 96, 47, 58, 59, 61, 64, 91, 92, 93, 124]
def partSg : List UInt8 := [32, 34, 35, 60, 62, 63, 94, 123, 125, 96, 47, 58, 59, 61, 64, 91, 92, 93, 124, 36, 37, 38, 43, 44]
def formSg : List UInt8 := [42, 45, 46, 95]
def signsOf : Nat → List UInt8
  | 1 => [32, 34, 60, 62, 96]
  | 2 => [32, 34, 35, 60, 62]
  | 3 => [32, 34, 35, 60, 62, 39]
  | 4 => pathSg
  | 5 => userSg
  | 6 => partSg
  | _ => []
def plainB (c : UInt8) : Bool := decide (48 ≤ c.toNat ∧ c.toNat ≤ 57 ∨ 65 ≤ c.toNat ∧ c.toNat ≤ 90 ∨ 97 ≤ c.toNat ∧ c.toNat ≤ 122)
def stays (c : UInt8) : Bool := plainB c || hasB formSg c
def ctl (c : UInt8) : Bool := decide (c.toNat < 32 ∨ 126 < c.toNat)
/-- Does the set escape the byte? -/
def escB (set : Int) (c : UInt8) : Bool := decide (0 ≤ set ∧ set ≤ 7) && (ctl c || if set = 7 then !stays c else hasB (signsOf set.toNat) c)

theorem escB_no {set : Int} (c : UInt8) (h : ¬ (0 ≤ set ∧ set ≤ 7)) : escB set c = false := by
  unfold escB; rw [decide_eq_false h]; rfl
theorem escB_ctl {set : Int} {c : UInt8} (h : 0 ≤ set ∧ set ≤ 7) (hc : c.toNat < 32 ∨ 126 < c.toNat) : escB set c = true := by
  unfold escB ctl; rw [decide_eq_true h, decide_eq_true hc]; rfl
theorem escB_form {c : UInt8} (hc : ¬ (c.toNat < 32 ∨ 126 < c.toNat)) : escB 7 c = !stays c := by
  unfold escB ctl; rw [decide_eq_false hc]; rfl
theorem escB_sign {set : Int} {c : UInt8} (h : 0 ≤ set ∧ set ≤ 6) (hc : ¬ (c.toNat < 32 ∨ 126 < c.toNat)) : escB set c = hasB (signsOf set.toNat) c := by
  unfold escB ctl; rw [decide_eq_false hc, decide_eq_true (by omega), if_neg (by omega)]; rfl
theorem escB_form_all : ∀ c : UInt8, escB 7 c = (!plainB c && !hasB formSg c) := by
  intro c
  have : ∀ n : Fin 256, escB 7 (UInt8.ofNat n.val) = (!plainB (UInt8.ofNat n.val) && !hasB formSg (UInt8.ofNat n.val)) := by decide +kernel
  have h := this ⟨c.toNat, c.toNat_lt⟩
  simpa using h

def hexD (n : Nat) : UInt8 := if n < 10 then UInt8.ofNat (48 + n) else UInt8.ofNat (55 + n)
def hexV (c : UInt8) : Int := if 48 ≤ c.toNat ∧ c.toNat ≤ 57 then c.toNat - 48 else if 65 ≤ c.toNat ∧ c.toNat ≤ 70 then c.toNat - 55 else if 97 ≤ c.toNat ∧ c.toNat ≤ 102 then c.toNat - 87 else -1
theorem hexV_lt (c : UInt8) : hexV c < 16 := by unfold hexV; split; omega; split; omega; split; omega; decide
theorem hexV_ge (c : UInt8) : -1 ≤ hexV c := by unfold hexV; split; omega; split; omega; split; omega; decide
theorem hexV_hexD : ∀ n : Fin 16, hexV (hexD n.val) = n.val := by decide
theorem hexD_ne : ∀ n : Fin 16, hexD n.val ≠ 37 ∧ hexD n.val ≠ 43 := by decide
/-- The byte of two digits. -/
def two (a b : UInt8) : UInt8 := UInt8.ofNat (hexV a * 16 + hexV b).toNat
theorem two_digits (c : UInt8) : two (hexD (c.toNat / 16)) (hexD (c.toNat % 16)) = c := by
  have hc := c.toNat_lt
  have h1 := hexV_hexD ⟨c.toNat / 16, by omega⟩
  have h2 := hexV_hexD ⟨c.toNat % 16, by omega⟩
  unfold two
  simp only at h1 h2
  rw [h1, h2]
  have : (((c.toNat / 16 : Nat) : Int) * 16 + ((c.toNat % 16 : Nat) : Int)).toNat = c.toNat := by omega
  rw [this]; simp

def encB (set : Int) (c : UInt8) : List UInt8 := if escB set c then [37, hexD (c.toNat / 16), hexD (c.toNat % 16)] else [c]
def encL (set : Int) (l : List UInt8) : List UInt8 := l.flatMap (encB set)
def encS (set : Int) (s : ByteArray) : ByteArray := txt (encL set s.data.toList)
theorem encB_yes {set : Int} {c : UInt8} (h : escB set c = true) : encB set c = [37, hexD (c.toNat / 16), hexD (c.toNat % 16)] := by unfold encB; rw [if_pos h]
theorem encB_not {set : Int} {c : UInt8} (h : escB set c = false) : encB set c = [c] := by unfold encB; rw [if_neg (by rw [h]; decide)]
theorem encB_len (set : Int) (c : UInt8) : (encB set c).length ≤ 3 := by unfold encB; split <;> simp
theorem encL_cons (set : Int) (c : UInt8) (l : List UInt8) : encL set (c :: l) = encB set c ++ encL set l := rfl
theorem encL_append (set : Int) (a b : List UInt8) : encL set (a ++ b) = encL set a ++ encL set b := by unfold encL; exact List.flatMap_append
theorem encL_len (set : Int) : ∀ l : List UInt8, (encL set l).length ≤ 3 * l.length
  | [] => by simp [encL]
  | c :: l => by
    have := encL_len set l
    have := encB_len set c
    rw [encL_cons, List.length_append, List.length_cons]; omega

def headE : List UInt8 → Option UInt8
  | c :: a :: b :: _ => if c = 37 ∧ 0 ≤ hexV a ∧ 0 ≤ hexV b then some (two a b) else none
  | _ => none
def decL : List UInt8 → List UInt8
  | [] => []
  | [c] => [c]
  | [c, a] => [c, a]
  | c :: a :: b :: r => if c = 37 ∧ 0 ≤ hexV a ∧ 0 ≤ hexV b then two a b :: decL r else c :: decL (a :: b :: r)
def decS (s : ByteArray) : ByteArray := txt (decL s.data.toList)
theorem headE3 (c a b : UInt8) (r : List UInt8) : headE (c :: a :: b :: r) = if c = 37 ∧ 0 ≤ hexV a ∧ 0 ≤ hexV b then some (two a b) else none := rfl
theorem decL_some {l : List UInt8} {v : UInt8} (h : headE l = some v) : decL l = v :: decL (l.drop 3) ∧ 3 ≤ l.length := by
  match l, h with
  | c :: a :: b :: r, h =>
    rw [headE3] at h
    by_cases g : c = 37 ∧ 0 ≤ hexV a ∧ 0 ≤ hexV b
    · rw [if_pos g] at h
      refine ⟨?_, by simp⟩
      rw [decL, if_pos g]; cases h; rfl
    · rw [if_neg g] at h; cases h
theorem decL_none {c : UInt8} {r : List UInt8} (h : headE (c :: r) = none) : decL (c :: r) = c :: decL r := by
  match r, h with
  | [], _ => rfl
  | [a], _ => rfl
  | a :: b :: r, h =>
    rw [headE3] at h
    by_cases g : c = 37 ∧ 0 ≤ hexV a ∧ 0 ≤ hexV b
    · rw [if_pos g] at h; cases h
    · rw [decL, if_neg g]
theorem headE_ne {c : UInt8} (r : List UInt8) (h : c ≠ 37) : headE (c :: r) = none := by
  match r with
  | [] => rfl
  | [a] => rfl
  | a :: b :: r => rw [headE3, if_neg (fun g => h g.1)]
theorem headE_short {l : List UInt8} (h : l.length < 3) : headE l = none := by
  match l with
  | [] => rfl
  | [c] => rfl
  | [c, a] => rfl
  | c :: a :: b :: r => simp at h; omega
theorem headE_yes {a b : UInt8} (r : List UInt8) (ha : 0 ≤ hexV a) (hb : 0 ≤ hexV b) : headE (37 :: a :: b :: r) = some (two a b) := by
  rw [headE3, if_pos ⟨rfl, ha, hb⟩]
theorem headE_noA {c a b : UInt8} (r : List UInt8) (ha : ¬ 0 ≤ hexV a) : headE (c :: a :: b :: r) = none := by
  rw [headE3, if_neg (fun g => ha g.2.1)]
theorem headE_noB {c a b : UInt8} (r : List UInt8) (hb : ¬ 0 ≤ hexV b) : headE (c :: a :: b :: r) = none := by
  rw [headE3, if_neg (fun g => hb g.2.2)]
theorem decL_len_n : ∀ (n : Nat) (l : List UInt8), l.length ≤ n → (decL l).length ≤ l.length
  | 0, l, h => by
    have : l = [] := List.eq_nil_of_length_eq_zero (by omega)
    subst this; simp [decL]
  | n + 1, [], _ => by simp [decL]
  | n + 1, c :: r, h => by
    cases g : headE (c :: r) with
    | none =>
      have := decL_len_n n r (by simpa using h)
      rw [decL_none g]; simpa using this
    | some v =>
      have e := decL_some g
      have := decL_len_n n ((c :: r).drop 3) (by simp at h ⊢; omega)
      rw [e.1]; simp at this ⊢; omega
theorem decL_len (l : List UInt8) : (decL l).length ≤ l.length := decL_len_n _ l (Nat.le_refl _)

theorem dec_enc {set : Int} : ∀ l : List UInt8, ((37 : UInt8) ∈ l → escB set 37 = true) → decL (encL set l) = l
  | [], _ => rfl
  | c :: l, h => by
    have ih := dec_enc l (fun hm => h (List.mem_cons_of_mem _ hm))
    have hc := c.toNat_lt
    rw [encL_cons]
    cases g : escB set c with
    | true =>
      have h1 := hexV_hexD ⟨c.toNat / 16, by omega⟩
      have h2 := hexV_hexD ⟨c.toNat % 16, by omega⟩
      simp only at h1 h2
      rw [encB_yes g]
      show decL (37 :: hexD (c.toNat / 16) :: hexD (c.toNat % 16) :: encL set l) = _
      rw [(decL_some (headE_yes _ (by omega) (by omega))).1, two_digits]
      show c :: decL (encL set l) = _
      rw [ih]
    | false =>
      rw [encB_not g]
      show decL (c :: encL set l) = _
      have hne : c ≠ 37 := by
        intro e; subst e
        rw [h (List.mem_cons_self ..)] at g; cases g
      rw [decL_none (headE_ne _ hne), ih]
theorem escB_part : escB 6 37 = true := by decide
theorem escB_form37 : escB 7 37 = true := by decide

def formB (c : UInt8) : List UInt8 := if c = 32 then [43] else encB 7 c
def formL (l : List UInt8) : List UInt8 := l.flatMap formB
def formS (s : ByteArray) : ByteArray := txt (formL s.data.toList)
theorem formL_cons (c : UInt8) (l : List UInt8) : formL (c :: l) = formB c ++ formL l := rfl
theorem formL_append (a b : List UInt8) : formL (a ++ b) = formL a ++ formL b := by unfold formL; exact List.flatMap_append
def unplus (l : List UInt8) : List UInt8 := l.map fun c => if c = 43 then 32 else c
def unformS (s : ByteArray) : ByteArray := txt (decL (unplus s.data.toList))
theorem formB_len (c : UInt8) : (formB c).length ≤ 3 := by
  unfold formB; split; simp; exact encB_len _ _
theorem formL_len : ∀ l : List UInt8, (formL l).length ≤ 3 * l.length
  | [] => by simp [formL]
  | c :: l => by
    have := formL_len l
    have := formB_len c
    rw [formL_cons, List.length_append, List.length_cons]; omega

theorem digits_of_blank (c : UInt8) (h1 : hexD (c.toNat / 16) = 50) (h2 : hexD (c.toNat % 16) = 48) : c = 32 := by
  have hc := c.toNat_lt
  have k1 := hexV_hexD ⟨c.toNat / 16, by omega⟩
  have k2 := hexV_hexD ⟨c.toNat % 16, by omega⟩
  simp only at k1 k2
  rw [h1] at k1; rw [h2] at k2
  have e1 : hexV 50 = 2 := by decide
  have e2 : hexV 48 = 0 := by decide
  rw [e1] at k1; rw [e2] at k2
  have : c.toNat = (32 : UInt8).toNat := by show c.toNat = 32; omega
  exact UInt8.toNat_inj.1 this

theorem pre_ne {c : UInt8} (r : List UInt8) (h : c ≠ 37) : ([37, 50, 48] : List UInt8).isPrefixOf (c :: r) = false := by
  have : ((37 : UInt8) == c) = false := by simpa using fun e => h e.symm
  simp [List.isPrefixOf, this]
theorem rep_enc : ∀ l : List UInt8, repA [37, 50, 48] [43] (encL 7 l) = formL l
  | [] => repA_nil (by decide)
  | c :: l => by
    have ih := rep_enc l
    have hc := c.toNat_lt
    rw [encL_cons, formL_cons]
    by_cases e : c = 32
    · subst e
      have e1 : encB 7 32 = [37, 50, 48] := by decide
      rw [e1, repA_hit (by decide), ih]; rfl
    · have ef : formB c = encB 7 c := by unfold formB; rw [if_neg e]
      rw [ef]
      cases g : escB 7 c with
      | true =>
        have n1 := (hexD_ne ⟨c.toNat / 16, by omega⟩).1
        have n2 := (hexD_ne ⟨c.toNat % 16, by omega⟩).1
        have nd := fun h1 h2 => e (digits_of_blank c h1 h2)
        simp only at n1 n2
        rw [encB_yes g]
        generalize hexD (c.toNat / 16) = a at *
        generalize hexD (c.toNat % 16) = b at *
        show repA _ _ (37 :: a :: b :: encL 7 l) = 37 :: a :: b :: formL l
        have hp : ([37, 50, 48] : List UInt8).isPrefixOf (37 :: a :: b :: encL 7 l) = false := by
          by_cases ha : a = 50
          · have hb : ((48 : UInt8) == b) = false := by simpa using fun h => nd ha h.symm
            simp [List.isPrefixOf, hb]
          · have ha : ((50 : UInt8) == a) = false := by simpa using fun h => ha h.symm
            simp [List.isPrefixOf, ha]
        rw [repA_miss (by decide) _ _ hp, repA_miss (by decide) _ _ (pre_ne _ n1), repA_miss (by decide) _ _ (pre_ne _ n2), ih]
      | false =>
        rw [encB_not g]
        have hne : c ≠ 37 := by intro e; subst e; rw [escB_form37] at g; cases g
        show repA _ _ (c :: encL 7 l) = c :: formL l
        rw [repA_miss (by decide) _ _ (pre_ne _ hne), ih]
theorem rep_plus : ∀ l : List UInt8, repA [43] [32] l = unplus l
  | [] => repA_nil (by decide)
  | c :: l => by
    have ih := rep_plus l
    by_cases e : c = 43
    · subst e
      have := repA_hit (old := [43]) (new := [32]) (by decide) l
      rw [show (43 : UInt8) :: l = [43] ++ l from rfl, this, ih]; rfl
    · have hp : ([43] : List UInt8).isPrefixOf (c :: l) = false := by
        have : ((43 : UInt8) == c) = false := by simpa using fun h => e h.symm
        simp [List.isPrefixOf, this]
      rw [repA_miss (by decide) _ _ hp, ih]
      unfold unplus; rw [List.map_cons, if_neg e]

theorem unplus_append (a b : List UInt8) : unplus (a ++ b) = unplus a ++ unplus b := by simp [unplus]
theorem unform_form : ∀ l : List UInt8, decL (unplus (formL l)) = l
  | [] => rfl
  | c :: l => by
    have ih := unform_form l
    have hc := c.toNat_lt
    rw [formL_cons, unplus_append]
    by_cases e : c = 32
    · subst e
      show decL (32 :: unplus (formL l)) = _
      rw [decL_none (headE_ne _ (by decide)), ih]
    · have ef : formB c = encB 7 c := by unfold formB; rw [if_neg e]
      rw [ef]
      cases g : escB 7 c with
      | true =>
        have n1 := (hexD_ne ⟨c.toNat / 16, by omega⟩).2
        have n2 := (hexD_ne ⟨c.toNat % 16, by omega⟩).2
        have h1 := hexV_hexD ⟨c.toNat / 16, by omega⟩
        have h2 := hexV_hexD ⟨c.toNat % 16, by omega⟩
        simp only at n1 n2 h1 h2
        have et := two_digits c
        rw [encB_yes g]
        generalize hexD (c.toNat / 16) = a at *
        generalize hexD (c.toNat % 16) = b at *
        have : unplus [37, a, b] = [37, a, b] := by simp [unplus, n1, n2]
        rw [this]
        show decL (37 :: a :: b :: unplus (formL l)) = _
        rw [(decL_some (headE_yes _ (by omega) (by omega))).1, et]
        show c :: decL (unplus (formL l)) = _
        rw [ih]
      | false =>
        rw [encB_not g]
        have hne : c ≠ 37 := by intro e; subst e; rw [escB_form37] at g; cases g
        have hne2 : c ≠ 43 := by intro e; subst e; exact absurd g (by decide)
        have : unplus [c] = [c] := by simp [unplus, hne2]
        rw [this]
        show decL (c :: unplus (formL l)) = _
        rw [decL_none (headE_ne _ hne), ih]

end Go.Proofs.YtpkpkpiphgjbaaaGreatDoor
