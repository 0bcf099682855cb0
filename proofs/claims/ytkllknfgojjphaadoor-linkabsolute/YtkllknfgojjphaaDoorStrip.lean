/- Blanks at the ends of texts, as lists of bytes: plain facts of no program. No condition. -/
import Derived.Test.YtkllknfgojjphaaDoorLow
import Derived.Lib.SlTrimSet
namespace Go.Proofs.YtkllknfgojjphaaDoor
open Go.RowKit

def blanks : List UInt8 := [9, 10, 12, 13, 32]
def isBl (c : UInt8) : Bool := blanks.contains c
def stripL (l : List UInt8) : List UInt8 := Lib.trimS l blanks
def stripS (s : ByteArray) : ByteArray := txt (stripL s.data.toList)

theorem isBl_iff (c : UInt8) : isBl c = true ↔ (c.toNat : Int) = 9 ∨ (c.toNat : Int) = 10 ∨ (c.toNat : Int) = 12 ∨ (c.toNat : Int) = 13 ∨ (c.toNat : Int) = 32 := by
  have e : ∀ d : UInt8, c = d ↔ (c.toNat : Int) = (d.toNat : Int) := fun d => by rw [← UInt8.toNat_inj]; omega
  have : isBl c = true ↔ c = 9 ∨ c = 10 ∨ c = 12 ∨ c = 13 ∨ c = 32 := by
    unfold isBl blanks; simp
  rw [this, e 9, e 10, e 12, e 13, e 32]; rfl

/-- No blank at either end. -/
def Ends (l : List UInt8) : Prop := (∀ b, l.head? = some b → isBl b = false) ∧ (∀ b, l.getLast? = some b → isBl b = false)

theorem trimLeft_of_head {l : List UInt8} (h : ∀ b, l.head? = some b → isBl b = false) : Lib.trimLeftS l blanks = l := by
  unfold Lib.trimLeftS
  cases l with
  | nil => rfl
  | cons a r => rw [List.dropWhile_cons, if_neg]; have := h a rfl; unfold isBl at this; rw [this]; decide
theorem trimRight_of_last {l : List UInt8} (h : ∀ b, l.getLast? = some b → isBl b = false) : Lib.trimRightS l blanks = l := by
  unfold Lib.trimRightS
  have := trimLeft_of_head (l := l.reverse) (fun b hb => h b (by rwa [List.head?_reverse] at hb))
  unfold Lib.trimLeftS at this
  rw [this, List.reverse_reverse]
theorem trimLeft_head (l : List UInt8) : ∀ b, (Lib.trimLeftS l blanks).head? = some b → isBl b = false := by
  intro b hb
  unfold Lib.trimLeftS at hb
  have := List.head?_dropWhile_not (p := fun x => blanks.contains x) l
  rw [hb] at this
  simpa [isBl] using this
theorem trimRight_last (l : List UInt8) : ∀ b, (Lib.trimRightS l blanks).getLast? = some b → isBl b = false := by
  intro b hb
  unfold Lib.trimRightS at hb
  rw [List.getLast?_reverse] at hb
  exact trimLeft_head l.reverse b hb
theorem trimLeft_suffix (l : List UInt8) : Lib.trimLeftS l blanks <:+ l := List.dropWhile_suffix _
theorem last_of_suffix {l m : List UInt8} (h : m <:+ l) {b : UInt8} (hb : m.getLast? = some b) : l.getLast? = some b := by
  obtain ⟨t, rfl⟩ := h
  rw [List.getLast?_append, hb]; rfl
theorem stripL_ends (l : List UInt8) : Ends (stripL l) :=
  ⟨trimLeft_head _, fun b hb => trimRight_last l b (last_of_suffix (trimLeft_suffix _) hb)⟩
theorem stripL_of_ends {l : List UInt8} (h : Ends l) : stripL l = l := by
  unfold stripL Lib.trimS; rw [trimRight_of_last h.2, trimLeft_of_head h.1]
theorem stripL_stripL (l : List UInt8) : stripL (stripL l) = stripL l := stripL_of_ends (stripL_ends l)
theorem stripS_stripS (s : ByteArray) : stripS (stripS s) = stripS s := by unfold stripS; rw [txt_data, stripL_stripL]

theorem trimRight_snoc {l : List UInt8} {b : UInt8} (h : isBl b = true) : Lib.trimRightS (l ++ [b]) blanks = Lib.trimRightS l blanks := by
  unfold Lib.trimRightS
  rw [List.reverse_append]
  show (List.dropWhile _ (b :: l.reverse)).reverse = _
  rw [List.dropWhile_cons, if_pos]
  exact h
theorem trimRight_cons (a : UInt8) (l : List UInt8) : Lib.trimRightS (a :: l) blanks = if Lib.trimRightS l blanks = [] then Lib.trimRightS [a] blanks else a :: Lib.trimRightS l blanks := by
  unfold Lib.trimRightS
  rw [List.reverse_cons, List.dropWhile_append]
  by_cases h : (List.dropWhile (fun x => blanks.contains x) l.reverse) = []
  · rw [h]; simp
  · have : (List.dropWhile (fun x => blanks.contains x) l.reverse).isEmpty = false := by simpa using h
    rw [this, if_neg (by decide), if_neg (by intro e; exact h (by simpa using e)), List.reverse_append]
    rfl
theorem stripL_cons {a : UInt8} {l : List UInt8} (h : isBl a = true) : stripL (a :: l) = stripL l := by
  have h1 : Lib.trimRightS [a] blanks = [] := trimRight_snoc (l := []) h
  have h2 : ∀ m : List UInt8, Lib.trimLeftS (a :: m) blanks = Lib.trimLeftS m blanks := fun m => by
    unfold Lib.trimLeftS; rw [List.dropWhile_cons, if_pos]; exact h
  unfold stripL Lib.trimS
  rw [trimRight_cons]
  by_cases e : Lib.trimRightS l blanks = []
  · rw [if_pos e, h1, e]
  · rw [if_neg e, h2]
theorem stripL_snoc {b : UInt8} {l : List UInt8} (h : isBl b = true) : stripL (l ++ [b]) = stripL l := by
  unfold stripL Lib.trimS; rw [trimRight_snoc h]
theorem stripL_le (l : List UInt8) : (stripL l).length ≤ l.length := by
  have h1 : (stripL l).length ≤ (Lib.trimRightS l blanks).length := (trimLeft_suffix _).length_le
  have h2 : (Lib.trimRightS l blanks).length ≤ l.length := by
    unfold Lib.trimRightS
    have := (List.dropWhile_suffix (fun x => blanks.contains x) (l := l.reverse)).length_le
    simpa using this
  omega
theorem stripS_size (s : ByteArray) : (stripS s).size ≤ s.size := by
  unfold stripS; rw [txt_size]; have := stripL_le s.data.toList; simpa using this

/-- What two loops, from the left and from the right, find. -/
theorem stripL_found (l : List UInt8) (p q : Nat) (h1 : p ≤ q) (h2 : q ≤ l.length) (hl : ∀ j b, j < p → l[j]? = some b → isBl b = true) (hr : ∀ j b, q ≤ j → l[j]? = some b → isBl b = true)
    (hp : ∀ b, l[p]? = some b → isBl b = false) (hq : q = p ∨ ∀ b, l[q - 1]? = some b → isBl b = false) : stripL l = (l.drop p).take (q - p) := by
  rcases hq with rfl | hq
  · have e0 : Lib.trimRightS l blanks = l.take 0 := Lib.trimRightS_take l blanks 0 (Nat.zero_le _) (fun j b _ hb => by
      rcases Nat.lt_or_ge j q with h | h
      · exact hl j b h hb
      · exact hr j b h hb) (fun b h => absurd h (by omega))
    unfold stripL Lib.trimS
    rw [e0, Nat.sub_self]
    simp [Lib.trimLeftS]
  have hqb : ∀ b, 0 < q → l[q - 1]? = some b → isBl b = false := fun b _ hb => hq b hb
  unfold stripL Lib.trimS
  rw [Lib.trimRightS_take l blanks q h2 (fun j b hj hb => hr j b hj hb) hqb]
  have := Lib.trimLeftS_drop (l.take q) blanks p (by simp; omega) (fun j b hj hb => hl j b hj (by rw [List.getElem?_take_of_lt (by omega)] at hb; exact hb)) (fun b hb => by
    rw [List.getElem?_take] at hb
    split at hb
    · exact hp b hb
    · cases hb)
  rw [this, List.drop_take]

theorem at_some (s : ByteArray) (k : Nat) (h : k < s.size) : s.data.toList[k]? = some s[k] := by
  rw [List.getElem?_eq_getElem (by simpa using h)]; rfl
theorem at_none (s : ByteArray) (k : Nat) (h : s.size ≤ k) : s.data.toList[k]? = none := List.getElem?_eq_none (by simpa using h)
/-- All bytes ahead of k are blanks. -/
def LeftB (s : ByteArray) (k : Nat) : Prop := ∀ j b, j < k → s.data.toList[j]? = some b → isBl b = true
/-- All bytes from k on are blanks. -/
def RightB (s : ByteArray) (k : Nat) : Prop := ∀ j b, k ≤ j → s.data.toList[j]? = some b → isBl b = true
/-- The byte at k, if there is one, is none. -/
def NoneB (s : ByteArray) (k : Nat) : Prop := ∀ b, s.data.toList[k]? = some b → isBl b = false
theorem leftB_zero (s : ByteArray) : LeftB s 0 := fun j b h => absurd h (by omega)
theorem leftB_succ {s : ByteArray} {k : Nat} (h : LeftB s k) (hk : k < s.size) (hb : isBl s[k] = true) : LeftB s (k + 1) := fun j b hj e => by
  rcases Nat.lt_or_ge j k with h' | h'
  · exact h j b h' e
  · obtain rfl : j = k := by omega
    rw [at_some s j hk] at e; cases e; exact hb
theorem rightB_end (s : ByteArray) : RightB s s.size := fun j b hj e => by rw [at_none s j hj] at e; cases e
theorem rightB_pred {s : ByteArray} {k : Nat} (h : RightB s (k + 1)) (hk : k < s.size) (hb : isBl s[k] = true) : RightB s k := fun j b hj e => by
  rcases Nat.lt_or_ge k j with h' | h'
  · exact h j b h' e
  · obtain rfl : j = k := by omega
    rw [at_some s j hk] at e; cases e; exact hb
theorem noneB_at {s : ByteArray} {k : Nat} (hk : k < s.size) (hb : isBl s[k] = false) : NoneB s k := fun b e => by rw [at_some s k hk] at e; cases e; exact hb
theorem noneB_end {s : ByteArray} {k : Nat} (hk : s.size ≤ k) : NoneB s k := fun b e => by rw [at_none s k hk] at e; cases e
theorem stripS_found {s : ByteArray} {p q : Nat} (h1 : p ≤ q) (h2 : q ≤ s.size) (hl : LeftB s p) (hr : RightB s q) (hp : NoneB s p) (hq : q = p ∨ NoneB s (q - 1)) : stripS s = s.extract p q := by
  unfold stripS
  rw [stripL_found s.data.toList p q h1 (by simpa using h2) hl hr hp hq]
  unfold txt
  congr 1
  apply Array.ext'
  simp

end Go.Proofs.YtkllknfgojjphaaDoor
