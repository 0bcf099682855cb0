/- What kind a node is, as a function of its name and its attributes; plain facts of no program. No condition. -/
import Derived.Test.YtnnnmfiniminfaaDoorKindQ
import Derived.Test.YtnnnmfiniminfaaDoorKindP
import Derived.Test.YtnnnmfiniminfaaDoorLow
import Derived.Test.YtnnnmfiniminfaaDoorDocP
namespace Go.Proofs.YtnnnmfiniminfaaDoor
open Go.RowKit

def tyS : ByteArray := ⟨#[116, 121, 112, 101]⟩
/-- The text that tells the type, in small letters. -/
def tyOf (ax : List (ByteArray × ByteArray)) : Option ByteArray := (findA ax tyS).map fun i => lowS (ax.getD i at0).2
def byT (o : Option ByteArray) (f l : Nat) (z : Int) : Int := match o with
  | none => z
  | some t => kInt (seekR t f l 30 0) z
def kOf (name : ByteArray) (o : Option ByteArray) : Int :=
  if name = ⟨#[105, 110, 112, 117, 116]⟩ then byT o 1 22 2 else if name = ⟨#[115, 101, 108, 101, 99, 116]⟩ then 23 else if name = ⟨#[116, 101, 120, 116, 97, 114, 101, 97]⟩ then 24 else if name = ⟨#[98, 117, 116, 116, 111, 110]⟩ then byT o 25 27 25 else
  match seekL name 8 0 with
  | none => 0
  | some i => 28 + (i : Int)
theorem seek_step (t : ByteArray) (f l k : Nat) (h : k < 30) : seekR t f l (30 - k) k = if (Nat.ble f k && (Nat.ble k l && decide (typeN k = t))) = true then some k else seekR t f l (30 - (k + 1)) (k + 1) := by
  rw [show 30 - k = (30 - (k + 1)) + 1 by omega]; rfl
theorem seekL_step (t : ByteArray) (k : Nat) (h : k < 8) : seekL t (8 - k) k = if lastN k = t then some k else seekL t (8 - (k + 1)) (k + 1) := by
  rw [show 8 - k = (8 - (k + 1)) + 1 by omega]; rfl
theorem btw_nat (k f l : Nat) : btwB (k : Int) (f : Int) (l : Int) = (Nat.ble f k && Nat.ble k l) := by
  unfold btwB
  rw [Bool.eq_iff_iff, decide_eq_true_eq, Bool.and_eq_true, Nat.ble_eq, Nat.ble_eq]
  omega
theorem seek_hit {t : ByteArray} {f l k : Nat} {A : Option Nat} (h : k < 30) (hs : seekR t f l (30 - k) k = A) (hb : btwB (k : Int) f l = true) (he : typeN k = t) : A = some k := by
  rw [btw_nat, Bool.and_eq_true] at hb
  rw [← hs, seek_step t f l k h, hb.1, hb.2, decide_eq_true he]; rfl
theorem seek_miss {t : ByteArray} {f l k : Nat} {A : Option Nat} (h : k < 30) (hs : seekR t f l (30 - k) k = A) (hb : btwB (k : Int) f l = false ∨ ¬ typeN k = t) : seekR t f l (30 - (k + 1)) (k + 1) = A := by
  rw [← hs, seek_step t f l k h, if_neg]
  rw [Bool.and_eq_true, Bool.and_eq_true, decide_eq_true_eq]
  rintro ⟨q1, q2, q3⟩
  rcases hb with r | r
  · rw [btw_nat, q1, q2] at r; cases r
  · exact r q3
theorem typeS_nat {k : Nat} (h : k < 30) : typeS (k : Int) = typeN k := by
  unfold typeS
  rw [if_pos (by omega), Int.toNat_natCast]
theorem seek_from (t : ByteArray) : seekR t 1 22 (30 - 1) 1 = seekR t 1 22 30 0 := rfl
theorem seek_to (t : ByteArray) : seekR t 1 22 (30 - 23) 23 = none := rfl
theorem seek_empty : seekR ⟨#[]⟩ 1 22 30 0 = none := by decide +kernel
theorem seek_button (t : ByteArray) : kInt (seekR t 25 27 30 0) 25 = if t = ⟨#[114, 101, 115, 101, 116]⟩ then 26 else if t = ⟨#[98, 117, 116, 116, 111, 110]⟩ then 27 else 25 := by
  have e : seekR t 25 27 30 0 = (if decide (typeN 25 = t) = true then some 25 else if decide (typeN 26 = t) = true then some 26 else if decide (typeN 27 = t) = true then some 27 else none) := rfl
  have d6 : typeN 26 = ⟨#[114, 101, 115, 101, 116]⟩ := rfl
  have d7 : typeN 27 = ⟨#[98, 117, 116, 116, 111, 110]⟩ := rfl
  have n1 : ¬ typeN 25 = typeN 26 := by decide +kernel
  have n2 : ¬ typeN 25 = typeN 27 := by decide +kernel
  have n3 : ¬ typeN 26 = typeN 27 := by decide +kernel
  rw [e, ← d6, ← d7]
  by_cases h5 : typeN 25 = t
  · rw [decide_eq_true h5, if_pos (show true = true from rfl), if_neg (show ¬ t = typeN 26 from fun q => n1 (h5.trans q)), if_neg (show ¬ t = typeN 27 from fun q => n2 (h5.trans q))]; rfl
  · rw [decide_eq_false h5, if_neg (show ¬ false = true by decide)]
    by_cases h6 : typeN 26 = t
    · rw [decide_eq_true h6, if_pos (show true = true from rfl), if_pos (show t = typeN 26 from h6.symm)]; rfl
    · rw [decide_eq_false h6, if_neg (show ¬ false = true by decide), if_neg (show ¬ t = typeN 26 from fun q => h6 q.symm)]
      by_cases h7 : typeN 27 = t
      · rw [decide_eq_true h7, if_pos (show true = true from rfl), if_pos (show t = typeN 27 from h7.symm)]; rfl
      · rw [decide_eq_false h7, if_neg (show ¬ false = true by decide), if_neg (show ¬ t = typeN 27 from fun q => h7 q.symm)]; rfl
theorem lit_dec (a : ByteArray) (l : List UInt8) : (a.toList == l) = decide (a = ⟨l.toArray⟩) := by
  by_cases h : a = ⟨l.toArray⟩
  · rw [decide_eq_true h, lit_yes h]
  · rw [decide_eq_false h, lit_no h]

end Go.Proofs.YtnnnmfiniminfaaDoor
