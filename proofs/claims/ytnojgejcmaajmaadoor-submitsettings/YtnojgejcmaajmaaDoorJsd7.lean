/- The types of kinds, and the names of elements, as tables of texts. -/
import Derived.WalkKit
import Derived.ProofKit
import Derived.OpenShut
import Derived.ShutString
import Derived.Below
import Derived.WalkSpells
import Derived.WalkLawsBesides
import Derived.KernelRfl

namespace Go.Proofs.YtnojgejcmaajmaaDoor
open Go.RowKit
def tyL : List (List UInt8) := [[], [104, 105, 100, 100, 101, 110], [116, 101, 120, 116], [115, 101, 97, 114, 99, 104], [116, 101, 108], [117, 114, 108], [101, 109, 97, 105, 108], [112, 97, 115, 115, 119, 111, 114, 100], [100, 97, 116, 101], [109, 111, 110, 116, 104], [119, 101, 101, 107], [116, 105, 109, 101], [100, 97, 116, 101, 116, 105, 109, 101, 45, 108, 111, 99, 97, 108], [110, 117, 109, 98, 101, 114], [114, 97, 110, 103, 101], [99, 111, 108, 111, 114], [99, 104, 101, 99, 107, 98, 111, 120], [114, 97, 100, 105, 111], [102, 105, 108, 101], [115, 117, 98, 109, 105, 116], [105, 109, 97, 103, 101], [114, 101, 115, 101, 116], [98, 117, 116, 116, 111, 110], [115, 101, 108, 101, 99, 116, 45, 111, 110, 101], [116, 101, 120, 116, 97, 114, 101, 97], [115, 117, 98, 109, 105, 116], [114, 101, 115, 101, 116], [98, 117, 116, 116, 111, 110], [111, 117, 116, 112, 117, 116], [102, 105, 101, 108, 100, 115, 101, 116]]
/-- The type of a kind. -/
def typeN (k : Nat) : ByteArray := ⟨(tyL.getD k []).toArray⟩
def typeS (k : Int) : ByteArray := if 0 ≤ k ∧ k ≤ 29 then typeN k.toNat else ⟨#[]⟩
def lastL : List (List UInt8) := [[111, 117, 116, 112, 117, 116], [102, 105, 101, 108, 100, 115, 101, 116], [102, 111, 114, 109], [108, 97, 98, 101, 108], [111, 112, 116, 105, 111, 110], [111, 112, 116, 103, 114, 111, 117, 112], [108, 101, 103, 101, 110, 100], [100, 97, 116, 97, 108, 105, 115, 116]]
def lastN (k : Nat) : ByteArray := ⟨(lastL.getD k []).toArray⟩
/-- The first kind of a type, of those from one to another. -/
def seekR (t : ByteArray) (f l : Nat) : Nat → Nat → Option Nat
  | 0, _ => none
  | n + 1, k => if (Nat.ble f k && (Nat.ble k l && decide (typeN k = t))) = true then some k else seekR t f l n (k + 1)
def seekL (t : ByteArray) : Nat → Nat → Option Nat
  | 0, _ => none
  | n + 1, k => if lastN k = t then some k else seekL t n (k + 1)
def kInt (r : Option Nat) (o : Int) : Int := match r with
  | none => o
  | some k => (k : Int)
theorem ret_str {a b : ByteArray} (h : a = b) : Ending.returned (.string a) = .returned (.string b) := by rw [h]
theorem lit_no {a : ByteArray} {l : List UInt8} (h : ¬ a = ⟨l.toArray⟩) : (a.toList == l) = false := by
  rw [beq_eq_false_iff_ne, ByteArray.toList_eq]
  intro e
  apply h
  apply ByteArray.ext
  exact Array.ext' e
theorem lit_yes {a : ByteArray} {l : List UInt8} (h : a = ⟨l.toArray⟩) : (a.toList == l) = true := by
  rw [h, beq_iff_eq, ByteArray.toList_eq]

end Go.Proofs.YtnojgejcmaajmaaDoor
