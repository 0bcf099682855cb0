/- Documents as lists of nodes: names, attributes, right documents; plain facts of no program. No condition. -/
import Derived.Test.YtnnnmfiniminfaaDoorDKit
namespace Go.Proofs.YtnnnmfiniminfaaDoor
open Go.RowKit

/-- A node: its name and text, its attributes, its parent's number, its children's. -/
structure Nd where
  name : ByteArray
  text : ByteArray
  attrs : List (ByteArray × ByteArray)
  parent : Int
  kids : List Int
def nd0 : Nd := ⟨⟨#[]⟩, ⟨#[]⟩, [], -1, []⟩
def at0 : ByteArray × ByteArray := (⟨#[]⟩, ⟨#[]⟩)

def smallC (c : UInt8) : Bool := decide (97 ≤ c.toNat ∧ c.toNat ≤ 122)
def otherC (c : UInt8) : Bool := decide (48 ≤ c.toNat ∧ c.toNat ≤ 57) || c == 45
/-- May a sign stand at a place of a name? -/
def nmAt (i : Nat) (c : UInt8) : Bool := smallC c || (!(i == 0) && otherC c)
def nmAll : Nat → List UInt8 → Bool
  | _, [] => true
  | i, c :: l => nmAt i c && nmAll (i + 1) l
def nameOk (s : ByteArray) : Bool := decide (0 < s.size ∧ s.size ≤ 20) && nmAll 0 s.data.toList
theorem nmAll_bad : ∀ {l : List UInt8} {n k : Nat} (hk : k < l.length), nmAt (n + k) l[k] = false → nmAll n l = false
  | [], _, _, hk, _ => by cases hk
  | c :: l, n, 0, _, h => by
    have h : nmAt n c = false := h
    show (nmAt n c && nmAll (n + 1) l) = false
    rw [h]; rfl
  | c :: l, n, k + 1, hk, h => by
    have := nmAll_bad (l := l) (n := n + 1) (k := k) (by simpa using hk) (by rw [show n + 1 + k = n + (k + 1) by omega]; exact h)
    show (nmAt n c && nmAll (n + 1) l) = false
    rw [this, Bool.and_false]
theorem nmAll_all : ∀ {l : List UInt8} {n : Nat}, (∀ k (hk : k < l.length), nmAt (n + k) l[k] = true) → nmAll n l = true
  | [], _, _ => rfl
  | c :: l, n, h => by
    have h0 : nmAt n c = true := h 0 (by simp)
    have := nmAll_all (l := l) (n := n + 1) (fun k hk => by rw [show n + 1 + k = n + (k + 1) by omega]; exact h (k + 1) (by simpa using hk))
    show (nmAt n c && nmAll (n + 1) l) = true
    rw [h0, this]; rfl

/-- The place of an attribute. -/
def findA (as : List (ByteArray × ByteArray)) (n : ByteArray) : Option Nat := as.findIdx? fun a => decide (a.1 = n)
def findV (o : Option Nat) : Int := match o with
  | none => -1
  | some k => (k : Int)
def cntI (l : List Int) (n : Int) : Nat := l.count n
/-- A node by itself. -/
def attrOk (as : List (ByteArray × ByteArray)) (i : Nat) : Bool := nameOk (as.getD i at0).1 && (decide ((as.getD i at0).2.size ≤ 4000) && findA as (as.getD i at0).1 == some i)
def aloneB (n : Nd) : Bool :=
  if n.name.size = 0 then n.attrs.isEmpty && (n.kids.isEmpty && decide (n.text.size ≤ 4000))
  else nameOk n.name && (n.text.size == 0 && (decide (n.attrs.length ≤ 40) && (List.range n.attrs.length).all (attrOk n.attrs)))
def nd (l : List Nd) (i : Nat) : Nd := l.getD i nd0
def parI (l : List Nd) (i : Int) : Int := (nd l i.toNat).parent
/-- A node among the others. -/
def kidOk (l : List Nd) (i : Nat) (c : Int) : Bool := decide (0 ≤ c ∧ c < l.length) && parI l c == (i : Int)
def nodeOk (l : List Nd) (i : Nat) : Bool := aloneB (nd l i) && (decide (-1 ≤ (nd l i).parent ∧ (nd l i).parent < l.length) && ((decide ((nd l i).parent < 0) || cntI (nd l (nd l i).parent.toNat).kids i == 1) && (nd l i).kids.all (kidOk l i)))
/-- So many steps up. -/
def climb (l : List Nd) : Nat → Int → Int
  | 0, k => k
  | n + 1, k => if k < 0 then k else climb l n (parI l k)
def rightB (l : List Nd) : Bool := decide (1 ≤ l.length ∧ l.length ≤ 400) && (!((nd l 0).name.size == 0) && ((nd l 0).parent == -1 && ((List.range l.length).all (nodeOk l) && (List.range l.length).all fun i => decide (climb l (l.length + 1) i < 0))))

end Go.Proofs.YtnnnmfiniminfaaDoor
