/- Facts of no program. -/
import Derived.WalkKit
import Derived.ProofKit
import Derived.OpenShut
import Derived.ShutString
import Derived.Below
import Derived.Laws.BytesArg
import Derived.Lib.ConvBytes
import Derived.Lib.AppendStr
import Derived.WalkSpells
import Derived.WalkLawsBesides
import Derived.KernelRfl

namespace Go.Proofs.Ytnojgejcmaajmaa
open Go.RowKit
theorem ret_str {a b : ByteArray} (h : a = b) : Ending.returned (.string a) = .returned (.string b) := by rw [h]
/-- A byte, as a cell holds it. -/
def cellB (c : UInt8) : Value := .int .u8 (c.toNat : Int)
def txt (l : List UInt8) : ByteArray := ⟨l.toArray⟩
/-- The value v is a slice of the call's own (its block from 'base' on) that holds the bytes l. -/
def OwnsB (e : TypeId) (base : Nat) (w : World) (v : Value) (l : List UInt8) : Prop := w.ownsRow base e 1 v l.length (l.map cellB)
theorem OwnsB.nil (e : TypeId) (base : Nat) (w : World) : OwnsB e base w (.slice none 0 0) [] := World.ownsRow_nil w base e 1
theorem OwnsB.below {e : TypeId} {base : Nat} {w w' : World} {v : Value} {l : List UInt8} (h : OwnsB e base w v l) (hb : Below w.heap.size w w') : OwnsB e base w' v l := by
  obtain ⟨h1, h2⟩ := h
  refine ⟨h1, ?_⟩
  rcases h2 with h2 | ⟨g, cap, cur, hv, hg, hh, r⟩
  · exact Or.inl h2
  · refine Or.inr ⟨g, cap, cur, hv, hg, ?_, r⟩
    rw [hb.block g ?_]; exact hh
    rcases Nat.lt_or_ge g w.heap.size with h' | h'
    · exact h'
    · simp [Array.getElem?_eq_none h'] at hh
theorem OwnsB.mono {e : TypeId} {base base' : Nat} {w : World} {v : Value} {l : List UInt8} (h : OwnsB e base w v l) (hb : base' ≤ base) : OwnsB e base' w v l := by
  obtain ⟨h1, h2⟩ := h
  refine ⟨h1, ?_⟩
  rcases h2 with h2 | ⟨g, cap, cur, hv, hg, r⟩
  · exact Or.inl h2
  · exact Or.inr ⟨g, cap, cur, hv, by omega, r⟩
/-- A text, as a cell holds it. -/
def cellT (l : List UInt8) : Value := .string (txt l)
/-- The value v is a slice of the call's own (its block from 'base' on) that holds the texts ws. -/
def OwnsT (e : TypeId) (base : Nat) (w : World) (v : Value) (ws : List (List UInt8)) : Prop := w.ownsRow base e 1 v ws.length (ws.map cellT)
theorem OwnsT.nil (e : TypeId) (base : Nat) (w : World) : OwnsT e base w (.slice none 0 0) [] := World.ownsRow_nil w base e 1
theorem ownsRow_below {e : TypeId} {base n : Nat} {w w' : World} {v : Value} {xs : List Value} (h : w.ownsRow base e 1 v n xs) (hb : Below w.heap.size w w') : w'.ownsRow base e 1 v n xs := by
  obtain ⟨h1, h2⟩ := h
  refine ⟨h1, ?_⟩
  rcases h2 with h2 | ⟨g, cap, cur, hv, hg, hh, r⟩
  · exact Or.inl h2
  · refine Or.inr ⟨g, cap, cur, hv, hg, ?_, r⟩
    rw [hb.block g ?_]; exact hh
    rcases Nat.lt_or_ge g w.heap.size with h' | h'
    · exact h'
    · simp [Array.getElem?_eq_none h'] at hh
theorem OwnsT.below {e : TypeId} {base : Nat} {w w' : World} {v : Value} {ws : List (List UInt8)} (h : OwnsT e base w v ws) (hb : Below w.heap.size w w') : OwnsT e base w' v ws := ownsRow_below h hb

end Go.Proofs.Ytnojgejcmaajmaa
