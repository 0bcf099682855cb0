/- The program's reader of a text, in a block of the call's own: what it holds; 'must'. No condition. -/
import Derived.Test.YtekcbkicfoaheaaGreatDoorProg
import Derived.Test.YtekcbkicfoaheaaGreatDoorKit
namespace Go.Proofs.YtekcbkicfoaheaaGreatDoor
open Go.RowKit

/-- A reader in block R, of the call's own: R is behind all that lay in the world w0; it has l to read, b tells whether something was wrong. -/
structure Rd (w0 w : World) (R : Nat) (l : List UInt8) (b : Bool) : Prop where
  own : w0.heap.size ≤ R
  lies : w.heap[R]? = some (.cells #[.string (txt l), .bool b] 41 (0, 0))
  below : Below w0.heap.size w0 w
theorem Rd.cell0 {w0 w : World} {R : Nat} {l : List UInt8} {b : Bool} (h : Rd w0 w R l b) : w.cell? ⟨R, 0, none⟩ = some (.string (txt l)) := by
  have := h.lies
  simp [World.cell?, this]
theorem Rd.cell1 {w0 w : World} {R : Nat} {l : List UInt8} {b : Bool} (h : Rd w0 w R l b) : w.cell? ⟨R, 1, none⟩ = some (.bool b) := by
  have := h.lies
  simp [World.cell?, this]
theorem Rd.frozen {w0 w : World} {R : Nat} {l : List UInt8} {b : Bool} (h : Rd w0 w R l b) (k : Nat) : w.frozen? ⟨R, k, none⟩ = false := by
  have := h.lies
  simp [World.frozen?, this]
theorem Rd.set0 {w0 w : World} {R : Nat} {l : List UInt8} {b : Bool} (h : Rd w0 w R l b) (k : List UInt8) : Rd w0 (w.setCell ⟨R, 0, none⟩ (.string (txt k))) R k b :=
  ⟨h.own, by simp [World.setCell, Array.getElem?_modify, h.lies], h.below.setCell h.own _⟩
theorem Rd.set1 {w0 w : World} {R : Nat} {l : List UInt8} {b : Bool} (h : Rd w0 w R l b) (c : Bool) : Rd w0 (w.setCell ⟨R, 1, none⟩ (.bool c)) R l c :=
  ⟨h.own, by simp [World.setCell, Array.getElem?_modify, h.lies], h.below.setCell h.own _⟩
theorem Rd.lt {w0 w : World} {R : Nat} {l : List UInt8} {b : Bool} (h : Rd w0 w R l b) : R < w.heap.size := by
  have := h.lies
  rcases Nat.lt_or_ge R w.heap.size with h' | h'
  · exact h'
  · simp [Array.getElem?_eq_none h'] at this
/-- Another call, which changes nothing that was there. -/
theorem Rd.pass {w0 w w' : World} {R : Nat} {l : List UInt8} {b : Bool} (h : Rd w0 w R l b) (hb : Below w.heap.size w w') : Rd w0 w' R l b :=
  ⟨h.own, by rw [hb.block R h.lt]; exact h.lies, h.below.trans (hb.mono h.below.size)⟩

set_option maxHeartbeats 1000000 in
theorem must_any (w0 : World) (R : Nat) (l : List UInt8) (b c : Bool) (w : World) (h : Rd w0 w R l b) :
    Calls Tryz.prog 36 #[.pointer (some ⟨R, 0, none⟩), .bool c] w fun e w' => e = .returned (.tuple #[]) ∧ Rd w0 w' R l (b || !c) := by
  have f1 := h.frozen 1; have c1 := h.cell1
  have h0 := hide h
  clear h
  go_enter Tryz.func36, Tryz.ntmps36
  cases c with
  | true =>
    go_wp2_with fail
    go_end0
    exact ⟨rfl, by simpa using h0.out⟩
  | false =>
    go_wp2_with fail
    go_end0
    exact ⟨rfl, by simpa using h0.out.set1 true⟩

end Go.Proofs.YtekcbkicfoaheaaGreatDoor
