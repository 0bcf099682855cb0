/- A range over a function that hands out the elements of one list, each round of which goes on. -/
import Derived.Test.YtmobcijigiacoaaRows
import Derived.RangeFuncWrites
import Derived.RangeFuncCalls
import Derived.RangeFuncBox
import Derived.RangeFuncNested
import Derived.RangeFuncLeaves

namespace Go.Proofs.Ytmobcijigiacoaa
open Go.RowKit
/-- The row that the box Bc holds isn't block k; it lies in the world. -/
def NotRow (Bc : Nat) (W : World) (k : Nat) : Prop := ∀ u, Boxed W Bc 33 u → u.ownBlock ≠ some k
def RowIn (Bc : Nat) (W : World) : Prop := ∀ u, Boxed W Bc 33 u → ∀ g, u.ownBlock = some g → g < W.heap.size
/-- What a round keeps: all cells but the box and its row; what else lies at n0 or beyond. -/
structure KpC (Bc n0 : Nat) (W W' : World) : Prop where
  size : W.heap.size ≤ W'.heap.size
  cells : ∀ (k : Nat) (o : Obj), W.heap[k]? = some o → o.isCells = true → k ≠ Bc → NotRow Bc W k → W'.heap[k]? = some o
  oth : ∀ (k : Nat) (o : Obj), n0 ≤ k → W.heap[k]? = some o → o.isCells = false → W'.heap[k]? = some o
  row : ∀ u', Boxed W' Bc 33 u' → ∀ g, u'.ownBlock = some g → (∃ u, Boxed W Bc 33 u ∧ u.ownBlock = some g) ∨ W.heap.size ≤ g
  rin : RowIn Bc W → RowIn Bc W'
theorem KpC.mono {Bc n0 n1 : Nat} {A B : World} (h : KpC Bc n0 A B) (hn : n0 ≤ n1) : KpC Bc n1 A B := ⟨h.size, h.cells, fun k o hk => h.oth k o (Nat.le_trans hn hk), h.row, h.rin⟩

end Go.Proofs.Ytmobcijigiacoaa
