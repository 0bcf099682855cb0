/- Entries in a row of the call's own. -/
import Derived.Test.YtmnpnpmopbkabaaJpn1

namespace Go.Proofs.Ytmnpnpmopbkabaa
open Go.RowKit
set_option maxRecDepth 100000
theorem OwnR.empty (B : Nat) (w : World) (h : B ≤ w.heap.size) : OwnR B (w.alloc (.cells #[] 32)) (.slice (some ⟨w.heap.size, 0, none⟩) 0 0) [] :=
  ⟨rfl, .inr ⟨w.heap.size, 0, #[], rfl, h, (Bk.new w [] 32).lies, Nat.le_refl _, Nat.zero_le _, rfl, rfl⟩⟩

end Go.Proofs.Ytmnpnpmopbkabaa
