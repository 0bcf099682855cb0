/- Ends of lines in texts, as lists of bytes. -/
import Derived.Test.YtmnpnpmopbkabaaJpn2

namespace Go.Proofs.Ytmnpnpmopbkabaa
open Go.RowKit
theorem prevAt_zero (s : ByteArray) : ¬ prevAt s 0 = 13 := by unfold prevAt; rw [if_pos rfl]; decide
theorem next_free (s : ByteArray) (k : Nat) (h : ¬ byteAt s k = 13) (_ : k + 1 < s.size) : ¬ (byteAt s (k + 1) = 10 ∧ prevAt s (k + 1) = 13) := by
  intro g; have := g.2; unfold prevAt at this; rw [if_neg (by omega)] at this; exact h this

end Go.Proofs.Ytmnpnpmopbkabaa
