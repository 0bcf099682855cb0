/- Small letters of texts, as lists of bytes. -/
import Derived.WalkKit
import Derived.ProofKit
import Derived.OpenShut
import Derived.ShutString
import Derived.Below
import Derived.WalkSpells
import Derived.WalkLawsBesides
import Derived.KernelRfl
import Derived.Laws.BytesArg
import Derived.Lib.ConvBytes
import Derived.Lib.AppendStr

namespace Go.Proofs.YtmnpnpmopbkabaaDoor
open Go.RowKit
def byteAt (s : ByteArray) (j : Nat) : UInt8 := s.data.toList.getD j 0
theorem byteAt_eq (s : ByteArray) (j : Nat) (h : j < s.size) : s[j] = byteAt s j := by
  unfold byteAt; simp [List.getD, h]; rfl
theorem byteAt_take (s : ByteArray) (k : Nat) (h : k < s.size) : s.data.toList.take (k + 1) = s.data.toList.take k ++ [byteAt s k] := by
  rw [List.take_succ_eq_append_getElem (by simpa using h), ← byteAt_eq s k h]; rfl

end Go.Proofs.YtmnpnpmopbkabaaDoor
