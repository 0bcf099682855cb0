/- Escapes of texts, as lists of bytes. -/
import Derived.Lib.Replace
import Derived.WalkKit
import Derived.ProofKit
import Derived.OpenShut
import Derived.ShutString
import Derived.Below
import Derived.WalkSpells
import Derived.WalkLawsBesides
import Derived.KernelRfl
import Derived.Laws.BytesArg
import Derived.Lib.ConvBytes
import Derived.Lib.AppendStr

namespace Go.Proofs.YtgibkbeakfaehaaDoor
open Go.RowKit
def repA (old new s : List UInt8) : List UInt8 := Lib.replaceK old new (Lib.count s old) s
theorem repA_all {old new : List UInt8} (h : old ≠ new) (s : List UInt8) : Lib.replaceAll s old new = repA old new s := by
  unfold Lib.replaceAll Lib.replace
  rw [if_neg (by simpa using h)]
  unfold Lib.replaceNum
  rw [if_pos (.inl (by decide))]; rfl
theorem repA_nil {old new : List UInt8} (h : old ≠ []) : repA old new [] = [] := by
  have : Lib.index [] old = -1 := by
    unfold Lib.index; rw [if_neg (by simpa using h)]
  unfold repA; rw [Lib.count_miss this]; rfl
theorem repA_hit {old new : List UInt8} (h : old ≠ []) (r : List UInt8) : repA old new (old ++ r) = new ++ repA old new r := by
  have hi : Lib.index (old ++ r) old = (0 : Nat) := Lib.index_first (Nat.zero_le _) (by simp [Lib.occAt]) (fun _ h => absurd h (Nat.not_lt_zero _))
  unfold repA
  rw [Lib.count_hit h hi, Nat.add_comm 1, Lib.replaceK_hit _ _ _ _ 0 hi]
  simp
theorem repA_miss {old new : List UInt8} (h : old ≠ []) (c : UInt8) (l : List UInt8) (hp : old.isPrefixOf (c :: l) = false) : repA old new (c :: l) = c :: repA old new l := by
  have e : Lib.index (c :: l) old = if Lib.index l old == -1 then -1 else Lib.index l old + 1 := by
    show (if old.isPrefixOf (c :: l) = true then (0 : Int) else _) = _
    rw [if_neg (by rw [hp]; decide)]
  have ge := Lib.index_ge l old
  by_cases g : Lib.index l old = -1
  · have e1 : Lib.index (c :: l) old = -1 := by rw [e, g]; rfl
    unfold repA; rw [Lib.count_miss g, Lib.count_miss e1]; rfl
  · obtain ⟨i, hi⟩ : ∃ i : Nat, Lib.index l old = i := ⟨(Lib.index l old).toNat, by omega⟩
    have e1 : Lib.index (c :: l) old = ((i + 1 : Nat) : Int) := by
      rw [e, if_neg (by simpa using g), hi]; rfl
    unfold repA
    rw [Lib.count_hit h hi, Lib.count_hit h e1, Nat.add_comm 1, Nat.add_comm 1, Lib.replaceK_hit _ _ _ _ i hi, Lib.replaceK_hit _ _ _ _ (i + 1) e1]
    have e2 : i + 1 + old.length = (i + old.length) + 1 := by omega
    rw [e2]; simp
def plainB (c : UInt8) : Bool := decide (48 ≤ c.toNat ∧ c.toNat ≤ 57 ∨ 65 ≤ c.toNat ∧ c.toNat ≤ 90 ∨ 97 ≤ c.toNat ∧ c.toNat ≤ 122)

end Go.Proofs.YtgibkbeakfaehaaDoor
