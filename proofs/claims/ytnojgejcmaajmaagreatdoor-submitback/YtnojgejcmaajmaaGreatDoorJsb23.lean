/- Addresses of mail as lists of bytes. -/
import Derived.WalkKit
import Derived.ProofKit
import Derived.OpenShut
import Derived.ShutString
import Derived.Below
import Derived.WalkSpells
import Derived.WalkLawsBesides
import Derived.KernelRfl
import Derived.Laws.BytesArg
import Derived.Lib.ConvBytes
import Derived.Lib.AppendStr
import Derived.Lib.SlTrimSet
import Derived.Lib.Replace

namespace Go.Proofs.YtnojgejcmaajmaaGreatDoor
open Go.RowKit
/-- Texts with a sign between. -/
def joinL (c : UInt8) : List (List UInt8) → List UInt8
  | [] => []
  | [a] => a
  | a :: b :: t => a ++ c :: joinL c (b :: t)
theorem join_snoc (c : UInt8) : ∀ (ps : List (List UInt8)) (q : List UInt8), ps ≠ [] → joinL c (ps ++ [q]) = joinL c ps ++ c :: q
  | [], _, h => absurd rfl h
  | [a], q, _ => rfl
  | a :: b :: t, q, _ => by
    show a ++ c :: joinL c (b :: (t ++ [q])) = (a ++ c :: joinL c (b :: t)) ++ c :: q
    have := join_snoc c (b :: t) q (by simp)
    rw [List.cons_append] at this
    rw [this]; simp
theorem join_len (c : UInt8) : ∀ (ps : List (List UInt8)), (joinL c ps).length ≤ (ps.map List.length).sum + ps.length
  | [] => by simp [joinL]
  | [a] => by simp [joinL]
  | a :: b :: t => by
    have ih := join_len c (b :: t)
    show (a ++ c :: joinL c (b :: t)).length ≤ _
    simp only [List.length_append, List.length_cons, List.map_cons, List.sum_cons] at ih ⊢
    omega

end Go.Proofs.YtnojgejcmaajmaaGreatDoor
