/- The document's Elements of layer 16. -/
import Derived.Test.YtldbaoolddlacaaDoorJgd4
import Derived.Laws.BytesArg
import Derived.Lib.ConvBytes
import Derived.Lib.AppendStr
import Derived.Lib.SlTrimSet
import Derived.Deep.AppendLies
import Derived.Maps.AppendAt
import Derived.Laws.OwnMore
import Derived.OwnWalk
import Derived.Shelf.Strconv.Clone
import Derived.Deep.MidRow
import Derived.Deep.DeepCutAuto

namespace Go.Proofs.YtldbaoolddlacaaDoor
open Go.RowKit
set_option maxRecDepth 100000
theorem anc_rng {l : List Nd} (h : Right l) : ∀ (d : Nat) {k x : Int}, k < l.length → hgt l k ≤ d → x ∈ anc l k → 0 ≤ x ∧ x < (l.length : Int)
  | 0, k, x, hk, hd, hm => by
    by_cases e : k < 0
    · rw [anc_neg e] at hm; cases hm
    · have := hgt_up (h.ende hk) e; omega
  | d + 1, k, x, hk, hd, hm => by
    by_cases e : k < 0
    · rw [anc_neg e] at hm; cases hm
    · rw [anc_up (h.ende hk) e] at hm
      rcases List.mem_cons.1 hm with q | q
      · rw [q]; omega
      · have h1 := hgt_up (h.ende hk) e
        exact anc_rng h d (h.up e hk).2 (by omega) q
theorem top_in {l : List Nd} (h : Right l) {m : Nat} (hm : m < l.length) : ∃ t : Nat, topP l (m : Int) = (t : Int) ∧ t < l.length := by
  have r : 0 ≤ topP l (m : Int) ∧ topP l (m : Int) < (l.length : Int) := by
    unfold topP
    cases e : anc l (m : Int) with
    | nil => exact ⟨by show (0 : Int) ≤ (m : Int); omega, by show (m : Int) < _; omega⟩
    | cons a L =>
      have mem : (a :: L).getLastD (m : Int) ∈ anc l (m : Int) := by
        rw [e, List.getLastD_eq_getLast?, List.getLast?_eq_some_getLast (by simp), Option.getD_some]
        exact List.getLast_mem _
      exact anc_rng h _ (by omega) (Nat.le_refl _) mem
  exact ⟨(topP l (m : Int)).toNat, by omega, by omega⟩

end Go.Proofs.YtldbaoolddlacaaDoor
