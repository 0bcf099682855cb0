/- The wrap of a row that lists variables, for a contract that wants the world's shape and the form's reach besides. -/
import Derived.Test.YtemikdmkjgmflaaGreatDoorRows
import Derived.Handed
import Derived.Shelf.Vars

namespace Go.Proofs.YtemikdmkjgmflaaGreatDoor
open Go
set_option maxRecDepth 100000
theorem reach_rest {H : Type} {P : Program} {t : TypeId} {ts : List TypeId} {d : DataW H} {ds : List (DataW H)} (h : (DataW.weightsEach P (t :: ts) (d :: ds)).all (· ≤ reachBytes) = true) : (DataW.weightsEach P ts ds).all (· ≤ reachBytes) = true := by
  simp only [DataW.weightsEach, List.all_append, Bool.and_eq_true] at h
  exact h.2
theorem reach_text {H : Type} {P : Program} {t : TypeId} {s : ByteArray} (h : ((.lit (.string s.data.toList) : DataW H).weights P t).all (· ≤ reachBytes) = true) : s.size ≤ reachBytes := by
  simp only [DataW.weights, List.all_cons, List.all_nil, Bool.and_true, decide_eq_true_eq, Array.length_toList] at h
  exact h

end Go.Proofs.YtemikdmkjgmflaaGreatDoor
