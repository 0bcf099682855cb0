/- The document's Check of layer 17. -/
import Derived.Test.YtldbaoolddlacaaGreatDoorJgz22
import Derived.OwnWalk
import Derived.Deep.RegionLaw

namespace Go.Proofs.YtldbaoolddlacaaGreatDoor
open Go.RowKit
set_option maxRecDepth 100000
theorem nds_formK {w : World} {v : Value} {l : List Nd} (h : NodesV w v l) : ∃ p c, v = .slice p l.length c := by
  obtain ⟨p, c, e, _⟩ := h
  exact ⟨p, c, e⟩
theorem cts_formK {w : World} {v : Value} {C : List Ct} (h : CtsV w v C) : ∃ p c, v = .slice p C.length c := by
  obtain ⟨_, _, p, c, e, _⟩ := h
  exact ⟨p, c, e⟩

end Go.Proofs.YtldbaoolddlacaaGreatDoor
