/- The document's Right, Copied, Only of layer 15. -/
import Derived.Test.YtemikdmkjgmflaaGreatDoorJoz15
import Derived.BigRegion
import Derived.Deep.RegionLaw
import Derived.OwnWalk

namespace Go.Proofs.YtemikdmkjgmflaaGreatDoor
open Go.RowKit
set_option maxRecDepth 100000
theorem infoC : (Tryz.prog.info? 48).map (fun i => (i.zero, i.size, i.bytes)) = some (some (.agg #[.string ⟨#[]⟩, .bool false, .bool false, .bool false, .bool false, .bool false, .bool false, .bool false, .string ⟨#[]⟩, .slice none 0 0]), 10, 64) := by kernel_rfl
theorem cts_form {w : World} {v : Value} {C : List Ct} (h : CtsV w v C) : ∃ p k, v = .slice p C.length k := by
  obtain ⟨F, _, p, k, e, _⟩ := h
  exact ⟨p, k, e⟩
theorem nds_form {w : World} {v : Value} {l : List Nd} (h : NodesV w v l) : ∃ p k, v = .slice p l.length k := by
  obtain ⟨p, k, e, _⟩ := h
  exact ⟨p, k, e⟩
theorem CtsO.form {base : Nat} {w : World} {v : Value} {C : List Ct} {F : List Value} (h : CtsO base w v C F) : ∃ p k, v = .slice p C.length k ∧ C.length ≤ k := by
  rcases h.row.2 with ⟨e, q⟩ | ⟨g, cap, cur, e, hb, hg, h1, h2, _⟩
  · exact ⟨none, 0, by rw [e, q], by omega⟩
  · exact ⟨_, cap, e, h1⟩
theorem ctsel_set (c : Ct) (fv : Value) (b : Bool) : (ctCells c fv).set 6 (.bool b) = ctCells { c with sel := b } fv := rfl

end Go.Proofs.YtemikdmkjgmflaaGreatDoor
