/- The document's Write of layer 15. -/
import Derived.Test.YtemikdmkjgmflaaDoorJod20

namespace Go.Proofs.YtemikdmkjgmflaaDoor
open Go.RowKit
set_option maxRecDepth 100000
theorem files_set {w : World} {C : List Ct} {F : List Value} {r : Nat} {c : Ct} (h : FilesIn w C F) (hr : r < C.length) (hc : c.files = C[r].files) : FilesIn w (C.set r c) F :=
  h.other (List.length_set ..) (fun i h1 h2 => by
    rw [List.getElem_set]
    split
    · rename_i e; subst e; exact hc
    · rfl)

end Go.Proofs.YtemikdmkjgmflaaDoor
