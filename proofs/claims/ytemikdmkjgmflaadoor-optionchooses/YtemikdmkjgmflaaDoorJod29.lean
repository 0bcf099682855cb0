/- The document's Reset of layer 15. -/
import Derived.Test.YtemikdmkjgmflaaDoorJod17
import Derived.BigRegion
import Derived.Deep.RegionLaw
import Derived.Deep.RegionHeld3

namespace Go.Proofs.YtemikdmkjgmflaaDoor
open Go.RowKit
set_option maxRecDepth 100000
theorem list_few {l : List Nd} (h : Right l) (sel : Int) : (listP l sel).length ≤ 400 := by
  unfold listP
  split
  · rename_i q
    have hh : hasN l sel = true := by unfold isK at q; rw [Bool.and_eq_true] at q; exact q.1
    obtain ⟨m, hI⟩ := Is.of hh
    rw [hI.eq]
    exact Nat.le_trans (List.length_filter_le ..) (order_few h hI.lt)
  · exact Nat.zero_le _

end Go.Proofs.YtemikdmkjgmflaaDoor
