/- The document's Reset of layer 15. -/
import Derived.Test.YtnojgejcmaajmaaGreatDoorProg
import Derived.Test.YtnojgejcmaajmaaGreatDoorJsb13
import Derived.Test.YtnojgejcmaajmaaGreatDoorJsb14
import Derived.Deep.RegionLaw
import Derived.Shelf.Strings.SlTrimAscii
import Derived.Lib.Builder
import Derived.Lib.UnsafeStr
import Derived.Shelf.Strings.Builder1
import Derived.Shelf.Small.Strs

namespace Go.Proofs.YtnojgejcmaajmaaGreatDoor
open Go.RowKit
set_option maxRecDepth 100000
theorem list_few {l : List Nd} (h : Right l) (sel : Int) : (listP l sel).length ≤ 400 := by
  unfold listP
  split
  · rename_i q
    have hh : hasN l sel = true := by unfold isK at q; rw [Bool.and_eq_true] at q; exact q.1
    obtain ⟨m, hI⟩ := Is.of hh
    rw [hI.eq]
    exact Nat.le_trans (List.length_filter_le ..) (order_few h hI.lt)
  · exact Nat.zero_le _

end Go.Proofs.YtnojgejcmaajmaaGreatDoor
