/- The program's slices.AppendSeq, slices.Collect over its iterator, List of layer 15. -/
import Derived.Test.YtemikdmkjgmflaaDoorJod13
import Derived.OwnWalk
import Derived.BigRegion
import Derived.Deep.RegionLaw
import Derived.Deep.RegionHeld3
import Derived.Deep.RegionWith
import Derived.Laws.MakeOwn

namespace Go.Proofs.YtemikdmkjgmflaaDoor
open Go.RowKit Go.Shelf
set_option maxRecDepth 100000
attribute [local go_sem] Oper.semAt_some
/-- What the iterator asks of a right document. -/
theorem iter_of {w : World} {p : Option Addr} {c : Nat} {l : List Nd} {sel : Int} (hv : NodesV w (.slice p l.length c) l) (hz : DocSz l) (hT : KTabs w) (hR : Right l) (hs : inR l sel) : Iter l sel p c w :=
  optIter_any l sel p c w hv (right_linked hR) hs hT (fun n hn => by
    obtain ⟨i, hi, rfl⟩ := List.getElem_of_mem hn
    have k := kids_few hR hi
    rw [nd_at hi] at k
    have nz := hz.nds _ (List.getElem_mem hi)
    exact ⟨nz.attrs, by omega, nz.tx⟩)

end Go.Proofs.YtemikdmkjgmflaaDoor
