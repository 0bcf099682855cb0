/- The library's variable MaxLen holds some number: kept while what was there stays. No condition. -/
import Derived.Test.YtkllknfgojjphaaDoorRows
import Derived.Test.YtkllknfgojjphaaDoorDKit
namespace Go.Proofs.YtkllknfgojjphaaDoor
open Go.RowKit

/-- The library's variable MaxLen holds some number. -/
def SomeMax (w : World) : Prop := ∃ m, w.cell? ⟨2, 0, none⟩ = some (.int .i64 m)
theorem SomeMax.below {w w' : World} (h : SomeMax w) (hb : Below w.heap.size w w') : SomeMax w' := by
  obtain ⟨m, hm⟩ := h
  exact ⟨m, (hb.cell (World.block_lt_of_cell? _ _ hm)).trans hm⟩

end Go.Proofs.YtkllknfgojjphaaDoor
