/- The program's Decode of layer 19. -/
import Derived.Test.YtfedeiipinamjaaDoorJur8

namespace Go.Proofs.YtfedeiipinamjaaDoor
open Go.RowKit
set_option maxRecDepth 100000
theorem urPlain_any (n : Nat) (v : Value) (l : List En) (w : World) (hv : FilesV w v l) (hn : n ≤ 1000000) (hl : EnsOK n l) (_hT : UrTabs w) :
    Calls Tryd.prog 11 #[v] w fun e w' => ∃ v', e = .returned v' ∧ FilesV w' v' (plainU l) ∧ Below w.heap.size w w' := by
  refine (urPlainO_any n v l w hv (by omega) hl).mono ?_
  rintro e w' ⟨v', rfl, h1, h2⟩
  exact ⟨v', rfl, h1.files, h2⟩

end Go.Proofs.YtfedeiipinamjaaDoor
