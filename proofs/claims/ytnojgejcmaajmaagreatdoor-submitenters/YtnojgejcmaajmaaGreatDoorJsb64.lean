/- The program's tables of layer 24's road read as its text lays them. -/
import Derived.Test.YtnojgejcmaajmaaGreatDoorJsb7
import Derived.Test.YtnojgejcmaajmaaGreatDoorJsb9

namespace Go.Proofs.YtnojgejcmaajmaaGreatDoor
open Go.RowKit
/-- What the rows of SubmitEnters and SubmitSettings list. -/
def sbKinds : List (String × DataW Unit) := [("counterfoil/kinds.types", Rows.laid_counterfoil_kinds_types), ("counterfoil/kinds.lastNames", Rows.laid_counterfoil_kinds_lastNames)]
theorem sbKindTabs_at {W : World} (hL : laidMet Tryz.prog sbKinds W) (hsh : W.ShapedOpen Tryz.prog) : KTabs W ∧ SomeMax W :=
  ⟨ktabs_of (Lib.laidMet.reads hL (.head _)) (Lib.laidMet.reads hL (.tail _ (.head _))), max_of hsh⟩

end Go.Proofs.YtnojgejcmaajmaaGreatDoor
