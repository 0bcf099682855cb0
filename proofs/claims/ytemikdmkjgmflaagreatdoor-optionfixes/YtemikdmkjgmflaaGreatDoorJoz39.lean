/- The program's first, selectOnly of layer 15. -/
import Derived.Test.YtemikdmkjgmflaaGreatDoorJoz20

namespace Go.Proofs.YtemikdmkjgmflaaGreatDoor
open Go.RowKit Go.Shelf
set_option maxRecDepth 100000
attribute [local go_sem] Oper.semAt_some
theorem bk_own {β : Type} (B : Nat) (cs : List Value) (t : TypeId) : Own (fun (_ : β) W => Bk W B cs t) := fun _ X Y row hs hg hrow =>
  ⟨(hg.block B hs.lt (fun e' => by obtain ⟨o, ho, hc⟩ := hrow B e'.symm; rw [hs.lies] at ho; cases ho; cases hc)).trans hs.lies⟩

end Go.Proofs.YtemikdmkjgmflaaGreatDoor
