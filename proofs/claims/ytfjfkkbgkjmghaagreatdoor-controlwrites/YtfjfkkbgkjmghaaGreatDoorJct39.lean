/- The document's Start, Reset and Value of layer 14. -/
import Derived.Test.YtfjfkkbgkjmghaaGreatDoorRows
import Derived.WalkKit
import Derived.ProofKit
import Derived.OpenShut
import Derived.ShutString
import Derived.Below
import Derived.WalkSpells
import Derived.WalkLawsBesides
import Derived.KernelRfl
import Derived.Shelf.Abstract
import Derived.BigQuiet
import Derived.Deep.QuietTactic
import Derived.Laws.BytesArg
import Derived.Lib.ConvBytes
import Derived.Lib.AppendStr
import Derived.Shelf.SlSortCmp.QuietGrown
import Derived.Lib.ItoaNum
import Derived.Lib.TrimByte
import Derived.Lib.CutLaws
import Derived.Lib.IndexBytes
import Derived.Lib.SlTrimSet
import Derived.Lib.Replace
import Derived.Deep.DeepCutAuto

namespace Go.Proofs.YtfjfkkbgkjmghaaGreatDoor
open Go.RowKit
theorem ct_endB {w0 w : World} {b : Nat} (hb : w0.heap.size ≤ b) (h : Below w0.heap.size w0 w) (a0 a1 a2 a3 a4 a5 a6 a7 a8 a9 : Value) :
    Below w0.heap.size w0 ((((((((((w.setCell ⟨b, 0, none⟩ a0).setCell ⟨b, 1, none⟩ a1).setCell ⟨b, 2, none⟩ a2).setCell ⟨b, 3, none⟩ a3).setCell ⟨b, 4, none⟩ a4).setCell ⟨b, 5, none⟩ a5).setCell ⟨b, 6, none⟩ a6).setCell ⟨b, 7, none⟩ a7).setCell ⟨b, 8, none⟩ a8).setCell ⟨b, 9, none⟩ a9) :=
  (((((((((h.setCell hb _).setCell hb _).setCell hb _).setCell hb _).setCell hb _).setCell hb _).setCell hb _).setCell hb _).setCell hb _).setCell hb _

end Go.Proofs.YtfjfkkbgkjmghaaGreatDoor
