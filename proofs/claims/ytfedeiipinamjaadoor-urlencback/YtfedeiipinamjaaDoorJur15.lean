/- Escapes of texts, as lists of bytes. -/
import Derived.Test.YtfedeiipinamjaaDoorJur2

namespace Go.Proofs.YtfedeiipinamjaaDoor
open Go.RowKit
theorem escB_form_all : ∀ c : UInt8, escB 7 c = (!plainB c && !hasB formSg c) := by
  intro c
  have : ∀ n : Fin 256, escB 7 (UInt8.ofNat n.val) = (!plainB (UInt8.ofNat n.val) && !hasB formSg (UInt8.ofNat n.val)) := by decide +kernel
  have h := this ⟨c.toNat, c.toNat_lt⟩
  simpa using h

end Go.Proofs.YtfedeiipinamjaaDoor
