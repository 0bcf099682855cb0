/- The document's List of layer 15. -/
import Derived.Test.YtoejiojkpbibcaaDoorJow34
import Derived.Deep.MidRow
import Derived.Deep.DeepCutAuto

namespace Go.Proofs.YtoejiojkpbibcaaDoor
open Go.RowKit
set_option maxRecDepth 100000
theorem order_few {l : List Nd} (h : Right l) {m : Nat} (hm : m < l.length) : (orderP l (m : Int)).length ≤ 400 := by
  have h1 := nodup_len l.length _ (order_nodup h (id := (m : Int)) (by omega) (by omega)) (fun x hx => by
    have := (order_mem h (by omega) (by omega) x).1 hx
    exact ⟨this.1, this.2.1⟩)
  have := h.len
  omega

end Go.Proofs.YtoejiojkpbibcaaDoor
