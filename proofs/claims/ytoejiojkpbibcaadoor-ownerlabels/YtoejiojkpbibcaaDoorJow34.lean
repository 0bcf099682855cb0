/- A node and what is within it, in order. -/
import Derived.Test.YtoejiojkpbibcaaDoorJow4

namespace Go.Proofs.YtoejiojkpbibcaaDoor
open Go.RowKit
theorem order_nodup {l : List Nd} (h : Right l) {id : Int} (h0 : 0 ≤ id) (hi : id < l.length) : (orderP l id).Nodup := by
  have := (order_inv h h0 hi).once
  rw [List.append_nil] at this
  exact this

end Go.Proofs.YtoejiojkpbibcaaDoor
