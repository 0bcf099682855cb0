/- Entries told by a text and read again, as functions of lists. Stage 19's wakes and its laws, walked. -/
import Derived.Test.YtfedeiipinamjaaDoorJur2
import Derived.Lib.SplitLaws
import Derived.Lib.Join
import Derived.Shelf.Strings.BuilderK
import Derived.Shelf.Strings.Cut
import Derived.Shelf.Abstract

namespace Go.Proofs.YtfedeiipinamjaaDoor
open Go.RowKit
theorem encU_len {l : List En} {n : Nat} (h : EnsOK n l) : (encU l).length ≤ 200 * (12 * n + 1) + 200 := by
  unfold encU
  refine Nat.le_trans (join_len _ _) ?_
  have h1 : (((plainU l).map encE).map List.length).sum ≤ l.length * (12 * n + 1) := by
    unfold plainU
    rw [List.map_map, List.map_map]
    refine sum_le _ _ l (fun e he => ?_)
    have p := pl_size (h.ent e he)
    have q := encE_len (plE e)
    show (encE (plE e)).length ≤ _
    omega
  have h2 : ((plainU l).map encE).length = l.length := by unfold plainU; simp
  have h3 := h.len
  have h4 : l.length * (12 * n + 1) ≤ 200 * (12 * n + 1) := Nat.mul_le_mul_right _ h3
  omega
end Go.Proofs.YtfedeiipinamjaaDoor

namespace Go.Proofs.YtfedeiipinamjaaDoor
open Go.RowKit
set_option maxRecDepth 100000
theorem ur_size {l : List En} (h : EnsOK 2000 l) : (urlS l).size ≤ 16777216 := by
  have := encU_len h
  have e : (urlS l).size = (encU l).length := rfl
  omega

end Go.Proofs.YtfedeiipinamjaaDoor
