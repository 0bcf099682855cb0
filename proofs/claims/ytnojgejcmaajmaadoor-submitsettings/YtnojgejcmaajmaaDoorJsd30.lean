/- The wrap of a row that lists variables, for a contract that wants the world's shape besides (that a variable of the library's own holds some number). -/
import Derived.Test.YtnojgejcmaajmaaDoorRows
import Derived.Handed
import Derived.Shelf.Vars

namespace Go.Proofs.YtnojgejcmaajmaaDoor
open Go
set_option maxRecDepth 100000
theorem max_of {W : World} (h : W.ShapedOpen Tryd.prog) : ∃ m, W.cell? ⟨2, 0, none⟩ = some (.int .i64 m) :=
  cell_of_shapedOpen_int (P := Tryd.prog) (g := 2) (t := 3) (zero := #[.int .i64 0]) h (of_decide_eq_true (by kernel_rfl)) (by kernel_rfl) rfl (by kernel_rfl) (by kernel_rfl) Tryd.underlying3

end Go.Proofs.YtnojgejcmaajmaaDoor
