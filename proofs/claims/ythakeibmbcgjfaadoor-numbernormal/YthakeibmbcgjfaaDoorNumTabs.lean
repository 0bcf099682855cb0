/- The library's table of powers of ten, from the road's own condition. No condition of its own. -/
import Derived.Lib.LaidU8
import Derived.Test.YthakeibmbcgjfaaDoorRows
import Derived.Test.YthakeibmbcgjfaaDoorNumFmt
namespace Go.Proofs.YthakeibmbcgjfaaDoor
open Go.RowKit

theorem tens_eq : (Rows.laid_internal_strconv_uint64pow10 : DataW Unit) = Lib.tabData .u64 Lib.pow10Tab := by kernel_rfl
theorem tens_of {W : World} (h : Lib.VarReads Tryd.prog W "internal/strconv.uint64pow10" Rows.laid_internal_strconv_uint64pow10) : Tens W := by
  rw [tens_eq] at h
  obtain ⟨g, t, cs, fuel, p, hg, hty, hvar, hd⟩ := h
  have e1 : g = 0 := Option.some.inj (hg.symm.trans (by kernel_rfl))
  subst e1
  have e2 : t = 80 := Option.some.inj (hty.symm.trans (by kernel_rfl))
  subst e2
  show W.var? Tryd.prog _ = _
  rw [hvar, ← Lib.cells_of_tab (n := 20) Tryd.underlying80 Tryd.underlying41 (by kernel_rfl) (by kernel_rfl) hd]

end Go.Proofs.YthakeibmbcgjfaaDoor
