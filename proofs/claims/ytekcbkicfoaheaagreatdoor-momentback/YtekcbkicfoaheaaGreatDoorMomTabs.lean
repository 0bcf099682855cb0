/- The tables of the road of moments, from the row's own condition. No condition of its own. -/
import Derived.Lib.LaidU8
import Derived.Stop.LaidErr
import Derived.Test.YtekcbkicfoaheaaGreatDoorRows
import Derived.Test.YtekcbkicfoaheaaGreatDoorMomProg
namespace Go.Proofs.YtekcbkicfoaheaaGreatDoor
open Go.RowKit

theorem tens_eq : (Rows.laid_internal_strconv_uint64pow10 : DataW Unit) = Lib.tabData .u64 Lib.pow10Tab := by kernel_rfl
theorem tens_of {W : World} (h : Lib.VarReads Tryz.prog W "internal/strconv.uint64pow10" Rows.laid_internal_strconv_uint64pow10) : Tens W := by
  rw [tens_eq] at h
  obtain ⟨g, t, cs, fuel, p, hg, hty, hvar, hd⟩ := h
  have e1 : g = 4 := Option.some.inj (hg.symm.trans (by kernel_rfl))
  subst e1
  have e2 : t = 144 := Option.some.inj (hty.symm.trans (by kernel_rfl))
  subst e2
  show W.var? Tryz.prog _ = _
  rw [hvar, ← Lib.cells_of_tab (n := 20) Tryz.underlying144 Tryz.underlying74 (by kernel_rfl) (by kernel_rfl) hd]

theorem err_star : "*" ++ "errors.errorString" = "*errors.errorString" := by decide
theorem err_row (u : TypeId) (h : Tryz.prog.typeName? 3 u = some "*errors.errorString") : u = 152 :=
  typeName_ptr_named (nm := "errors.errorString") (by rw [err_star]; kernel_rfl) (by kernel_rfl) (by decide) u (by rw [err_star]; exact h)
/-- An error that the row lists. -/
theorem err_of {n : String} {g : Nat} {text : List UInt8} {r : List (String × DataW Unit)} {W : World} (hL : laidMet Tryz.prog ((n, .iface "*errors.errorString" (.ptr (.agg [.lit (.string text)]))) :: r) W)
    (hg : Tryz.prog.globalNamed n = some g) (ht : (Tryz.prog.globals[g]?).map (·.type) = some 95) : ErrAt g W := by
  obtain ⟨a, s, hv, -, -, -⟩ := laid_sentinel hL hg ht Tryz.underlying95 err_row Tryz.underlying152 Tryz.underlying154 rfl rfl Tryz.underlying9 (by kernel_rfl) (by kernel_rfl)
  exact ⟨_, by have h0 := World.var?_cell hg hv 0; simpa using h0, .inr ⟨_, _, rfl⟩⟩

/-- What the rows of moments list. -/
def momLaid : List (String × DataW Unit) := [("math/bits.deBruijn32tab", Rows.laid_math_bits_deBruijn32tab), ("math/bits.deBruijn64tab", Rows.laid_math_bits_deBruijn64tab), ("internal/strconv.uint64pow10", Rows.laid_internal_strconv_uint64pow10), ("unicode/utf8.acceptRanges", Rows.laid_unicode_utf8_acceptRanges), ("strconv.ErrRange", Rows.laid_strconv_ErrRange), ("strconv.ErrSyntax", Rows.laid_strconv_ErrSyntax), ("counterfoil/days.lengths", Rows.laid_counterfoil_days_lengths), ("unicode/utf8.first", Rows.laid_unicode_utf8_first)]
theorem tabs_at {W : World} (hL : laidMet Tryz.prog momLaid W) : Tabs W := by
  have h4 : laidMet Tryz.prog _ W := laidMet.tail (laidMet.tail (laidMet.tail (laidMet.tail hL)))
  refine ⟨⟨⟨err_of (laidMet.tail h4) (by kernel_rfl) (by kernel_rfl), err_of h4 (by kernel_rfl) (by kernel_rfl)⟩, ?_⟩, ?_⟩
  · exact lens_of (Lib.laidMet.reads hL (.tail _ (.tail _ (.tail _ (.tail _ (.tail _ (.tail _ (.head _))))))))
  · exact tens_of (Lib.laidMet.reads hL (.tail _ (.tail _ (.head _))))

end Go.Proofs.YtekcbkicfoaheaaGreatDoor
