/- The wrap of a row that lists variables, for a contract that wants the world's shape besides (that a variable of the library's own holds some number). The tables of the road of layer 12, from the rows' own condition. -/
import Derived.Test.YtfjfkkbgkjmghaaGreatDoorJct14
import Derived.Handed
import Derived.Shelf.Vars
import Derived.LaidMore
import Derived.Stop.LaidErr

namespace Go.Proofs.YtfjfkkbgkjmghaaGreatDoor
open Go
set_option maxRecDepth 100000
theorem max_of {W : World} (h : W.ShapedOpen Tryz.prog) : ∃ m, W.cell? ⟨1, 0, none⟩ = some (.int .i64 m) :=
  cell_of_shapedOpen_int (P := Tryz.prog) (g := 1) (t := 3) (zero := #[.int .i64 0]) h (of_decide_eq_true (by kernel_rfl)) (by kernel_rfl) rfl (by kernel_rfl) (by kernel_rfl) Tryz.underlying3
end Go.Proofs.YtfjfkkbgkjmghaaGreatDoor

namespace Go.Proofs.YtfjfkkbgkjmghaaGreatDoor
open Go.RowKit
theorem tens_eq : (Rows.laid_internal_strconv_uint64pow10 : DataW Unit) = Lib.tabData .u64 Lib.pow10Tab := by kernel_rfl
theorem tens_of {W : World} (h : Lib.VarReads Tryz.prog W "internal/strconv.uint64pow10" Rows.laid_internal_strconv_uint64pow10) : Tens W := by
  rw [tens_eq] at h
  obtain ⟨g, t, cs, fuel, p, hg, hty, hvar, hd⟩ := h
  have e1 : g = 5 := Option.some.inj (hg.symm.trans (by kernel_rfl))
  subst e1
  have e2 : t = 215 := Option.some.inj (hty.symm.trans (by kernel_rfl))
  subst e2
  show W.var? Tryz.prog _ = _
  rw [hvar, ← Lib.cells_of_tab (n := 20) Tryz.underlying215 Tryz.underlying92 (by kernel_rfl) (by kernel_rfl) hd]
theorem err_star : "*" ++ "errors.errorString" = "*errors.errorString" := by decide
theorem err_row (u : TypeId) (h : Tryz.prog.typeName? 3 u = some "*errors.errorString") : u = 234 :=
  typeName_ptr_named (nm := "errors.errorString") (by rw [err_star]; kernel_rfl) (by kernel_rfl) (by decide) u (by rw [err_star]; exact h)
/-- An error that the row lists. -/
theorem err_of {n : String} {g : Nat} {text : List UInt8} {r : List (String × DataW Unit)} {W : World} (hL : laidMet Tryz.prog ((n, .iface "*errors.errorString" (.ptr (.agg [.lit (.string text)]))) :: r) W)
    (hg : Tryz.prog.globalNamed n = some g) (ht : (Tryz.prog.globals[g]?).map (·.type) = some 111) : ErrAt g W := by
  obtain ⟨a, s, hv, -, -, -⟩ := laid_sentinel hL hg ht Tryz.underlying111 err_row Tryz.underlying234 Tryz.underlying236 rfl rfl Tryz.underlying9 (by kernel_rfl) (by kernel_rfl)
  exact ⟨_, by have h0 := World.var?_cell hg hv 0; simpa using h0, .inr ⟨_, _, rfl⟩⟩
def unitL : List (Int × Int × Int) := [(1, 86400000, 86400000), (2, 1, 1), (3, 604800000, 604800000), (4, 1000, 60000), (5, 1000, 60000), (0, 1000000, 1000000), (0, 1000000, 1000000)]
theorem units_eq : (Rows.laid_counterfoil_step_units : DataW Unit) = .agg (unitL.map fun u => .agg [.lit (.int .i64 u.1), .lit (.int .i64 u.2.1), .lit (.int .i64 u.2.2)]) := by kernel_rfl
theorem unit_row (k : Nat) (hk : k < 7) : unitL[k]? = some (momK (k + 8), scaleK (k + 8), defK (k + 8)) := by
  match k, hk with
  | 0, _ => rfl
  | 1, _ => rfl
  | 2, _ => rfl
  | 3, _ => rfl
  | 4, _ => rfl
  | 5, _ => rfl
  | 6, _ => rfl
theorem one_cell {cs : List Value} {b o : Nat} {u : Value} (h : (((cs.drop b).take 3).drop o).take 1 = [u]) : cs[b + o]? = some u := by
  have e := congrArg (·[0]?) h
  have e' : ((((cs.drop b).take 3).drop o).take 1)[0]? = some u := e
  rw [List.getElem?_take, if_pos (by decide), List.getElem?_drop, List.getElem?_take] at e'
  split at e'
  · rw [List.getElem?_drop, Nat.add_zero] at e'; exact e'
  · cases e'
theorem cellsU : Tryz.prog.cellsOf 120 = 3 := by kernel_rfl
theorem cellsI1 : Tryz.prog.cellsOf 3 = 1 := by kernel_rfl
theorem cellsL1 : Tryz.prog.cellsOf 2 = 1 := by kernel_rfl
theorem units_of {w : World} (h : Lib.VarReads Tryz.prog w "counterfoil/step.units" Rows.laid_counterfoil_step_units) : Units w := by
  rw [units_eq] at h
  obtain ⟨g, t, cs, fuel, p, hg, hty, hvar, hd⟩ := h
  have e1 : g = 0 := Option.some.inj (hg.symm.trans (by kernel_rfl))
  subst e1
  have e2 : t = 145 := Option.some.inj (hty.symm.trans (by kernel_rfl))
  subst e2
  intro k hk
  obtain ⟨fuel', d, q, hdi, hx⟩ := Lib.array_elem Tryz.underlying145 hd k hk
  rw [cellsU] at hx
  obtain ⟨xs, n, _, ex, hl, hlen, hf⟩ := DataW.trod_struct Tryz.underlying120 hx
  match xs, hlen with
  | [y0, y1, y2], _ =>
    have f0 := hf 0 _ rfl
    have f1 := hf 1 _ rfl
    have f2 := hf 2 _ rfl
    obtain ⟨z0, c0, r0, _⟩ := DataW.trod_int Tryz.underlying3 f0
    obtain ⟨z1, c1, r1, _⟩ := DataW.trod_int Tryz.underlying2 f1
    obtain ⟨z2, c2, r2, _⟩ := DataW.trod_int Tryz.underlying2 f2
    subst r0 r1 r2
    have ed : d = .agg [.lit (.int .i64 z0), .lit (.int .i64 z1), .lit (.int .i64 z2)] := congrArg Prod.fst ex
    rw [ed, List.getElem?_map, unit_row k hk] at hdi
    simp only [Option.map_some, Option.some.injEq, DataW.agg.injEq, List.cons.injEq, DataW.lit.injEq, Lit.int.injEq, true_and, and_true] at hdi
    obtain ⟨h0, h1, h2⟩ := hdi
    replace c0 : (((cs.toList.drop (k * 3)).take 3).drop 0).take (Tryz.prog.cellsOf 3) = [.int .i64 z0] := c0
    replace c1 : (((cs.toList.drop (k * 3)).take 3).drop 1).take (Tryz.prog.cellsOf 2) = [.int .i64 z1] := c1
    replace c2 : (((cs.toList.drop (k * 3)).take 3).drop 2).take (Tryz.prog.cellsOf 2) = [.int .i64 z2] := c2
    rw [cellsI1] at c0
    rw [cellsL1] at c1 c2
    refine ⟨?_, ?_, ?_⟩
    · rw [World.var?_cell hg hvar, h0, ← Array.getElem?_toList]; exact one_cell (o := 0) c0
    · rw [World.var?_cell hg hvar, h1, ← Array.getElem?_toList]; exact one_cell (o := 1) c1
    · rw [World.var?_cell hg hvar, h2, ← Array.getElem?_toList]; exact one_cell (o := 2) c2
/-- What the rows of layer 12 list. -/
def stepLaid : List (String × DataW Unit) := [("math/bits.deBruijn32tab", Rows.laid_math_bits_deBruijn32tab), ("math/bits.deBruijn64tab", Rows.laid_math_bits_deBruijn64tab), ("internal/strconv.uint64pow10", Rows.laid_internal_strconv_uint64pow10), ("unicode/utf8.acceptRanges", Rows.laid_unicode_utf8_acceptRanges), ("strconv.ErrRange", Rows.laid_strconv_ErrRange), ("strconv.ErrSyntax", Rows.laid_strconv_ErrSyntax), ("counterfoil/days.lengths", Rows.laid_counterfoil_days_lengths), ("counterfoil/step.units", Rows.laid_counterfoil_step_units), ("unicode/utf8.first", Rows.laid_unicode_utf8_first)]
theorem stTabs_at {W : World} (hL : laidMet Tryz.prog stepLaid W) (hsh : W.ShapedOpen Tryz.prog) : StTabs W := by
  have h4 : laidMet Tryz.prog _ W := laidMet.tail (laidMet.tail (laidMet.tail (laidMet.tail hL)))
  refine ⟨⟨⟨⟨err_of (laidMet.tail h4) (by kernel_rfl) (by kernel_rfl), err_of h4 (by kernel_rfl) (by kernel_rfl)⟩, ?_⟩, ?_⟩, max_of hsh, ?_⟩
  · exact lens_of (Lib.laidMet.reads hL (.tail _ (.tail _ (.tail _ (.tail _ (.tail _ (.tail _ (.head _))))))))
  · exact tens_of (Lib.laidMet.reads hL (.tail _ (.tail _ (.head _))))
  · exact units_of (Lib.laidMet.reads hL (.tail _ (.tail _ (.tail _ (.tail _ (.tail _ (.tail _ (.tail _ (.head _)))))))))

end Go.Proofs.YtfjfkkbgkjmghaaGreatDoor
