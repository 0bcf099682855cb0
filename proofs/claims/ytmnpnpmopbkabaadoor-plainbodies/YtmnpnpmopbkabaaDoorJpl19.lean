/- The wrap of a row that lists variables, for a contract that wants the world's shape besides (that a variable of the library's own holds some number). The program's tables of layer 20's road read as its text lays them. The program's tables of layer 21's road read as its text lays them. -/
import Derived.Test.YtmnpnpmopbkabaaDoorJpl9
import Derived.Handed
import Derived.Shelf.Vars
import Derived.LaidMore

namespace Go.Proofs.YtmnpnpmopbkabaaDoor
open Go
set_option maxRecDepth 100000
theorem max_of {W : World} (h : W.ShapedOpen Tryd.prog) : ∃ m, W.cell? ⟨3, 0, none⟩ = some (.int .i64 m) :=
  cell_of_shapedOpen_int (P := Tryd.prog) (g := 3) (t := 3) (zero := #[.int .i64 0]) h (of_decide_eq_true (by kernel_rfl)) (by kernel_rfl) rfl (by kernel_rfl) (by kernel_rfl) Tryd.underlying3
end Go.Proofs.YtmnpnpmopbkabaaDoor

namespace Go.Proofs.YtmnpnpmopbkabaaDoor
open Go.RowKit
set_option maxRecDepth 100000
def sgL : List (List UInt8 × List UInt8) := [([10], [37, 48, 65]), ([13], [37, 48, 68]), ([34], [37, 50, 50])]
theorem sg_eq : (Rows.laid_counterfoil_parts_signs : DataW Unit) = .agg (sgL.map fun u => .agg [.lit (.string u.1), .lit (.string u.2)]) := by kernel_rfl
theorem one_cellS {cs : List Value} {b o : Nat} {u : Value} (h : (((cs.drop b).take 2).drop o).take 1 = [u]) : cs[b + o]? = some u := by
  have e := congrArg (·[0]?) h
  have e' : ((((cs.drop b).take 2).drop o).take 1)[0]? = some u := e
  rw [List.getElem?_take, if_pos (by decide), List.getElem?_drop, List.getElem?_take] at e'
  split at e'
  · rw [List.getElem?_drop, Nat.add_zero] at e'; exact e'
  · cases e'
theorem cellsSg : Tryd.prog.cellsOf 74 = 2 := by kernel_rfl
theorem cellsS1P : Tryd.prog.cellsOf 9 = 1 := by kernel_rfl
theorem sg_row {w : World} (h : Lib.VarReads Tryd.prog w "counterfoil/parts.signs" Rows.laid_counterfoil_parts_signs) (k : Nat) (hk : k < 3) (a b : List UInt8) (hr : sgL[k]? = some (a, b)) :
    w.cell? ⟨0, k * 2, none⟩ = some (.string (txt a)) ∧ w.cell? ⟨0, k * 2 + 1, none⟩ = some (.string (txt b)) := by
  rw [sg_eq] at h
  obtain ⟨g, t, cs, fuel, p, hg, hty, hvar, hd⟩ := h
  have e1 : g = 0 := Option.some.inj (hg.symm.trans (by kernel_rfl))
  subst e1
  have e2 : t = 75 := Option.some.inj (hty.symm.trans (by kernel_rfl))
  subst e2
  obtain ⟨fuel', d, q, hdi, hx⟩ := Lib.array_elem Tryd.underlying75 hd k hk
  rw [cellsSg] at hx
  obtain ⟨xs, n, _, ex, hl, hlen, hf⟩ := DataW.trod_struct Tryd.underlying74 hx
  match xs, hlen with
  | [y0, y1], _ =>
    have f0 := hf 0 _ rfl
    have f1 := hf 1 _ rfl
    obtain ⟨z0, c0, r0, _⟩ := DataW.trod_string Tryd.underlying9 f0
    obtain ⟨z1, c1, r1, _⟩ := DataW.trod_string Tryd.underlying9 f1
    subst r0 r1
    have ed : d = .agg [.lit (.string z0.data.toList), .lit (.string z1.data.toList)] := congrArg Prod.fst ex
    rw [ed, List.getElem?_map, hr] at hdi
    simp only [Option.map_some, Option.some.injEq, DataW.agg.injEq, List.cons.injEq, DataW.lit.injEq, Lit.string.injEq, and_true] at hdi
    obtain ⟨h0, h1⟩ := hdi
    replace c0 : (((cs.toList.drop (k * 2)).take 2).drop 0).take (Tryd.prog.cellsOf 9) = [.string z0] := c0
    replace c1 : (((cs.toList.drop (k * 2)).take 2).drop 1).take (Tryd.prog.cellsOf 9) = [.string z1] := c1
    rw [cellsS1P] at c0 c1
    have t0 : txt a = z0 := by rw [h0]; exact txt_is z0
    have t1 : txt b = z1 := by rw [h1]; exact txt_is z1
    refine ⟨?_, ?_⟩
    · rw [World.var?_cell hg hvar, t0, ← Array.getElem?_toList]; exact one_cellS (o := 0) c0
    · rw [World.var?_cell hg hvar, t1, ← Array.getElem?_toList]; exact one_cellS (o := 1) c1
theorem sgP_of {w : World} (h : Lib.VarReads Tryd.prog w "counterfoil/parts.signs" Rows.laid_counterfoil_parts_signs) : SgP w :=
  ⟨(sg_row h 0 (by decide) _ _ rfl).1, (sg_row h 0 (by decide) _ _ rfl).2, (sg_row h 1 (by decide) _ _ rfl).1, (sg_row h 1 (by decide) _ _ rfl).2, (sg_row h 2 (by decide) _ _ rfl).1, (sg_row h 2 (by decide) _ _ rfl).2⟩
end Go.Proofs.YtmnpnpmopbkabaaDoor

namespace Go.Proofs.YtmnpnpmopbkabaaDoor
open Go.RowKit
/-- What the row of PlainBodies lists. -/
def plLaid : List (String × DataW Unit) := [("unicode/utf8.acceptRanges", Rows.laid_unicode_utf8_acceptRanges), ("counterfoil/escape.signs", Rows.laid_counterfoil_escape_signs), ("counterfoil/escape.digits", Rows.laid_counterfoil_escape_digits), ("counterfoil/parts.signs", Rows.laid_counterfoil_parts_signs), ("unicode/utf8.first", Rows.laid_unicode_utf8_first)]
theorem plTabs_at {W : World} (hL : laidMet Tryd.prog plLaid W) (hsh : W.ShapedOpen Tryd.prog) : PlTabs W :=
  ⟨⟨signs_of (Lib.laidMet.reads hL (.tail _ (.head _))), digs_of (Lib.laidMet.reads hL (.tail _ (.tail _ (.head _)))), max_of hsh⟩,
   sgP_of (Lib.laidMet.reads hL (.tail _ (.tail _ (.tail _ (.head _))))), max_of hsh⟩

end Go.Proofs.YtmnpnpmopbkabaaDoor
