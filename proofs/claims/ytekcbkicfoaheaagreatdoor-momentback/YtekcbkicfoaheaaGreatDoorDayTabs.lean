/- What the program's table of lengths holds, cell by cell, where it reads as its text lays it. No condition. -/
import Derived.Lib.LaidU8
import Derived.Test.YtekcbkicfoaheaaGreatDoorRows
import Derived.Test.YtekcbkicfoaheaaGreatDoorDayFacts
namespace Go.Proofs.YtekcbkicfoaheaaGreatDoor
open Go.RowKit

theorem tab_int {P : Program} {w : World} {name : String} {g : Nat} {t e : TypeId} {n : Nat} {zs : List Int} {kd : IntKind} (hg : P.globalNamed name = some g) (hty : (P.globals[g]?).map (·.type) = some t)
    (ht : P.underlying t = some (.array n e)) (he : P.underlying e = some (.int kd)) (hce : P.cellsOf e = 1) (h : Lib.VarReads P w name (.agg (zs.map fun z => .lit (.int kd z)))) (k : Nat) (hk : k < n) :
    w.cell? ⟨g, k, none⟩ = some (.int kd (zs.getD k 0)) := by
  obtain ⟨g', t', cs, fuel, p, hg', hty', hvar, hd⟩ := h
  obtain rfl := Option.some.inj (hg.symm.trans hg')
  obtain rfl := Option.some.inj (hty.symm.trans hty')
  obtain ⟨fuel', d, q, hdi, hx⟩ := Lib.array_elem ht hd k hk
  rw [hce] at hx
  obtain ⟨z, hcs, hd', _⟩ := DataW.trod_int he hx
  have e1 : cs[k]? = some (.int kd z) := by
    have := congrArg (·[0]?) hcs
    simpa [List.getElem?_take, List.getElem?_drop] using this
  have e2 : zs[k]? = some z := by
    have e3 : d = .lit (.int kd z) := congrArg Prod.fst hd'
    rw [e3] at hdi
    simp only [List.getElem?_map, Option.map_eq_some_iff, DataW.lit.injEq, Lit.int.injEq, true_and] at hdi
    obtain ⟨l, h1, rfl⟩ := hdi
    exact h1
  rw [World.var?_cell hg hvar k, e1, List.getD, e2]
  rfl

/-- The program's table of lengths: of a year that is no leap year. -/
def Lens (w : World) : Prop := ∀ k : Nat, k < 12 → w.cell? ⟨0, k, none⟩ = some (.int .i64 (lenV 1 (k + 1)))
theorem Lens.below {w w' : World} (h : Lens w) (hb : Below w.heap.size w w') : Lens w' := by
  intro k hk
  have := h k hk
  exact (hb.cell (World.block_lt_of_cell? _ _ this)).trans this
theorem lens_eq : (Rows.laid_counterfoil_days_lengths : DataW Unit) = .agg (((List.range 12).map fun k : Nat => lenV 1 ((k : Int) + 1)).map fun z => .lit (.int .i64 z)) := by kernel_rfl
theorem lens_of {w : World} (h : Lib.VarReads Tryz.prog w "counterfoil/days.lengths" Rows.laid_counterfoil_days_lengths) : Lens w := by
  intro k hk
  rw [lens_eq] at h
  have := tab_int (P := Tryz.prog) (g := 0) (by kernel_rfl) (by kernel_rfl) Tryz.underlying76 Tryz.underlying3 (by kernel_rfl) h k hk
  rw [this]
  simp [List.getD, hk]

end Go.Proofs.YtekcbkicfoaheaaGreatDoor
