/- The program's two tables of layer 11, as its text lays them. The program's tables of layer 18's road read as its text lays them. -/
import Derived.Test.YtlppocdhfeejkaaGreatDoorJvv20
import Derived.Lib.LaidU8
import Derived.LaidMore

namespace Go.Proofs.YtlppocdhfeejkaaGreatDoor
open Go.RowKit
theorem tabs_text {P : Program} {w : World} {name : String} {g : Nat} {t e : TypeId} {n : Nat} {ts : List (List UInt8)} (hg : P.globalNamed name = some g) (hty : (P.globals[g]?).map (·.type) = some t)
    (ht : P.underlying t = some (.array n e)) (he : P.underlying e = some .string) (hce : P.cellsOf e = 1) (h : Lib.VarReads P w name (.agg (ts.map fun l => .lit (.string l)))) (k : Nat) (hk : k < n) :
    w.cell? ⟨g, k, none⟩ = some (.string (txt (ts.getD k []))) := by
  obtain ⟨g', t', cs, fuel, p, hg', hty', hvar, hd⟩ := h
  obtain rfl := Option.some.inj (hg.symm.trans hg')
  obtain rfl := Option.some.inj (hty.symm.trans hty')
  obtain ⟨fuel', d, q, hdi, hx⟩ := Lib.array_elem ht hd k hk
  rw [hce] at hx
  obtain ⟨s, hcs, hd', _⟩ := DataW.trod_string he hx
  have e1 : cs[k]? = some (.string s) := by
    have := congrArg (·[0]?) hcs
    simpa [List.getElem?_take, List.getElem?_drop] using this
  have e2 : ts[k]? = some s.data.toList := by
    have e3 : d = .lit (.string s.data.toList) := congrArg Prod.fst hd'
    rw [e3] at hdi
    simp only [List.getElem?_map, Option.map_eq_some_iff, DataW.lit.injEq, Lit.string.injEq] at hdi
    obtain ⟨l, h1, rfl⟩ := hdi
    exact h1
  rw [World.var?_cell hg hvar k, e1, List.getD, e2]
  rfl
theorem types_eq : (Rows.laid_counterfoil_kinds_types : DataW Unit) = .agg (tyL.map fun l => .lit (.string l)) := by kernel_rfl
theorem last_eq : (Rows.laid_counterfoil_kinds_lastNames : DataW Unit) = .agg (lastL.map fun l => .lit (.string l)) := by kernel_rfl
theorem ktabs_of {w : World} (h1 : Lib.VarReads Tryz.prog w "counterfoil/kinds.types" Rows.laid_counterfoil_kinds_types) (h2 : Lib.VarReads Tryz.prog w "counterfoil/kinds.lastNames" Rows.laid_counterfoil_kinds_lastNames) : KTabs w := by
  rw [types_eq] at h1
  rw [last_eq] at h2
  exact ⟨fun k hk => tabs_text (P := Tryz.prog) (g := 1) (by kernel_rfl) (by kernel_rfl) Tryz.underlying100 Tryz.underlying9 (by kernel_rfl) h1 k hk,
    fun k hk => tabs_text (P := Tryz.prog) (g := 0) (by kernel_rfl) (by kernel_rfl) Tryz.underlying70 Tryz.underlying9 (by kernel_rfl) h2 k hk⟩
end Go.Proofs.YtlppocdhfeejkaaGreatDoor

namespace Go.Proofs.YtlppocdhfeejkaaGreatDoor
open Go.RowKit
theorem vaTabs_at {W : World} (hL : laidMet Tryz.prog Rows.validValuesRow.laid W) : KTabs W := ktabs_of (Lib.laidMet.reads hL (.tail _ (.tail _ (.tail _ (.tail _ (.tail _ (.tail _ (.tail _ (.head _))))))))) (Lib.laidMet.reads hL (.tail _ (.tail _ (.tail _ (.tail _ (.tail _ (.tail _ (.tail _ (.tail _ (.head _))))))))))

end Go.Proofs.YtlppocdhfeejkaaGreatDoor
