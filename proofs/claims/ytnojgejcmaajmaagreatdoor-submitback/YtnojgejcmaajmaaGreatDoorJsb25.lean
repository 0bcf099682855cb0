/- What the program's two tables hold, cell by cell, where they read as its text lays them. -/
import Derived.Test.YtnojgejcmaajmaaGreatDoorJsb7

namespace Go.Proofs.YtnojgejcmaajmaaGreatDoor
open Go.RowKit
theorem tab_text {P : Program} {w : World} {name : String} {g : Nat} {t e : TypeId} {n : Nat} {ts : List (List UInt8)} (hg : P.globalNamed name = some g) (hty : (P.globals[g]?).map (·.type) = some t)
    (ht : P.underlying t = some (.array n e)) (he : P.underlying e = some .string) (hce : P.cellsOf e = 1) (h : Lib.VarReads P w name (.agg (ts.map fun l => .lit (.string l)))) (k : Nat) (hk : k < n) :
    w.cell? ⟨g, k, none⟩ = some (.string (txt (ts.getD k []))) := by
  obtain ⟨g', t', cs, fuel, p, hg', hty', hvar, hd⟩ := h
  obtain rfl := Option.some.inj (hg.symm.trans hg')
  obtain rfl := Option.some.inj (hty.symm.trans hty')
  obtain ⟨fuel', d, q, hdi, hx⟩ := Lib.array_elem ht hd k hk
  rw [hce] at hx
  obtain ⟨s, hcs, hd', _⟩ := DataW.trod_string he hx
  have e1 : cs[k]? = some (.string s) := by
    have := congrArg (·[0]?) hcs
    simpa [List.getElem?_take, List.getElem?_drop] using this
  have e2 : ts[k]? = some s.data.toList := by
    have e3 : d = .lit (.string s.data.toList) := congrArg Prod.fst hd'
    rw [e3] at hdi
    simp only [List.getElem?_map, Option.map_eq_some_iff, DataW.lit.injEq, Lit.string.injEq] at hdi
    obtain ⟨l, h1, rfl⟩ := hdi
    exact h1
  rw [World.var?_cell hg hvar k, e1, List.getD, e2]
  rfl
theorem tab_int {P : Program} {w : World} {name : String} {g : Nat} {t e : TypeId} {n : Nat} {zs : List Int} {kd : IntKind} (hg : P.globalNamed name = some g) (hty : (P.globals[g]?).map (·.type) = some t)
    (ht : P.underlying t = some (.array n e)) (he : P.underlying e = some (.int kd)) (hce : P.cellsOf e = 1) (h : Lib.VarReads P w name (.agg (zs.map fun z => .lit (.int kd z)))) (k : Nat) (hk : k < n) :
    w.cell? ⟨g, k, none⟩ = some (.int kd (zs.getD k 0)) := by
  obtain ⟨g', t', cs, fuel, p, hg', hty', hvar, hd⟩ := h
  obtain rfl := Option.some.inj (hg.symm.trans hg')
  obtain rfl := Option.some.inj (hty.symm.trans hty')
  obtain ⟨fuel', d, q, hdi, hx⟩ := Lib.array_elem ht hd k hk
  rw [hce] at hx
  obtain ⟨z, hcs, hd', _⟩ := DataW.trod_int he hx
  have e1 : cs[k]? = some (.int kd z) := by
    have := congrArg (·[0]?) hcs
    simpa [List.getElem?_take, List.getElem?_drop] using this
  have e2 : zs[k]? = some z := by
    have e3 : d = .lit (.int kd z) := congrArg Prod.fst hd'
    rw [e3] at hdi
    simp only [List.getElem?_map, Option.map_eq_some_iff, DataW.lit.injEq, Lit.int.injEq, true_and] at hdi
    obtain ⟨l, h1, rfl⟩ := hdi
    exact h1
  rw [World.var?_cell hg hvar k, e1, List.getD, e2]
  rfl
theorem Digs.under {B : Nat} {w w' : World} (h : Digs w) (hb : Below B w w') (hB : 5 < B) : Digs w' := by
  intro k hk
  exact (hb.cell hB).trans (h k hk)
theorem signs_eq : (Rows.laid_counterfoil_escape_signs : DataW Unit) = .agg ([signsOf 0, signsOf 1, signsOf 2, signsOf 3, signsOf 4, signsOf 5, signsOf 6].map fun l => .lit (.string l)) := by kernel_rfl
theorem digs_eq : (Rows.laid_counterfoil_escape_digits : DataW Unit) = .agg (((List.range 16).map fun k => ((hexD k).toNat : Int)).map fun z => .lit (.int .u8 z)) := by kernel_rfl
theorem signs_of {w : World} (h : Lib.VarReads Tryz.prog w "counterfoil/escape.signs" Rows.laid_counterfoil_escape_signs) : Signs w := by
  intro k hk
  rw [signs_eq] at h
  have := tab_text (P := Tryz.prog) (g := 4) (by kernel_rfl) (by kernel_rfl) Tryz.underlying180 Tryz.underlying9 (by kernel_rfl) h k hk
  rw [this]
  match k, hk with
  | 0, _ => rfl
  | 1, _ => rfl
  | 2, _ => rfl
  | 3, _ => rfl
  | 4, _ => rfl
  | 5, _ => rfl
  | 6, _ => rfl
theorem digs_of {w : World} (h : Lib.VarReads Tryz.prog w "counterfoil/escape.digits" Rows.laid_counterfoil_escape_digits) : Digs w := by
  intro k hk
  rw [digs_eq] at h
  have := tab_int (P := Tryz.prog) (g := 5) (by kernel_rfl) (by kernel_rfl) Tryz.underlying181 Tryz.underlying5 (by kernel_rfl) h k hk
  rw [this]
  simp [List.getD, hk]

end Go.Proofs.YtnojgejcmaajmaaGreatDoor
