/- Rows of texts that lie anywhere, read as they are and put into a row of the call's own. -/
import Derived.Test.YtnojgejcmaajmaaGreatDoorJsb7

namespace Go.Proofs.YtnojgejcmaajmaaGreatDoor
open Go.RowKit
set_option maxRecDepth 100000
theorem info_tx : (Tryz.prog.info? 9).map (fun i => (i.zero, i.size, i.bytes)) = some (some (.string ⟨#[]⟩), 1, 16) := by kernel_rfl
theorem draws_raw {w : World} {v : Value} {ds : List ByteArray} (h : DrawsV w v ds) : Raw w 1 v ds.length (ds.map Value.string) := by
  obtain ⟨p, c, e, h, _⟩ := h
  refine ⟨by simp, p, c, e, ?_⟩
  rcases h with h | ⟨b, o, e, h⟩
  · exact .inl (by rw [h]; rfl)
  · refine .inr ⟨b, o, e, fun j u hu => ?_⟩
    rw [List.getElem?_map] at hu
    cases q : ds[j]? with
    | none => rw [q] at hu; cases hu
    | some d =>
      rw [q] at hu
      cases hu
      obtain ⟨hj, rfl⟩ := List.getElem?_eq_some_iff.1 q
      exact h j hj
theorem draws_own {w : World} {base : Nat} {v : Value} {ds : List ByteArray} (h : w.ownsRow base 9 1 v ds.length (ds.map Value.string)) : DrawsV w v ds := by
  rcases h.2 with ⟨e, q⟩ | ⟨g, cap, cur, e, hb, hg, h1, h2, _⟩
  · have : ds = [] := List.eq_nil_of_length_eq_zero q
    subst this
    exact ⟨none, 0, e, .inl rfl, Nat.le_refl _⟩
  · refine ⟨_, cap, e, .inr ⟨g, 0, rfl, fun i hi => ?_⟩, h1⟩
    subst e
    rw [Nat.zero_add]
    exact owns_cell h rfl (by rw [List.getElem?_map, List.getElem?_eq_getElem hi]; rfl)

end Go.Proofs.YtnojgejcmaajmaaGreatDoor
