/- A row of texts of the call's own, read as draws are. -/
import Derived.Test.YtmnpnpmopbkabaaJpn1

namespace Go.Proofs.Ytmnpnpmopbkabaa
open Go.RowKit
theorem draws_ownN {w : World} {base : Nat} {v : Value} {ds : List (List UInt8)} (h : OwnsT 9 base w v ds) : DrawsV w v (ds.map txt) := by
  have hl : (ds.map txt).length = ds.length := List.length_map ..
  rcases h.2 with ⟨e, q⟩ | ⟨g, cap, cur, e, hb, hg, h1, h2, _⟩
  · have : ds = [] := List.eq_nil_of_length_eq_zero q
    subst this
    exact ⟨none, 0, e, .inl rfl, Nat.le_refl _⟩
  · refine ⟨_, cap, by rw [hl]; exact e, .inr ⟨g, 0, rfl, fun i hi => ?_⟩, by rw [hl]; exact h1⟩
    subst e
    rw [Nat.zero_add]
    have hi' : i < ds.length := by rw [hl] at hi; exact hi
    exact owns_cell h rfl (by rw [List.getElem?_map, List.getElem?_eq_getElem hi', List.getElem_map]; rfl)

end Go.Proofs.Ytmnpnpmopbkabaa
