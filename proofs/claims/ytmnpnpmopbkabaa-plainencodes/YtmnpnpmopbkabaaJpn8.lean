/- The document's Fit, Name, Unname, Type of layer 20. The document's Clear, Choose, Encode of layer 20. -/
import Derived.Test.YtmnpnpmopbkabaaJpn2
import Derived.Test.YtmnpnpmopbkabaaJpn6
import Derived.Deep.RegionHeld3
import Derived.Laws.Concat

namespace Go.Proofs.Ytmnpnpmopbkabaa
open Go.RowKit
set_option maxRecDepth 100000
theorem len_bL (s : ByteArray) : (bL s).length = s.size := by simp
end Go.Proofs.Ytmnpnpmopbkabaa

namespace Go.Proofs.Ytmnpnpmopbkabaa
open Go.RowKit
set_option maxRecDepth 100000
/-- Texts behind a slice. -/
def DrawsV (w : World) (v : Value) (ds : List ByteArray) : Prop := ∃ p c, v = .slice p ds.length c ∧ (ds = [] ∨ ∃ b o, p = some ⟨b, o, none⟩ ∧ ∀ i (h : i < ds.length), w.cell? ⟨b, o + i, none⟩ = some (.string ds[i])) ∧ ds.length ≤ c
theorem DrawsV.below {w w' : World} {v : Value} {ds : List ByteArray} (h : DrawsV w v ds) (hb : Below w.heap.size w w') : DrawsV w' v ds := by
  obtain ⟨p, c, e, h, hc⟩ := h
  refine ⟨p, c, e, ?_, hc⟩
  rcases h with h | ⟨b, o, e, h⟩
  · exact .inl h
  · exact .inr ⟨b, o, e, fun i hi => cell_below (h i hi) hb⟩

end Go.Proofs.Ytmnpnpmopbkabaa
