/- The wrap of a plain row, for a contract that wants the world's shape besides (that a variable of the library's own holds some number). -/
import Derived.Test.YtmobcijigiacoaaRows
import Derived.SizedLaws
import Derived.Handed
import Derived.Shelf.Vars

namespace Go.Proofs.Ytmobcijigiacoaa
open Go
set_option maxRecDepth 100000
theorem reach_rest {H : Type} {P : Program} {t : TypeId} {ts : List TypeId} {d : DataW H} {ds : List (DataW H)} (h : (DataW.weightsEach P (t :: ts) (d :: ds)).all (· ≤ reachBytes) = true) : (DataW.weightsEach P ts ds).all (· ≤ reachBytes) = true := by
  simp only [DataW.weightsEach, List.all_append, Bool.and_eq_true] at h
  exact h.2

end Go.Proofs.Ytmobcijigiacoaa
