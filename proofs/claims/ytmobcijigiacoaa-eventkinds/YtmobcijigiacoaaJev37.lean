/- The wrap of a plain row, for a contract that wants the world's shape besides (that a variable of the library's own holds some number). -/
import Derived.Test.YtmobcijigiacoaaRows
import Derived.SizedLaws
import Derived.Handed
import Derived.Shelf.Vars

namespace Go.Proofs.Ytmobcijigiacoaa
open Go
set_option maxRecDepth 100000
theorem reach_text {H : Type} {P : Program} {t : TypeId} {s : ByteArray} (h : ((.lit (.string s.data.toList) : DataW H).weights P t).all (· ≤ reachBytes) = true) : s.size ≤ reachBytes := by
  simp only [DataW.weights, List.all_cons, List.all_nil, Bool.and_true, decide_eq_true_eq, Array.length_toList] at h
  exact h

end Go.Proofs.Ytmobcijigiacoaa
