/- A block of the call's own. -/
import Derived.Test.YtmobcijigiacoaaJev5

namespace Go.Proofs.Ytmobcijigiacoaa
open Go.RowKit
theorem Bk.other {w : World} {n m : Nat} {cs : List Value} {t : TypeId} (h : Bk w n cs t) (hm : m ≠ n) (k : Nat) (u : Value) : Bk (w.setCell ⟨m, k, none⟩ u) n cs t := ⟨(Below.heap_setCell _ _ _ _ (fun e => hm e.symm)).trans h.lies⟩

end Go.Proofs.Ytmobcijigiacoaa
