/- The program's Calls of layer 23. -/
import Derived.Test.YtmobcijigiacoaaJev16

namespace Go.Proofs.Ytmobcijigiacoaa
open Go.RowKit Go.Shelf
set_option maxRecDepth 100000
attribute [local go_sem] Oper.semAt_some
theorem evPath_any (v : Value) (l : List Nd) (t : Int) (w : World) (hv : NodesV w v l) (hz : DocSz l) (_ : EvTabs w) :
    Calls Try.prog 10 #[v, .int .i64 t] w fun e w' => ∃ v', e = .returned v' ∧ IntsV w' v' (pathP l t) ∧ Below w.heap.size w w' := by
  refine (evPathO_any v l t w hv hz).mono ?_
  rintro e w' ⟨q, k, rfl, h1, _, h2⟩
  exact ⟨_, rfl, h1.ints, h2⟩

end Go.Proofs.Ytmobcijigiacoaa
