/- Addresses of mail as lists of bytes. -/
import Derived.Test.YtfedeiipinamjaaDoorJur4
import Derived.Test.YtfedeiipinamjaaDoorJur26

namespace Go.Proofs.YtfedeiipinamjaaDoor
open Go.RowKit
theorem split_join {c : UInt8} : ∀ (ps : List (List UInt8)), ps ≠ [] → (∀ p ∈ ps, c ∉ p) → splitL c (joinL c ps) = ps
  | [], h, _ => absurd rfl h
  | [a], _, h => split_alone (h a (List.mem_cons_self ..))
  | a :: b :: t, _, h => by
    show splitL c (a ++ c :: joinL c (b :: t)) = _
    rw [split_sign _ (h a (List.mem_cons_self ..)), split_join (b :: t) (by simp) (fun p hp => h p (List.mem_cons_of_mem _ hp))]

end Go.Proofs.YtfedeiipinamjaaDoor
