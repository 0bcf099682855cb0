/- The way down in a document. Paths to nodes, and the listeners that an event calls, as functions of documents and listeners. -/
import Derived.Test.YtmobcijigiacoaaJev29

namespace Go.Proofs.Ytmobcijigiacoaa
open Go.RowKit
theorem flat_congr {α β : Type} {g g' : α → List β} : ∀ {L : List α}, (∀ x ∈ L, g x = g' x) → L.flatMap g = L.flatMap g'
  | [], _ => rfl
  | a :: L, h => by rw [List.flatMap_cons, List.flatMap_cons, h a (List.mem_cons_self ..), flat_congr fun x hx => h x (List.mem_cons_of_mem _ hx)]
end Go.Proofs.Ytmobcijigiacoaa

namespace Go.Proofs.Ytmobcijigiacoaa
open Go.RowKit
theorem at_none {n ph : Int} {k : ByteArray} {c : Bool} : ∀ {xs : List Ls} {i : Nat}, (∀ x ∈ xs, lsB n k c x = false) → atF n ph k c i xs = []
  | [], _, _ => rfl
  | x :: xs, i, h => by
    show _ ++ atF n ph k c (i + 1) xs = []
    rw [at_none (fun y hy => h y (List.mem_cons_of_mem _ hy)), h x List.mem_cons_self]
    rfl
/-- Listeners behind that no group names change nothing. -/
theorem calls_more {l : List Nd} {all ext : List Ls} {t : Int} {k : ByteArray} {b : Bool} (h : ∀ g ∈ grpE l t b, ∀ x ∈ ext, lsB g.1 k g.2.2 x = false) : callsP l (all ++ ext) t k b = callsP l all t k b := by
  unfold callsP
  refine flat_congr fun g hg => ?_
  unfold atP
  rw [at_app, at_none (h g hg), List.append_nil]

end Go.Proofs.Ytmobcijigiacoaa
