/- Addresses of mail as lists of bytes. Entries in a row of the call's own. -/
import Derived.Test.YtfedeiipinamjaaDoorJur1
import Derived.Test.YtfedeiipinamjaaDoorJur26
import Derived.Test.YtfedeiipinamjaaDoorJur37

namespace Go.Proofs.YtfedeiipinamjaaDoor
open Go.RowKit
theorem split_ne (c : UInt8) : ∀ l : List UInt8, splitL c l ≠ []
  | [] => by simp [splitL]
  | x :: l => by
    unfold splitL
    split
    · simp
    · cases h : splitL c l with
      | nil => simp [prep]
      | cons => simp [prep]
theorem prep_nil {c : UInt8} (l : List UInt8) : prep [] (splitL c l) = splitL c l := by
  cases h : splitL c l with
  | nil => exact absurd h (split_ne c l)
  | cons => rfl
theorem prep_prep (a b : List UInt8) (m : List (List UInt8)) : prep a (prep b m) = prep (a ++ b) m := by
  cases m with
  | nil => rfl
  | cons h t => show (a ++ (b ++ h)) :: t = (a ++ b ++ h) :: t; rw [List.append_assoc]
end Go.Proofs.YtfedeiipinamjaaDoor

namespace Go.Proofs.YtfedeiipinamjaaDoor
open Go.RowKit
set_option maxRecDepth 100000
theorem OwnR.at_ {B : Nat} {w : World} {v : Value} {fs : List En} (h : OwnR B w v fs) (g : Nat) (hg : v.ownBlock = some g) : B ≤ g ∧ g < w.heap.size := ⟨(h.lt g hg).1, (h.lt g hg).2⟩
theorem OwnR.set {B : Nat} {w : World} {v : Value} {fs : List En} (h : OwnR B w v fs) {m : Nat} (hm : ∀ g, v.ownBlock = some g → g ≠ m) (k : Nat) (u : Value) : OwnR B (w.setCell ⟨m, k, none⟩ u) v fs := by
  refine ⟨h.1, ?_⟩
  rcases h.2 with q | ⟨g, cap, cur, e1, h1, h2, h3⟩
  · exact .inl q
  · exact .inr ⟨g, cap, cur, e1, h1, (Below.heap_setCell _ _ _ _ (hm g (by rw [e1]; rfl))).trans h2, h3⟩

end Go.Proofs.YtfedeiipinamjaaDoor
