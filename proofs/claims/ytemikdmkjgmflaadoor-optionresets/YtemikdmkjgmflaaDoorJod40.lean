/- What a call of layer 15's document has about it. -/
import Derived.Test.YtemikdmkjgmflaaDoorJod5
import Derived.Shelf.Strconv.Clone
import Derived.Deep.MidRow
import Derived.Deep.DeepCutAuto
import Derived.OwnWalk
import Derived.BigRegion
import Derived.Deep.RegionLaw

namespace Go.Proofs.YtemikdmkjgmflaaDoor
open Go.RowKit
set_option maxRecDepth 100000
theorem last_yes {C : List Ct} {all : List Int} {k : Nat} (h : k < all.length) (hs : (st C all[k]).sel = true) : lastP C (all.take (k + 1)) = all[k] := by
  unfold lastP
  rw [List.take_succ_eq_append_getElem h, List.filter_append, List.filter_cons_of_pos (p := fun i => (st C i).sel) hs, List.filter_nil, List.getLast?_append]
  rfl
theorem last_no {C : List Ct} {all : List Int} {k : Nat} (h : k < all.length) (hs : (st C all[k]).sel = false) : lastP C (all.take (k + 1)) = lastP C (all.take k) := by
  unfold lastP
  rw [List.take_succ_eq_append_getElem h, List.filter_append, List.filter_cons_of_neg (by rw [hs]; decide), List.filter_nil, List.append_nil]
/-- What is picked, of the last ones. -/
def pkP (l : List Nd) (L : Int) (xs : List Int) : Int := if 0 ≤ L then L else (xs.find? fun i => !offP l i).getD (-1)
theorem pk_off {l : List Nd} {L : Int} {all : List Int} {j : Nat} (h : j < all.length) (ho : offP l all[j] = true) : pkP l L (all.drop j) = pkP l L (all.drop (j + 1)) := by
  unfold pkP
  rw [List.drop_eq_getElem_cons h, List.find?_cons_of_neg (by rw [ho]; decide)]
theorem pk_has {l : List Nd} {L : Int} {xs : List Int} (h : 0 ≤ L) : pkP l L xs = L := if_pos h
theorem pk_on {l : List Nd} {L : Int} {all : List Int} {j : Nat} (h : j < all.length) (hL : ¬ 0 ≤ L) (ho : offP l all[j] = false) : pkP l L (all.drop j) = all[j] := by
  unfold pkP
  rw [if_neg hL, List.drop_eq_getElem_cons h, List.find?_cons_of_pos (by rw [ho]; rfl)]; rfl
theorem pk_in {l : List Nd} {L : Int} {xs : List Int} (hL : ¬ 0 ≤ L) (h : 0 ≤ pkP l L xs) : pkP l L xs ∈ xs := by
  unfold pkP at *
  rw [if_neg hL] at *
  cases e : xs.find? fun i => !offP l i with
  | none => rw [e] at h; simp at h
  | some x => exact List.mem_of_find?_eq_some e
theorem pk_end {l : List Nd} {L : Int} (hL : 0 ≤ L ∨ L = -1) : pkP l L [] = L := by
  unfold pkP
  split
  · rfl
  · rename_i q
    rcases hL with t | t
    · exact absurd t q
    · rw [t]; rfl

end Go.Proofs.YtemikdmkjgmflaaDoor
