/- Sizes of parts. -/
import Derived.Test.YtgibkbeakfaehaaDoorJpt10

namespace Go.Proofs.YtgibkbeakfaehaaDoor
open Go.RowKit
theorem encT_size {l : List En} {b : ByteArray} (h : EnsOK 2000 l) (hl : l.length ≤ 60) (hb : b.size ≤ 1000) : (encT20 l b).size ≤ 16777216 := by
  unfold encT20
  split
  · show (encP l (bL b)).length ≤ _
    have A : ∀ m : List En, (∀ e ∈ m, EnZ 2000 e) → (m.flatMap fun e => fstL (bL b) ++ partL e ++ [13, 10]).length ≤ m.length * 34000 := by
      intro m
      induction m with
      | nil => intro _; simp
      | cons e m ih =>
        intro hm
        have i1 := ih (fun x hx => hm x (List.mem_cons_of_mem _ hx))
        have i2 := part_size (hm e List.mem_cons_self)
        have i3 : (fstL (bL b)).length = (bL b).length + 4 := by unfold fstL; simp
        have i4 : (e :: m).length * 34000 = m.length * 34000 + 1 * 34000 := Nat.add_mul _ _ _
        rw [List.flatMap_cons, List.length_append, List.length_append, List.length_append, i3, i4, len_bL]
        show _ + 2 + _ ≤ _
        omega
    have h1 := A l (fun e he => h.ent e he)
    have h3 : l.length * 34000 ≤ 60 * 34000 := Nat.mul_le_mul_right _ hl
    unfold encP endL
    rw [List.length_append, List.length_cons, List.length_cons, List.length_append, len_bL]
    show _ + (b.size + 4 + 1 + 1) ≤ _
    omega
  · decide

end Go.Proofs.YtgibkbeakfaehaaDoor
