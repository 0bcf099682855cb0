/- The document's Text of layer 10. The document's Has, Is, Owner, Off of layer 15. -/
import Derived.Test.YtoejiojkpbibcaaDoorJow3

namespace Go.Proofs.YtoejiojkpbibcaaDoor
open Go.RowKit
set_option maxRecDepth 100000
theorem kids_few {l : List Nd} (h : Right l) {i : Nat} (hi : i < l.length) : (nd l i).kids.length ≤ 400 := by
  have h1 := nodup_len l.length _ (kids_nodup h hi) (fun x hx => by
    have := h.kid i hi x hx
    exact ⟨this.1, this.2.1⟩)
  have := h.len
  omega
end Go.Proofs.YtoejiojkpbibcaaDoor

namespace Go.Proofs.YtoejiojkpbibcaaDoor
open Go.RowKit
set_option maxRecDepth 100000
set_option maxHeartbeats 4000000 in
theorem refOHas_any (n : Nd) (va vk : Value) (nm : ByteArray) (w : World) (ha : AttrsV w va n.attrs) (hl : n.attrs.length ≤ 4398046511104) :
    Calls Tryd.prog 53 #[.agg #[.string n.name, .string n.text, va, .int .i64 n.parent, vk], .string nm] w fun e w' => e = .returned (.bool (hasA n nm)) ∧ Below w.heap.size w w' := by
  have HF := hide (fun W (hb : Below w.heap.size w W) => refFind_any va n.attrs nm W (ha.below hb) hl)
  have E : Hid (decide (0 ≤ findV (findA n.attrs nm)) = hasA n nm) := findV_nonneg _
  have BB : Hid (∀ o : Obj, Below w.heap.size w (w.alloc o)) := fun o => (Below.refl _ w).alloc (Nat.le_refl _) _
  obtain ⟨p, c, rfl, _⟩ := ha
  generalize hasA n nm = R at *
  generalize findV (findA n.attrs nm) = z at *
  generalize n.name = y0 at *
  generalize n.text = y1 at *
  generalize n.parent = y2 at *
  clear hl
  go_enter Tryd.func53, Tryd.ntmps53
  go_wp2_with fail
  refine (HF.out _ (BB.out _)).mono ?_
  rintro e u ⟨rfl, hu⟩
  subst hu
  go_wp2_with fail
  go_ret
  exact ⟨ret_bool E.out, BB.out _⟩
theorem nmI_at {l : List Nd} {p : Nat} (h : p < l.length) : nmI l (p : Int) = l[p].name := by unfold nmI; rw [Int.toNat_natCast, nd_at h]

end Go.Proofs.YtoejiojkpbibcaaDoor
