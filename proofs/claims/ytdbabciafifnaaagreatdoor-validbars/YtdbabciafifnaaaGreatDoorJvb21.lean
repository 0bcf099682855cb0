/- The document's Has, Is, Owner, Off of layer 15. -/
import Derived.Test.YtdbabciafifnaaaGreatDoorJvb3
import Derived.Test.YtdbabciafifnaaaGreatDoorJvb20
import Derived.Deep.DeepCutAuto

namespace Go.Proofs.YtdbabciafifnaaaGreatDoor
open Go.RowKit
set_option maxRecDepth 100000
theorem right_attrsO {l : List Nd} (h : Right l) {i : Nat} (hi : i < l.length) : (nd l i).attrs.length ≤ 40 ∧ ∀ a ∈ (nd l i).attrs, a.2.size ≤ 4000 := by
  have ha := h.alone i hi
  by_cases h0 : (nd l i).name.size = 0
  · rw [alone_text h0, Bool.and_eq_true, empty_iff, beq_iff_eq] at ha
    have e : (nd l i).attrs = [] := List.eq_nil_of_length_eq_zero ha.1
    rw [e]; exact ⟨by decide, fun a q => by cases q⟩
  · rw [alone_el h0, Bool.and_eq_true, Bool.and_eq_true, Bool.and_eq_true, decide_eq_true_eq, List.all_eq_true] at ha
    refine ⟨ha.2.2.1, fun a q => ?_⟩
    obtain ⟨k, hk, rfl⟩ := List.getElem_of_mem q
    have := ha.2.2.2 k (List.mem_range.2 hk)
    rw [attrOk_at hk, Bool.and_eq_true, Bool.and_eq_true, decide_eq_true_eq] at this
    exact this.2.1
set_option maxHeartbeats 4000000 in
theorem refOHas_any (n : Nd) (va vk : Value) (nm : ByteArray) (w : World) (ha : AttrsV w va n.attrs) (hl : n.attrs.length ≤ 4398046511104) :
    Calls Tryz.prog 35 #[.agg #[.string n.name, .string n.text, va, .int .i64 n.parent, vk], .string nm] w fun e w' => e = .returned (.bool (hasA n nm)) ∧ Below w.heap.size w w' := by
  have HF := hide (fun W (hb : Below w.heap.size w W) => refFind_any va n.attrs nm W (ha.below hb) hl)
  have E : Hid (decide (0 ≤ findV (findA n.attrs nm)) = hasA n nm) := findV_nonneg _
  have BB : Hid (∀ o : Obj, Below w.heap.size w (w.alloc o)) := fun o => (Below.refl _ w).alloc (Nat.le_refl _) _
  obtain ⟨p, c, rfl, _⟩ := ha
  generalize hasA n nm = R at *
  generalize findV (findA n.attrs nm) = z at *
  generalize n.name = y0 at *
  generalize n.text = y1 at *
  generalize n.parent = y2 at *
  clear hl
  go_enter Tryz.func35, Tryz.ntmps35
  go_wp2_with fail
  refine (HF.out _ (BB.out _)).mono ?_
  rintro e u ⟨rfl, hu⟩
  subst hu
  go_wp2_with fail
  go_ret
  exact ⟨ret_bool E.out, BB.out _⟩
theorem nmI_at {l : List Nd} {p : Nat} (h : p < l.length) : nmI l (p : Int) = l[p].name := by unfold nmI; rw [Int.toNat_natCast, nd_at h]
theorem nat_of {z : Int} {n : Nat} (h : ¬ z < 0) (h1 : z < (n : Int)) : ∃ p : Nat, z = (p : Int) ∧ p < n := ⟨z.toNat, by omega, by omega⟩

end Go.Proofs.YtdbabciafifnaaaGreatDoor
