/- A node that was taken away and put back where it was leaves the document as it was. -/
import Derived.Test.YtnojgejcmaajmaaDoorJsd4

namespace Go.Proofs.YtnojgejcmaajmaaDoor
open Go.RowKit
theorem kids_nodup {l : List Nd} (h : Right l) {p : Nat} (hp : p < l.length) : (nd l p).kids.Nodup := by
  rw [List.nodup_iff_count]
  intro x
  by_cases m : x ∈ (nd l p).kids
  · have hk := h.kid p hp x m
    have hx : (nd l x.toNat).parent = (p : Int) := hk.2.2
    have := h.cnt x.toNat (by omega) (by rw [hx]; omega)
    rw [hx, Int.toNat_natCast, Int.toNat_of_nonneg hk.1] at this
    unfold cntI at this
    omega
  · rw [List.count_eq_zero.2 m]; omega
/-- Attributes: names formed so, each once; values not too long. -/
structure AttrsOk (ax : List (ByteArray × ByteArray)) : Prop where
  each : ∀ a ∈ ax, nameOk a.1 = true ∧ a.2.size ≤ 4000
  once : (ax.map (·.1)).Nodup
theorem find_first {ax : List (ByteArray × ByteArray)} {i : Nat} (hi : i < ax.length) : findA ax ax[i].1 = some i ↔ ∀ j (h : j < i), ¬ ax[j].1 = ax[i].1 := by
  unfold findA
  rw [List.findIdx?_eq_some_iff_getElem]
  constructor
  · rintro ⟨_, _, h⟩ j hj
    have := h j hj
    simpa using this
  · intro h
    exact ⟨hi, by simp, fun j hj => by simpa using h j hj⟩
theorem attrs_is (ax : List (ByteArray × ByteArray)) : (List.range ax.length).all (attrOk ax) = true ↔ AttrsOk ax := by
  have at1 : ∀ i (hi : i < ax.length), attrOk ax i = true ↔ nameOk ax[i].1 = true ∧ ax[i].2.size ≤ 4000 ∧ ∀ j (h : j < i), ¬ ax[j].1 = ax[i].1 := by
    intro i hi
    unfold attrOk
    rw [show ax.getD i at0 = ax[i] by simp [List.getD, hi], Bool.and_eq_true, Bool.and_eq_true, decide_eq_true_eq, beq_iff_eq, find_first hi]
  rw [List.all_eq_true]
  constructor
  · intro h
    refine ⟨fun a ha => ?_, ?_⟩
    · obtain ⟨i, hi, rfl⟩ := List.getElem_of_mem ha
      have := (at1 i hi).1 (h i (List.mem_range.2 hi))
      exact ⟨this.1, this.2.1⟩
    · rw [List.nodup_iff_pairwise_ne, List.pairwise_iff_getElem]
      intro i j h1 h2 hij
      rw [List.getElem_map, List.getElem_map]
      rw [List.length_map] at h1 h2
      exact ((at1 j h2).1 (h j (List.mem_range.2 h2))).2.2 i hij
  · intro h i hi
    have hi := List.mem_range.1 hi
    refine (at1 i hi).2 ⟨(h.each _ (List.getElem_mem _)).1, (h.each _ (List.getElem_mem _)).2, fun j hj e => ?_⟩
    have := h.once
    rw [List.nodup_iff_pairwise_ne, List.pairwise_iff_getElem] at this
    have := this j i (by rw [List.length_map]; omega) (by rw [List.length_map]; omega) hj
    rw [List.getElem_map, List.getElem_map] at this
    exact this e

end Go.Proofs.YtnojgejcmaajmaaDoor
