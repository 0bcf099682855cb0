/- Documents that are changed stay right. A node that was taken away and put back where it was leaves the document as it was. -/
import Derived.Test.YtlppocdhfeejkaaGreatDoorJvv4

namespace Go.Proofs.YtlppocdhfeejkaaGreatDoor
open Go.RowKit
theorem cnt_pos {l : List Int} {x : Int} : x ∈ l ↔ 0 < cntI l x := List.count_pos_iff.symm
end Go.Proofs.YtlppocdhfeejkaaGreatDoor

namespace Go.Proofs.YtlppocdhfeejkaaGreatDoor
open Go.RowKit
theorem kids_nodup {l : List Nd} (h : Right l) {p : Nat} (hp : p < l.length) : (nd l p).kids.Nodup := by
  rw [List.nodup_iff_count]
  intro x
  by_cases m : x ∈ (nd l p).kids
  · have hk := h.kid p hp x m
    have hx : (nd l x.toNat).parent = (p : Int) := hk.2.2
    have := h.cnt x.toNat (by omega) (by rw [hx]; omega)
    rw [hx, Int.toNat_natCast, Int.toNat_of_nonneg hk.1] at this
    unfold cntI at this
    omega
  · rw [List.count_eq_zero.2 m]; omega
theorem find_first {ax : List (ByteArray × ByteArray)} {i : Nat} (hi : i < ax.length) : findA ax ax[i].1 = some i ↔ ∀ j (h : j < i), ¬ ax[j].1 = ax[i].1 := by
  unfold findA
  rw [List.findIdx?_eq_some_iff_getElem]
  constructor
  · rintro ⟨_, _, h⟩ j hj
    have := h j hj
    simpa using this
  · intro h
    exact ⟨hi, by simp, fun j hj => by simpa using h j hj⟩

end Go.Proofs.YtlppocdhfeejkaaGreatDoor
