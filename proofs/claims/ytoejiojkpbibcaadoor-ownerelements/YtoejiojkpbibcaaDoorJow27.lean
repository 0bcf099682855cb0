/- The document's Has, Is, Owner, Off of layer 15. The document's kind and Form of layer 16. -/
import Derived.Test.YtoejiojkpbibcaaDoorJow3

namespace Go.Proofs.YtoejiojkpbibcaaDoor
open Go.RowKit
set_option maxRecDepth 100000
theorem right_attrsO {l : List Nd} (h : Right l) {i : Nat} (hi : i < l.length) : (nd l i).attrs.length ≤ 40 ∧ ∀ a ∈ (nd l i).attrs, a.2.size ≤ 4000 := by
  have ha := h.alone i hi
  by_cases h0 : (nd l i).name.size = 0
  · rw [alone_text h0, Bool.and_eq_true, empty_iff, beq_iff_eq] at ha
    have e : (nd l i).attrs = [] := List.eq_nil_of_length_eq_zero ha.1
    rw [e]; exact ⟨by decide, fun a q => by cases q⟩
  · rw [alone_el h0, Bool.and_eq_true, Bool.and_eq_true, Bool.and_eq_true, decide_eq_true_eq, List.all_eq_true] at ha
    refine ⟨ha.2.2.1, fun a q => ?_⟩
    obtain ⟨k, hk, rfl⟩ := List.getElem_of_mem q
    have := ha.2.2.2 k (List.mem_range.2 hk)
    rw [attrOk_at hk, Bool.and_eq_true, Bool.and_eq_true, decide_eq_true_eq] at this
    exact this.2.1
end Go.Proofs.YtoejiojkpbibcaaDoor

namespace Go.Proofs.YtoejiojkpbibcaaDoor
open Go.RowKit
set_option maxRecDepth 100000
/-- A node's cells, opened. -/
theorem nd_open {w : World} {p : Option Addr} {c : Nat} {l : List Nd} (hv : NodesV w (.slice p l.length c) l) {m : Nat} (h0 : m < l.length) : ∃ b o, p = some ⟨b, o, none⟩ ∧ ∃ va vk, NodeAt w b (o + m * 5) l[m] va vk := by
  obtain ⟨p', c', e, h⟩ := hv
  cases e
  rcases h with h | ⟨b, o, rfl, h⟩
  · rw [h] at h0; cases h0
  · exact ⟨b, o, rfl, h m h0⟩
set_option maxHeartbeats 8000000 in
theorem refKind_any (v : Value) (l : List Nd) (m : Nat) (w : World) (hv : NodesV w v l) (hR : Right l) (h0 : m < l.length) :
    Calls Tryd.prog 32 #[v, .int .i64 (m : Int)] w fun e w' => e = .returned (.int .i64 (kI l (m : Int))) ∧ Below w.heap.size w w' := by
  have sz := right_attrsO hR h0
  have hlen := hR.len.2
  rw [nd_at h0] at sz
  have E : Hid (kI l (m : Int) = kOf l[m].name (tyOf l[m].attrs)) := by show _ = _; unfold kI kN; rw [Int.toNat_natCast, nd_at h0]
  obtain ⟨p, c, rfl⟩ : ∃ p c, v = .slice p l.length c := by obtain ⟨p, c, e, _⟩ := hv; exact ⟨p, c, e⟩
  obtain ⟨b, o, rfl, va, vk, N0⟩ := nd_open hv h0
  have HO := hide (refOf_any l[m] va vk w N0.at_ (by omega) (fun a q => by have := sz.2 a q; omega))
  have a0 := N0.name
  have a1 := N0.text
  have a2 := N0.attrs
  have a3 := N0.parent
  have a4 := N0.kids
  have i0 : (0 : Int) ≤ (m : Int) := by omega
  have i1 : (m : Int) < (l.length : Int) := by omega
  clear hv hR N0 sz hlen
  generalize kOf l[m].name (tyOf l[m].attrs) = z at *
  generalize kI l (m : Int) = z2 at *
  go_enter Tryd.func32, Tryd.ntmps32
  go_wp2_with fail
  refine HO.out.mono ?_
  rintro e w2 ⟨rfl, b2⟩
  go_wp2_with fail
  go_ret
  exact ⟨ret_int E.out.symm, b2⟩

end Go.Proofs.YtoejiojkpbibcaaDoor
