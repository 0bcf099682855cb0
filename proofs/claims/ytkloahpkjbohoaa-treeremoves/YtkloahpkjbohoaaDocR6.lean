/- The document's Same of layer 10, at documents that are alike: true; what lay in the world lies there still. Conditions: documents as they lie in the world; rows of at most 2^47 bytes. -/
import Derived.Test.YtkloahpkjbohoaaDocR5
namespace Go.Proofs.Ytkloahpkjbohoaa
open Go.RowKit

theorem node_drew {w : World} {b o : Nat} {n : Nd} (h : ∃ va vk, NodeAt w b o n va vk) (m : Nat) : ∃ va vk, NodeAt (w.drewN m) b o n va vk := by
  obtain ⟨va, vk, h⟩ := h
  exact ⟨va, vk, h.name, h.text, h.attrs, h.parent, h.kids, h.at_, h.ks, h.cap⟩
set_option maxHeartbeats 4000000 in
set_option maxRecDepth 100000 in
theorem refSame_yes (va vb : Value) (x : List Nd) (w : World) (ha : NodesV w va x) (hb : NodesV w vb x) (hx : DocSz x) :
    Calls Try.prog 15 #[va, vb] w fun e w' => e = .returned (.bool true) ∧ ∃ m, w' = w.drewN m := by
  obtain ⟨pa, ca, rfl, ha⟩ := ha
  obtain ⟨pb, cb, rfl, hb⟩ := hb
  have hxl := hx.len
  have e1 : ((x.length : Int) != (x.length : Int)) = false := by simp
  have SZ := hide hx
  clear hx
  go_enter Try.func15, Try.ntmps15
  go_wp2_with fail
  go_loopw [5] (fun iv wr => ∃ j : Nat, j ≤ x.length ∧ iv = .int .i64 j ∧ ∃ m, wr = w.drewN m) (fun iv _ => x.length - (intOf iv).toNat)
  case atStart => exact ⟨0, Nat.zero_le _, rfl, 0, rfl⟩
  case round =>
    obtain ⟨j, hj, rfl, m, hm⟩ := hrel
    rename World => wr
    have HM := hide hm
    have DN : Hid (∀ n, ∃ k, wr.drewN n = w.drewN k) := fun n => ⟨m + n, by rw [HM.out, World.drewN_drewN]⟩
    by_cases h : j < x.length
    · have i1 : (j : Int) < (x.length : Int) := by omega
      rcases ha with ha | ⟨b1, o1, rfl, ha⟩
      · rw [ha] at h; simp at h
      rcases hb with hb | ⟨b2, o2, rfl, hb⟩
      · rw [hb] at h; simp at h
      obtain ⟨va1, vk1, N1⟩ : ∃ va vk, NodeAt wr b1 (o1 + j * 5) x[j] va vk := by rw [hm]; exact node_drew (ha j h) m
      obtain ⟨va2, vk2, N2⟩ : ∃ va vk, NodeAt wr b2 (o2 + j * 5) x[j] va vk := by rw [hm]; exact node_drew (hb j h) m
      have a0 := N1.name
      have a1 := N1.text
      have a2 := N1.attrs
      have a3 := N1.parent
      have a4 := N1.kids
      have d0 := N2.name
      have d1 := N2.text
      have d2 := N2.attrs
      have d3 := N2.parent
      have d4 := N2.kids
      have sz := SZ.out.nds x[j] (List.getElem_mem _)
      have HA := hide (fun m => refSameAttrs_any va1 va2 x[j].attrs x[j].attrs (wr.drewN m) (attrsV_drew N1.at_ m) (attrsV_drew N2.at_ m) sz.attrs)
      have HK := hide (fun m => refSameInts_any vk1 vk2 x[j].kids x[j].kids (wr.drewN m) (intsV_drew N1.ks m) (intsV_drew N2.ks m) sz.kids)
      clear N1 N2 sz SZ ha hb hm HM
      rw [decide_eq_true rfl] at HA HK
      generalize x[j].name = y0 at *
      generalize x[j].text = y1 at *
      generalize x[j].parent = y3 at *
      go_wp2_with fail
      go_quiet (first | with_reducible exact Calls.quiet_of (HA.out _) | with_reducible exact Calls.quiet_of (HK.out _))
      go_wp2_with fail
      go_roundw
      case rel => exact ⟨j + 1, by omega, by go_num, DN.out _⟩
      case measure => simp [intOf]; omega
    · obtain rfl : j = x.length := by omega
      clear ha hb h SZ DN hm
      go_wp2_with fail
      go_ret
      exact ⟨rfl, m, HM.out⟩

end Go.Proofs.Ytkloahpkjbohoaa
