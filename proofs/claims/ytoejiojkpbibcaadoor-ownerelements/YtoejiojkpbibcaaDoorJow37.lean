/- The document's Has, Is, Owner, Off of layer 15. -/
import Derived.Test.YtoejiojkpbibcaaDoorJow26
import Derived.Test.YtoejiojkpbibcaaDoorJow27

namespace Go.Proofs.YtoejiojkpbibcaaDoor
open Go.RowKit
set_option maxRecDepth 100000
set_option maxHeartbeats 4000000 in
theorem refIs_any (v : Value) (l : List Nd) (id k : Int) (w : World) (hv : NodesV w v l) (hz : DocSz l) :
    Calls Tryd.prog 39 #[v, .int .i64 id, .int .i64 k] w fun e w' => e = .returned (.bool (isK l id k)) ∧ Below w.heap.size w w' := by
  have HH := hide (refHas_any v l id w hv hz)
  cases h : hasN l id with
  | false =>
    have E : Hid (isK l id k = false) := by show _ = _; unfold isK; rw [h]; rfl
    rw [h] at HH
    obtain ⟨p, c, rfl, _⟩ := hv
    clear h hz
    go_enter Tryd.func39, Tryd.ntmps39
    go_wp2_with fail
    refine HH.out.mono ?_
    rintro e w1 ⟨rfl, b1⟩
    go_wp2_with fail
    go_ret
    exact ⟨ret_bool E.out.symm, b1⟩
  | true =>
    obtain ⟨m, hI⟩ := Is.of h
    obtain ⟨rfl, h0⟩ := (⟨hI.eq, hI.lt⟩ : id = (m : Int) ∧ m < l.length)
    have sz := right_attrsO hI.right h0
    have hlen := hI.right.len.2
    have E : Hid ((kOf l[m].name (tyOf l[m].attrs) == k) = isK l (m : Int) k) := by
      show _ = _
      unfold isK kN
      rw [h, Int.toNat_natCast, nd_at h0, Bool.true_and]
      rfl
    rw [nd_at h0] at sz
    rw [h] at HH
    obtain ⟨p, c, rfl, hv⟩ := hv
    rcases hv with hv | ⟨b, o, rfl, hv⟩
    · rw [hv] at h0; simp at h0
    obtain ⟨va, vk, N0⟩ := hv m h0
    have N1 := hide N0
    have HO := hide (fun W (hb : Below w.heap.size w W) => refOf_any l[m] va vk W (N1.out.at_.below hb) (by omega) (fun a q => by have := sz.2 a q; omega))
    have i0 : (0 : Int) ≤ (m : Int) := by omega
    have i1 : (m : Int) < (l.length : Int) := by omega
    clear h hz hI hv N0 sz
    generalize kOf l[m].name (tyOf l[m].attrs) = z at *
    go_enter Tryd.func39, Tryd.ntmps39
    go_wp2_with fail
    refine HH.out.mono ?_
    rintro e w1 ⟨rfl, b1⟩
    have a0 := cell_below N1.out.name b1
    have a1 := cell_below N1.out.text b1
    have a2 := cell_below N1.out.attrs b1
    have a3 := cell_below N1.out.parent b1
    have a4 := cell_below N1.out.kids b1
    go_wp2_with fail
    refine (HO.out _ b1).mono ?_
    rintro e w2 ⟨rfl, b2⟩
    go_wp2_with fail
    go_ret
    exact ⟨ret_bool E.out, chain b1 b2⟩
-- more

end Go.Proofs.YtoejiojkpbibcaaDoor
