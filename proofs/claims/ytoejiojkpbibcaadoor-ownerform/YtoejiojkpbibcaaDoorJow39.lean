/- Stage 16's wakes and its laws OwnerForm, OwnerElements, OwnerLabels, OwnerDisabled, walked. -/
import Derived.Test.YtoejiojkpbibcaaDoorJow22
import Derived.Test.YtoejiojkpbibcaaDoorJow36

namespace Go.Proofs.YtoejiojkpbibcaaDoor
open Go.RowKit
set_option maxRecDepth 100000
set_option maxHeartbeats 8000000 in
theorem ownerForm_walk (v : Value) (l : List Nd) (id : Int) (w : World) (hv : NodesV w v l) (hz : DocSz l) (hT : OwTabs w) :
    Calls Tryd.prog 3 #[v, .int .i64 id] w fun e w' => e = .returned (.bool true) ∧ Below w.heap.size w w' := by
  have HV := hide hv
  have HW := hide (owWakes_any w hT)
  have HC := hide (fun W (hb : Below w.heap.size w W) => refCopied_any v l W (HV.out.below hb) hz)
  have H1 := hide (fun u W (hb : Below w.heap.size w W) (hu : NodesV W u l) => owForm_any u l id W hu hz (hT.below hb))
  have H2 := hide (fun W (hb : Below w.heap.size w W) => refForm_any v l id W (HV.out.below hb) hz)
  generalize formP l id = R at *
  obtain ⟨p, k, rfl⟩ : ∃ p k, v = .slice p l.length k := by obtain ⟨p, k, e, _⟩ := hv; exact ⟨p, k, e⟩
  clear hv hz hT HV
  go_enter Tryd.func3, Tryd.ntmps3
  go_wp2_with fail
  refine HW.out.mono ?_
  rintro e w1 ⟨rfl, b1⟩
  go_wp2_with fail
  refine (HC.out _ b1).mono ?_
  rintro e w2 ⟨v2, L2, rfl, o2, e2, b2⟩
  have N2 : Hid (NodesV w2 v2 l) := by show NodesV _ _ _; rw [← e2]; exact o2.nodes
  obtain ⟨p2, k2, rfl⟩ : ∃ p k, v2 = .slice p l.length k := by obtain ⟨p, k, e, _⟩ := N2.out; exact ⟨p, k, e⟩
  have B2 := hide (chain b1 b2)
  clear o2 e2 b1 b2
  go_wp2_with fail
  refine (H1.out _ _ B2.out N2.out).mono ?_
  rintro e w3 ⟨rfl, b3⟩
  have B3 := hide (chain B2.out b3)
  go_wp2_with fail
  refine (H2.out _ B3.out).mono ?_
  rintro e w4 ⟨rfl, b4⟩
  go_wp2_with fail
  go_ret
  exact ⟨rfl, chain B3.out b4⟩

end Go.Proofs.YtoejiojkpbibcaaDoor
