/- TreeNamed walked. Conditions: a document as it lies in the world; rows of at most 2^47 bytes. -/
import Derived.Test.YtmpkbdmkkjcjhabDocS9
import Derived.Test.YtmpkbdmkkjcjhabDocC1
import Derived.Test.YtmpkbdmkkjcjhabDocSN
namespace Go.Proofs.Ytmpkbdmkkjcjhab
open Go.RowKit

set_option maxHeartbeats 4000000 in
theorem treeNamed_walk (v : Value) (l : List Nd) (w : World) (hv : NodesV w v l) (hz : DocSz l) (x : ByteArray) (hx : x.size ≤ maxLen) :
    Calls Try.prog 3 #[v, .string x] w fun e w' => e = .returned (.bool true) ∧ Below w.heap.size w w' := by
  have HW := hide wakes_any
  have HC := hide (fun W (hb : Below w.heap.size w W) => refCopied_any v l W (hv.below hb) hz)
  have HR := hide (fun W (hb : Below w.heap.size w W) => refDocRight_any v l W (hv.below hb) hz)
  have HP := hide (fun v' W (hn : NodesV W v' l) => named_any v' l x W hn hz)
  have HB := hide (fun (hR : Right l) W (hb : Below w.heap.size w W) => refByID_any v l x W (hv.below hb) hz hR hx)
  clear hv hz hx
  cases q : rightB l with
  | false =>
    have e1 : namedQ l x = -1 := by unfold namedQ; rw [q]; rfl
    rw [q] at HR
    rw [e1] at HP
    clear q e1 HB
    go_enter Try.func3, Try.ntmps3
    go_wp2_with fail
    refine (HW.out _).mono ?_
    rintro e w1 ⟨rfl, b1⟩
    go_wp2_with fail
    refine (HC.out _ b1).mono ?_
    rintro e w2 ⟨v2, L, rfl, o2, hl, b2⟩
    have B2 := hide (chain b1 b2)
    have N2 : Hid (NodesV w2 v2 l) := by have := o2.nodes; rw [hl] at this; exact this
    clear o2 hl b1 b2
    go_wp2_with fail
    refine (HP.out _ _ N2.out).mono ?_
    rintro e w3 ⟨rfl, b3⟩
    have B3 := hide (chain B2.out b3)
    clear b3
    go_wp2_with fail
    refine (HR.out _ B3.out).mono ?_
    rintro e w4 ⟨rfl, b4⟩
    go_wp2_with fail
    go_ret
    exact ⟨rfl, chain B3.out b4⟩
  | true =>
    have e1 : namedQ l x = namedP l x := by unfold namedQ; rw [q]; rfl
    rw [q] at HR
    rw [e1] at HP
    have HB' := hide (HB.out (right_is.1 q))
    generalize namedP l x = z at *
    clear q e1 HB
    go_enter Try.func3, Try.ntmps3
    go_wp2_with fail
    refine (HW.out _).mono ?_
    rintro e w1 ⟨rfl, b1⟩
    go_wp2_with fail
    refine (HC.out _ b1).mono ?_
    rintro e w2 ⟨v2, L, rfl, o2, hl, b2⟩
    have B2 := hide (chain b1 b2)
    have N2 : Hid (NodesV w2 v2 l) := by have := o2.nodes; rw [hl] at this; exact this
    clear o2 hl b1 b2
    go_wp2_with fail
    refine (HP.out _ _ N2.out).mono ?_
    rintro e w3 ⟨rfl, b3⟩
    have B3 := hide (chain B2.out b3)
    clear b3
    go_wp2_with fail
    refine (HR.out _ B3.out).mono ?_
    rintro e w4 ⟨rfl, b4⟩
    have B4 := hide (chain B3.out b4)
    clear b4
    go_wp2_with fail
    refine (HB'.out _ B4.out).mono ?_
    rintro e w5 ⟨rfl, b5⟩
    go_wp2_with fail
    go_ret
    exact ⟨by simp, chain B4.out b5⟩

end Go.Proofs.Ytmpkbdmkkjcjhab
