/- The document's Path, Bubbles, Cancels of layer 23. The program's Path, Bubbles, Cancels of layer 23. Stage 23's wakes and its laws EventPaths, EventKinds, walked. -/
import Derived.Test.YtmobcijigiacoaaJev1
import Derived.Test.YtmobcijigiacoaaJev6
import Derived.Test.YtmobcijigiacoaaJev7
import Derived.Test.YtmobcijigiacoaaJev8
import Derived.Deep.MidRow
import Derived.Shelf.RegionOpen
import Derived.OwnWalkIn
import Derived.TacticsInMore
import Derived.LoopNIn
import Derived.LoopIn
import Derived.OrdersIn
import Derived.OrdersHeld
import Derived.TacticsIn
import Derived.Deep.RegionLaw
import Derived.Deep.DrawnRows
import Derived.Deep.DeepCutAuto

namespace Go.Proofs.Ytmobcijigiacoaa
open Go.RowKit
set_option maxRecDepth 100000
/-- Types of events: those that go up, those that can be prevented. -/
def bubB (k : ByteArray) : Bool := (k.toList == [99, 108, 105, 99, 107]) || (k.toList == [105, 110, 112, 117, 116]) || (k.toList == [99, 104, 97, 110, 103, 101]) || (k.toList == [115, 117, 98, 109, 105, 116]) || (k.toList == [102, 111, 114, 109, 100, 97, 116, 97]) || (k.toList == [114, 101, 115, 101, 116])
def canB (k : ByteArray) : Bool := (k.toList == [99, 108, 105, 99, 107]) || (k.toList == [105, 110, 118, 97, 108, 105, 100]) || (k.toList == [115, 117, 98, 109, 105, 116]) || (k.toList == [114, 101, 115, 101, 116])
set_option maxHeartbeats 8000000 in
theorem refBubbles23_any (k : ByteArray) (w : World) :
    Calls Try.prog 18 #[.string k] w fun e w' => e = .returned (.bool (bubB k)) ∧ w' = w := by
  unfold bubB
  generalize q0 : (k.toList == [99, 108, 105, 99, 107]) = a0
  generalize q1 : (k.toList == [105, 110, 112, 117, 116]) = a1
  generalize q2 : (k.toList == [99, 104, 97, 110, 103, 101]) = a2
  generalize q3 : (k.toList == [115, 117, 98, 109, 105, 116]) = a3
  generalize q4 : (k.toList == [102, 111, 114, 109, 100, 97, 116, 97]) = a4
  generalize q5 : (k.toList == [114, 101, 115, 101, 116]) = a5
  cases a0 <;> cases a1 <;> cases a2 <;> cases a3 <;> cases a4 <;> cases a5
  all_goals
    go_enter Try.func18, Try.ntmps18
    go_wp2_with fail
    go_ret
    exact ⟨rfl, rfl⟩
set_option maxHeartbeats 8000000 in
theorem refCancels23_any (k : ByteArray) (w : World) :
    Calls Try.prog 19 #[.string k] w fun e w' => e = .returned (.bool (canB k)) ∧ w' = w := by
  unfold canB
  generalize q0 : (k.toList == [99, 108, 105, 99, 107]) = a0
  generalize q1 : (k.toList == [105, 110, 118, 97, 108, 105, 100]) = a1
  generalize q2 : (k.toList == [115, 117, 98, 109, 105, 116]) = a2
  generalize q3 : (k.toList == [114, 101, 115, 101, 116]) = a3
  cases a0 <;> cases a1 <;> cases a2 <;> cases a3
  all_goals
    go_enter Try.func19, Try.ntmps19
    go_wp2_with fail
    go_ret
    exact ⟨rfl, rfl⟩
end Go.Proofs.Ytmobcijigiacoaa

namespace Go.Proofs.Ytmobcijigiacoaa
open Go.RowKit Go.Shelf
set_option maxRecDepth 100000
set_option maxHeartbeats 8000000 in
theorem evBubbles_any (k : ByteArray) (w : World) :
    Calls Try.prog 16 #[.string k] w fun e w' => e = .returned (.bool (bubB k)) ∧ Below w.heap.size w w' := by
  unfold bubB
  generalize q0 : (k.toList == [99, 108, 105, 99, 107]) = a0
  generalize q1 : (k.toList == [105, 110, 112, 117, 116]) = a1
  generalize q2 : (k.toList == [99, 104, 97, 110, 103, 101]) = a2
  generalize q3 : (k.toList == [115, 117, 98, 109, 105, 116]) = a3
  generalize q4 : (k.toList == [102, 111, 114, 109, 100, 97, 116, 97]) = a4
  generalize q5 : (k.toList == [114, 101, 115, 101, 116]) = a5
  cases a0 <;> cases a1 <;> cases a2 <;> cases a3 <;> cases a4 <;> cases a5
  all_goals
    go_enter Try.func16, Try.ntmps16
    go_wp2_with fail
    go_ret
    exact ⟨rfl, Below.refl _ _⟩
set_option maxHeartbeats 8000000 in
theorem evCancels_any (k : ByteArray) (w : World) :
    Calls Try.prog 17 #[.string k] w fun e w' => e = .returned (.bool (canB k)) ∧ Below w.heap.size w w' := by
  unfold canB
  generalize q0 : (k.toList == [99, 108, 105, 99, 107]) = a0
  generalize q1 : (k.toList == [105, 110, 118, 97, 108, 105, 100]) = a1
  generalize q2 : (k.toList == [115, 117, 98, 109, 105, 116]) = a2
  generalize q3 : (k.toList == [114, 101, 115, 101, 116]) = a3
  cases a0 <;> cases a1 <;> cases a2 <;> cases a3
  all_goals
    go_enter Try.func17, Try.ntmps17
    go_wp2_with fail
    go_ret
    exact ⟨rfl, Below.refl _ _⟩
end Go.Proofs.Ytmobcijigiacoaa

namespace Go.Proofs.Ytmobcijigiacoaa
open Go.RowKit
set_option maxRecDepth 100000
set_option maxHeartbeats 8000000 in
theorem eventKinds_walk (k : ByteArray) (w : World) :
    Calls Try.prog 6 #[.string k] w fun e w' => e = .returned (.bool true) ∧ Below w.heap.size w w' := by
  have H1 := hide (fun k W => evBubbles_any k W)
  have H2 := hide (fun k W => evCancels_any k W)
  have R1 := hide (refBubbles23_any k)
  have R2 := hide (refCancels23_any k)
  have C1 := hide (H1.out ⟨#[99, 108, 105, 99, 107]⟩)
  rw [show bubB ⟨#[99, 108, 105, 99, 107]⟩ = true from by kernel_rfl] at C1
  have C2 := hide (H2.out ⟨#[105, 110, 112, 117, 116]⟩)
  rw [show canB ⟨#[105, 110, 112, 117, 116]⟩ = false from by kernel_rfl] at C2
  replace H1 := hide (H1.out k)
  replace H2 := hide (H2.out k)
  generalize bubB k = x at *
  generalize canB k = y at *
  have dx : (x == x) = true := beq_self_eq_true x
  have dy : (y == y) = true := beq_self_eq_true y
  go_enter Try.func6, Try.ntmps6
  go_wp2_with fail
  refine (C1.out _).mono ?_
  rintro e w1 ⟨rfl, b1⟩
  go_wp2_with fail
  refine (C2.out _).mono ?_
  rintro e w2 ⟨rfl, b2⟩
  go_wp2_with fail
  refine (H1.out _).mono ?_
  rintro e w3 ⟨rfl, b3⟩
  go_wp2_with fail
  refine (R1.out _).mono ?_
  rintro e u ⟨rfl, hu⟩
  obtain rfl : w3 = u := hu.symm
  go_wp2_with fail
  refine (H2.out _).mono ?_
  rintro e w4 ⟨rfl, b4⟩
  go_wp2_with fail
  refine (R2.out _).mono ?_
  rintro e u ⟨rfl, hu⟩
  obtain rfl : w4 = u := hu.symm
  go_wp2_with fail
  go_ret
  exact ⟨rfl, chain (chain (chain b1 b2) b3) b4⟩

end Go.Proofs.Ytmobcijigiacoaa
