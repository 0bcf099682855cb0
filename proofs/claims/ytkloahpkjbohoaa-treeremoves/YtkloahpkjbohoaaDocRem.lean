/- The program's Remove of layer 10: it answers by 'remP', or by its error. Conditions: a document as it lies in the world; rows of at most 2^47 bytes. -/
import Derived.Test.YtkloahpkjbohoaaDocTake
import Derived.Test.YtkloahpkjbohoaaDocS8
namespace Go.Proofs.Ytkloahpkjbohoaa
open Go.RowKit

set_option maxHeartbeats 2000000 in
theorem remove_gone (v : Value) (l : List Nd) (id : Int) (w : World) (hv : NodesV w v l) (hz : DocSz l) (hh : hasN l id = false) :
    Calls Try.prog 18 #[v, .int .i64 id] w fun e w' => e = .returned (.tuple #[.slice none 0 0, .int .i64 4]) ∧ Below w.heap.size w w' := by
  have HP := hide (isThere_any v l id w hv hz)
  rw [hh] at HP
  clear hv hz hh
  go_enter Try.func18, Try.ntmps18
  go_wp2_with fail
  refine HP.out.mono ?_
  rintro e w1 ⟨rfl, b1⟩
  go_wp2_with fail
  go_ret2
  exact ⟨rfl, b1⟩

set_option maxHeartbeats 2000000 in
theorem remove_root (v : Value) (l : List Nd) (m : Nat) (w : World) (hv : NodesV w v l) (hz : DocSz l) (hR : Right l) (hm : m < l.length) (h1 : l[m].parent = -1) :
    Calls Try.prog 18 #[v, .int .i64 (m : Int)] w fun e w' => e = .returned (.tuple #[.slice none 0 0, .int .i64 8]) ∧ Below w.heap.size w w' := by
  have HP := hide (isThere_any v l (m : Int) w hv hz)
  have e1 : hasN l (m : Int) = true := by unfold hasN; rw [decide_eq_true ⟨by omega, by omega⟩, right_is.2 hR]; rfl
  rw [e1] at HP
  obtain ⟨pp, cc, rfl, hv⟩ := hv
  rcases hv with hv | ⟨b, o, rfl, hv⟩
  · rw [hv] at hm; simp at hm
  obtain ⟨va, vk, N0⟩ := hv m hm
  have NW : Hid (∀ W, Below w.heap.size w W → NodeAt W b (o + m * 5) l[m] va vk) := fun W hb => N0.below hb
  have i0 : (0 : Int) ≤ (m : Int) := by omega
  have i1 : (m : Int) < (l.length : Int) := by omega
  have hlen := hR.len.2
  clear hv N0 hz hR e1
  go_enter Try.func18, Try.ntmps18
  go_wp2_with fail
  refine HP.out.mono ?_
  rintro e w1 ⟨rfl, b1⟩
  have a3 := (NW.out w1 b1).parent
  rw [h1] at a3
  go_wp2_with fail
  go_ret2
  exact ⟨rfl, b1⟩

set_option maxHeartbeats 4000000 in
set_option maxRecDepth 100000 in
theorem remove_ok (v : Value) (l : List Nd) (m : Nat) (w : World) (hv : NodesV w v l) (hz : DocSz l) (hR : Right l) (hm : m < l.length) (h1 : ¬ l[m].parent = -1) :
    Calls Try.prog 18 #[v, .int .i64 (m : Int)] w fun e w' => ∃ v', e = .returned (.tuple #[v', .int .i64 0]) ∧ NodesV w' v' (remP l m) ∧ Below w.heap.size w w' := by
  have HP := hide (isThere_any v l (m : Int) w hv hz)
  have e1 : hasN l (m : Int) = true := by unfold hasN; rw [decide_eq_true ⟨by omega, by omega⟩, right_is.2 hR]; rfl
  rw [e1] at HP
  have HC := hide (fun W (hb : Below w.heap.size w W) => copied_any v l W (hv.below hb) hR)
  have HR := hide hR
  obtain ⟨pp, cc, rfl, hv⟩ := hv
  rcases hv with hv | ⟨b, o, rfl, hv⟩
  · rw [hv] at hm; simp at hm
  obtain ⟨va, vk, N0⟩ := hv m hm
  have NW : Hid (∀ W, Below w.heap.size w W → NodeAt W b (o + m * 5) l[m] va vk) := fun W hb => N0.below hb
  have i0 : (0 : Int) ≤ (m : Int) := by omega
  have i1 : (m : Int) < (l.length : Int) := by omega
  have hlen := hR.len.2
  have f1 : (l[m].parent == -1) = false := by rw [beq_eq_false_iff_ne]; exact h1
  clear hv N0 hz hR e1
  go_enter Try.func18, Try.ntmps18
  go_wp2_with fail
  refine HP.out.mono ?_
  rintro e w1 ⟨rfl, b1⟩
  have a3 := (NW.out w1 b1).parent
  go_wp2_with fail
  refine (HC.out _ b1).mono ?_
  rintro e w5 ⟨v5, L, rfl, o5, l5, b5⟩
  have B5 := hide (chain b1 b5)
  have LL : L.length = l.length := by rw [← ndsOf_len, l5]
  have HT := hide (takeOut_any w.heap.size v5 L m w5 (OwnD.mono o5 b1.size) B5.out.size (by omega) (by rw [l5]; exact HR.out))
  have L5 := hide l5
  clear o5 l5 b5 b1 a3 LL HP HC
  go_wp2_with fail
  refine HT.out.mono ?_
  rintro e w6 ⟨L', rfl, o6, l6, b6⟩
  go_wp2_with fail
  go_ret2
  have N6 := o6.nodes
  rw [l6, L5.out] at N6
  exact ⟨_, rfl, N6, B5.out.trans b6⟩

end Go.Proofs.Ytkloahpkjbohoaa
