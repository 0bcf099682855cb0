/- What a division leaves, by the document: the call answers by it; the world is as it was. Condition: numbers of 64 bits; a step above 0. -/
import Derived.Test.YtekcbkicfoaheaaGreatDoorRows
import Derived.Test.YtekcbkicfoaheaaGreatDoorNumMod
namespace Go.Proofs.YtekcbkicfoaheaaGreatDoor
open Go.RowKit

theorem left_at {n s : Int} (h3 : 1 ≤ s) : (0 ≤ n.tmod s → n % s = n.tmod s) ∧ (n.tmod s < 0 → n % s = n.tmod s + s ∧ -s < n.tmod s ∧ n < 0) := by
  by_cases hn : 0 ≤ n
  · have e := left_pos (n := n) (s := s) hn
    have := Int.emod_nonneg n (by omega : s ≠ 0)
    exact ⟨fun _ => e.symm, fun h => by omega⟩
  · have ⟨b1, b2⟩ := left_bounds (n := n) (s := s) (by omega) (by omega)
    refine ⟨fun h => ?_, fun h => ⟨?_, b1, by omega⟩⟩
    · have e : n.tmod s = 0 := by omega
      rw [left_neg0 e, e]
    · have := left_neg (n := n) (s := s) (by omega) (by omega) (by omega)
      omega
theorem left_less {n s : Int} (h3 : 1 ≤ s) : 0 ≤ n % s ∧ n % s < s := ⟨Int.emod_nonneg _ (by omega), Int.emod_lt_of_pos _ (by omega)⟩

set_option maxHeartbeats 1000000 in
theorem refLeft_any (n s : Int) (w : World) (_h1 : -9223372036854775808 ≤ n) (_h2 : n ≤ 9223372036854775807) (h3 : 1 ≤ s) (h4 : s ≤ 9223372036854775807) :
    Calls Tryz.prog 25 #[.int .i64 n, .int .i64 s] w fun e w' => e = .returned (.int .i64 (n % s)) ∧ w' = w := by
  have ⟨a1, a2⟩ := left_at (n := n) h3
  have l3 := left_pos (n := n) (s := s)
  have l4 := left_bounds (n := n) (s := s) (by omega)
  by_cases hn : 0 ≤ n
  · clear a1 a2 l3 l4
    go_enter Tryz.func25, Tryz.ntmps25
    go_wp2_with fail
    go_ret
    exact ⟨rfl, rfl⟩
  · have hn' : n < 0 := by omega
    have ⟨b1, b2⟩ := l4 hn'
    by_cases hc : n.tmod s = 0
    · have E := hide ((a1 (by omega)).trans hc)
      have hc1 : (n.tmod s == 0) = true := by simpa using hc
      clear a1 a2 l3 l4 hn hc
      go_enter Tryz.func25, Tryz.ntmps25
      go_wp2_with fail
      go_ret
      exact ⟨ret_int E.out.symm, rfl⟩
    · have E := hide (a2 (by omega)).1
      have hc1 : (n.tmod s == 0) = false := by simpa using hc
      clear a1 a2 l3 l4 hn hc
      go_enter Tryz.func25, Tryz.ntmps25
      go_wp2_with fail
      go_ret
      exact ⟨ret_int (by rw [E.out]; omega), rfl⟩


end Go.Proofs.YtekcbkicfoaheaaGreatDoor
