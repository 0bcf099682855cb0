/- The program's Escapes answers by escB, for every set and byte; it changes nothing. Condition: the table of signs reads as the program's text lays it. -/
import Derived.Test.YtcaoamccnibihaaDoorSetsWalks
namespace Go.Proofs.YtcaoamccnibihaaDoor
open Go.Shelf Go.RowKit

set_option maxHeartbeats 400000 in
theorem escapes_any (set : Int) (c : UInt8) (w : World) (hT : Signs w) :
    Calls Tryd.prog 9 #[.int .i64 set, .int .u8 (c.toNat : Int)] w fun e w' => e = .returned (.bool (escB set c)) ∧ w' = w := by
  have hS := fun w => isSet_any set w
  by_cases hs : 0 ≤ set ∧ set ≤ 7
  · rw [decide_eq_true hs] at hS
    have HS := hide hS
    clear hS
    by_cases hc : c.toNat < 32 ∨ 126 < c.toNat
    · rw [escB_ctl hs hc]
      rcases hc with hc | hc
      · go_enter Tryd.func9, Tryd.ntmps9
        go_wp2_with fail
        refine (HS.out _).mono ?_
        rintro e w1 ⟨rfl, rfl⟩
        go_wp2_with fail
        go_ret
        exact ⟨rfl, rfl⟩
      · go_enter Tryd.func9, Tryd.ntmps9
        go_wp2_with fail
        refine (HS.out _).mono ?_
        rintro e w1 ⟨rfl, rfl⟩
        go_wp2_with fail
        all_goals first
          | (exfalso; omega)
          | (go_ret; exact ⟨rfl, rfl⟩)
    · have hc1 : 32 ≤ c.toNat := by omega
      have hc2 : c.toNat ≤ 126 := by omega
      by_cases h7 : set = 7
      · subst h7
        have HE := hide (escB_form hc)
        clear hc
        go_enter Tryd.func9, Tryd.ntmps9
        go_wp2_with fail
        refine (HS.out _).mono ?_
        rintro e w1 ⟨rfl, rfl⟩
        go_wp2_with fail
        all_goals first
          | (exfalso; omega)
          | (refine (staysInForm_any c _).mono ?_; rintro e w1 ⟨rfl, rfl⟩; go_wp2_with fail; go_ret; exact ⟨ret_bool HE.out.symm, rfl⟩)
      · obtain ⟨k, rfl⟩ : ∃ k : Nat, set = k := ⟨set.toNat, by omega⟩
        have hk : k < 7 := by omega
        have hcell := hT k hk
        have HE := hide (escB_sign (set := (k : Int)) (c := c) (by omega) hc)
        have HI := hide (fun w => indexByte_any (txt (signsOf k)) c w)
        have q7 : ((k : Int) == 7) = false := by simp; omega
        clear hc h7 hs hT
        go_enter Tryd.func9, Tryd.ntmps9
        go_wp2_with fail
        refine (HS.out _).mono ?_
        rintro e w1 ⟨rfl, rfl⟩
        go_wp2_with fail
        all_goals first
          | (exfalso; omega)
          | (refine (HI.out _).mono ?_; rintro e w1 ⟨rfl, rfl⟩; go_wp2_with fail; go_ret; exact ⟨ret_bool ((index_in c _).trans HE.out.symm), rfl⟩)
  · rw [decide_eq_false hs] at hS
    have HS := hide hS
    rw [escB_no c hs]
    clear hS hs
    go_enter Tryd.func9, Tryd.ntmps9
    go_wp2_with fail
    refine (HS.out _).mono ?_
    rintro e w1 ⟨rfl, rfl⟩
    go_wp2_with fail
    go_ret
    exact ⟨rfl, rfl⟩

end Go.Proofs.YtcaoamccnibihaaDoor
