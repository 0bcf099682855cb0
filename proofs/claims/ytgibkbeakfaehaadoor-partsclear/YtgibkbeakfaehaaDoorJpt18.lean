/- The document's Fit, Name, Unname, Type of layer 20. -/
import Derived.Test.YtgibkbeakfaehaaDoorJpt3

namespace Go.Proofs.YtgibkbeakfaehaaDoor
open Go.RowKit
set_option maxRecDepth 100000
set_option maxHeartbeats 4000000 in
theorem refTypeP_any (s : ByteArray) (w : World) (hs : s.size ≤ 1099511627776) :
    Calls Tryd.prog 23 #[.string s] w fun e w' => e = .returned (.string (txt (typeL (bL s)))) ∧ w' = w := by
  have LB := hide (len_bL s)
  have EB : Hid ((bL s).any badT = true ∨ bL s = [] → txt (typeL (bL s)) = ⟨#[97, 112, 112, 108, 105, 99, 97, 116, 105, 111, 110, 47, 111, 99, 116, 101, 116, 45, 115, 116, 114, 101, 97, 109]⟩) := fun h => by unfold typeL; rw [if_pos h]; rfl
  have EG : Hid (¬ ((bL s).any badT = true ∨ bL s = []) → txt (typeL (bL s)) = s) := fun h => by unfold typeL; rw [if_neg h]; rfl
  go_enter Tryd.func23, Tryd.ntmps23
  go_wp2_with fail
  go_loop [3] (fun iv => ∃ k : Nat, k ≤ s.size ∧ iv = .int .i64 k ∧ Hid (((bL s).take k).any badT = false)) (fun iv => s.size - (intOf iv).toNat)
  case atStart => exact ⟨0, Nat.zero_le _, rfl, rfl⟩
  case round =>
    obtain ⟨k, hk, rfl, HA⟩ := hrel
    by_cases g : k < s.size
    · have k1 : (k : Int) < (s.size : Int) := by omega
      have k0 : (0 : Int) ≤ (k : Int) := by omega
      have hl : k < (bL s).length := by rw [LB.out]; exact g
      have TK := hide (any_takeP badT (bL s) hl)
      rw [at_bL g, HA.out, Bool.false_or] at TK
      have YES : Hid (badT s[k] = true → txt (typeL (bL s)) = ⟨#[97, 112, 112, 108, 105, 99, 97, 116, 105, 111, 110, 47, 111, 99, 116, 101, 116, 45, 115, 116, 114, 101, 97, 109]⟩) := fun t => EB.out (.inl (List.any_eq_true.2 ⟨(bL s)[k], List.getElem_mem hl, by rw [at_bL g]; exact t⟩))
      have EC : Hid (badT s[k] = decide (s[k].toNat < 32 ∨ 126 < s[k].toNat)) := rfl
      clear HA EB EG LB
      by_cases h0 : s[k].toNat < 32
      · have d0 : decide ((s[k].toNat : Int) < 32) = true := decide_eq_true (by omega)
        have R1 := hide (YES.out (by rw [EC.out]; exact decide_eq_true (.inl h0)))
        clear YES EC TK h0
        go_wp2_with fail
        go_ret
        exact ⟨ret_txt R1.out.symm, rfl⟩
      · have d0 : decide ((s[k].toNat : Int) < 32) = false := decide_eq_false (by omega)
        by_cases h1 : 126 < s[k].toNat
        · have d1 : decide (126 < (s[k].toNat : Int)) = true := decide_eq_true (by omega)
          have R1 := hide (YES.out (by rw [EC.out]; exact decide_eq_true (.inr h1)))
          clear YES EC TK h0 h1
          go_wp2_with fail
          go_ret
          exact ⟨ret_txt R1.out.symm, rfl⟩
        · have d1 : decide (126 < (s[k].toNat : Int)) = false := decide_eq_false (by omega)
          rw [EC.out, decide_eq_false (fun t => t.elim h0 h1)] at TK
          clear YES EC h0 h1
          go_wp2_with fail
          go_round
          case rel => exact ⟨k + 1, by omega, by go_num, TK⟩
          case measure => simp [intOf]; omega
    · obtain rfl : k = s.size := by omega
      rw [List.take_of_length_le (by rw [LB.out]; omega)] at HA
      by_cases h0 : s.size = 0
      · have q : ((s.size : Int) == 0) = true := by rw [h0]; rfl
        have R1 := hide (EB.out (.inr (List.eq_nil_of_length_eq_zero (by rw [LB.out]; exact h0))))
        clear EB EG HA LB h0
        go_wp2_with fail
        go_ret
        exact ⟨ret_txt R1.out.symm, rfl⟩
      · have q : ((s.size : Int) == 0) = false := by rw [beq_eq_false_iff_ne]; omega
        have R1 := hide (EG.out (fun t => by
          rcases t with t | t
          · rw [HA.out] at t; cases t
          · exact h0 (by rw [← LB.out, t]; rfl)))
        clear EB EG HA LB h0
        go_wp2_with fail
        go_ret
        exact ⟨ret_txt R1.out.symm, rfl⟩

end Go.Proofs.YtgibkbeakfaehaaDoor
