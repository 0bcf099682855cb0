/- The document's In and Plain. The document's Fit, Name, Unname, Type of layer 20. -/
import Derived.Test.YtgibkbeakfaehaaDoorJpt3

namespace Go.Proofs.YtgibkbeakfaehaaDoor
open Go.RowKit
set_option maxHeartbeats 400000 in
theorem refPlain_any (c : UInt8) (w : World) :
    Calls Tryd.prog 26 #[.int .u8 (c.toNat : Int)] w fun e w' => e = .returned (.bool (plainB c)) ∧ w' = w := by
  unfold plainB
  rcases (show (c.toNat < 48) ∨ (48 ≤ c.toNat ∧ c.toNat ≤ 57) ∨ (57 < c.toNat ∧ c.toNat < 65) ∨ (65 ≤ c.toNat ∧ c.toNat ≤ 90) ∨ (90 < c.toNat ∧ c.toNat < 97) ∨ (97 ≤ c.toNat ∧ c.toNat ≤ 122) ∨ (122 < c.toNat) by omega) with h | ⟨h, g⟩ | ⟨h, g⟩ | ⟨h, g⟩ | ⟨h, g⟩ | ⟨h, g⟩ | h
  · rw [decide_eq_false (by omega)]
    go_enter Tryd.func26, Tryd.ntmps26
    go_wp2
    go_ret
    exact ⟨ret_bool (by first | rfl | (simp; omega)), rfl⟩
  · rw [decide_eq_true (by omega)]
    go_enter Tryd.func26, Tryd.ntmps26
    go_wp2
    go_ret
    exact ⟨ret_bool (by first | rfl | (simp; omega)), rfl⟩
  · rw [decide_eq_false (by omega)]
    go_enter Tryd.func26, Tryd.ntmps26
    go_wp2
    go_ret
    exact ⟨ret_bool (by first | rfl | (simp; omega)), rfl⟩
  · rw [decide_eq_true (by omega)]
    go_enter Tryd.func26, Tryd.ntmps26
    go_wp2
    go_ret
    exact ⟨ret_bool (by first | rfl | (simp; omega)), rfl⟩
  · rw [decide_eq_false (by omega)]
    go_enter Tryd.func26, Tryd.ntmps26
    go_wp2
    go_ret
    exact ⟨ret_bool (by first | rfl | (simp; omega)), rfl⟩
  · rw [decide_eq_true (by omega)]
    go_enter Tryd.func26, Tryd.ntmps26
    go_wp2
    go_ret
    exact ⟨ret_bool (by first | rfl | (simp; omega)), rfl⟩
  · rw [decide_eq_false (by omega)]
    go_enter Tryd.func26, Tryd.ntmps26
    go_wp2
    go_ret
    exact ⟨ret_bool (by first | rfl | (simp; omega)), rfl⟩
end Go.Proofs.YtgibkbeakfaehaaDoor

namespace Go.Proofs.YtgibkbeakfaehaaDoor
open Go.RowKit
set_option maxRecDepth 100000
set_option maxHeartbeats 4000000 in
theorem refFit_any (b : ByteArray) (w : World) (hs : b.size ≤ 1099511627776) :
    Calls Tryd.prog 11 #[.string b] w fun e w' => e = .returned (.bool (fitL (bL b))) ∧ Below w.heap.size w w' := by
  have LB := hide (len_bL b)
  have E : Hid (fitL (bL b) = ((bL b).all fitC && decide (0 < (bL b).length ∧ (bL b).length ≤ 70))) := rfl
  go_enter Tryd.func11, Tryd.ntmps11
  go_wp2_with fail
  go_loopw [3] (fun iv wr => ∃ k : Nat, k ≤ b.size ∧ iv = .int .i64 k ∧ Hid (((bL b).take k).all fitC = true) ∧ Hid (Below w.heap.size w wr)) (fun iv _ => b.size - (intOf iv).toNat)
  case atStart => exact ⟨0, Nat.zero_le _, rfl, rfl, Below.refl _ _⟩
  case round =>
    rename World => wr
    obtain ⟨k, hk, rfl, HA, BW⟩ := hrel
    by_cases g : k < b.size
    · have k1 : (k : Int) < (b.size : Int) := by omega
      have k0 : (0 : Int) ≤ (k : Int) := by omega
      have hl : k < (bL b).length := by rw [LB.out]; exact g
      have TK := hide (all_takeP fitC (bL b) hl)
      rw [at_bL g, HA.out, Bool.true_and] at TK
      have NO : Hid (fitC b[k] = false → fitL (bL b) = false) := fun t => by
        rw [E.out]
        have : (bL b).all fitC = false := List.all_eq_false.2 ⟨(bL b)[k], List.getElem_mem hl, by rw [at_bL g, t]; decide⟩
        rw [this]; rfl
      have EC : Hid (fitC b[k] = (plainB b[k] || b[k] == 45)) := rfl
      have HP := hide (fun W => refPlain_any b[k] W)
      clear HA E LB
      cases p : plainB b[k] with
      | true =>
        rw [p] at HP EC
        rw [EC.out] at TK
        clear NO EC p
        go_wp2_with fail
        refine (HP.out _).mono ?_
        rintro e w1 ⟨rfl, hu⟩
        obtain rfl : wr = w1 := hu.symm
        go_wp2_with fail
        go_roundw
        case rel => exact ⟨k + 1, by omega, by go_num, TK, BW⟩
        case measure => simp [intOf]; omega
      | false =>
        rw [p] at HP EC
        by_cases q : b[k] = 45
        · have q1 : ((b[k].toNat : Int) != 45) = false := by rw [q]; rfl
          have q2 : (b[k] == 45) = true := by rw [q]; rfl
          rw [EC.out, q2] at TK
          clear NO EC p q q2
          go_wp2_with fail
          refine (HP.out _).mono ?_
          rintro e w1 ⟨rfl, hu⟩
          obtain rfl : wr = w1 := hu.symm
          go_wp2_with fail
          go_roundw
          case rel => exact ⟨k + 1, by omega, by go_num, TK, BW⟩
          case measure => simp [intOf]; omega
        · have q1 : ((b[k].toNat : Int) != 45) = true := by
            rw [bne_iff_ne]
            intro h
            exact q (UInt8.toNat_inj.1 (by show _ = 45; omega))
          have q2 : (b[k] == 45) = false := by rw [beq_eq_false_iff_ne]; exact q
          have RN := hide (NO.out (by rw [EC.out, q2]; rfl))
          clear NO EC p q q2 TK
          go_wp2_with fail
          refine (HP.out _).mono ?_
          rintro e w1 ⟨rfl, hu⟩
          obtain rfl : wr = w1 := hu.symm
          go_wp2_with fail
          go_ret
          exact ⟨ret_bool RN.out.symm, BW.out⟩
    · obtain rfl : k = b.size := by omega
      rw [List.take_of_length_le (by rw [LB.out]; omega)] at HA
      rw [HA.out, Bool.true_and, LB.out] at E
      clear HA LB
      by_cases h0 : 0 < b.size
      · have d0 : decide (0 < (b.size : Int)) = true := decide_eq_true (by omega)
        by_cases h7 : b.size ≤ 70
        · have d1 : decide ((b.size : Int) ≤ 70) = true := decide_eq_true (by omega)
          rw [decide_eq_true ⟨h0, h7⟩] at E
          go_wp2_with fail
          go_ret
          exact ⟨ret_bool E.out.symm, BW.out⟩
        · have d1 : decide ((b.size : Int) ≤ 70) = false := decide_eq_false (by omega)
          rw [decide_eq_false (fun t => h7 t.2)] at E
          go_wp2_with fail
          go_ret
          exact ⟨ret_bool E.out.symm, BW.out⟩
      · have d0 : decide (0 < (b.size : Int)) = false := decide_eq_false (by omega)
        rw [decide_eq_false (fun t => h0 t.1)] at E
        go_wp2_with fail
        go_ret
        exact ⟨ret_bool E.out.symm, BW.out⟩

end Go.Proofs.YtgibkbeakfaehaaDoor
