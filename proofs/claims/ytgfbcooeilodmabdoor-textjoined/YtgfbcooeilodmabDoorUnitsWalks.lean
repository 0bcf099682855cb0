/- The program's Units and the document's Valid answer by the model's own decoder; they change nothing that was there. Condition: texts of at most 2^40 bytes. -/
import Derived.Test.YtgfbcooeilodmabDoorUnits
import Derived.Test.YtgfbcooeilodmabDoorSignWalk
namespace Go.Proofs.YtgfbcooeilodmabDoor
open Go.RowKit

theorem iter_below (w : World) (s : ByteArray) (p : Nat) : Below w.heap.size w (w.iter s p) :=
  (Below.refl _ w).alloc (Nat.le_refl _) _

set_option maxHeartbeats 1000000 in
set_option maxRecDepth 100000 in
theorem units_any (s : ByteArray) (w : World) (hs : s.size ≤ 1099511627776) :
    Calls Tryd.prog 4 #[.string s] w fun e w' => e = .returned (.int .i64 (unitsS s)) ∧ Below w.heap.size w w' := by
  go_enter Tryd.func4, Tryd.ntmps4
  go_wp2
  go_loopw [3] (fun n w' => ∃ (pos acc : Nat), w' = w.iter s pos ∧ n = .int .i64 acc ∧ Left s pos acc ∧ pos ≤ s.size) (fun _ w' => s.size - w'.iterPos w.heap.size)
  case atStart => exact ⟨0, 0, rfl, rfl, left_zero s, Nat.zero_le _⟩
  case round =>
    obtain ⟨pos, acc, rfl, rfl, hl, hps⟩ := hrel
    have hle := left_le hl
    by_cases hp : pos < s.size
    · have hnx : ∀ ty, (Instr.next (.pointer (some ⟨w.heap.size, 0, none⟩)) true ty).run Tryd.prog (w.iter s pos) = _ := fun ty => run_next_any w s pos ty hp
      have hwd := Lib.decode_width_pos s pos hp
      have hwl := width_le s pos hp
      by_cases hg : 65535 < (Utf8.decode s pos).1
      · have HL := hide (left_two hl hp hg)
        have hgz : (65535 : Int) < ((Utf8.decode s pos).1 : Int) := by omega
        go_wp2
        go_roundw
        case rel => exact ⟨pos + (Utf8.decode s pos).2, acc + 2, rfl, by go_num, HL.out, hwl⟩
        case measure => simp; omega
      · have HL := hide (left_one hl hp hg)
        have hgz : ¬ (65535 : Int) < ((Utf8.decode s pos).1 : Int) := by omega
        go_wp2
        go_roundw
        case rel => exact ⟨pos + (Utf8.decode s pos).2, acc + 1, rfl, by go_num, HL.out, hwl⟩
        case measure => simp; omega
    · have hnx : ∀ ty, (Instr.next (.pointer (some ⟨w.heap.size, 0, none⟩)) true ty).run Tryd.prog (w.iter s pos) = _ := fun ty => run_next_end w s pos ty hp
      have HE := hide (left_end hl hp)
      go_wp2
      go_ret
      exact ⟨ret_int (by rw [HE.out]), iter_below _ _ _⟩

set_option maxHeartbeats 1000000 in
set_option maxRecDepth 100000 in
theorem refValid_any (s : ByteArray) (w : World) (hs : s.size ≤ 1099511627776) :
    Calls Tryd.prog 6 #[.string s] w fun e w' => e = .returned (.bool (validS s)) ∧ Below w.heap.size w w' := by
  go_enter Tryd.func6, Tryd.ntmps6
  go_wp2
  go_loop [3] (fun a => ∃ pos : Nat, a = .int .i64 pos ∧ validFrom s pos = validS s ∧ pos ≤ s.size) (fun a => s.size - (intOf a).toNat)
  case atStart => exact ⟨0, rfl, validFrom_zero s, Nat.zero_le _⟩
  case round =>
    obtain ⟨pos, rfl, hv, hps⟩ := hrel
    have HV := hide hv
    clear hv
    by_cases hp : pos < s.size
    · have hwd := Lib.decode_width_pos s pos hp
      have hwl := width_le s pos hp
      have HC := hide (sign_any s pos w (by omega) hp)
      by_cases hn : NoSign s pos
      · rw [signAt_bad hn] at HC
        have HR := hide (HV.out.symm.trans (validFrom_bad hp hn))
        clear hn hwd hwl HV
        go_wp2_with fail
        refine HC.out.mono ?_
        rintro e w1 ⟨rfl, rfl⟩
        go_wp2_with fail
        go_ret
        exact ⟨ret_bool HR.out.symm, Below.refl _ _⟩
      · rw [signAt_ok hn] at HC
        have HR := hide ((validFrom_ok hp hn).symm.trans HV.out)
        clear hn HV
        generalize (Utf8.decode s pos).2 = n at *
        generalize decide (65535 < (Utf8.decode s pos).1) = g at *
        have hne : ((n : Int) == 0) = false := by simp; omega
        go_wp2_with fail
        refine HC.out.mono ?_
        rintro e w1 ⟨rfl, rfl⟩
        go_wp2_with fail
        go_round
        case rel => exact ⟨pos + n, by go_num, HR.out, hwl⟩
        case measure => simp [intOf]; omega
    · have HR := hide (HV.out.symm.trans (validFrom_end s pos hp))
      clear HV
      go_wp2
      go_ret
      exact ⟨ret_bool HR.out.symm, Below.refl _ _⟩

end Go.Proofs.YtgfbcooeilodmabDoor
