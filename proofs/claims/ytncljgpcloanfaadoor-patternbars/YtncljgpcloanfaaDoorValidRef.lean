/- The document's Valid answers by the model's own decoder; what lay in the world lies there still. Condition: texts of at most 2^40 bytes. -/
import Derived.Test.YtncljgpcloanfaaDoorUnits
import Derived.Test.YtncljgpcloanfaaDoorSignWalk
namespace Go.Proofs.YtncljgpcloanfaaDoor
open Go.RowKit

set_option maxHeartbeats 1000000 in
set_option maxRecDepth 100000 in
theorem refValid_any (s : ByteArray) (w : World) (hs : s.size ≤ 1099511627776) :
    Calls Tryd.prog 17 #[.string s] w fun e w' => e = .returned (.bool (validS s)) ∧ Below w.heap.size w w' := by
  go_enter Tryd.func17, Tryd.ntmps17
  go_wp2
  go_loop [3] (fun a => ∃ pos : Nat, a = .int .i64 pos ∧ validFrom s pos = validS s ∧ pos ≤ s.size) (fun a => s.size - (intOf a).toNat)
  case atStart => exact ⟨0, rfl, validFrom_zero s, Nat.zero_le _⟩
  case round =>
    obtain ⟨pos, rfl, hv, hps⟩ := hrel
    have HV := hide hv
    clear hv
    by_cases hp : pos < s.size
    · have hwd := Lib.decode_width_pos s pos hp
      have hwl := width_le s pos hp
      have HC := hide (sign_any s pos w (by omega) hp)
      by_cases hn : NoSign s pos
      · rw [signAt_bad hn] at HC
        have HR := hide (HV.out.symm.trans (validFrom_bad hp hn))
        clear hn hwd hwl HV
        go_wp2_with fail
        refine HC.out.mono ?_
        rintro e w1 ⟨rfl, rfl⟩
        go_wp2_with fail
        go_ret
        exact ⟨ret_bool HR.out.symm, Below.refl _ _⟩
      · rw [signAt_ok hn] at HC
        have HR := hide ((validFrom_ok hp hn).symm.trans HV.out)
        clear hn HV
        generalize (Utf8.decode s pos).2 = n at *
        generalize decide (65535 < (Utf8.decode s pos).1) = g at *
        have hne : ((n : Int) == 0) = false := by simp; omega
        go_wp2_with fail
        refine HC.out.mono ?_
        rintro e w1 ⟨rfl, rfl⟩
        go_wp2_with fail
        go_round
        case rel => exact ⟨pos + n, by go_num, HR.out, hwl⟩
        case measure => simp [intOf]; omega
    · have HR := hide (HV.out.symm.trans (validFrom_end s pos hp))
      clear HV
      go_wp2
      go_ret
      exact ⟨ret_bool HR.out.symm, Below.refl _ _⟩

end Go.Proofs.YtncljgpcloanfaaDoor
