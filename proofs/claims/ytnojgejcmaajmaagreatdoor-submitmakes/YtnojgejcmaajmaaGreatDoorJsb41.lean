/- The document's Digits. -/
import Derived.Test.YtnojgejcmaajmaaGreatDoorJsb7

namespace Go.Proofs.YtnojgejcmaajmaaGreatDoor
open Go.RowKit
set_option maxRecDepth 100000
theorem dig_at : ∀ n : Fin 16, (⟨#[48, 49, 50, 51, 52, 53, 54, 55, 56, 57, 65, 66, 67, 68, 69, 70]⟩ : ByteArray).extract n.val (n.val + 1) = txt [hexD n.val] := by decide +kernel
set_option maxHeartbeats 1000000 in
theorem refHexD_any (c : UInt8) (w : World) :
    Calls Tryz.prog 203 #[.int .u8 (c.toNat : Int)] w fun e w' => e = .returned (.string (txt [hexD (c.toNat / 16), hexD (c.toNat % 16)])) ∧ Below w.heap.size w w' := by
  have hc := c.toNat_lt
  have hc1 : (c.toNat : Int) / 16 < 16 := by omega
  have hc2 : (c.toNat : Int) % 16 < 16 := by omega
  have hc3 : 0 ≤ (c.toNat : Int) / 16 := by omega
  have hc4 : 0 ≤ (c.toNat : Int) % 16 := by omega
  go_enter Tryz.func203, Tryz.ntmps203
  go_wp2_with fail
  go_quiet (fail)
  go_wp2_with fail
  go_ret
  refine ⟨ret_str ?_, ⟨rfl, rfl, rfl, Nat.le_refl _, fun _ _ => rfl⟩⟩
  have e1 := dig_at ⟨c.toNat / 16, by omega⟩
  have e2 := dig_at ⟨c.toNat % 16, by omega⟩
  simp only at e1 e2
  rw [e1, e2]
  rfl

end Go.Proofs.YtnojgejcmaajmaaGreatDoor
