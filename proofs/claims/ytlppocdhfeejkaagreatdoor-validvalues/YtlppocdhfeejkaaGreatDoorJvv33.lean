/- The program's called and what it answers. -/
import Derived.Test.YtlppocdhfeejkaaGreatDoorJvv13

namespace Go.Proofs.YtlppocdhfeejkaaGreatDoor
open Go.RowKit
set_option maxHeartbeats 1000000 in
theorem called_any (n : ByteArray) (w : World) :
    Calls Tryz.prog 142 #[.string n] w fun e w' => e = .returned (.func (.func 200) #[] #[.pointer (some ⟨w.heap.size, 0, none⟩)]) ∧ w' = w.alloc (.cells #[.string n] 9) := by
  go_enter Tryz.func142, Tryz.ntmps142
  go_wp2_with fail
  go_ret
  exact ⟨rfl, rfl⟩
set_option maxHeartbeats 1000000 in
theorem called1_any (n : ByteArray) (B : Nat) (x : ByteArray × ByteArray) (W : World) (hc : W.cell? ⟨B, 0, none⟩ = some (.string n)) :
    Calls Tryz.prog 200 #[.agg #[.string x.1, .string x.2], .pointer (some ⟨B, 0, none⟩)] W fun e w' => e = .returned (.bool (isN n x)) ∧ Below W.heap.size W w' := by
  have hB := World.block_lt_of_cell? _ _ hc
  have hne : B ≠ W.heap.size := by have : B < W.heap.size := hB; omega
  have E := hide (txt_beq x.1 n)
  unfold isN
  generalize x.1 = a at *
  generalize x.2 = b at *
  generalize hR : decide (a = n) = R at *
  clear hR
  go_enter Tryz.func200, Tryz.ntmps200
  go_wp2_with fail
  go_ret
  exact ⟨ret_bool E.out, (Below.refl _ W).alloc (Nat.le_refl _) _⟩
theorem called_pred (n : ByteArray) (w : World) : PredA 200 #[.pointer (some ⟨w.heap.size, 0, none⟩)] (isN n) (w.alloc (.cells #[.string n] 9)) := fun W x hb =>
  called1_any n w.heap.size x W ((hb.cell (by simp)).trans (by simp))
theorem entersCalled : ∀ args w, (callFunc 200 args).run Tryz.prog w = .ok (.enter 200 args) w := Go.Proofs.enters_of Tryz.func200 (by kernel_rfl) rfl

end Go.Proofs.YtlppocdhfeejkaaGreatDoor
