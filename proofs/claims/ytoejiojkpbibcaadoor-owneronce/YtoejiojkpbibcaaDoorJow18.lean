/- The program's called and what it answers. -/
import Derived.Test.YtoejiojkpbibcaaDoorJow12

namespace Go.Proofs.YtoejiojkpbibcaaDoor
open Go.RowKit
set_option maxHeartbeats 1000000 in
theorem called_any (n : ByteArray) (w : World) :
    Calls Tryd.prog 91 #[.string n] w fun e w' => e = .returned (.func (.func 92) #[] #[.pointer (some ⟨w.heap.size, 0, none⟩)]) ∧ w' = w.alloc (.cells #[.string n] 9) := by
  go_enter Tryd.func91, Tryd.ntmps91
  go_wp2_with fail
  go_ret
  exact ⟨rfl, rfl⟩
set_option maxHeartbeats 1000000 in
theorem called1_any (n : ByteArray) (B : Nat) (x : ByteArray × ByteArray) (W : World) (hc : W.cell? ⟨B, 0, none⟩ = some (.string n)) :
    Calls Tryd.prog 92 #[.agg #[.string x.1, .string x.2], .pointer (some ⟨B, 0, none⟩)] W fun e w' => e = .returned (.bool (isN n x)) ∧ Below W.heap.size W w' := by
  have hB := World.block_lt_of_cell? _ _ hc
  have hne : B ≠ W.heap.size := by have : B < W.heap.size := hB; omega
  have E := hide (txt_beq x.1 n)
  unfold isN
  generalize x.1 = a at *
  generalize x.2 = b at *
  generalize hR : decide (a = n) = R at *
  clear hR
  go_enter Tryd.func92, Tryd.ntmps92
  go_wp2_with fail
  go_ret
  exact ⟨ret_bool E.out, (Below.refl _ W).alloc (Nat.le_refl _) _⟩
theorem called_pred (n : ByteArray) (w : World) : PredA 92 #[.pointer (some ⟨w.heap.size, 0, none⟩)] (isN n) (w.alloc (.cells #[.string n] 9)) := fun W x hb =>
  called1_any n w.heap.size x W ((hb.cell (by simp)).trans (by simp))
theorem entersCalled : ∀ args w, (callFunc 92 args).run Tryd.prog w = .ok (.enter 92 args) w := Go.Proofs.enters_of Tryd.func92 (by kernel_rfl) rfl

end Go.Proofs.YtoejiojkpbibcaaDoor
