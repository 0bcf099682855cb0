/- The walks of stage 8's laws: each returns true, and what lay in the world lies there still. Condition: the tables that the program's road names. -/
import Derived.Test.YtkllknfgojjphabDoorLinkProg
import Derived.Test.YtkllknfgojjphabDoorStripRef
namespace Go.Proofs.YtkllknfgojjphabDoor
open Go.RowKit

theorem lwake_1 : absL (⟨#[104, 116, 116, 112, 115, 58, 47, 47, 97, 46, 98, 58, 56, 48, 47, 99, 63, 100, 35, 101]⟩ : ByteArray).data.toList = true := by decide +kernel
theorem lwake_2 : absL (⟨#[104, 116, 116, 112, 58, 97]⟩ : ByteArray).data.toList = false := by decide +kernel
theorem lwake_3 : hostL (⟨#[91, 58, 58, 49, 93]⟩ : ByteArray).data.toList = true := by decide +kernel
theorem lwake_4 : hostL (⟨#[49, 46, 50, 46, 51]⟩ : ByteArray).data.toList = false := by decide +kernel
theorem lwake_5 : fineL (⟨#[97, 37, 50, 48, 98]⟩ : ByteArray).data.toList = true := by decide +kernel
theorem lwake_6 : fineL (⟨#[97, 32, 98]⟩ : ByteArray).data.toList = false := by decide +kernel
set_option maxHeartbeats 1000000 in
theorem longK_no (s : ByteArray) (w : World) (h : s.size ≤ 8192) :
    Calls Tryd.prog 5 #[.string s] w fun e w' => e = .returned (.bool false) ∧ w' = w := by
  have d : decide ((8192 : Int) < (s.size : Int)) = false := decide_eq_false (by omega)
  go_enter Tryd.func5, Tryd.ntmps5
  go_wp2_with fail
  go_ret
  first | exact ⟨rfl, rfl⟩ | exact ⟨ret_bool d, rfl⟩
set_option maxHeartbeats 1000000 in
theorem longK_yes (s : ByteArray) (w : World) (h : 8192 < s.size) :
    Calls Tryd.prog 5 #[.string s] w fun e w' => e = .returned (.bool true) ∧ w' = w := by
  have d : decide ((8192 : Int) < (s.size : Int)) = true := decide_eq_true (by omega)
  go_enter Tryd.func5, Tryd.ntmps5
  go_wp2_with fail
  go_ret
  first | exact ⟨rfl, rfl⟩ | exact ⟨ret_bool d, rfl⟩
set_option maxHeartbeats 2000000 in
set_option maxRecDepth 100000 in
theorem lwakes_any (w : World) (hT : LinkTabs w) :
    Calls Tryd.prog 4 #[] w fun e w' => e = .returned (.bool true) ∧ Below w.heap.size w w' := by
  have H1 := hide (linkAbs_any ⟨#[104, 116, 116, 112, 115, 58, 47, 47, 97, 46, 98, 58, 56, 48, 47, 99, 63, 100, 35, 101]⟩ w (by decide) hT)
  rw [lwake_1] at H1
  have H2 := hide (fun w' (b : Below w.heap.size w w') => linkAbs_any ⟨#[104, 116, 116, 112, 58, 97]⟩ w' (by decide) (hT.below b))
  rw [lwake_2] at H2
  clear hT
  go_enter Tryd.func4, Tryd.ntmps4
  go_wp2_with fail
  refine H1.out.mono ?_
  rintro e v1 ⟨rfl, b1⟩
  go_wp2_with fail
  refine (H2.out _ b1).mono ?_
  rintro e v2 ⟨rfl, b2⟩
  go_wp2_with fail
  go_ret
  exact ⟨rfl, chain b1 b2⟩


end Go.Proofs.YtkllknfgojjphabDoor
