/- The document's Lines of layer 1 alone. The document's cleaned, pushes of layer 14. -/
import Derived.Test.YtfjfkkbgkjmghaaGreatDoorJct35

namespace Go.Proofs.YtfjfkkbgkjmghaaGreatDoor
open Go.RowKit
set_option maxRecDepth 100000
set_option maxHeartbeats 400000 in
theorem refLines_any (s : ByteArray) (w : World) (hs : s.size ≤ 1099511627776) :
    Calls Tryz.prog 54 #[.string s] w fun r w' => r = .returned (.string (linesS s)) ∧ Below w.heap.size w w' := by
  go_enter Tryz.func54, Tryz.ntmps54
  go_wp2_with fail
  refine (refEnds_any s ⟨#[10]⟩ _ hs (by decide)).mono ?_
  rintro r w1 ⟨rfl, b1⟩
  go_wp2_with fail
  go_ret
  exact ⟨rfl, b1⟩
end Go.Proofs.YtfjfkkbgkjmghaaGreatDoor

namespace Go.Proofs.YtfjfkkbgkjmghaaGreatDoor
open Go.RowKit
set_option maxHeartbeats 4000000 in
set_option maxRecDepth 100000 in
theorem refCleaned_any {k : Int} (v : Value) (ax : List (ByteArray × ByteArray)) (w : World) (hv : AttrsV w v ax) (hz : AxOK ax) {s t : ByteArray} (h : ClnIs k ax s t) (hs : s.size ≤ 100000) :
    Calls Tryz.prog 31 #[.int .i64 k, v, .string s] w fun e w' => e = .returned (.string t) ∧ Below w.heap.size w w' := by
  rcases h with ⟨rfl, rfl⟩ | ⟨hk, h⟩
  · have HL := hide (refLines_any s w (by omega))
    generalize linesS s = t at *
    obtain ⟨p, c, rfl, _⟩ := hv
    clear hz
    go_enter Tryz.func31, Tryz.ntmps31
    go_wp2_with fail
    refine HL.out.mono ?_
    rintro e u ⟨rfl, b1⟩
    go_wp2_with fail
    go_ret
    exact ⟨rfl, b1⟩
  · have HC := hide (refCleanV_any v ax w hv hz h hs)
    rw [show txt t.data.toList = t from rfl] at HC
    have b24 : (k == 24) = false := beq_eq_false_iff_ne.2 hk
    obtain ⟨p, c, rfl, _⟩ := hv
    clear hz h
    go_enter Tryz.func31, Tryz.ntmps31
    go_wp2_with fail
    refine HC.out.mono ?_
    rintro e u ⟨rfl, b1⟩
    go_wp2_with fail
    go_ret
    exact ⟨rfl, b1⟩

end Go.Proofs.YtfjfkkbgkjmghaaGreatDoor
