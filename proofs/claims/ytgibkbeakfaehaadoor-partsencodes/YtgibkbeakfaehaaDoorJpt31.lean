/- The document's Attr, SameFiles, Same of layer 14. -/
import Derived.Test.YtgibkbeakfaehaaDoorRows
import Derived.Test.YtgibkbeakfaehaaDoorJpt7
import Derived.BigQuiet
import Derived.Deep.QuietTactic
import Derived.Shelf.Abstract

namespace Go.Proofs.YtgibkbeakfaehaaDoor
open Go.RowKit
set_option maxRecDepth 100000
theorem belR {B : Nat} {a w : World} (h : Below B a w) (n : Nat) : Below B a (w.drewN n) := ⟨h.os, h.tape, h.output, h.size, h.block⟩
set_option maxHeartbeats 4000000 in
set_option maxRecDepth 100000 in
theorem refSameFiles_yes (a b : Value) (fs : List En) (w : World) (ha : FilesV w a fs) (hb : FilesV w b fs) (hl : fs.length ≤ 4398046511104) :
    Calls Tryd.prog 18 #[a, b] w fun e w' => e = .returned (.bool true) ∧ Below w.heap.size w w' := by
  obtain ⟨p, c, rfl, ha⟩ := ha
  obtain ⟨q, d, rfl, hb⟩ := hb
  have bl : ((fs.length : Int) != (fs.length : Int)) = false := by simp
  go_enter Tryd.func18, Tryd.ntmps18
  go_wp2_with fail
  go_loopw [5] (fun iv wr => ∃ k : Nat, k ≤ fs.length ∧ iv = .int .i64 k ∧ Hid (Below w.heap.size w wr)) (fun iv _ => fs.length - (intOf iv).toNat)
  case atStart => exact ⟨0, Nat.zero_le _, rfl, Below.refl _ _⟩
  case round =>
    rename World => wr
    obtain ⟨k, hk, rfl, BW⟩ := hrel
    by_cases h : k < fs.length
    · have i1 : (k : Int) < (fs.length : Int) := by omega
      have i0 : (0 : Int) ≤ (k : Int) := by omega
      rcases ha with ha | ⟨b1, o1, rfl, ha⟩
      · rw [ha] at h; simp at h
      rcases hb with hb | ⟨b2, o2, rfl, hb⟩
      · rw [hb] at h; simp at h
      have E1 := (ha k h).below BW.out
      have E2 := (hb k h).below BW.out
      obtain ⟨x0, x1, x2, x3, x4⟩ := E1
      obtain ⟨y0, y1, y2, y3, y4⟩ := E2
      generalize fs[k] = en at *
      obtain ⟨n0, n1, n2, n3, n4⟩ := en
      clear ha hb
      go_wp2_with fail
      go_quiet (fail)
      go_wp2_with fail
      go_roundw
      case rel => exact ⟨k + 1, by omega, by go_num, belR BW.out _⟩
      case measure => simp [intOf]; omega
    · obtain rfl : k = fs.length := by omega
      go_wp2_with fail
      go_ret
      exact ⟨rfl, BW.out⟩

end Go.Proofs.YtgibkbeakfaehaaDoor
