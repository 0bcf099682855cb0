/- Stage 21's law PlainSplits, walked, and the statements' own same. -/
import Derived.Test.YtmnpnpmopbkabaaJpn1
import Derived.Test.YtmnpnpmopbkabaaJpn18

namespace Go.Proofs.Ytmnpnpmopbkabaa
open Go.RowKit
set_option maxRecDepth 100000
theorem belN {B : Nat} {a w : World} (h : Below B a w) (n : Nat) : Below B a (w.drewN n) := ⟨h.os, h.tape, h.output, h.size, h.block⟩
theorem draws_formN {w : World} {v : Value} {ds : List ByteArray} (h : DrawsV w v ds) : ∃ p c, v = .slice p ds.length c := by
  obtain ⟨p, c, e, _⟩ := h
  exact ⟨p, c, e⟩
set_option maxHeartbeats 8000000 in
theorem plSame_yes (a b : Value) (ds : List ByteArray) (w : World) (ha : DrawsV w a ds) (hb : DrawsV w b ds) (hl : ds.length ≤ 4398046511104) :
    Calls Try.prog 10 #[a, b] w fun e w' => e = .returned (.bool true) ∧ Below w.heap.size w w' := by
  obtain ⟨p, c, rfl, ha⟩ := ha
  obtain ⟨q, d, rfl, hb⟩ := hb
  have bl : ((ds.length : Int) != (ds.length : Int)) = false := by simp
  go_enter Try.func10, Try.ntmps10
  go_wp2_with fail
  go_loopw [13] (fun iv wr => ∃ k : Nat, k ≤ ds.length ∧ iv = .int .i64 k ∧ Hid (Below w.heap.size w wr)) (fun iv _ => ds.length - (intOf iv).toNat)
  case atStart => exact ⟨0, Nat.zero_le _, rfl, Below.refl _ _⟩
  case round =>
    rename World => wr
    obtain ⟨k, hk, rfl, BW⟩ := hrel
    by_cases h : k < ds.length
    · have i1 : (k : Int) < (ds.length : Int) := by omega
      have i0 : (0 : Int) ≤ (k : Int) := by omega
      rcases ha with ha | ⟨b1, o1, rfl, ha⟩
      · rw [ha] at h; simp at h
      rcases hb with hb | ⟨b2, o2, rfl, hb⟩
      · rw [hb] at h; simp at h
      have x0 := cell_below (ha k h) BW.out
      have y0 := cell_below (hb k h) BW.out
      have BQ := hide (beq_txtN ds[k])
      generalize ds[k] = en at *
      clear ha hb
      have q1 := BQ.out
      go_wp2_with fail
      go_quiet (fail)
      go_wp2_with fail
      go_roundw
      case rel => exact ⟨k + 1, by omega, by go_num, belN BW.out _⟩
      case measure => simp [intOf]; omega
    · obtain rfl : k = ds.length := by omega
      go_wp2_with fail
      go_ret
      exact ⟨rfl, BW.out⟩
theorem lin_count {s : ByteArray} (h : s.size ≤ 10000000) : ((linN (bL s)).map txt).length ≤ 4398046511104 := by
  rw [List.length_map]
  have := ln_count _ (bL s) [] (Nat.le_refl _)
  rw [len_bL] at this
  unfold linN
  omega

end Go.Proofs.Ytmnpnpmopbkabaa
