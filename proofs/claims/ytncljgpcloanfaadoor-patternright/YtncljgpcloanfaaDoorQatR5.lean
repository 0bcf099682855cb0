/- The document's digits and often of layer 9: they answer by the functions of 'PatP'; what lay in the world lies there still. Condition: the pattern's signs lie in a row of numbers. -/
import Derived.Test.YtncljgpcloanfaaDoorQatR4
namespace Go.Proofs.YtncljgpcloanfaaDoor
open Go.RowKit

/-- Is there a digit at a place? -/
def digAt (l : List Nat) (k : Nat) : Bool := decide (k < l.length) && isDN (l.getD k 0)
def dv (l : List Nat) (k : Nat) : Nat := l.getD k 0 - 48
theorem getN (l : List Nat) (k : Nat) (h : k < l.length) : l.getD k 0 = l[k] := by simp [List.getD, h]
theorem digs_0 {l : List Nat} {k : Nat} (h : digAt l k = false) : digsL (l.drop k) = (0, 0, l.drop k) := by
  by_cases hk : k < l.length
  · unfold digAt at h
    rw [decide_eq_true hk, Bool.true_and, getN l k hk] at h
    rw [dropN hk]; unfold digsL; simp only; rw [if_neg (by rw [h]; simp)]
  · rw [List.drop_eq_nil_of_le (by omega)]; rfl
theorem digs_1 {l : List Nat} {k : Nat} (h : digAt l k = true) (h2 : digAt l (k + 1) = false) : digsL (l.drop k) = (dv l k, 1, l.drop (k + 1)) := by
  unfold digAt at h
  rw [Bool.and_eq_true, decide_eq_true_eq] at h
  obtain ⟨hk, hd⟩ := h
  rw [getN l k hk] at hd
  unfold dv
  rw [getN l k hk, dropN hk]
  unfold digsL
  simp only
  rw [if_pos hd]
  by_cases hk2 : k + 1 < l.length
  · unfold digAt at h2
    rw [decide_eq_true hk2, Bool.true_and, getN l _ hk2] at h2
    rw [dropN hk2]
    simp only
    rw [if_neg (by rw [h2]; simp)]
  · rw [List.drop_eq_nil_of_le (by omega)]
theorem digs_2 {l : List Nat} {k : Nat} (h : digAt l k = true) (h2 : digAt l (k + 1) = true) : digsL (l.drop k) = (10 * dv l k + dv l (k + 1), 2, l.drop (k + 2)) := by
  unfold digAt at h h2
  rw [Bool.and_eq_true, decide_eq_true_eq] at h h2
  obtain ⟨hk, hd⟩ := h
  obtain ⟨hk2, hd2⟩ := h2
  rw [getN l k hk] at hd
  rw [getN l _ hk2] at hd2
  unfold dv
  rw [getN l k hk, getN l _ hk2, dropN hk, dropN hk2]
  unfold digsL
  simp only
  rw [if_pos hd, if_pos hd2]
/-- The number behind so many digits. -/
def valC (l : List Nat) (k c : Nat) : Nat := if c = 0 then 0 else if c = 1 then dv l k else 10 * dv l k + dv l (k + 1)
structure DigC (l : List Nat) (k cnt : Nat) : Prop where
  is : digsL (l.drop k) = (valC l k cnt, cnt, l.drop (k + cnt))
  le : cnt ≤ 2
  dig : ∀ c, c < cnt → digAt l (k + c) = true
  stop : cnt < 2 → digAt l (k + cnt) = false
theorem digC_ex (l : List Nat) (k : Nat) : ∃ cnt, DigC l k cnt := by
  cases h : digAt l k with
  | false => exact ⟨0, digs_0 h, by omega, fun c hc => by omega, fun _ => h⟩
  | true =>
    cases h2 : digAt l (k + 1) with
    | false =>
      refine ⟨1, digs_1 h h2, by omega, fun c hc => ?_, fun _ => h2⟩
      obtain rfl : c = 0 := by omega
      exact h
    | true =>
      refine ⟨2, digs_2 h h2, by omega, fun c hc => ?_, fun h => by omega⟩
      rcases (show c = 0 ∨ c = 1 by omega) with rfl | rfl
      · exact h
      · exact h2
theorem dig_in {l : List Nat} {k : Nat} (h : digAt l k = true) : ∃ hk : k < l.length, 48 ≤ l[k] ∧ l[k] ≤ 57 ∧ dv l k = l[k] - 48 := by
  unfold digAt at h
  rw [Bool.and_eq_true, decide_eq_true_eq] at h
  obtain ⟨hk, hd⟩ := h
  rw [getN l k hk] at hd
  unfold isDN at hd
  have := of_decide_eq_true hd
  exact ⟨hk, this.1, this.2, by unfold dv; rw [getN l k hk]⟩
theorem dig_out {l : List Nat} {k : Nat} (h : digAt l k = false) : ¬ k < l.length ∨ ∃ hk : k < l.length, ¬ (48 ≤ l[k] ∧ l[k] ≤ 57) := by
  by_cases hk : k < l.length
  · unfold digAt at h
    rw [decide_eq_true hk, Bool.true_and, getN l k hk] at h
    unfold isDN at h
    exact .inr ⟨hk, of_decide_eq_false h⟩
  · exact .inl hk

set_option maxHeartbeats 1000000 in
set_option maxRecDepth 100000 in
theorem refDigits9_any (g cap : Nat) (l : List Nat) (k cnt : Nat) (w : World) (hI : Ints w g l) (hk : k ≤ l.length) (hD : DigC l k cnt) :
    Calls Tryd.prog 49 #[rowV g cap l, .int .i64 (k : Int)] w fun e w' => e = .returned (.tuple #[.int .i64 ((k + cnt : Nat) : Int), .int .i64 (valC l k cnt : Nat)]) ∧ w' = w := by
  have hlen := hI.len
  have HI := hide hI
  have HD := hide hD
  have hle := hD.le
  clear hI hD
  unfold rowV
  go_enter Tryd.func49, Tryd.ntmps49
  go_wp2_with fail
  go_loop [6, 7] (fun n j => ∃ c : Nat, c ≤ cnt ∧ j = .int .i64 ((k + c : Nat) : Int) ∧ n = .int .i64 (valC l k c : Nat)) (fun _ j => k + 2 - (intOf j).toNat)
  case atStart => exact ⟨0, Nat.zero_le _, by go_num, rfl⟩
  case round =>
    obtain ⟨c, hc, rfl, rfl⟩ := hrel
    by_cases hcc : c < cnt
    · obtain ⟨hl, d1, d2, d3⟩ := dig_in (HD.out.dig c hcc)
      have cc := HI.out.cells (k + c) hl
      have i1 : ((k + c : Nat) : Int) < (l.length : Int) := by omega
      have i2 : ((k + c : Nat) : Int) < (k : Int) + 2 := by omega
      have e1 : 48 ≤ ((l[k + c] : Nat) : Int) := by omega
      have e2 : ((l[k + c] : Nat) : Int) ≤ 57 := by omega
      have vb : (valC l k c : Int) ≤ 9 ∧ (valC l k (c + 1) : Nat) = 10 * (valC l k c) + (l[k + c] - 48) := by
        rcases (show c = 0 ∨ c = 1 by omega) with rfl | rfl
        · refine ⟨by unfold valC; simp, ?_⟩
          show valC l k 1 = _
          unfold valC
          have d3' : dv l k = l[k + 0] - 48 := d3
          rw [if_neg (by omega), if_pos rfl, if_pos rfl, d3']; omega
        · obtain ⟨hl0, f1, f2, f3⟩ := dig_in (HD.out.dig 0 (by omega))
          have f3' : dv l k = l[k + 0] - 48 := f3
          refine ⟨by unfold valC; rw [if_neg (by omega), if_pos rfl]; omega, ?_⟩
          show valC l k 2 = _
          unfold valC
          rw [if_neg (by omega), if_neg (by omega), if_neg (by omega), if_pos rfl, ← d3]
      have v1 : (valC l k c : Int) ≤ 9 := vb.1
      have v0 : 0 ≤ (valC l k c : Int) := by omega
      have RD : Hid (∀ x : Int, x = 10 * (valC l k c : Int) + ((l[k + c] : Nat) : Int) - 48 → Value.int IntKind.i64 x = .int .i64 (valC l k (c + 1) : Nat)) := fun x hx => by
        rw [hx, vb.2]; congr 1; omega
      clear vb HD HI d1 d2 d3
      generalize (valC l k c : Int) = v at *
      generalize ((l[k + c] : Nat) : Int) = xc at *
      go_wp2_with fail
      go_round
      case rel => exact ⟨c + 1, by omega, by go_num, RD.out _ (by first | rfl | omega)⟩
      case measure => simp [intOf]; omega
    · obtain rfl : c = cnt := by omega
      by_cases h2 : c < 2
      · rcases dig_out (HD.out.stop h2) with h3 | ⟨h3, h4⟩
        · have i1 : ¬ ((k + c : Nat) : Int) < (l.length : Int) := by omega
          clear HD HI
          go_wp2_with fail
          go_ret2
          exact ⟨rfl, rfl⟩
        · have i1 : ((k + c : Nat) : Int) < (l.length : Int) := by omega
          have i2 : ((k + c : Nat) : Int) < (k : Int) + 2 := by omega
          have cc := HI.out.cells (k + c) h3
          have sc := HI.out.small l[k + c] (List.getElem_mem _)
          rcases (show ((l[k + c] : Nat) : Int) < 48 ∨ (48 ≤ ((l[k + c] : Nat) : Int) ∧ 57 < ((l[k + c] : Nat) : Int)) by omega) with h5 | ⟨h5, h6⟩
          all_goals
            clear HD HI h4
            generalize ((l[k + c] : Nat) : Int) = xc at *
            go_wp2_with fail
            go_ret2
            exact ⟨rfl, rfl⟩
      · have i2 : ¬ ((k + c : Nat) : Int) < (k : Int) + 2 := by omega
        by_cases h3 : k + c < l.length
        · have i1 : ((k + c : Nat) : Int) < (l.length : Int) := by omega
          clear HD HI
          go_wp2_with fail
          go_ret2
          exact ⟨rfl, rfl⟩
        · have i1 : ¬ ((k + c : Nat) : Int) < (l.length : Int) := by omega
          clear HD HI
          go_wp2_with fail
          go_ret2
          exact ⟨rfl, rfl⟩

end Go.Proofs.YtncljgpcloanfaaDoor
