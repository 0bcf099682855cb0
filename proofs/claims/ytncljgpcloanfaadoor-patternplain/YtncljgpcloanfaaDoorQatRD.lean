/- The document's same of layer 9: are two rows of bools of one length alike; nothing is changed. Condition: rows of at most 2^16 bools. -/
import Derived.Test.YtncljgpcloanfaaDoorQatRC
namespace Go.Proofs.YtncljgpcloanfaaDoor
open Go.RowKit

theorem elem_bools : Tryd.prog.underlying 43 = some (.slice (Tryd.prog.elem 43)) := by kernel_rfl
theorem size_bools (w : World) : (sizeOf (Tryd.prog.elem 43)).run Tryd.prog w = .ok 1 w := by
  have e : Tryd.prog.elem 43 = 4 := by kernel_rfl
  rw [e]; exact Tryd.sizeOf4 w
theorem index_bool (g cap : Nat) (n : Nat) (i : Int) (j : Nat) (h : i = j) (hj : j < n) (w : World) : (Instr.indexAt 43 (.slice (some ⟨g, 0, none⟩) n cap) (.int .i64 i)).run Tryd.prog w = .ok (.pointer (some ⟨g, j, none⟩)) w := by
  subst h
  have := run_indexAt_slice (P := Tryd.prog) (w := w) 43 ⟨g, 0, none⟩ n cap .i64 (j : Int) elem_bools
  rw [this, if_pos ⟨by omega, by omega⟩, size_bools]
  show Result.ok (Value.pointer (some (Addr.add ⟨g, 0, none⟩ ((j : Int).toNat * 1)))) w = _
  rw [Int.toNat_natCast, Nat.mul_one]
  unfold Addr.add
  rw [Nat.zero_add]
  split
  · rename_i e; subst e; rfl
  · rfl
theorem Bools.drew {w : World} {g : Nat} {x : List Bool} (h : Bools w g x) (m : Nat) : Bools (w.drewN m) g x := ⟨h.lt, h.cells⟩
theorem same_no {x y : List Bool} {k : Nat} (h1 : k < x.length) (h2 : k < y.length) (h : ¬ x[k] = y[k]) : decide (x = y) = false := by
  refine decide_eq_false fun e => h ?_
  subst e; rfl
theorem same_yes {x y : List Bool} (hl : x.length = y.length) (h : ∀ k (h1 : k < x.length) (h2 : k < y.length), x[k] = y[k]) : decide (x = y) = true := by
  refine decide_eq_true (List.ext_getElem hl fun k h1 h2 => h k h1 h2)

set_option maxHeartbeats 1000000 in
set_option maxRecDepth 100000 in
theorem refSame_any (ga ca gb cb : Nat) (x y : List Bool) (w : World) (hA : Bools w ga x) (hB : Bools w gb y) (hl : x.length = y.length) (hx : x.length ≤ 65536) :
    Calls Tryd.prog 44 #[bolV ga ca x, bolV gb cb y] w fun e w' => e = .returned (.bool (decide (x = y))) ∧ Below w.heap.size w w' := by
  have NO := hide (fun k h1 h2 h => same_no (x := x) (y := y) (k := k) h1 h2 h)
  have YES := hide (fun h => same_yes (x := x) (y := y) hl h)
  have HA := hide hA
  have HBo := hide hB
  have hy1 : y.length ≤ x.length := by omega
  have hy2 : x.length ≤ y.length := by omega
  clear hA hB hl
  unfold bolV
  generalize decide (x = y) = R at *
  go_enter Tryd.func44, Tryd.ntmps44
  go_wp2_with fail
  go_loopw [5] (fun i wr => ∃ k : Nat, k ≤ x.length ∧ i = .int .i64 k ∧ Hid (∀ j (h1 : j < x.length) (h2 : j < y.length), j < k → x[j] = y[j]) ∧ Below w.heap.size w wr) (fun i _ => x.length - (intOf i).toNat)
  case atStart => exact ⟨0, Nat.zero_le _, rfl, fun j _ _ h => by omega, Below.refl _ _⟩
  case round =>
    obtain ⟨k, hk, rfl, hd, hb⟩ := hrel
    rename World => wr
    by_cases h : k < x.length
    · have i1 : (k : Int) < (x.length : Int) := by omega
      have ky : k < y.length := by omega
      have iy : (k : Int) < (y.length : Int) := by omega
      have c1 := (HA.out.below hb).cells k h
      have c2 := (HBo.out.below hb).cells k ky
      by_cases e : x[k] = y[k]
      · have hd' : Hid (∀ j (h1 : j < x.length) (h2 : j < y.length), j < k + 1 → x[j] = y[j]) := by
          intro j h1 h2 hj
          rcases Nat.lt_or_ge j k with q | q
          · exact hd.out j h1 h2 q
          · obtain rfl : j = k := by omega
            exact e
        rw [← e] at c2
        clear hd HA HBo NO YES e
        generalize x[k] = xk at *
        go_wp2_with fail
        go_quiet (fail)
        go_wp2_with fail
        go_roundw
        case rel => exact ⟨k + 1, by omega, by go_num, hd', below_drewN hb _⟩
        case measure => simp [intOf]; omega
      · have E := hide (NO.out k h ky e)
        clear hd HA HBo NO YES
        generalize x[k] = xk at *
        generalize y[k] = yk at *
        cases xk <;> cases yk
        · exact absurd rfl e
        · clear e
          go_wp2_with fail
          go_quiet (fail)
          go_wp2_with fail
          go_ret
          exact ⟨ret_bool E.out.symm, below_drewN hb _⟩
        · clear e
          go_wp2_with fail
          go_quiet (fail)
          go_wp2_with fail
          go_ret
          exact ⟨ret_bool E.out.symm, below_drewN hb _⟩
        · exact absurd rfl e
    · obtain rfl : k = x.length := by omega
      have E := hide (YES.out (fun j h1 h2 => hd.out j h1 h2 h1))
      clear hd HA HBo NO YES h
      go_wp2_with fail
      go_ret
      exact ⟨ret_bool E.out.symm, hb⟩

end Go.Proofs.YtncljgpcloanfaaDoor
