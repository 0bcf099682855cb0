/- The document's behind and item of layer 9: they answer by the functions of 'PatP'; the world is as it was. Condition: the pattern's signs lie in a row of numbers. -/
import Derived.Test.YtncljgpcloanfaaDoorQatR1
import Derived.Test.YtncljgpcloanfaaDoorQatW
namespace Go.Proofs.YtncljgpcloanfaaDoor
open Go.RowKit

def endB (l : List Nat) : Option (Bool × Nat × List Nat) → Int
  | none => -1
  | some x => (l.length : Int) - (x.2.2.length : Int)
theorem dropN {l : List Nat} {k : Nat} (h : k < l.length) : l.drop k = l[k] :: l.drop (k + 1) := List.drop_eq_getElem_cons h
theorem bh_end {l : List Nat} {k : Nat} (h : ¬ k < l.length) : behindL (l.drop k) = none := by rw [List.drop_eq_nil_of_le (by omega)]; rfl
theorem bh_cls {l : List Nat} {k : Nat} (h : k < l.length) (hc : inN clsN l[k] = true) : behindL (l.drop k) = none := by
  rw [dropN h]; unfold behindL; simp only; rw [if_pos hc]
theorem bh_sign {l : List Nat} {k : Nat} (h : k < l.length) (hc : inN clsN l[k] = false) (h9 : ¬ l[k] = 92) : behindL (l.drop k) = some (false, l[k], l.drop (k + 1)) := by
  rw [dropN h]; unfold behindL; simp only; rw [if_neg (by rw [hc]; simp), if_neg h9]
theorem bh_short {l : List Nat} {k : Nat} (h : k < l.length) (hc : inN clsN l[k] = false) (h9 : l[k] = 92) (h2 : ¬ k + 1 < l.length) : behindL (l.drop k) = none := by
  rw [dropN h]; unfold behindL; simp only; rw [if_neg (by rw [hc]; simp), if_pos h9, List.drop_eq_nil_of_le (by omega)]
theorem bh_esc {l : List Nat} {k : Nat} (h : k < l.length) (hc : inN clsN l[k] = false) (h9 : l[k] = 92) (h2 : k + 1 < l.length) : behindL (l.drop k) = if inN escClsN l[k + 1] then some (inN dwsN l[k + 1], l[k + 1], l.drop (k + 2)) else none := by
  rw [dropN h]; unfold behindL; simp only; rw [if_neg (by rw [hc]; simp), if_pos h9, dropN h2]
theorem end_drop {l : List Nat} {k n : Nat} (hk : k ≤ l.length) (h : n = k) : (l.length : Int) - ((l.drop k).length : Int) = (n : Int) := by rw [List.length_drop]; omega

set_option maxHeartbeats 1000000 in
set_option maxRecDepth 100000 in
theorem refBehind_any (g cap : Nat) (l : List Nat) (k : Nat) (w : World) (hI : Ints w g l) (hk : k ≤ l.length) :
    Calls Tryd.prog 67 #[rowV g cap l, .int .i64 (k : Int)] w fun e w' => e = .returned (.int .i64 (endB l (behindL (l.drop k)))) ∧ w' = w := by
  have hlen := hI.len
  unfold rowV
  by_cases h : k < l.length
  · have i1 : (k : Int) < (l.length : Int) := by omega
    have c0 := hI.cells k h
    have s0 := hI.small l[k] (List.getElem_mem _)
    have H1 := hide (fun w => refInN_any l[k] ⟨#[91, 93, 94, 45]⟩ w (by decide))
    rw [show nums ⟨#[91, 93, 94, 45]⟩ = clsN from rfl] at H1
    cases hc : inN clsN l[k] with
    | true =>
      rw [bh_cls h hc]
      rw [hc] at H1
      clear hc hI
      generalize l[k] = x at *
      go_enter Tryd.func67, Tryd.ntmps67
      go_wp2_with fail
      refine (H1.out _).mono ?_
      rintro e uu ⟨rfl, rfl⟩
      go_wp2_with fail
      go_ret
      exact ⟨rfl, rfl⟩
    | false =>
      rw [hc] at H1
      by_cases h9 : l[k] = 92
      · have d9 : ((l[k] : Int) != 92) = false := by rw [h9]; rfl
        by_cases h2 : k + 1 < l.length
        · have i2 : (k : Int) + 1 < (l.length : Int) := by omega
          have c1 := hI.cells (k + 1) h2
          have s1 := hI.small l[k + 1] (List.getElem_mem _)
          have H2 := hide (fun w => refInN_any l[k + 1] ⟨#[92, 91, 93, 94, 45, 47, 46, 100, 119, 115]⟩ w (by decide))
          rw [show nums ⟨#[92, 91, 93, 94, 45, 47, 46, 100, 119, 115]⟩ = escClsN from rfl] at H2
          rw [bh_esc h hc h9 h2]
          cases he : inN escClsN l[k + 1] with
          | true =>
            rw [if_pos rfl]
            rw [he] at H2
            have E : Hid (endB l (some (inN dwsN l[k + 1], l[k + 1], l.drop (k + 2))) = (k : Int) + 2) := end_drop (n := k + 2) (by omega) rfl
            clear hc hI h9 he
            generalize l[k] = x at *
            generalize l[k + 1] = y at *
            go_enter Tryd.func67, Tryd.ntmps67
            go_wp2_with fail
            refine (H1.out _).mono ?_
            rintro e uu ⟨rfl, rfl⟩
            go_wp2_with fail
            refine (H2.out _).mono ?_
            rintro e uu ⟨rfl, rfl⟩
            go_wp2_with fail
            go_ret
            exact ⟨ret_int E.out.symm, rfl⟩
          | false =>
            rw [if_neg (by simp)]
            rw [he] at H2
            clear hc hI h9 he
            generalize l[k] = x at *
            generalize l[k + 1] = y at *
            go_enter Tryd.func67, Tryd.ntmps67
            go_wp2_with fail
            refine (H1.out _).mono ?_
            rintro e uu ⟨rfl, rfl⟩
            go_wp2_with fail
            refine (H2.out _).mono ?_
            rintro e uu ⟨rfl, rfl⟩
            go_wp2_with fail
            go_ret
            exact ⟨rfl, rfl⟩
        · have i2 : ¬ (k : Int) + 1 < (l.length : Int) := by omega
          rw [bh_short h hc h9 h2]
          clear hc hI h9
          generalize l[k] = x at *
          go_enter Tryd.func67, Tryd.ntmps67
          go_wp2_with fail
          refine (H1.out _).mono ?_
          rintro e uu ⟨rfl, rfl⟩
          go_wp2_with fail
          go_ret
          exact ⟨rfl, rfl⟩
      · have d9 : ((l[k] : Int) != 92) = true := by rw [bne_iff_ne]; omega
        rw [bh_sign h hc h9]
        have E : Hid (endB l (some (false, l[k], l.drop (k + 1))) = (k : Int) + 1) := end_drop (n := k + 1) (by omega) rfl
        clear hc hI h9
        generalize l[k] = x at *
        go_enter Tryd.func67, Tryd.ntmps67
        go_wp2_with fail
        refine (H1.out _).mono ?_
        rintro e uu ⟨rfl, rfl⟩
        go_wp2_with fail
        go_ret
        exact ⟨ret_int E.out.symm, rfl⟩
  · have i1 : ¬ (k : Int) < (l.length : Int) := by omega
    rw [bh_end h]
    clear hI h
    go_enter Tryd.func67, Tryd.ntmps67
    go_wp2_with fail
    go_ret
    exact ⟨rfl, rfl⟩

/-- Where a sign of an item ends, and what it is. -/
theorem bh_some {l : List Nat} {k : Nat} {b : Bool} {a : Nat} {r : List Nat} (h : behindL (l.drop k) = some (b, a, r)) : ∃ n, k < n ∧ n ≤ l.length ∧ r = l.drop n ∧ (∃ h1 : n - 1 < l.length, l[n - 1] = a) ∧ ∃ hk : k < l.length, ((¬ l[k] = 92 ∧ b = false) ∨ (l[k] = 92 ∧ ∃ h2 : k + 1 < l.length, b = inN dwsN l[k + 1])) := by
  by_cases hk : k < l.length
  · cases hc : inN clsN l[k] with
    | true => rw [bh_cls hk hc] at h; cases h
    | false =>
      by_cases h9 : l[k] = 92
      · by_cases h2 : k + 1 < l.length
        · rw [bh_esc hk hc h9 h2] at h
          split at h
          · cases h
            exact ⟨k + 2, by omega, by omega, rfl, ⟨by omega, rfl⟩, hk, .inr ⟨h9, h2, rfl⟩⟩
          · cases h
        · rw [bh_short hk hc h9 h2] at h; cases h
      · rw [bh_sign hk hc h9] at h
        cases h
        exact ⟨k + 1, by omega, by omega, rfl, ⟨by omega, rfl⟩, hk, .inl ⟨h9, rfl⟩⟩
  · rw [bh_end hk] at h; cases h
def endI (l : List Nat) : Option (Item × List Nat) → Int
  | none => -1
  | some x => (l.length : Int) - (x.2.length : Int)

end Go.Proofs.YtncljgpcloanfaaDoor
