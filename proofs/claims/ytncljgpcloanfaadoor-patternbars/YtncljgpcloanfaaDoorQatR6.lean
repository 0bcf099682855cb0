/- The document's often of layer 9: it answers by the function of 'PatP'; what lay in the world lies there still. Condition: the pattern's signs lie in a row of numbers. -/
import Derived.Test.YtncljgpcloanfaaDoorQatR5
namespace Go.Proofs.YtncljgpcloanfaaDoor
open Go.RowKit

def hiV : Option Nat → Int
  | none => -1
  | some h => (h : Int)
def oftV (l : List Nat) : Option (Nat × Option Nat × List Nat) → Value
  | none => .agg #[.int .i64 (-1), .int .i64 0, .int .i64 0]
  | some (lo, hi, r) => .agg #[.int .i64 ((l.length : Int) - (r.length : Int)), .int .i64 (lo : Int), .int .i64 (hiV hi)]
theorem oft_at {l : List Nat} {n : Nat} (lo : Nat) (hi : Option Nat) (h : n ≤ l.length) : oftV l (some (lo, hi, l.drop n)) = .agg #[.int .i64 (n : Int), .int .i64 (lo : Int), .int .i64 (hiV hi)] := by
  show Value.agg #[.int .i64 ((l.length : Int) - ((l.drop n).length : Int)), _, _] = _
  rw [end_drop h rfl]
theorem of_end {l : List Nat} {k : Nat} (g : Bool) (h : ¬ k < l.length) : oftenL g (l.drop k) = some (1, some 1, l.drop k) := by rw [List.drop_eq_nil_of_le (by omega)]; rfl
theorem of_star {l : List Nat} {k : Nat} (g : Bool) (h : k < l.length) (e : l[k] = 42) : oftenL g (l.drop k) = some (0, none, l.drop (k + 1)) := by rw [dropN h]; unfold oftenL; simp only; rw [if_pos e]
theorem of_plus {l : List Nat} {k : Nat} (g : Bool) (h : k < l.length) (e : l[k] = 43) : oftenL g (l.drop k) = some (1, none, l.drop (k + 1)) := by rw [dropN h]; unfold oftenL; simp only; rw [if_neg (by omega), if_pos e]
theorem of_may {l : List Nat} {k : Nat} (g : Bool) (h : k < l.length) (e : l[k] = 63) : oftenL g (l.drop k) = some (0, some 1, l.drop (k + 1)) := by rw [dropN h]; unfold oftenL; simp only; rw [if_neg (by omega), if_neg (by omega), if_pos e]
theorem of_other {l : List Nat} {k : Nat} (g : Bool) (h : k < l.length) (e1 : ¬ l[k] = 42) (e2 : ¬ l[k] = 43) (e3 : ¬ l[k] = 63) (e4 : ¬ l[k] = 123) : oftenL g (l.drop k) = some (1, some 1, l.drop k) := by
  conv => lhs; rw [dropN h]
  unfold oftenL; simp only; rw [if_neg e1, if_neg e2, if_neg e3, if_neg e4, ← dropN h]
theorem of_br {l : List Nat} {k : Nat} (g : Bool) (h : k < l.length) (e : l[k] = 123) : oftenL g (l.drop k) = (if g then none else if (digsL (l.drop (k + 1))).2.1 = 0 then none else match (digsL (l.drop (k + 1))).2.2 with
      | [] => none
      | x :: v => if x = 125 then some ((digsL (l.drop (k + 1))).1, some (digsL (l.drop (k + 1))).1, v) else if x = 44 then (match (digsL v).2.2 with
          | [] => none
          | y :: z => if y = 125 then (if (digsL v).2.1 = 0 then some ((digsL (l.drop (k + 1))).1, none, z) else if (digsL v).1 < (digsL (l.drop (k + 1))).1 then none else some ((digsL (l.drop (k + 1))).1, some (digsL v).1, z)) else none) else none) := by
  rw [dropN h]
  conv => lhs; unfold oftenL
  simp only
  rw [if_neg (by omega), if_neg (by omega), if_neg (by omega), if_pos e]
  rfl
theorem valC_le {l : List Nat} {k cnt : Nat} (h : DigC l k cnt) : valC l k cnt ≤ 99 := by
  have h2 := h.le
  unfold valC
  split
  · omega
  · rename_i h0
    obtain ⟨_, a1, a2, a3⟩ := dig_in (h.dig 0 (by omega))
    have a3' : dv l k = l[k + 0] - 48 := a3
    split
    · omega
    · rename_i h1
      obtain ⟨_, b1, b2, b3⟩ := dig_in (h.dig 1 (by omega))
      omega
theorem hold_cells (w : World) (t : TypeId) (x y z : Value) : Below w.heap.size w (w.alloc (.cells #[x, y, z] t)) := (Below.refl _ _).alloc (Nat.le_refl _) _

set_option maxHeartbeats 2000000 in
set_option maxRecDepth 100000 in
theorem refOften_any (g cap : Nat) (l : List Nat) (f k : Nat) (w : World) (hI : Ints w g l) (hk : k ≤ l.length) (hf : f < l.length) :
    Calls Tryd.prog 37 #[rowV g cap l, .int .i64 (f : Int), .int .i64 (k : Int)] w fun e w' => e = .returned (oftV l (oftenL (l[f] == 40) (l.drop k))) ∧ Below w.heap.size w w' := by
  have hlen := hI.len
  have hw := hI.lt
  have cf := hI.cells f hf
  have sf := hI.small l[f] (List.getElem_mem _)
  have if1 : (f : Int) < (l.length : Int) := by omega
  by_cases h : k < l.length
  rotate_left
  · have i1 : ¬ (k : Int) < (l.length : Int) := by omega
    rw [of_end _ h, oft_at 1 (some 1) hk]
    clear hI cf
    unfold rowV
    go_enter Tryd.func37, Tryd.ntmps37
    go_wp2_with fail
    refine bodyPost_ret (v := .agg #[.int .i64 (k : Int), .int .i64 1, .int .i64 1]) (by simp [results, go_sem]) rfl ?_
    exact ⟨rfl, hold_cells _ _ _ _ _⟩
  have i1 : (k : Int) < (l.length : Int) := by omega
  have ck := hI.cells k h
  have sk := hI.small l[k] (List.getElem_mem _)
  by_cases e42 : l[k] = 42
  · have d42 : ((l[k] : Int) == 42) = true := by rw [e42]; rfl
    rw [of_star _ h e42, oft_at 0 none (by omega)]
    clear hI cf e42 
    generalize l[k] = xk at *
    unfold rowV
    go_enter Tryd.func37, Tryd.ntmps37
    go_wp2_with fail
    refine bodyPost_ret (v := .agg #[.int .i64 ((k : Int) + 1), .int .i64 0, .int .i64 (-1)]) (by simp [results, go_sem]) rfl ?_
    exact ⟨rfl, hold_cells _ _ _ _ _⟩
  have d42 : ((l[k] : Int) == 42) = false := by rw [beq_eq_false_iff_ne]; omega
  by_cases e43 : l[k] = 43
  · have d43 : ((l[k] : Int) == 43) = true := by rw [e43]; rfl
    rw [of_plus _ h e43, oft_at 1 none (by omega)]
    clear hI cf e43 e42
    generalize l[k] = xk at *
    unfold rowV
    go_enter Tryd.func37, Tryd.ntmps37
    go_wp2_with fail
    refine bodyPost_ret (v := .agg #[.int .i64 ((k : Int) + 1), .int .i64 1, .int .i64 (-1)]) (by simp [results, go_sem]) rfl ?_
    exact ⟨rfl, hold_cells _ _ _ _ _⟩
  have d43 : ((l[k] : Int) == 43) = false := by rw [beq_eq_false_iff_ne]; omega
  by_cases e63 : l[k] = 63
  · have d63 : ((l[k] : Int) == 63) = true := by rw [e63]; rfl
    rw [of_may _ h e63, oft_at 0 (some 1) (by omega)]
    clear hI cf e63 e42 e43
    generalize l[k] = xk at *
    unfold rowV
    go_enter Tryd.func37, Tryd.ntmps37
    go_wp2_with fail
    refine bodyPost_ret (v := .agg #[.int .i64 ((k : Int) + 1), .int .i64 0, .int .i64 (1)]) (by simp [results, go_sem]) rfl ?_
    exact ⟨rfl, hold_cells _ _ _ _ _⟩
  have d63 : ((l[k] : Int) == 63) = false := by rw [beq_eq_false_iff_ne]; omega
  by_cases e123 : l[k] = 123
  rotate_left
  · have d123 : ((l[k] : Int) == 123) = false := by rw [beq_eq_false_iff_ne]; omega
    rw [of_other _ h e42 e43 e63 e123, oft_at 1 (some 1) hk]
    clear hI cf e42 e43 e63 e123
    generalize l[k] = xk at *
    unfold rowV
    go_enter Tryd.func37, Tryd.ntmps37
    go_wp2_with fail
    refine bodyPost_ret (v := .agg #[.int .i64 (k : Int), .int .i64 1, .int .i64 1]) (by simp [results, go_sem]) rfl ?_
    exact ⟨rfl, hold_cells _ _ _ _ _⟩
  have d123 : ((l[k] : Int) == 123) = true := by rw [e123]; rfl
  rw [of_br _ h e123]
  by_cases e40 : l[f] = 40
  · have d40 : ((l[f] : Int) == 40) = true := by rw [e40]; rfl
    rw [if_pos (by rw [e40]; rfl)]
    clear hI e42 e43 e63 e123 e40
    generalize l[k] = xk at *
    generalize l[f] = xf at *
    unfold rowV
    go_enter Tryd.func37, Tryd.ntmps37
    go_wp2_with fail
    refine bodyPost_ret (v := .agg #[.int .i64 (-1), .int .i64 0, .int .i64 0]) (by simp [results, go_sem]) rfl ?_
    exact ⟨rfl, hold_cells _ _ _ _ _⟩
  have d40 : ((l[f] : Int) == 40) = false := by rw [beq_eq_false_iff_ne]; omega
  rw [if_neg (by rw [beq_iff_eq]; exact e40)]
  obtain ⟨cnt, hD⟩ := digC_ex l (k + 1)
  have hcnt := hD.le
  have hv1 := valC_le hD
  have H1 := hide (fun w' (b : Below w.heap.size w w') => refDigits9_any g cap l (k + 1) cnt w' (hI.below b) (by omega) hD)
  unfold rowV at H1
  rw [show ((k + 1 : Nat) : Int) = (k : Int) + 1 by omega] at H1
  rw [hD.is]
  simp only
  generalize valC l (k + 1) cnt = low at *
  have HC := hide hI
  have B1 := hide (hold_cells w 74 (.int .i64 0) (.int .i64 0) (.int .i64 0))
  clear e42 e43 e63 e123 e40 hI
  generalize l[k] = xk at *
  generalize l[f] = xf at *
  by_cases hc0 : cnt = 0
  · rw [if_pos hc0]
    have dc : (((k + 1 + cnt : Nat) : Int) == (k : Int) + 1) = true := by rw [beq_iff_eq]; omega
    clear HC
    generalize ((k + 1 + cnt : Nat) : Int) = kc at *
    unfold rowV
    go_enter Tryd.func37, Tryd.ntmps37
    go_wp2_with fail
    refine (H1.out _ B1.out).mono ?_
    rintro e uu ⟨rfl, rfl⟩
    go_wp2_with fail
    refine bodyPost_ret (v := .agg #[.int .i64 (-1), .int .i64 0, .int .i64 0]) (by simp [results, go_sem]) rfl ?_
    exact ⟨rfl, hold_cells _ _ _ _ _⟩
  rw [if_neg hc0]
  have dc : (((k + 1 + cnt : Nat) : Int) == (k : Int) + 1) = false := by rw [beq_eq_false_iff_ne]; omega
  obtain ⟨k1, hk1⟩ : ∃ k1, k + 1 + cnt = k1 := ⟨_, rfl⟩
  rw [hk1] at H1 dc ⊢
  have hk1b : k + 1 ≤ k1 := by omega
  have hk1c : k1 ≤ k + 3 := by omega
  clear hk1 hc0 hD hcnt
  by_cases hl1 : k1 < l.length
  rotate_left
  · have i2 : ¬ (k1 : Int) < (l.length : Int) := by omega
    rw [List.drop_eq_nil_of_le (by omega)]
    clear HC
    unfold rowV
    go_enter Tryd.func37, Tryd.ntmps37
    go_wp2_with fail
    refine (H1.out _ B1.out).mono ?_
    rintro e uu ⟨rfl, rfl⟩
    go_wp2_with fail
    refine bodyPost_ret (v := .agg #[.int .i64 (-1), .int .i64 0, .int .i64 0]) (by simp [results, go_sem]) rfl ?_
    exact ⟨rfl, hold_cells _ _ _ _ _⟩
  have i2 : (k1 : Int) < (l.length : Int) := by omega
  have c1 := (HC.out.below B1.out).cells k1 hl1
  have s1 := HC.out.small l[k1] (List.getElem_mem _)
  rw [dropN hl1]
  simp only
  by_cases e125 : l[k1] = 125
  · have d125 : ((l[k1] : Int) == 125) = true := by rw [e125]; rfl
    rw [if_pos e125, oft_at low (some low) (by omega)]
    clear HC e125
    generalize l[k1] = x1 at *
    unfold rowV
    go_enter Tryd.func37, Tryd.ntmps37
    go_wp2_with fail
    refine (H1.out _ B1.out).mono ?_
    rintro e uu ⟨rfl, rfl⟩
    go_wp2_with fail
    refine bodyPost_ret (v := .agg #[.int .i64 ((k1 : Int) + 1), .int .i64 (low : Int), .int .i64 (low : Int)]) (by simp [results, go_sem]) rfl ?_
    exact ⟨rfl, hold_cells _ _ _ _ _⟩
  have d125 : ((l[k1] : Int) == 125) = false := by rw [beq_eq_false_iff_ne]; omega
  rw [if_neg e125]
  by_cases e44 : l[k1] = 44
  rotate_left
  · have d44 : ((l[k1] : Int) != 44) = true := by rw [bne_iff_ne]; omega
    rw [if_neg e44]
    clear HC e125 e44
    generalize l[k1] = x1 at *
    unfold rowV
    go_enter Tryd.func37, Tryd.ntmps37
    go_wp2_with fail
    refine (H1.out _ B1.out).mono ?_
    rintro e uu ⟨rfl, rfl⟩
    go_wp2_with fail
    refine bodyPost_ret (v := .agg #[.int .i64 (-1), .int .i64 0, .int .i64 0]) (by simp [results, go_sem]) rfl ?_
    exact ⟨rfl, hold_cells _ _ _ _ _⟩
  have d44 : ((l[k1] : Int) != 44) = false := by rw [e44]; rfl
  rw [if_pos e44]
  clear e125 e44
  generalize l[k1] = x1 at *
  obtain ⟨cnt2, hD2⟩ := digC_ex l (k1 + 1)
  have hcnt2 := hD2.le
  have hv2 := valC_le hD2
  have H2 := hide (fun w' (b : Below w.heap.size w w') => refDigits9_any g cap l (k1 + 1) cnt2 w' (HC.out.below b) (by omega) hD2)
  unfold rowV at H2
  rw [show ((k1 + 1 : Nat) : Int) = (k1 : Int) + 1 by omega] at H2
  rw [hD2.is]
  simp only
  generalize valC l (k1 + 1) cnt2 = high at *
  obtain ⟨m, hm⟩ : ∃ m, k1 + 1 + cnt2 = m := ⟨_, rfl⟩
  rw [hm] at H2 ⊢
  have hmb : k1 + 1 ≤ m := by omega
  have hmc : m ≤ k1 + 3 := by omega
  have hmz : cnt2 = 0 ↔ m = k1 + 1 := by omega
  clear hm hD2 hcnt2
  by_cases hlm : m < l.length
  rotate_left
  · have i3 : ¬ (m : Int) < (l.length : Int) := by omega
    rw [List.drop_eq_nil_of_le (by omega)]
    clear HC hmz
    unfold rowV
    go_enter Tryd.func37, Tryd.ntmps37
    go_wp2_with fail
    refine (H1.out _ B1.out).mono ?_
    rintro e uu ⟨rfl, rfl⟩
    go_wp2_with fail
    refine (H2.out _ B1.out).mono ?_
    rintro e uu ⟨rfl, rfl⟩
    go_wp2_with fail
    refine bodyPost_ret (v := .agg #[.int .i64 (-1), .int .i64 0, .int .i64 0]) (by simp [results, go_sem]) rfl ?_
    exact ⟨rfl, hold_cells _ _ _ _ _⟩
  have i3 : (m : Int) < (l.length : Int) := by omega
  have c2 := (HC.out.below B1.out).cells m hlm
  have s2 := HC.out.small l[m] (List.getElem_mem _)
  rw [dropN hlm]
  simp only
  by_cases g125 : l[m] = 125
  rotate_left
  · have b125 : ((l[m] : Int) != 125) = true := by rw [bne_iff_ne]; omega
    rw [if_neg g125]
    clear HC g125 hmz
    generalize l[m] = x2 at *
    unfold rowV
    go_enter Tryd.func37, Tryd.ntmps37
    go_wp2_with fail
    refine (H1.out _ B1.out).mono ?_
    rintro e uu ⟨rfl, rfl⟩
    go_wp2_with fail
    refine (H2.out _ B1.out).mono ?_
    rintro e uu ⟨rfl, rfl⟩
    go_wp2_with fail
    refine bodyPost_ret (v := .agg #[.int .i64 (-1), .int .i64 0, .int .i64 0]) (by simp [results, go_sem]) rfl ?_
    exact ⟨rfl, hold_cells _ _ _ _ _⟩
  have b125 : ((l[m] : Int) != 125) = false := by rw [g125]; rfl
  rw [if_pos g125]
  clear HC g125
  generalize l[m] = x2 at *
  by_cases hz : cnt2 = 0
  · have dz : ((m : Int) == (k1 : Int) + 1) = true := by rw [beq_iff_eq]; have := hmz.1 hz; omega
    rw [if_pos hz, oft_at low none (by omega)]
    clear hz hmz
    unfold rowV
    go_enter Tryd.func37, Tryd.ntmps37
    go_wp2_with fail
    refine (H1.out _ B1.out).mono ?_
    rintro e uu ⟨rfl, rfl⟩
    go_wp2_with fail
    refine (H2.out _ B1.out).mono ?_
    rintro e uu ⟨rfl, rfl⟩
    go_wp2_with fail
    refine bodyPost_ret (v := .agg #[.int .i64 ((m : Int) + 1), .int .i64 (low : Int), .int .i64 (-1)]) (by simp [results, go_sem]) rfl ?_
    exact ⟨rfl, hold_cells _ _ _ _ _⟩
  have dz : ((m : Int) == (k1 : Int) + 1) = false := by rw [beq_eq_false_iff_ne]; intro e; exact hz (hmz.2 (by omega))
  rw [if_neg hz]
  clear hz hmz
  by_cases hlo : high < low
  · have dl : (high : Int) < (low : Int) := by omega
    rw [if_pos hlo]
    clear hlo
    unfold rowV
    go_enter Tryd.func37, Tryd.ntmps37
    go_wp2_with fail
    refine (H1.out _ B1.out).mono ?_
    rintro e uu ⟨rfl, rfl⟩
    go_wp2_with fail
    refine (H2.out _ B1.out).mono ?_
    rintro e uu ⟨rfl, rfl⟩
    go_wp2_with fail
    refine bodyPost_ret (v := .agg #[.int .i64 (-1), .int .i64 0, .int .i64 0]) (by simp [results, go_sem]) rfl ?_
    exact ⟨rfl, hold_cells _ _ _ _ _⟩
  have dl : ¬ (high : Int) < (low : Int) := by omega
  rw [if_neg hlo, oft_at low (some high) (by omega)]
  clear hlo
  unfold rowV
  go_enter Tryd.func37, Tryd.ntmps37
  go_wp2_with fail
  refine (H1.out _ B1.out).mono ?_
  rintro e uu ⟨rfl, rfl⟩
  go_wp2_with fail
  refine (H2.out _ B1.out).mono ?_
  rintro e uu ⟨rfl, rfl⟩
  go_wp2_with fail
  refine bodyPost_ret (v := .agg #[.int .i64 ((m : Int) + 1), .int .i64 (low : Int), .int .i64 (high : Int)]) (by simp [results, go_sem]) rfl ?_
  exact ⟨rfl, hold_cells _ _ _ _ _⟩

end Go.Proofs.YtncljgpcloanfaaDoor
