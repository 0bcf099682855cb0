/- The types of kinds: the tables of the program, its Type and the document's. Condition: the tables read as the program's text lays them. -/
import Derived.Test.YtnnnmfiniminfaaDoorRows
import Derived.Test.YtnnnmfiniminfaaDoorKindQ
import Derived.Test.YtnnnmfiniminfaaDoorKindM
import Derived.Test.YtnnnmfiniminfaaDoorDocLib
import Derived.Deep.MidRow
namespace Go.Proofs.YtnnnmfiniminfaaDoor
open Go.RowKit

/-- The program's two tables. -/
structure KTabs (w : World) : Prop where
  types : ∀ k, k < 30 → w.cell? ⟨1, k, none⟩ = some (.string (typeN k))
  last : ∀ k, k < 8 → w.cell? ⟨0, k, none⟩ = some (.string (lastN k))
theorem KTabs.below {w w' : World} (h : KTabs w) (hb : Below w.heap.size w w') : KTabs w' :=
  ⟨fun k hk => (hb.cell (World.block_lt_of_cell? _ _ (h.types k hk))).trans (h.types k hk), fun k hk => (hb.cell (World.block_lt_of_cell? _ _ (h.last k hk))).trans (h.last k hk)⟩
theorem index_types (k : Nat) (hk : k < 30) (w : World) :
    (Instr.index 41 (.agg #[.string (typeN 0), .string (typeN 1), .string (typeN 2), .string (typeN 3), .string (typeN 4), .string (typeN 5), .string (typeN 6), .string (typeN 7), .string (typeN 8), .string (typeN 9), .string (typeN 10), .string (typeN 11), .string (typeN 12), .string (typeN 13), .string (typeN 14), .string (typeN 15), .string (typeN 16), .string (typeN 17), .string (typeN 18), .string (typeN 19), .string (typeN 20), .string (typeN 21), .string (typeN 22), .string (typeN 23), .string (typeN 24), .string (typeN 25), .string (typeN 26), .string (typeN 27), .string (typeN 28), .string (typeN 29)]) (.int .i64 k)).run Tryd.prog w = .ok (.string (typeN k)) w := by
  match k, hk with
  | 0, _ => rfl
  | 1, _ => rfl
  | 2, _ => rfl
  | 3, _ => rfl
  | 4, _ => rfl
  | 5, _ => rfl
  | 6, _ => rfl
  | 7, _ => rfl
  | 8, _ => rfl
  | 9, _ => rfl
  | 10, _ => rfl
  | 11, _ => rfl
  | 12, _ => rfl
  | 13, _ => rfl
  | 14, _ => rfl
  | 15, _ => rfl
  | 16, _ => rfl
  | 17, _ => rfl
  | 18, _ => rfl
  | 19, _ => rfl
  | 20, _ => rfl
  | 21, _ => rfl
  | 22, _ => rfl
  | 23, _ => rfl
  | 24, _ => rfl
  | 25, _ => rfl
  | 26, _ => rfl
  | 27, _ => rfl
  | 28, _ => rfl
  | 29, _ => rfl
  | k + 30, h => exact absurd h (by omega)
theorem index_last (k : Nat) (hk : k < 8) (w : World) :
    (Instr.index 37 (.agg #[.string (lastN 0), .string (lastN 1), .string (lastN 2), .string (lastN 3), .string (lastN 4), .string (lastN 5), .string (lastN 6), .string (lastN 7)]) (.int .i64 k)).run Tryd.prog w = .ok (.string (lastN k)) w := by
  match k, hk with
  | 0, _ => rfl
  | 1, _ => rfl
  | 2, _ => rfl
  | 3, _ => rfl
  | 4, _ => rfl
  | 5, _ => rfl
  | 6, _ => rfl
  | 7, _ => rfl
  | k + 8, h => exact absurd h (by omega)
/-- A whole table, as it lies there. -/
theorem range_texts (w : World) (g n : Nat) (f : Nat → ByteArray) (h : ∀ k, k < n → w.cell? ⟨g, k, none⟩ = some (.string (f k))) : w.rangeAt g 0 ((List.range n).map fun k => Value.string (f k)) := by
  intro j v hv
  rw [Nat.zero_add]
  rw [List.getElem?_map] at hv
  by_cases hj : j < n
  · rw [List.getElem?_range hj] at hv
    cases hv
    exact h j hj
  · rw [List.getElem?_eq_none (by rw [List.length_range]; omega)] at hv
    cases hv
theorem load_types (w : World) (hT : KTabs w) : ∃ CS : List Value, w.rangeAt 1 0 CS ∧ (Tryd.prog.info? 41).map (·.size) = some CS.length ∧ ∀ (k : Nat) (_ : k < 30) W, (Instr.index 41 (.agg CS.toArray) (.int .i64 k)).run Tryd.prog W = .ok (.string (typeN k)) W :=
  ⟨_, range_texts w _ 30 typeN hT.types, by rw [List.length_map, List.length_range]; kernel_rfl, fun k hk W => index_types k hk W⟩
theorem load_last (w : World) (hT : KTabs w) : ∃ CS : List Value, w.rangeAt 0 0 CS ∧ (Tryd.prog.info? 37).map (·.size) = some CS.length ∧ ∀ (k : Nat) (_ : k < 8) W, (Instr.index 37 (.agg CS.toArray) (.int .i64 k)).run Tryd.prog W = .ok (.string (lastN k)) W :=
  ⟨_, range_texts w _ 8 lastN hT.last, by rw [List.length_map, List.length_range]; kernel_rfl, fun k hk W => index_last k hk W⟩
theorem typeN_small (k : Nat) (hk : k < 30) : (typeN k).size ≤ 14 := by
  have : ∀ n : Fin 30, (typeN n.val).size ≤ 14 := by decide +kernel
  exact this ⟨k, hk⟩
set_option maxHeartbeats 2000000 in
theorem type_any (k : Int) (w : World) (hT : KTabs w) :
    Calls Tryd.prog 11 #[.int .i64 k] w fun e w' => e = .returned (.string (typeS k)) ∧ Below w.heap.size w w' := by
  have HB := hide (between_any k 0 29)
  by_cases h : 0 ≤ k ∧ k ≤ 29
  · have E : Hid (typeS k = typeN k.toNat) := if_pos h
    rw [show btwB k 0 29 = true from decide_eq_true h] at HB
    obtain ⟨n, rfl⟩ : ∃ n : Nat, k = (n : Int) := ⟨k.toNat, by omega⟩
    have hn : n < 30 := by omega
    have h0 : (0 : Int) ≤ (n : Int) := by omega
    have h1 : (n : Int) < 30 := by omega
    have hc := hT.types n hn
    have sz := typeN_small n hn
    rw [Int.toNat_natCast] at E
    generalize typeN n = t at *
    have HC := hide (fun W => clone_any t W (by omega))
    clear h hT
    go_enter Tryd.func11, Tryd.ntmps11
    go_wp2_with fail
    refine (HB.out _).mono ?_
    rintro e u ⟨rfl, rfl⟩
    go_wp2_with fail
    refine (HC.out _).mono ?_
    rintro e u1 ⟨rfl, b1⟩
    go_wp2_with fail
    go_ret
    exact ⟨ret_str E.out.symm, b1⟩
  · have E : Hid (typeS k = ⟨#[]⟩) := if_neg h
    rw [show btwB k 0 29 = false from decide_eq_false h] at HB
    clear h hT
    go_enter Tryd.func11, Tryd.ntmps11
    go_wp2_with fail
    refine (HB.out _).mono ?_
    rintro e u ⟨rfl, rfl⟩
    go_wp2_with fail
    go_ret
    exact ⟨ret_str E.out.symm, Below.refl _ _⟩
theorem typeS_none {k : Int} (h : ∀ n : Nat, 1 ≤ n → n ≤ 29 → ¬ k = (n : Int)) : typeS k = ⟨#[]⟩ := by
  unfold typeS
  split
  · rename_i q
    have : k = 0 := by
      by_cases e : k = 0
      · exact e
      · exact absurd (show k = (k.toNat : Int) by omega) (h k.toNat (by omega) (by omega))
    rw [this]; rfl
  · rfl
set_option maxHeartbeats 4000000 in
theorem refType_any (k : Int) (w : World) :
    Calls Tryd.prog 12 #[.int .i64 k] w fun e w' => e = .returned (.string (typeS k)) ∧ w' = w := by
  by_cases h : 1 ≤ k ∧ k ≤ 29
  · obtain ⟨n, rfl⟩ : ∃ n : Nat, k = (n : Int) := ⟨k.toNat, by omega⟩
    have hn : n < 30 := by omega
    have h1 : 1 ≤ n := by omega
    clear h
    match n, hn, h1 with
    | 1, _, _ =>
      go_enter Tryd.func12, Tryd.ntmps12
      go_wp2_with fail
      go_ret
      exact ⟨rfl, rfl⟩
    | 2, _, _ =>
      go_enter Tryd.func12, Tryd.ntmps12
      go_wp2_with fail
      go_ret
      exact ⟨rfl, rfl⟩
    | 3, _, _ =>
      go_enter Tryd.func12, Tryd.ntmps12
      go_wp2_with fail
      go_ret
      exact ⟨rfl, rfl⟩
    | 4, _, _ =>
      go_enter Tryd.func12, Tryd.ntmps12
      go_wp2_with fail
      go_ret
      exact ⟨rfl, rfl⟩
    | 5, _, _ =>
      go_enter Tryd.func12, Tryd.ntmps12
      go_wp2_with fail
      go_ret
      exact ⟨rfl, rfl⟩
    | 6, _, _ =>
      go_enter Tryd.func12, Tryd.ntmps12
      go_wp2_with fail
      go_ret
      exact ⟨rfl, rfl⟩
    | 7, _, _ =>
      go_enter Tryd.func12, Tryd.ntmps12
      go_wp2_with fail
      go_ret
      exact ⟨rfl, rfl⟩
    | 8, _, _ =>
      go_enter Tryd.func12, Tryd.ntmps12
      go_wp2_with fail
      go_ret
      exact ⟨rfl, rfl⟩
    | 9, _, _ =>
      go_enter Tryd.func12, Tryd.ntmps12
      go_wp2_with fail
      go_ret
      exact ⟨rfl, rfl⟩
    | 10, _, _ =>
      go_enter Tryd.func12, Tryd.ntmps12
      go_wp2_with fail
      go_ret
      exact ⟨rfl, rfl⟩
    | 11, _, _ =>
      go_enter Tryd.func12, Tryd.ntmps12
      go_wp2_with fail
      go_ret
      exact ⟨rfl, rfl⟩
    | 12, _, _ =>
      go_enter Tryd.func12, Tryd.ntmps12
      go_wp2_with fail
      go_ret
      exact ⟨rfl, rfl⟩
    | 13, _, _ =>
      go_enter Tryd.func12, Tryd.ntmps12
      go_wp2_with fail
      go_ret
      exact ⟨rfl, rfl⟩
    | 14, _, _ =>
      go_enter Tryd.func12, Tryd.ntmps12
      go_wp2_with fail
      go_ret
      exact ⟨rfl, rfl⟩
    | 15, _, _ =>
      go_enter Tryd.func12, Tryd.ntmps12
      go_wp2_with fail
      go_ret
      exact ⟨rfl, rfl⟩
    | 16, _, _ =>
      go_enter Tryd.func12, Tryd.ntmps12
      go_wp2_with fail
      go_ret
      exact ⟨rfl, rfl⟩
    | 17, _, _ =>
      go_enter Tryd.func12, Tryd.ntmps12
      go_wp2_with fail
      go_ret
      exact ⟨rfl, rfl⟩
    | 18, _, _ =>
      go_enter Tryd.func12, Tryd.ntmps12
      go_wp2_with fail
      go_ret
      exact ⟨rfl, rfl⟩
    | 19, _, _ =>
      go_enter Tryd.func12, Tryd.ntmps12
      go_wp2_with fail
      go_ret
      exact ⟨rfl, rfl⟩
    | 20, _, _ =>
      go_enter Tryd.func12, Tryd.ntmps12
      go_wp2_with fail
      go_ret
      exact ⟨rfl, rfl⟩
    | 21, _, _ =>
      go_enter Tryd.func12, Tryd.ntmps12
      go_wp2_with fail
      go_ret
      exact ⟨rfl, rfl⟩
    | 22, _, _ =>
      go_enter Tryd.func12, Tryd.ntmps12
      go_wp2_with fail
      go_ret
      exact ⟨rfl, rfl⟩
    | 23, _, _ =>
      go_enter Tryd.func12, Tryd.ntmps12
      go_wp2_with fail
      go_ret
      exact ⟨rfl, rfl⟩
    | 24, _, _ =>
      go_enter Tryd.func12, Tryd.ntmps12
      go_wp2_with fail
      go_ret
      exact ⟨rfl, rfl⟩
    | 25, _, _ =>
      go_enter Tryd.func12, Tryd.ntmps12
      go_wp2_with fail
      go_ret
      exact ⟨rfl, rfl⟩
    | 26, _, _ =>
      go_enter Tryd.func12, Tryd.ntmps12
      go_wp2_with fail
      go_ret
      exact ⟨rfl, rfl⟩
    | 27, _, _ =>
      go_enter Tryd.func12, Tryd.ntmps12
      go_wp2_with fail
      go_ret
      exact ⟨rfl, rfl⟩
    | 28, _, _ =>
      go_enter Tryd.func12, Tryd.ntmps12
      go_wp2_with fail
      go_ret
      exact ⟨rfl, rfl⟩
    | 29, _, _ =>
      go_enter Tryd.func12, Tryd.ntmps12
      go_wp2_with fail
      go_ret
      exact ⟨rfl, rfl⟩
    | n + 30, q, _ => exact absurd q (by omega)
  · have E : Hid (typeS k = ⟨#[]⟩) := typeS_none (fun n h1 h2 q => h (by omega))
    have e1 : (k == 1) = false := by rw [beq_eq_false_iff_ne]; omega
    have e2 : (k == 2) = false := by rw [beq_eq_false_iff_ne]; omega
    have e3 : (k == 3) = false := by rw [beq_eq_false_iff_ne]; omega
    have e4 : (k == 4) = false := by rw [beq_eq_false_iff_ne]; omega
    have e5 : (k == 5) = false := by rw [beq_eq_false_iff_ne]; omega
    have e6 : (k == 6) = false := by rw [beq_eq_false_iff_ne]; omega
    have e7 : (k == 7) = false := by rw [beq_eq_false_iff_ne]; omega
    have e8 : (k == 8) = false := by rw [beq_eq_false_iff_ne]; omega
    have e9 : (k == 9) = false := by rw [beq_eq_false_iff_ne]; omega
    have e10 : (k == 10) = false := by rw [beq_eq_false_iff_ne]; omega
    have e11 : (k == 11) = false := by rw [beq_eq_false_iff_ne]; omega
    have e12 : (k == 12) = false := by rw [beq_eq_false_iff_ne]; omega
    have e13 : (k == 13) = false := by rw [beq_eq_false_iff_ne]; omega
    have e14 : (k == 14) = false := by rw [beq_eq_false_iff_ne]; omega
    have e15 : (k == 15) = false := by rw [beq_eq_false_iff_ne]; omega
    have e16 : (k == 16) = false := by rw [beq_eq_false_iff_ne]; omega
    have e17 : (k == 17) = false := by rw [beq_eq_false_iff_ne]; omega
    have e18 : (k == 18) = false := by rw [beq_eq_false_iff_ne]; omega
    have e19 : (k == 19) = false := by rw [beq_eq_false_iff_ne]; omega
    have e20 : (k == 20) = false := by rw [beq_eq_false_iff_ne]; omega
    have e21 : (k == 21) = false := by rw [beq_eq_false_iff_ne]; omega
    have e22 : (k == 22) = false := by rw [beq_eq_false_iff_ne]; omega
    have e23 : (k == 23) = false := by rw [beq_eq_false_iff_ne]; omega
    have e24 : (k == 24) = false := by rw [beq_eq_false_iff_ne]; omega
    have e25 : (k == 25) = false := by rw [beq_eq_false_iff_ne]; omega
    have e26 : (k == 26) = false := by rw [beq_eq_false_iff_ne]; omega
    have e27 : (k == 27) = false := by rw [beq_eq_false_iff_ne]; omega
    have e28 : (k == 28) = false := by rw [beq_eq_false_iff_ne]; omega
    have e29 : (k == 29) = false := by rw [beq_eq_false_iff_ne]; omega
    clear h
    go_enter Tryd.func12, Tryd.ntmps12
    go_wp2_with fail
    go_ret
    exact ⟨ret_str E.out.symm, rfl⟩

end Go.Proofs.YtnnnmfiniminfaaDoor
