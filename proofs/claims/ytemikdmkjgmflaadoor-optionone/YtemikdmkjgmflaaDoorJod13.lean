/- Ways and questions of kinds, of the program and of the document. The types of kinds. The program's Lower and Same, and the document's Lower, answer by the small letters of a text, for every text. The program's byType and Of of layer 11. The program's Of of layer 11. The program's iterator of layer 15. -/
import Derived.Test.YtemikdmkjgmflaaDoorJod3
import Derived.Test.YtemikdmkjgmflaaDoorJod5
import Derived.Deep.MidRow
import Derived.Shelf.Strconv.Clone
import Derived.Deep.DeepCutAuto

namespace Go.Proofs.YtemikdmkjgmflaaDoor
open Go.RowKit
set_option maxRecDepth 100000
set_option maxHeartbeats 4000000 in
set_option maxRecDepth 100000 in
theorem between_any (k a b : Int) (w : World) :
    Calls Tryd.prog 73 #[.int .i64 k, .int .i64 a, .int .i64 b] w fun e w' => e = .returned (.bool (btwB k a b)) ∧ w' = w := by
  by_cases h1 : a ≤ k
  · by_cases h2 : k ≤ b
    · have E := hide (show btwB k a b = true from decide_eq_true ⟨h1, h2⟩)
      go_enter Tryd.func73, Tryd.ntmps73
      go_wp2_with fail
      go_ret
      exact ⟨ret_bool E.out.symm, rfl⟩
    · have E := hide (show btwB k a b = false from decide_eq_false (fun q => h2 q.2))
      have d2 : decide (k ≤ b) = false := decide_eq_false h2
      go_enter Tryd.func73, Tryd.ntmps73
      go_wp2_with fail
      go_ret
      exact ⟨ret_bool E.out.symm, rfl⟩
  · have E := hide (show btwB k a b = false from decide_eq_false (fun q => h1 q.1))
    have d1 : decide (a ≤ k) = false := decide_eq_false h1
    go_enter Tryd.func73, Tryd.ntmps73
    go_wp2_with fail
    go_ret
    exact ⟨ret_bool E.out.symm, rfl⟩
end Go.Proofs.YtemikdmkjgmflaaDoor

namespace Go.Proofs.YtemikdmkjgmflaaDoor
open Go.RowKit
set_option maxRecDepth 100000
/-- The program's two tables. -/
structure KTabs (w : World) : Prop where
  types : ∀ k, k < 30 → w.cell? ⟨1, k, none⟩ = some (.string (typeN k))
  last : ∀ k, k < 8 → w.cell? ⟨0, k, none⟩ = some (.string (lastN k))
theorem KTabs.below {w w' : World} (h : KTabs w) (hb : Below w.heap.size w w') : KTabs w' :=
  ⟨fun k hk => (hb.cell (World.block_lt_of_cell? _ _ (h.types k hk))).trans (h.types k hk), fun k hk => (hb.cell (World.block_lt_of_cell? _ _ (h.last k hk))).trans (h.last k hk)⟩
theorem index_types (k : Nat) (hk : k < 30) (w : World) :
    (Instr.index 92 (.agg #[.string (typeN 0), .string (typeN 1), .string (typeN 2), .string (typeN 3), .string (typeN 4), .string (typeN 5), .string (typeN 6), .string (typeN 7), .string (typeN 8), .string (typeN 9), .string (typeN 10), .string (typeN 11), .string (typeN 12), .string (typeN 13), .string (typeN 14), .string (typeN 15), .string (typeN 16), .string (typeN 17), .string (typeN 18), .string (typeN 19), .string (typeN 20), .string (typeN 21), .string (typeN 22), .string (typeN 23), .string (typeN 24), .string (typeN 25), .string (typeN 26), .string (typeN 27), .string (typeN 28), .string (typeN 29)]) (.int .i64 k)).run Tryd.prog w = .ok (.string (typeN k)) w := by
  match k, hk with
  | 0, _ => rfl
  | 1, _ => rfl
  | 2, _ => rfl
  | 3, _ => rfl
  | 4, _ => rfl
  | 5, _ => rfl
  | 6, _ => rfl
  | 7, _ => rfl
  | 8, _ => rfl
  | 9, _ => rfl
  | 10, _ => rfl
  | 11, _ => rfl
  | 12, _ => rfl
  | 13, _ => rfl
  | 14, _ => rfl
  | 15, _ => rfl
  | 16, _ => rfl
  | 17, _ => rfl
  | 18, _ => rfl
  | 19, _ => rfl
  | 20, _ => rfl
  | 21, _ => rfl
  | 22, _ => rfl
  | 23, _ => rfl
  | 24, _ => rfl
  | 25, _ => rfl
  | 26, _ => rfl
  | 27, _ => rfl
  | 28, _ => rfl
  | 29, _ => rfl
  | k + 30, h => exact absurd h (by omega)
theorem index_last (k : Nat) (hk : k < 8) (w : World) :
    (Instr.index 81 (.agg #[.string (lastN 0), .string (lastN 1), .string (lastN 2), .string (lastN 3), .string (lastN 4), .string (lastN 5), .string (lastN 6), .string (lastN 7)]) (.int .i64 k)).run Tryd.prog w = .ok (.string (lastN k)) w := by
  match k, hk with
  | 0, _ => rfl
  | 1, _ => rfl
  | 2, _ => rfl
  | 3, _ => rfl
  | 4, _ => rfl
  | 5, _ => rfl
  | 6, _ => rfl
  | 7, _ => rfl
  | k + 8, h => exact absurd h (by omega)
/-- A whole table, as it lies there. -/
theorem range_texts (w : World) (g n : Nat) (f : Nat → ByteArray) (h : ∀ k, k < n → w.cell? ⟨g, k, none⟩ = some (.string (f k))) : w.rangeAt g 0 ((List.range n).map fun k => Value.string (f k)) := by
  intro j v hv
  rw [Nat.zero_add]
  rw [List.getElem?_map] at hv
  by_cases hj : j < n
  · rw [List.getElem?_range hj] at hv
    cases hv
    exact h j hj
  · rw [List.getElem?_eq_none (by rw [List.length_range]; omega)] at hv
    cases hv
theorem load_types (w : World) (hT : KTabs w) : ∃ CS : List Value, w.rangeAt 1 0 CS ∧ (Tryd.prog.info? 92).map (·.size) = some CS.length ∧ ∀ (k : Nat) (_ : k < 30) W, (Instr.index 92 (.agg CS.toArray) (.int .i64 k)).run Tryd.prog W = .ok (.string (typeN k)) W :=
  ⟨_, range_texts w _ 30 typeN hT.types, by rw [List.length_map, List.length_range]; kernel_rfl, fun k hk W => index_types k hk W⟩
theorem load_last (w : World) (hT : KTabs w) : ∃ CS : List Value, w.rangeAt 0 0 CS ∧ (Tryd.prog.info? 81).map (·.size) = some CS.length ∧ ∀ (k : Nat) (_ : k < 8) W, (Instr.index 81 (.agg CS.toArray) (.int .i64 k)).run Tryd.prog W = .ok (.string (lastN k)) W :=
  ⟨_, range_texts w _ 8 lastN hT.last, by rw [List.length_map, List.length_range]; kernel_rfl, fun k hk W => index_last k hk W⟩
theorem typeS_none {k : Int} (h : ∀ n : Nat, 1 ≤ n → n ≤ 29 → ¬ k = (n : Int)) : typeS k = ⟨#[]⟩ := by
  unfold typeS
  split
  · rename_i q
    have : k = 0 := by
      by_cases e : k = 0
      · exact e
      · exact absurd (show k = (k.toNat : Int) by omega) (h k.toNat (by omega) (by omega))
    rw [this]; rfl
  · rfl
set_option maxHeartbeats 4000000 in
theorem refType_any (k : Int) (w : World) :
    Calls Tryd.prog 57 #[.int .i64 k] w fun e w' => e = .returned (.string (typeS k)) ∧ w' = w := by
  by_cases h : 1 ≤ k ∧ k ≤ 29
  · obtain ⟨n, rfl⟩ : ∃ n : Nat, k = (n : Int) := ⟨k.toNat, by omega⟩
    have hn : n < 30 := by omega
    have h1 : 1 ≤ n := by omega
    clear h
    match n, hn, h1 with
    | 1, _, _ =>
      go_enter Tryd.func57, Tryd.ntmps57
      go_wp2_with fail
      go_ret
      exact ⟨rfl, rfl⟩
    | 2, _, _ =>
      go_enter Tryd.func57, Tryd.ntmps57
      go_wp2_with fail
      go_ret
      exact ⟨rfl, rfl⟩
    | 3, _, _ =>
      go_enter Tryd.func57, Tryd.ntmps57
      go_wp2_with fail
      go_ret
      exact ⟨rfl, rfl⟩
    | 4, _, _ =>
      go_enter Tryd.func57, Tryd.ntmps57
      go_wp2_with fail
      go_ret
      exact ⟨rfl, rfl⟩
    | 5, _, _ =>
      go_enter Tryd.func57, Tryd.ntmps57
      go_wp2_with fail
      go_ret
      exact ⟨rfl, rfl⟩
    | 6, _, _ =>
      go_enter Tryd.func57, Tryd.ntmps57
      go_wp2_with fail
      go_ret
      exact ⟨rfl, rfl⟩
    | 7, _, _ =>
      go_enter Tryd.func57, Tryd.ntmps57
      go_wp2_with fail
      go_ret
      exact ⟨rfl, rfl⟩
    | 8, _, _ =>
      go_enter Tryd.func57, Tryd.ntmps57
      go_wp2_with fail
      go_ret
      exact ⟨rfl, rfl⟩
    | 9, _, _ =>
      go_enter Tryd.func57, Tryd.ntmps57
      go_wp2_with fail
      go_ret
      exact ⟨rfl, rfl⟩
    | 10, _, _ =>
      go_enter Tryd.func57, Tryd.ntmps57
      go_wp2_with fail
      go_ret
      exact ⟨rfl, rfl⟩
    | 11, _, _ =>
      go_enter Tryd.func57, Tryd.ntmps57
      go_wp2_with fail
      go_ret
      exact ⟨rfl, rfl⟩
    | 12, _, _ =>
      go_enter Tryd.func57, Tryd.ntmps57
      go_wp2_with fail
      go_ret
      exact ⟨rfl, rfl⟩
    | 13, _, _ =>
      go_enter Tryd.func57, Tryd.ntmps57
      go_wp2_with fail
      go_ret
      exact ⟨rfl, rfl⟩
    | 14, _, _ =>
      go_enter Tryd.func57, Tryd.ntmps57
      go_wp2_with fail
      go_ret
      exact ⟨rfl, rfl⟩
    | 15, _, _ =>
      go_enter Tryd.func57, Tryd.ntmps57
      go_wp2_with fail
      go_ret
      exact ⟨rfl, rfl⟩
    | 16, _, _ =>
      go_enter Tryd.func57, Tryd.ntmps57
      go_wp2_with fail
      go_ret
      exact ⟨rfl, rfl⟩
    | 17, _, _ =>
      go_enter Tryd.func57, Tryd.ntmps57
      go_wp2_with fail
      go_ret
      exact ⟨rfl, rfl⟩
    | 18, _, _ =>
      go_enter Tryd.func57, Tryd.ntmps57
      go_wp2_with fail
      go_ret
      exact ⟨rfl, rfl⟩
    | 19, _, _ =>
      go_enter Tryd.func57, Tryd.ntmps57
      go_wp2_with fail
      go_ret
      exact ⟨rfl, rfl⟩
    | 20, _, _ =>
      go_enter Tryd.func57, Tryd.ntmps57
      go_wp2_with fail
      go_ret
      exact ⟨rfl, rfl⟩
    | 21, _, _ =>
      go_enter Tryd.func57, Tryd.ntmps57
      go_wp2_with fail
      go_ret
      exact ⟨rfl, rfl⟩
    | 22, _, _ =>
      go_enter Tryd.func57, Tryd.ntmps57
      go_wp2_with fail
      go_ret
      exact ⟨rfl, rfl⟩
    | 23, _, _ =>
      go_enter Tryd.func57, Tryd.ntmps57
      go_wp2_with fail
      go_ret
      exact ⟨rfl, rfl⟩
    | 24, _, _ =>
      go_enter Tryd.func57, Tryd.ntmps57
      go_wp2_with fail
      go_ret
      exact ⟨rfl, rfl⟩
    | 25, _, _ =>
      go_enter Tryd.func57, Tryd.ntmps57
      go_wp2_with fail
      go_ret
      exact ⟨rfl, rfl⟩
    | 26, _, _ =>
      go_enter Tryd.func57, Tryd.ntmps57
      go_wp2_with fail
      go_ret
      exact ⟨rfl, rfl⟩
    | 27, _, _ =>
      go_enter Tryd.func57, Tryd.ntmps57
      go_wp2_with fail
      go_ret
      exact ⟨rfl, rfl⟩
    | 28, _, _ =>
      go_enter Tryd.func57, Tryd.ntmps57
      go_wp2_with fail
      go_ret
      exact ⟨rfl, rfl⟩
    | 29, _, _ =>
      go_enter Tryd.func57, Tryd.ntmps57
      go_wp2_with fail
      go_ret
      exact ⟨rfl, rfl⟩
    | n + 30, q, _ => exact absurd q (by omega)
  · have E : Hid (typeS k = ⟨#[]⟩) := typeS_none (fun n h1 h2 q => h (by omega))
    have e1 : (k == 1) = false := by rw [beq_eq_false_iff_ne]; omega
    have e2 : (k == 2) = false := by rw [beq_eq_false_iff_ne]; omega
    have e3 : (k == 3) = false := by rw [beq_eq_false_iff_ne]; omega
    have e4 : (k == 4) = false := by rw [beq_eq_false_iff_ne]; omega
    have e5 : (k == 5) = false := by rw [beq_eq_false_iff_ne]; omega
    have e6 : (k == 6) = false := by rw [beq_eq_false_iff_ne]; omega
    have e7 : (k == 7) = false := by rw [beq_eq_false_iff_ne]; omega
    have e8 : (k == 8) = false := by rw [beq_eq_false_iff_ne]; omega
    have e9 : (k == 9) = false := by rw [beq_eq_false_iff_ne]; omega
    have e10 : (k == 10) = false := by rw [beq_eq_false_iff_ne]; omega
    have e11 : (k == 11) = false := by rw [beq_eq_false_iff_ne]; omega
    have e12 : (k == 12) = false := by rw [beq_eq_false_iff_ne]; omega
    have e13 : (k == 13) = false := by rw [beq_eq_false_iff_ne]; omega
    have e14 : (k == 14) = false := by rw [beq_eq_false_iff_ne]; omega
    have e15 : (k == 15) = false := by rw [beq_eq_false_iff_ne]; omega
    have e16 : (k == 16) = false := by rw [beq_eq_false_iff_ne]; omega
    have e17 : (k == 17) = false := by rw [beq_eq_false_iff_ne]; omega
    have e18 : (k == 18) = false := by rw [beq_eq_false_iff_ne]; omega
    have e19 : (k == 19) = false := by rw [beq_eq_false_iff_ne]; omega
    have e20 : (k == 20) = false := by rw [beq_eq_false_iff_ne]; omega
    have e21 : (k == 21) = false := by rw [beq_eq_false_iff_ne]; omega
    have e22 : (k == 22) = false := by rw [beq_eq_false_iff_ne]; omega
    have e23 : (k == 23) = false := by rw [beq_eq_false_iff_ne]; omega
    have e24 : (k == 24) = false := by rw [beq_eq_false_iff_ne]; omega
    have e25 : (k == 25) = false := by rw [beq_eq_false_iff_ne]; omega
    have e26 : (k == 26) = false := by rw [beq_eq_false_iff_ne]; omega
    have e27 : (k == 27) = false := by rw [beq_eq_false_iff_ne]; omega
    have e28 : (k == 28) = false := by rw [beq_eq_false_iff_ne]; omega
    have e29 : (k == 29) = false := by rw [beq_eq_false_iff_ne]; omega
    clear h
    go_enter Tryd.func57, Tryd.ntmps57
    go_wp2_with fail
    go_ret
    exact ⟨ret_str E.out.symm, rfl⟩
end Go.Proofs.YtemikdmkjgmflaaDoor

namespace Go.Proofs.YtemikdmkjgmflaaDoor
open Go.RowKit
set_option maxRecDepth 100000
theorem byteTypes : ByteTypes Tryd.prog 88 5 9 := ⟨Tryd.underlying88, Tryd.underlying5, Tryd.underlying9, by kernel_rfl⟩
/-- Behind k rounds: the first k bytes of the new row are small, the others as they were. -/
structure LowAt (w : World) (s : ByteArray) (k : Nat) (wr : World) : Prop where
  cells : ∀ j, j < s.size → wr.cell? ⟨w.heap.size, j, none⟩ = some (.int .u8 ((if j < k then lowB (byteAt s j) else byteAt s j).toNat : Int))
  free : ∀ j, j < s.size → wr.frozen? ⟨w.heap.size, j, none⟩ = false
  below : Below w.heap.size w wr
theorem lowAt_start (w : World) (s : ByteArray) : LowAt w s 0 (Lib.bytesWorld w 5 s) :=
  ⟨fun j hj => by rw [Lib.bytesWorld_cell _ _ _ _ hj]; rfl, fun j hj => bytes_free w 5 s j hj, bytes_below w 5 s⟩
theorem lowAt_here {w : World} {s : ByteArray} {k : Nat} {wr : World} (h : LowAt w s k wr) (hk : k < s.size) : wr.cell? ⟨w.heap.size, k, none⟩ = some (.int .u8 ((byteAt s k).toNat : Int)) := by
  rw [h.cells k hk, if_neg (by omega)]
theorem lowAt_yes {w : World} {s : ByteArray} {k : Nat} {wr : World} (h : LowAt w s k wr) (hk : k < s.size) (h1 : 65 ≤ (byteAt s k).toNat) (h2 : (byteAt s k).toNat ≤ 90) :
    LowAt w s (k + 1) (wr.setCell ⟨w.heap.size, k, none⟩ (.int .u8 (((byteAt s k).toNat : Int) - 65 + 97))) := by
  refine ⟨fun j hj => ?_, fun j hj => ?_, h.below.setCell (Nat.le_refl _) _⟩
  · by_cases e : j = k
    · subst e
      rw [World.cell?_setCell_same _ _ _ (lowAt_here h hk), if_pos (by omega), lowB_yes _ h1 h2]
      congr 2; omega
    · rw [World.cell?_setCell_other _ _ _ _ (fun x => e (by simpa using x.symm)), h.cells j hj]
      by_cases e2 : j < k
      · rw [if_pos e2, if_pos (by omega)]
      · rw [if_neg e2, if_neg (by omega)]
  · rw [World.frozen?_setCell]; exact h.free j hj
theorem lowAt_no {w : World} {s : ByteArray} {k : Nat} {wr : World} (h : LowAt w s k wr) (h1 : ¬ (65 ≤ (byteAt s k).toNat ∧ (byteAt s k).toNat ≤ 90)) : LowAt w s (k + 1) wr := by
  refine ⟨fun j hj => ?_, h.free, h.below⟩
  rw [h.cells j hj]
  by_cases e2 : j < k
  · rw [if_pos e2, if_pos (by omega)]
  · by_cases e : j = k
    · subst e; rw [if_neg (by omega), if_pos (by omega), lowB_no _ h1]
    · rw [if_neg e2, if_neg (by omega)]
theorem lowAt_end {w : World} {s : ByteArray} {wr : World} (h : LowAt w s s.size wr) (cap : Nat) :
    (convert 88 9 (.slice (some ⟨w.heap.size, 0, none⟩) s.size cap)).run Tryd.prog wr = .ok (.string (lowS s)) wr := by
  have hl : ((lowL s.data.toList).map fun c => (c.toNat : Int)).length = s.size := by simp [lowL]
  have := run_convert_bytes_arg (P := Tryd.prog) wr 88 5 byteTypes.sl byteTypes.el w.heap.size 0 s.size cap _ hl (fun i hi => by
    rw [Nat.zero_add, h.cells i hi, if_pos hi]
    simp [lowL, byteAt, List.getD, hi]) 9 byteTypes.str
  rw [this, strOfNums_bytes]; rfl
set_option maxHeartbeats 400000 in
theorem lower_any (s : ByteArray) (w : World) (hs : s.size ≤ maxLen) :
    Calls Tryd.prog 72 #[.string s] w fun e w' => e = .returned (.string (lowS s)) ∧ Below w.heap.size w w' := by
  unfold maxLen at hs
  have hconv := fun w => Lib.run_convert_string_bytes (P := Tryd.prog) w 9 88 5 s byteTypes.str byteTypes.sl byteTypes.el
  go_enter Tryd.func72, Tryd.ntmps72
  go_wp2
  go_loopw [10] (fun i wr => ∃ k : Nat, k ≤ s.size ∧ i = .int .i64 k ∧ LowAt w s k wr) (fun i _ => s.size - (intOf i).toNat)
  case atStart => exact ⟨0, Nat.zero_le _, rfl, lowAt_start w s⟩
  case round =>
    obtain ⟨k, hk, rfl, hl⟩ := hrel
    by_cases hlt : k < s.size
    · have hc := lowAt_here hl hlt
      have hf := hl.free k hlt
      have hb : ((byteAt s k).toNat : Int) ≤ 255 := by have := (byteAt s k).toNat_lt; omega
      have HY := hide (lowAt_yes hl hlt)
      have HN := hide (lowAt_no hl)
      go_wp2
      · go_roundw
        case rel => exact ⟨k + 1, by omega, by go_num, HY.out (by omega) (by omega)⟩
        case measure => simp [intOf]; omega
      · go_roundw
        case rel => exact ⟨k + 1, by omega, by go_num, HN.out (by omega)⟩
        case measure => simp [intOf]; omega
      · go_roundw
        case rel => exact ⟨k + 1, by omega, by go_num, HN.out (by omega)⟩
        case measure => simp [intOf]; omega
    · have e : k = s.size := by omega
      subst e
      have hend := lowAt_end hl (grownCap w s.size 0 5)
      go_wp2
      go_ret
      exact ⟨rfl, hl.below⟩
end Go.Proofs.YtemikdmkjgmflaaDoor

namespace Go.Proofs.YtemikdmkjgmflaaDoor
open Go.RowKit
set_option maxHeartbeats 4000000 in
set_option maxRecDepth 100000 in
theorem byType1_any (x : ByteArray × ByteArray) (W : World) :
    Calls Tryd.prog 71 #[.agg #[.string x.1, .string x.2]] W fun e w' => e = .returned (.bool (isN tyS x)) ∧ Below W.heap.size W w' := by
  have E : Hid ((x.1.toList == [116, 121, 112, 101]) = isN tyS x) := lit_dec x.1 [116, 121, 112, 101]
  generalize isN tyS x = r at *
  generalize x.1 = a at *
  generalize x.2 = b at *
  go_enter Tryd.func71, Tryd.ntmps71
  go_wp2_with fail
  go_ret
  exact ⟨ret_bool E.out, (Below.refl _ W).alloc (Nat.le_refl _) _⟩
theorem entersBy : ∀ args w, (callFunc 71 args).run Tryd.prog w = .ok (.enter 71 args) w := Go.Proofs.enters_of Tryd.func71 (by kernel_rfl) rfl
theorem by_pred (w : World) : PredA 71 #[] (isN tyS) w := fun W x _ => byType1_any x W
set_option maxHeartbeats 4000000 in
set_option maxRecDepth 100000 in
theorem byType_any (n : Nd) (va vk : Value) (f l : Nat) (z : Int) (w : World) (hT : KTabs w) (ha : AttrsV w va n.attrs) (hl : n.attrs.length ≤ 4398046511104) (hs : ∀ a ∈ n.attrs, a.2.size ≤ 140737488351232) :
    Calls Tryd.prog 62 #[.agg #[.string n.name, .string n.text, va, .int .i64 n.parent, vk], .int .i64 (f : Int), .int .i64 (l : Int), .int .i64 z] w fun e w' => e = .returned (.int .i64 (byT (tyOf n.attrs) f l z)) ∧ Below w.heap.size w w' := by
  have B0 : Hid (Below w.heap.size w (w.alloc (.cells #[.string n.name, .string n.text, va, .int .i64 n.parent, vk] 43))) := (Below.refl _ w).alloc (Nat.le_refl _) _
  have k0 : (w.alloc (.cells #[.string n.name, .string n.text, va, .int .i64 n.parent, vk] 43)).cell? ⟨w.heap.size, 0, none⟩ = some (.string n.name) := by simp
  have k1 : (w.alloc (.cells #[.string n.name, .string n.text, va, .int .i64 n.parent, vk] 43)).cell? ⟨w.heap.size, 1, none⟩ = some (.string n.text) := by simp
  have k2 : (w.alloc (.cells #[.string n.name, .string n.text, va, .int .i64 n.parent, vk] 43)).cell? ⟨w.heap.size, 2, none⟩ = some (va) := by simp
  have k3 : (w.alloc (.cells #[.string n.name, .string n.text, va, .int .i64 n.parent, vk] 43)).cell? ⟨w.heap.size, 3, none⟩ = some (.int .i64 n.parent) := by simp
  have k4 : (w.alloc (.cells #[.string n.name, .string n.text, va, .int .i64 n.parent, vk] 43)).cell? ⟨w.heap.size, 4, none⟩ = some (vk) := by simp
  have HI := hide (indexFuncA_any va n.attrs (isN tyS) 71 #[] entersBy (w.alloc (.cells #[.string n.name, .string n.text, va, .int .i64 n.parent, vk] 43)) (ha.below B0.out) (by_pred _) hl)
  have HTW := hide hT
  have AV := hide (ha.below B0.out)
  have FE : Hid (n.attrs.findIdx? (isN tyS) = findA n.attrs tyS) := rfl
  rw [FE.out] at HI
  obtain ⟨p, c, rfl, hv⟩ := ha
  cases hf : findA n.attrs tyS with
  | none =>
    have E : Hid (byT (tyOf n.attrs) f l z = z) := by show _ = _; unfold tyOf; rw [hf]; rfl
    rw [hf] at HI
    have ev : findV none = -1 := rfl
    rw [ev] at HI
    clear hf hv hs hl hT FE ev
    go_enter Tryd.func62, Tryd.ntmps62
    go_wp2_with fail
    generalize w.alloc (.cells #[.string n.name, .string n.text, .slice p n.attrs.length c, .int .i64 n.parent, vk] 43) = w0 at *
    obtain ⟨nb, hnb⟩ : ∃ nb, Hid (w.heap.size = nb) := ⟨_, show _ = _ from rfl⟩
    refine HI.out.mono ?_
    rintro e w1 ⟨rfl, b1⟩
    go_wp2_with fail
    go_ret
    exact ⟨ret_int E.out.symm, chain B0.out b1⟩
  | some i =>
    obtain ⟨hi, _, _⟩ := List.findIdx?_eq_some_iff_getElem.1 (show n.attrs.findIdx? (isN tyS) = some i from hf)
    obtain ⟨t, ht⟩ : ∃ t, Hid (n.attrs[i].2 = t) := ⟨_, show _ = _ from rfl⟩
    have E : Hid (byT (tyOf n.attrs) f l z = kInt (seekR (lowS t) f l 30 0) z) := by
      show _ = _
      unfold tyOf
      rw [hf, ← ht.out]
      show kInt (seekR (lowS (n.attrs.getD i at0).2) f l 30 0) z = _
      rw [show n.attrs.getD i at0 = n.attrs[i] by simp [List.getD, hi]]
    rw [hf] at HI
    have ev : findV (some i) = (i : Int) := rfl
    rw [ev] at HI
    have i0 : (0 : Int) ≤ (i : Int) := by omega
    have i1 : (i : Int) < (n.attrs.length : Int) := by omega
    have i2 : ¬ (i : Int) < 0 := by omega
    have ts := hs _ (List.getElem_mem hi)
    rw [ht.out] at ts
    have HL := hide (fun W => lower_any t W (by unfold maxLen; omega))
    obtain ⟨b, o, rfl, hv2⟩ : ∃ b o, p = some ⟨b, o, none⟩ ∧ ∀ i (h : i < n.attrs.length), w.cell? ⟨b, o + i * 2, none⟩ = some (.string n.attrs[i].1) ∧ w.cell? ⟨b, o + i * 2 + 1, none⟩ = some (.string n.attrs[i].2) := by
      rcases hv with t | t
      · rw [t] at hi; simp at hi
      · exact t
    have c1 := cell_below (hv2 i hi).2 B0.out
    rw [ht.out] at c1
    obtain ⟨A, hA⟩ : ∃ A, Hid (seekR (lowS t) f l 30 0 = A) := ⟨_, show _ = _ from rfl⟩
    rw [hA.out] at E
    clear hf hv hv2 hs hT FE ev
    go_enter Tryd.func62, Tryd.ntmps62
    go_wp2_with fail
    generalize w.alloc (.cells #[.string n.name, .string n.text, .slice (some ⟨b, o, none⟩) n.attrs.length c, .int .i64 n.parent, vk] 43) = w0 at *
    obtain ⟨nb, hnb⟩ : ∃ nb, Hid (w.heap.size = nb) := ⟨_, show _ = _ from rfl⟩
    refine HI.out.mono ?_
    rintro e w1 ⟨rfl, b1⟩
    have B1 := hide (chain B0.out b1)
    have m2 := cell_below k2 b1
    have c1' := cell_below c1 b1
    clear b1 k0 k1 k2 k3 k4 c1
    go_wp2_with fail
    refine (HL.out _).mono ?_
    rintro e w2 ⟨rfl, b2⟩
    have B2 := hide (chain B1.out b2)
    have T2 := HTW.out.below B2.out
    obtain ⟨CS, hld, hin, hix⟩ := load_types w2 T2
    have HIX := hide hix
    have HLD := hide hld
    have HIN := hide hin
    clear hix hld hin
    clear T2 m2 c1' b2
    generalize lowS t = s at *
    go_upto_region 5 with fail
    refine wp_region_lit ?_
    refine wpList_load_mid rfl 92 _ rfl 1 0 rfl CS _ HLD.out Tryd.underlying92 rfl HIN.out ?_
    generalize CS.toArray = CA at *
    go_wp2_with fail
    go_loop [27] (fun iv => ∃ k : Nat, k ≤ 30 ∧ iv = .int .i64 k ∧ Hid (seekR s f l (30 - k) k = A)) (fun iv => 30 - (intOf iv).toNat)
    case atStart => exact ⟨0, Nat.zero_le _, rfl, hA⟩
    case round =>
      obtain ⟨k, hk, rfl, hn⟩ := hrel
      clear hA
      by_cases hlt : k < 30
      · have hix := HIX.out k hlt w2
        have HB := hide (between_any (k : Int) (f : Int) (l : Int))
        have HIT := hide (fun q1 q2 => seek_hit hlt hn.out q1 q2)
        have MISS := hide (fun q => seek_miss hlt hn.out q)
        have kk : (k : Int) < 30 := by omega
        have TB := hide (txt_beq (typeN k) s)
        cases hb : btwB (k : Int) (f : Int) (l : Int) with
        | false =>
          rw [hb] at HB
          have N := hide (MISS.out (.inl hb))
          clear hb HIT MISS hn
          generalize typeN k = x at *
          go_wp2_with fail
          refine (HB.out _).mono ?_
          rintro e u ⟨rfl, hu⟩
          obtain rfl : w2 = u := hu.symm
          go_wp2_with fail
          go_round
          case rel => exact ⟨k + 1, by omega, by go_num, N⟩
          case measure => simp [intOf]; omega
        | true =>
          rw [hb] at HB
          by_cases he : typeN k = s
          · have q : ((typeN k).toList == s.toList) = true := by rw [TB.out]; exact decide_eq_true he
            have N := hide (HIT.out hb he)
            clear hb HIT MISS hn he
            generalize typeN k = x at *
            go_wp2_with fail
            refine (HB.out _).mono ?_
            rintro e u ⟨rfl, hu⟩
            obtain rfl : w2 = u := hu.symm
            go_wp2_with fail
            go_ret
            exact ⟨by rw [E.out, N.out]; rfl, B2.out⟩
          · have q : ((typeN k).toList == s.toList) = false := by rw [TB.out]; exact decide_eq_false he
            have N := hide (MISS.out (.inr he))
            clear hb HIT MISS hn he
            generalize typeN k = x at *
            go_wp2_with fail
            refine (HB.out _).mono ?_
            rintro e u ⟨rfl, hu⟩
            obtain rfl : w2 = u := hu.symm
            go_wp2_with fail
            go_round
            case rel => exact ⟨k + 1, by omega, by go_num, N⟩
            case measure => simp [intOf]; omega
      · obtain rfl : k = 30 := by omega
        have N : Hid (A = none) := hn.out.symm
        clear hn hlt
        go_wp2_with fail
        go_ret
        exact ⟨by rw [E.out, N.out]; rfl, B2.out⟩
end Go.Proofs.YtemikdmkjgmflaaDoor

namespace Go.Proofs.YtemikdmkjgmflaaDoor
open Go.RowKit
set_option maxHeartbeats 4000000 in
set_option maxRecDepth 100000 in
theorem of_input (n : Nd) (va vk : Value) (w : World) (hT : KTabs w) (ha : AttrsV w va n.attrs) (hl : n.attrs.length ≤ 4398046511104) (hs : ∀ a ∈ n.attrs, a.2.size ≤ 140737488351232) (h : n.name = ⟨#[105, 110, 112, 117, 116]⟩) :
    Calls Tryd.prog 46 #[.agg #[.string n.name, .string n.text, va, .int .i64 n.parent, vk]] w fun e w' => e = .returned (.int .i64 (byT (tyOf n.attrs) 1 22 2)) ∧ Below w.heap.size w w' := by
  have t0 : (n.name.toList == [105, 110, 112, 117, 116]) = true := lit_yes h
  have t1 : (n.name.toList == [115, 101, 108, 101, 99, 116]) = false := by rw [h, ByteArray.toList_eq]; rfl
  have t2 : (n.name.toList == [116, 101, 120, 116, 97, 114, 101, 97]) = false := by rw [h, ByteArray.toList_eq]; rfl
  have t3 : (n.name.toList == [98, 117, 116, 116, 111, 110]) = false := by rw [h, ByteArray.toList_eq]; rfl
  clear h
  have B0 : Hid (Below w.heap.size w (w.alloc (.cells #[.string n.name, .string n.text, va, .int .i64 n.parent, vk] 43))) := (Below.refl _ w).alloc (Nat.le_refl _) _
  have k0 : (w.alloc (.cells #[.string n.name, .string n.text, va, .int .i64 n.parent, vk] 43)).cell? ⟨w.heap.size, 0, none⟩ = some (.string n.name) := by simp
  have k1 : (w.alloc (.cells #[.string n.name, .string n.text, va, .int .i64 n.parent, vk] 43)).cell? ⟨w.heap.size, 1, none⟩ = some (.string n.text) := by simp
  have k2 : (w.alloc (.cells #[.string n.name, .string n.text, va, .int .i64 n.parent, vk] 43)).cell? ⟨w.heap.size, 2, none⟩ = some (va) := by simp
  have k3 : (w.alloc (.cells #[.string n.name, .string n.text, va, .int .i64 n.parent, vk] 43)).cell? ⟨w.heap.size, 3, none⟩ = some (.int .i64 n.parent) := by simp
  have k4 : (w.alloc (.cells #[.string n.name, .string n.text, va, .int .i64 n.parent, vk] 43)).cell? ⟨w.heap.size, 4, none⟩ = some (vk) := by simp
  have HBy := hide (byType_any n va vk 1 22 2 (w.alloc (.cells #[.string n.name, .string n.text, va, .int .i64 n.parent, vk] 43)) (hT.below B0.out) (ha.below B0.out) hl hs)
  clear hT ha hl hs
  go_enter Tryd.func46, Tryd.ntmps46
  go_wp2_with fail
  generalize w.alloc (.cells #[.string n.name, .string n.text, va, .int .i64 n.parent, vk] 43) = w0 at *
  refine HBy.out.mono ?_
  rintro e w1 ⟨rfl, b1⟩
  go_wp2_with fail
  go_ret
  exact ⟨rfl, chain B0.out b1⟩
set_option maxHeartbeats 4000000 in
set_option maxRecDepth 100000 in
theorem of_select (n : Nd) (va vk : Value) (w : World) (h : n.name = ⟨#[115, 101, 108, 101, 99, 116]⟩) :
    Calls Tryd.prog 46 #[.agg #[.string n.name, .string n.text, va, .int .i64 n.parent, vk]] w fun e w' => e = .returned (.int .i64 (23)) ∧ Below w.heap.size w w' := by
  have t0 : (n.name.toList == [105, 110, 112, 117, 116]) = false := by rw [h, ByteArray.toList_eq]; rfl
  have t1 : (n.name.toList == [115, 101, 108, 101, 99, 116]) = true := lit_yes h
  have t2 : (n.name.toList == [116, 101, 120, 116, 97, 114, 101, 97]) = false := by rw [h, ByteArray.toList_eq]; rfl
  have t3 : (n.name.toList == [98, 117, 116, 116, 111, 110]) = false := by rw [h, ByteArray.toList_eq]; rfl
  clear h
  have B0 : Hid (Below w.heap.size w (w.alloc (.cells #[.string n.name, .string n.text, va, .int .i64 n.parent, vk] 43))) := (Below.refl _ w).alloc (Nat.le_refl _) _
  have k0 : (w.alloc (.cells #[.string n.name, .string n.text, va, .int .i64 n.parent, vk] 43)).cell? ⟨w.heap.size, 0, none⟩ = some (.string n.name) := by simp
  have k1 : (w.alloc (.cells #[.string n.name, .string n.text, va, .int .i64 n.parent, vk] 43)).cell? ⟨w.heap.size, 1, none⟩ = some (.string n.text) := by simp
  have k2 : (w.alloc (.cells #[.string n.name, .string n.text, va, .int .i64 n.parent, vk] 43)).cell? ⟨w.heap.size, 2, none⟩ = some (va) := by simp
  have k3 : (w.alloc (.cells #[.string n.name, .string n.text, va, .int .i64 n.parent, vk] 43)).cell? ⟨w.heap.size, 3, none⟩ = some (.int .i64 n.parent) := by simp
  have k4 : (w.alloc (.cells #[.string n.name, .string n.text, va, .int .i64 n.parent, vk] 43)).cell? ⟨w.heap.size, 4, none⟩ = some (vk) := by simp
  go_enter Tryd.func46, Tryd.ntmps46
  go_wp2_with fail
  go_ret
  exact ⟨rfl, B0.out⟩
set_option maxHeartbeats 4000000 in
set_option maxRecDepth 100000 in
theorem of_textarea (n : Nd) (va vk : Value) (w : World) (h : n.name = ⟨#[116, 101, 120, 116, 97, 114, 101, 97]⟩) :
    Calls Tryd.prog 46 #[.agg #[.string n.name, .string n.text, va, .int .i64 n.parent, vk]] w fun e w' => e = .returned (.int .i64 (24)) ∧ Below w.heap.size w w' := by
  have t0 : (n.name.toList == [105, 110, 112, 117, 116]) = false := by rw [h, ByteArray.toList_eq]; rfl
  have t1 : (n.name.toList == [115, 101, 108, 101, 99, 116]) = false := by rw [h, ByteArray.toList_eq]; rfl
  have t2 : (n.name.toList == [116, 101, 120, 116, 97, 114, 101, 97]) = true := lit_yes h
  have t3 : (n.name.toList == [98, 117, 116, 116, 111, 110]) = false := by rw [h, ByteArray.toList_eq]; rfl
  clear h
  have B0 : Hid (Below w.heap.size w (w.alloc (.cells #[.string n.name, .string n.text, va, .int .i64 n.parent, vk] 43))) := (Below.refl _ w).alloc (Nat.le_refl _) _
  have k0 : (w.alloc (.cells #[.string n.name, .string n.text, va, .int .i64 n.parent, vk] 43)).cell? ⟨w.heap.size, 0, none⟩ = some (.string n.name) := by simp
  have k1 : (w.alloc (.cells #[.string n.name, .string n.text, va, .int .i64 n.parent, vk] 43)).cell? ⟨w.heap.size, 1, none⟩ = some (.string n.text) := by simp
  have k2 : (w.alloc (.cells #[.string n.name, .string n.text, va, .int .i64 n.parent, vk] 43)).cell? ⟨w.heap.size, 2, none⟩ = some (va) := by simp
  have k3 : (w.alloc (.cells #[.string n.name, .string n.text, va, .int .i64 n.parent, vk] 43)).cell? ⟨w.heap.size, 3, none⟩ = some (.int .i64 n.parent) := by simp
  have k4 : (w.alloc (.cells #[.string n.name, .string n.text, va, .int .i64 n.parent, vk] 43)).cell? ⟨w.heap.size, 4, none⟩ = some (vk) := by simp
  go_enter Tryd.func46, Tryd.ntmps46
  go_wp2_with fail
  go_ret
  exact ⟨rfl, B0.out⟩
set_option maxHeartbeats 4000000 in
set_option maxRecDepth 100000 in
theorem of_button (n : Nd) (va vk : Value) (w : World) (hT : KTabs w) (ha : AttrsV w va n.attrs) (hl : n.attrs.length ≤ 4398046511104) (hs : ∀ a ∈ n.attrs, a.2.size ≤ 140737488351232) (h : n.name = ⟨#[98, 117, 116, 116, 111, 110]⟩) :
    Calls Tryd.prog 46 #[.agg #[.string n.name, .string n.text, va, .int .i64 n.parent, vk]] w fun e w' => e = .returned (.int .i64 (byT (tyOf n.attrs) 25 27 25)) ∧ Below w.heap.size w w' := by
  have t0 : (n.name.toList == [105, 110, 112, 117, 116]) = false := by rw [h, ByteArray.toList_eq]; rfl
  have t1 : (n.name.toList == [115, 101, 108, 101, 99, 116]) = false := by rw [h, ByteArray.toList_eq]; rfl
  have t2 : (n.name.toList == [116, 101, 120, 116, 97, 114, 101, 97]) = false := by rw [h, ByteArray.toList_eq]; rfl
  have t3 : (n.name.toList == [98, 117, 116, 116, 111, 110]) = true := lit_yes h
  clear h
  have B0 : Hid (Below w.heap.size w (w.alloc (.cells #[.string n.name, .string n.text, va, .int .i64 n.parent, vk] 43))) := (Below.refl _ w).alloc (Nat.le_refl _) _
  have k0 : (w.alloc (.cells #[.string n.name, .string n.text, va, .int .i64 n.parent, vk] 43)).cell? ⟨w.heap.size, 0, none⟩ = some (.string n.name) := by simp
  have k1 : (w.alloc (.cells #[.string n.name, .string n.text, va, .int .i64 n.parent, vk] 43)).cell? ⟨w.heap.size, 1, none⟩ = some (.string n.text) := by simp
  have k2 : (w.alloc (.cells #[.string n.name, .string n.text, va, .int .i64 n.parent, vk] 43)).cell? ⟨w.heap.size, 2, none⟩ = some (va) := by simp
  have k3 : (w.alloc (.cells #[.string n.name, .string n.text, va, .int .i64 n.parent, vk] 43)).cell? ⟨w.heap.size, 3, none⟩ = some (.int .i64 n.parent) := by simp
  have k4 : (w.alloc (.cells #[.string n.name, .string n.text, va, .int .i64 n.parent, vk] 43)).cell? ⟨w.heap.size, 4, none⟩ = some (vk) := by simp
  have HBy := hide (byType_any n va vk 25 27 25 (w.alloc (.cells #[.string n.name, .string n.text, va, .int .i64 n.parent, vk] 43)) (hT.below B0.out) (ha.below B0.out) hl hs)
  clear hT ha hl hs
  go_enter Tryd.func46, Tryd.ntmps46
  go_wp2_with fail
  generalize w.alloc (.cells #[.string n.name, .string n.text, va, .int .i64 n.parent, vk] 43) = w0 at *
  refine HBy.out.mono ?_
  rintro e w1 ⟨rfl, b1⟩
  go_wp2_with fail
  go_ret
  exact ⟨rfl, chain B0.out b1⟩
def lastI (A : Option Nat) : Int := match A with
  | none => 0
  | some i => 28 + (i : Int)
set_option maxHeartbeats 4000000 in
set_option maxRecDepth 100000 in
theorem of_last (n : Nd) (va vk : Value) (w : World) (hT : KTabs w) (h0 : ¬ n.name = ⟨#[105, 110, 112, 117, 116]⟩) (h1 : ¬ n.name = ⟨#[115, 101, 108, 101, 99, 116]⟩) (h2 : ¬ n.name = ⟨#[116, 101, 120, 116, 97, 114, 101, 97]⟩) (h3 : ¬ n.name = ⟨#[98, 117, 116, 116, 111, 110]⟩) :
    Calls Tryd.prog 46 #[.agg #[.string n.name, .string n.text, va, .int .i64 n.parent, vk]] w fun e w' => e = .returned (.int .i64 (lastI (seekL n.name 8 0))) ∧ Below w.heap.size w w' := by
  have TB := hide (fun k => txt_beq n.name (lastN k))
  have t0 := lit_no (l := [105, 110, 112, 117, 116]) h0
  have t1 := lit_no (l := [115, 101, 108, 101, 99, 116]) h1
  have t2 := lit_no (l := [116, 101, 120, 116, 97, 114, 101, 97]) h2
  have t3 := lit_no (l := [98, 117, 116, 116, 111, 110]) h3
  clear h0 h1 h2 h3
  have B0 : Hid (Below w.heap.size w (w.alloc (.cells #[.string n.name, .string n.text, va, .int .i64 n.parent, vk] 43))) := (Below.refl _ w).alloc (Nat.le_refl _) _
  have k0 : (w.alloc (.cells #[.string n.name, .string n.text, va, .int .i64 n.parent, vk] 43)).cell? ⟨w.heap.size, 0, none⟩ = some (.string n.name) := by simp
  have k1 : (w.alloc (.cells #[.string n.name, .string n.text, va, .int .i64 n.parent, vk] 43)).cell? ⟨w.heap.size, 1, none⟩ = some (.string n.text) := by simp
  have k2 : (w.alloc (.cells #[.string n.name, .string n.text, va, .int .i64 n.parent, vk] 43)).cell? ⟨w.heap.size, 2, none⟩ = some (va) := by simp
  have k3 : (w.alloc (.cells #[.string n.name, .string n.text, va, .int .i64 n.parent, vk] 43)).cell? ⟨w.heap.size, 3, none⟩ = some (.int .i64 n.parent) := by simp
  have k4 : (w.alloc (.cells #[.string n.name, .string n.text, va, .int .i64 n.parent, vk] 43)).cell? ⟨w.heap.size, 4, none⟩ = some (vk) := by simp
  have T0 := hT.below B0.out
  obtain ⟨CS, hld, hin, hix⟩ := load_last (w.alloc (.cells #[.string n.name, .string n.text, va, .int .i64 n.parent, vk] 43)) T0
  have HIX := hide hix
  have HLD := hide hld
  have HIN := hide hin
  clear hix hld hin
  obtain ⟨A, hA⟩ : ∃ A, Hid (seekL n.name 8 0 = A) := ⟨_, show _ = _ from rfl⟩
  rw [hA.out]
  clear hT T0
  go_enter Tryd.func46, Tryd.ntmps46
  generalize n.name = nm at *
  go_upto_region 10 with fail
  refine wp_region_lit ?_
  refine wpList_load_mid rfl 81 _ rfl 0 0 rfl CS _ HLD.out Tryd.underlying81 rfl HIN.out ?_
  generalize CS.toArray = CA at *
  go_wp2_with fail
  generalize w.alloc (.cells #[.string nm, .string n.text, va, .int .i64 n.parent, vk] 43) = w0 at *
  go_loop [20] (fun iv => ∃ k : Nat, k ≤ 8 ∧ iv = .int .i64 k ∧ Hid (seekL nm (8 - k) k = A)) (fun iv => 8 - (intOf iv).toNat)
  case atStart => exact ⟨0, Nat.zero_le _, rfl, hA⟩
  case round =>
    obtain ⟨k, hk, rfl, hn⟩ := hrel
    clear hA
    by_cases hlt : k < 8
    · have hix := HIX.out k hlt w0
      have kk : (k : Int) < 8 := by omega
      have ST := hide (hn.out.symm.trans (seekL_step nm k hlt))
      have TK := hide (TB.out k)
      by_cases he : lastN k = nm
      · have q : (nm.toList == (lastN k).toList) = true := by rw [TK.out]; exact decide_eq_true he.symm
        rw [if_pos he] at ST
        clear hn he TB
        generalize lastN k = x at *
        go_wp2_with fail
        go_ret
        exact ⟨by rw [ST.out]; rfl, B0.out⟩
      · have q : (nm.toList == (lastN k).toList) = false := by rw [TK.out]; exact decide_eq_false (fun t => he t.symm)
        rw [if_neg he] at ST
        clear hn he TB
        generalize lastN k = x at *
        go_wp2_with fail
        go_round
        case rel => exact ⟨k + 1, by omega, by go_num, ST.out.symm⟩
        case measure => simp [intOf]; omega
    · obtain rfl : k = 8 := by omega
      have N : Hid (A = none) := hn.out.symm
      clear hn hlt
      go_wp2_with fail
      go_ret
      exact ⟨by rw [N.out]; rfl, B0.out⟩
theorem of_any (n : Nd) (va vk : Value) (w : World) (hT : KTabs w) (ha : AttrsV w va n.attrs) (hl : n.attrs.length ≤ 4398046511104) (hs : ∀ a ∈ n.attrs, a.2.size ≤ 140737488351232) :
    Calls Tryd.prog 46 #[.agg #[.string n.name, .string n.text, va, .int .i64 n.parent, vk]] w fun e w' => e = .returned (.int .i64 (kOf n.name (tyOf n.attrs))) ∧ Below w.heap.size w w' := by
  by_cases h0 : n.name = ⟨#[105, 110, 112, 117, 116]⟩
  · rw [show kOf n.name (tyOf n.attrs) = byT (tyOf n.attrs) 1 22 2 from by unfold kOf; rw [if_pos h0]]
    exact of_input n va vk w hT ha hl hs h0
  by_cases h1 : n.name = ⟨#[115, 101, 108, 101, 99, 116]⟩
  · rw [show kOf n.name (tyOf n.attrs) = 23 from by unfold kOf; rw [if_neg h0, if_pos h1]]
    exact of_select n va vk w h1
  by_cases h2 : n.name = ⟨#[116, 101, 120, 116, 97, 114, 101, 97]⟩
  · rw [show kOf n.name (tyOf n.attrs) = 24 from by unfold kOf; rw [if_neg h0, if_neg h1, if_pos h2]]
    exact of_textarea n va vk w h2
  by_cases h3 : n.name = ⟨#[98, 117, 116, 116, 111, 110]⟩
  · rw [show kOf n.name (tyOf n.attrs) = byT (tyOf n.attrs) 25 27 25 from by unfold kOf; rw [if_neg h0, if_neg h1, if_neg h2, if_pos h3]]
    exact of_button n va vk w hT ha hl hs h3
  rw [show kOf n.name (tyOf n.attrs) = lastI (seekL n.name 8 0) from by unfold kOf; rw [if_neg h0, if_neg h1, if_neg h2, if_neg h3]; rfl]
  exact of_last n va vk w hT h0 h1 h2 h3
end Go.Proofs.YtemikdmkjgmflaaDoor

namespace Go.Proofs.YtemikdmkjgmflaaDoor
open Go.RowKit Go.Shelf
set_option maxRecDepth 100000
attribute [local go_sem] Oper.semAt_some
theorem flat_split {f : Int → List Int} {xs : List Int} {k : Nat} (h : k < xs.length) : xs.flatMap f = (xs.take k).flatMap f ++ (f xs[k] ++ (xs.drop (k + 1)).flatMap f) := by
  conv => lhs; rw [← List.take_append_drop k xs, List.drop_eq_getElem_cons h]
  rw [List.flatMap_append, List.flatMap_cons]
theorem flat_take {f : Int → List Int} {xs : List Int} {k : Nat} (h : k < xs.length) : (xs.take (k + 1)).flatMap f = (xs.take k).flatMap f ++ f xs[k] := by
  rw [List.take_succ_eq_append_getElem h, List.flatMap_append]
  simp
theorem flat_pre {f : Int → List Int} {xs : List Int} {k : Nat} (h : k < xs.length) {q : List Int} (hq : q <+: f xs[k]) : (xs.take k).flatMap f ++ q <+: xs.flatMap f := by
  obtain ⟨r, hr⟩ := hq
  rw [flat_split h, ← hr, List.append_assoc]
  exact ⟨r ++ (xs.drop (k + 1)).flatMap f, by simp⟩
theorem filter_take {p : Int → Bool} {xs : List Int} {j : Nat} (h : j < xs.length) : (xs.take (j + 1)).filter p = (xs.take j).filter p ++ (if p xs[j] = true then [xs[j]] else []) := by
  rw [List.take_succ_eq_append_getElem h, List.filter_append, List.filter_cons]
  rfl
theorem filter_pre (p : Int → Bool) (xs : List Int) (j : Nat) : (xs.take j).filter p <+: xs.filter p := by
  conv => rhs; rw [← List.take_append_drop j xs]
  rw [List.filter_append]
  exact List.prefix_append _ _
theorem vals_app {l : List Nd} {sel : Int} (xs : List (OptA l sel)) (x : OptA l sel) : vals (xs ++ [x]) = vals xs ++ [x.1] := by unfold vals; rw [List.map_append]; rfl
theorem abide {β : Type} {B : Nat} {J : List β → World → Prop} (h : AbidesFrom B J) {s : List β} {W W' : World} (hj : J s W) (b : Below W.heap.size W W') : J s W' :=
  h s W W' none hj ⟨b.os, b.tape, b.output, b.size, fun k hk _ => b.block k hk⟩ (fun r e => by cases e)
theorem kp_step {n : Nat} {bs : List Nat} {W W' W'' : World} (h : KpB n bs W W') (hb : ∀ b ∈ bs, b < W'.heap.size) (hn : n ≤ W'.heap.size) (b : Below W'.heap.size W' W'') : KpB n bs W W'' :=
  ⟨h.1.trans (b.mono hn), fun k hk => (b.block k (hb k hk)).trans (h.2 k hk)⟩
theorem kp_box {n : Nat} {bs : List Nat} {W W' : World} (h : KpB n bs W W') {B : Nat} (hB : B ∈ bs) {t : TypeId} {v : Value} (hb : Boxed W B t v) : Boxed W' B t v := (h.2 B hB).trans hb
set_option maxHeartbeats 8000000 in
theorem optIter_any (l : List Nd) (sel : Int) (p : Option Addr) (c : Nat) (w : World) (hv : NodesV w (.slice p l.length c) l) (hL : Linked l) (hs : inR l sel) (hT : KTabs w) (hz : ∀ n ∈ l, n.attrs.length ≤ 4398046511104 ∧ n.kids.length ≤ 400 ∧ ∀ a ∈ n.attrs, a.2.size ≤ 140737488351232) : Iter l sel p c w := by
  intro W Bl Bs hB bL bS y J Jx W1 hW1 hJ hJx hY h0
  obtain ⟨m, rfl, hm⟩ : ∃ m : Nat, sel = (m : Int) ∧ m < l.length := ⟨sel.toNat, by have := hs.1; omega, by have := hs.1; have := hs.2; omega⟩
  obtain ⟨b, o, rfl, hn⟩ : ∃ b o, p = some ⟨b, o, none⟩ ∧ ∀ i (h : i < l.length), ∃ va vk, NodeAt w b (o + i * 5) l[i] va vk := by
    obtain ⟨p', c', e, h⟩ := hv
    cases e
    rcases h with h | h
    · rw [h] at hm; cases hm
    · exact h
  have BW1 := hide (chain hB hW1)
  have bL1 := hide (show Boxed W1 Bl _ _ from (hW1.block _ bL.lt).trans bL)
  have bS1 := hide (show Boxed W1 Bs _ _ from (hW1.block _ bS.lt).trans bS)
  have OFK : Hid (∀ (i : Nat) (hi : i < l.length) (va vk : Value), NodeAt w b (o + i * 5) l[i] va vk → ∀ V, Below w.heap.size w V → CallsIn Fence.wide 1 Tryd.prog 46 #[.agg #[.string l[i].name, .string l[i].text, va, .int .i64 l[i].parent, vk]] V fun e w' => e = .returned (.int .i64 (kOf l[i].name (tyOf l[i].attrs))) ∧ Below V.heap.size V w') := fun i hi va vk N V hb =>
    callsIn_wide.2 (of_any l[i] va vk V (hT.below hb) (N.at_.below hb) (hz _ (List.getElem_mem hi)).1 (hz _ (List.getElem_mem hi)).2.2)
  have HN := hide hn
  have HJ := hide hJ
  have HY := hide hY
  have HL := hide hL
  have lB : Bl < W1.heap.size := bL1.out.lt
  have lS : Bs < W1.heap.size := bS1.out.lt
  have lw : w.heap.size ≤ W1.heap.size := BW1.out.size
  obtain ⟨va, vk, N0⟩ := hn m hm
  have kl := (hz _ (List.getElem_mem hm)).2.1
  have KZ : Hid (∀ i (hi : i < l.length), l[i].kids.length ≤ 400) := fun i hi => (hz _ (List.getElem_mem hi)).2.1
  have N1 := hide (N0.below BW1.out)
  obtain ⟨pk, ck, rfl, hkc⟩ := N0.ks
  have HKC := hide hkc
  have ek : kidsI l (m : Int) = l[m].kids := by unfold kidsI; rw [Int.toNat_natCast, nd_at hm]
  have eo : optsP l (m : Int) = l[m].kids.flatMap (optsC l) := by unfold optsP; rw [ek]
  have EO := hide eo
  have RNG : Hid (∀ i (h : i < l[m].kids.length), inR l l[m].kids[i]) := fun i h => (hL.kidI hs (c := l[m].kids[i]) (by rw [ek]; exact List.getElem_mem h)).1
  have x1 := bL1.out.cell
  have x2 := bS1.out.cell
  have x3 := N1.out.kids
  have m0 : (0 : Int) ≤ (m : Int) := by omega
  have m1 : (m : Int) < (l.length : Int) := by omega
  clear hn hJ hJx hY hL hz hv hT hs N0 hkc N1 eo
  generalize hKS : l[m].kids = KS at *
  refine callsIn_of_wp Tryd.func48 rfl trivial ?_ rfl
  simp only [Tryd.ntmps48, List.size_toArray, List.length_cons, List.length_nil, Nat.reduceAdd, Nat.reduceSub, Array.replicate_succ, Array.replicate_zero, List.push_toArray, List.append_toArray, List.nil_append, List.cons_append]
  gi_wp2
  gi_loopw [14] (fun iv wr => ∃ k : Nat, k ≤ KS.length ∧ iv = .int .i64 k ∧ (∃ pre, Hid (vals pre = (KS.take k).flatMap (optsC l)) ∧ Hid (J pre wr)) ∧ Hid (KpB w.heap.size [Bl, Bs] W1 wr)) (fun iv _ => KS.length - (intOf iv).toNat)
  case atStart => exact ⟨0, Nat.zero_le _, rfl, ⟨[], by show vals _ = _; rw [List.take_zero]; rfl, h0⟩, Below.refl _ _, fun _ _ => rfl⟩
  case round =>
    obtain ⟨k, hk, rfl, ⟨pre, hpre, hJs⟩, hKp⟩ := hrel
    by_cases hlt : k < KS.length
    · have k1 : (k : Int) < (KS.length : Int) := by omega
      have k0 : (0 : Int) ≤ (k : Int) := by omega
      obtain ⟨q, eq, hq⟩ : ∃ q : Nat, KS[k] = (q : Int) ∧ q < l.length := by
        have r := RNG.out k hlt
        have r0 := r.1
        have r1 := r.2
        exact ⟨KS[k].toNat, by omega, by omega⟩
      have BWr := hide (BW1.out.trans (hKp.out.1.mono (Nat.le_refl _)))
      have szr : W1.heap.size ≤ wr.heap.size := hKp.out.1.size
      have bLr := hide (kp_box hKp.out (by simp) bL1.out)
      have y1 := bLr.out.cell
      obtain ⟨kb, ko, rfl, hkc⟩ : ∃ kb ko, pk = some ⟨kb, ko, none⟩ ∧ ∀ i (h : i < KS.length), w.cell? ⟨kb, ko + i, none⟩ = some (.int .i64 KS[i]) := by
        rcases HKC.out with t | t
        · rw [t] at hlt; simp at hlt
        · exact t
      have y2 := cell_below (hkc k hlt) BWr.out
      rw [eq] at y2
      obtain ⟨va', vk', N⟩ := HN.out q hq
      have HO := hide (OFK.out q hq va' vk' N)
      have NN := hide N
      obtain ⟨pa', ca', rfl, _⟩ := N.at_
      obtain ⟨pk', ck', rfl, hkc'⟩ := N.ks
      have HKC' := hide hkc'
      have Nr := hide (N.below BWr.out)
      have z0 := Nr.out.name
      have z1 := Nr.out.text
      have z2 := Nr.out.attrs
      have z3 := Nr.out.parent
      have z4 := Nr.out.kids
      have q0 : (0 : Int) ≤ (q : Int) := by omega
      have q1 : (q : Int) < (l.length : Int) := by omega
      have enm : nmI l (q : Int) = l[q].name := by unfold nmI; rw [Int.toNat_natCast, nd_at hq]
      have ekq : kidsI l (q : Int) = l[q].kids := by unfold kidsI; rw [Int.toNat_natCast, nd_at hq]
      have K32 : Hid (kOf l[q].name (tyOf l[q].attrs) = 32 ↔ nmI l (q : Int) = oOpt) := by rw [enm]; exact kOf_opt
      have K33 : Hid (kOf l[q].name (tyOf l[q].attrs) = 33 ↔ nmI l (q : Int) = oGrp) := by rw [enm]; exact kOf_grp
      have gz := KZ.out q hq
      clear N hkc hkc' HKC enm
      generalize kOf l[q].name (tyOf l[q].attrs) = kq at *
      gi_wp2
      refine ⟨trivial, ?_⟩
      refine (HO.out _ BWr.out).mono ?_
      rintro e w4 ⟨rfl, b4⟩
      have J4 := hide (abide HJ.out hJs.out b4)
      have K4 := hide (kp_step hKp.out (by intro b q; simp at q; omega) (by omega) b4)
      have BW4 := hide (BW1.out.trans (K4.out.1.mono (Nat.le_refl _)))
      have sz4 : W1.heap.size ≤ w4.heap.size := K4.out.1.size
      have bL4 := hide (kp_box K4.out (by simp) bL1.out)
      clear y1 y2 z0 z1 z2 z3 z4 Nr b4 hJs hKp HO bLr
      by_cases c32 : kq = 32
      · have eC : optsC l (q : Int) = [(q : Int)] := by unfold optsC; rw [if_pos (K32.out.1 c32)]
        subst c32
        obtain ⟨xq, hxq⟩ : ∃ x : OptA l (m : Int), x.1 = (q : Int) := ⟨⟨(q : Int), by rw [EO.out, flat_split hlt, eq, eC]; simp⟩, rfl⟩
        obtain ⟨fn, tmps, assign, body, hy, hRd⟩ := HY.out pre xq w4 J4.out (by rw [EO.out, show pre.length = (vals pre).length by unfold vals; rw [List.length_map], hpre.out, flat_split hlt, eq, eC, List.length_append, List.length_append]; simp; omega)
        rw [hxq] at hy
        gi_wp2
        refine hRd.mono ?_
        rintro e w5 (⟨rfl, J5, K5⟩ | ⟨rfl, Jx5⟩)
        · gi_wp2
          go_roundw
          case rel => exact ⟨k + 1, by omega, by go_num, ⟨_, by show vals _ = _; rw [vals_app, hxq, hpre.out, flat_take hlt, eq, eC], J5⟩, kpB_t K4.out K5⟩
          case measure => simp [intOf]; omega
        · gi_wp2
          refine bodyPost_ret (results_none rfl _ _ _) rfl ?_
          exact ⟨⟨_, rfl⟩, .inr ⟨_, by rw [vals_app, hxq, hpre.out, EO.out]; exact flat_pre hlt (by rw [eq, eC]; exact List.prefix_refl _), Jx5⟩⟩
      · have n32 : (kq == 32) = false := beq_eq_false_iff_ne.2 c32
        have no : ¬ nmI l (q : Int) = oOpt := fun r => c32 (K32.out.2 r)
        by_cases c33 : kq = 33
        · have eC : optsC l (q : Int) = l[q].kids.filter (fun d => decide (nmI l d = oOpt)) := by unfold optsC; rw [if_neg no, if_pos (K33.out.1 c33), ekq]
          subst c33
          have RNG' : Hid (∀ i (h : i < l[q].kids.length), inR l l[q].kids[i]) := fun i h => (HL.out.kidI ⟨q0, q1⟩ (c := l[q].kids[i]) (by rw [ekq]; exact List.getElem_mem h)).1
          have N4 := hide (NN.out.below BW4.out)
          have y1 := bL4.out.cell
          have z4 := N4.out.kids
          have PRE : Hid (∀ j x, j < l[q].kids.length → decide (nmI l x = oOpt) = true → ∀ h : j < l[q].kids.length, l[q].kids[j] = x → ((KS.take k).flatMap (optsC l) ++ (l[q].kids.take j).filter (fun d => decide (nmI l d = oOpt))).length < (KS.flatMap (optsC l)).length) := fun j x hj hx h e => by
            have pr := filter_pre (fun d => decide (nmI l d = oOpt)) l[q].kids (j + 1)
            rw [filter_take h, e, if_pos hx] at pr
            have := (flat_pre (f := optsC l) hlt (q := (l[q].kids.take j).filter (fun d => decide (nmI l d = oOpt)) ++ [x]) (by rw [eq, eC]; exact pr)).length_le
            simp at this ⊢
            omega
          have MEM : Hid (∀ j x, ∀ h : j < l[q].kids.length, decide (nmI l x = oOpt) = true → l[q].kids[j] = x → x ∈ KS.flatMap (optsC l)) := fun j x h hx e => by
            rw [flat_split hlt, eq, eC]
            exact List.mem_append_right _ (List.mem_append_left _ (List.mem_filter.2 ⟨by rw [← e]; exact List.getElem_mem h, hx⟩))
          clear ekq K32 K33 no n32 NN
          generalize hGK : l[q].kids = GK at *
          gi_wp2
          gi_loopw [37] (fun iv wq => ∃ j : Nat, j ≤ GK.length ∧ iv = .int .i64 j ∧ (∃ pre, Hid (vals pre = (KS.take k).flatMap (optsC l) ++ (GK.take j).filter (fun d => decide (nmI l d = oOpt))) ∧ Hid (J pre wq)) ∧ Hid (KpB w.heap.size [Bl, Bs] W1 wq)) (fun iv _ => GK.length - (intOf iv).toNat)
          case atStart => exact ⟨0, Nat.zero_le _, rfl, ⟨pre, by show vals _ = _; rw [List.take_zero, List.filter_nil, List.append_nil]; exact hpre.out, J4⟩, K4⟩
          case round =>
            obtain ⟨j, hj, rfl, ⟨pr2, hpr2, hJq⟩, hKq⟩ := hrel
            by_cases hjt : j < GK.length
            · have j1 : (j : Int) < (GK.length : Int) := by omega
              have j0 : (0 : Int) ≤ (j : Int) := by omega
              obtain ⟨r, er, hr⟩ : ∃ r : Nat, GK[j] = (r : Int) ∧ r < l.length := by
                have t := RNG'.out j hjt
                have t0 := t.1
                have t1 := t.2
                exact ⟨GK[j].toNat, by omega, by omega⟩
              have BWq := hide (BW1.out.trans (hKq.out.1.mono (Nat.le_refl _)))
              have szq : W1.heap.size ≤ wr.heap.size := hKq.out.1.size
              have bLq := hide (kp_box hKq.out (by simp) bL1.out)
              have u1 := bLq.out.cell
              obtain ⟨gb, go, rfl, hgc⟩ : ∃ gb go, pk' = some ⟨gb, go, none⟩ ∧ ∀ i (h : i < GK.length), w.cell? ⟨gb, go + i, none⟩ = some (.int .i64 GK[i]) := by
                rcases HKC'.out with t | t
                · rw [t] at hjt; simp at hjt
                · exact t
              have u2 := cell_below (hgc j hjt) BWq.out
              rw [er] at u2
              obtain ⟨vb, vc, M⟩ := HN.out r hr
              have HO := hide (OFK.out r hr vb vc M)
              obtain ⟨pb, cb, rfl, _⟩ := M.at_
              obtain ⟨pc', cc', rfl, _⟩ := M.ks
              have Mr := hide (M.below BWq.out)
              have t0 := Mr.out.name
              have t1 := Mr.out.text
              have t2 := Mr.out.attrs
              have t3 := Mr.out.parent
              have t4 := Mr.out.kids
              have r0 : (0 : Int) ≤ (r : Int) := by omega
              have r1 : (r : Int) < (l.length : Int) := by omega
              have emr : nmI l (r : Int) = l[r].name := by unfold nmI; rw [Int.toNat_natCast, nd_at hr]
              have R32 : Hid (kOf l[r].name (tyOf l[r].attrs) = 32 ↔ nmI l (r : Int) = oOpt) := by rw [emr]; exact kOf_opt
              clear M hgc HKC' emr
              generalize kOf l[r].name (tyOf l[r].attrs) = kr at *
              gi_wp2
              refine ⟨trivial, ?_⟩
              refine (HO.out _ BWq.out).mono ?_
              rintro e w6 ⟨rfl, b6⟩
              have J6 := hide (abide HJ.out hJq.out b6)
              have K6 := hide (kp_step hKq.out (by intro b q; simp at q; omega) (by omega) b6)
              clear u1 u2 t0 t1 t2 t3 t4 Mr b6 hJq hKq HO bLq
              by_cases d32 : kr = 32
              · have hx : decide (nmI l (r : Int) = oOpt) = true := decide_eq_true (R32.out.1 d32)
                subst d32
                obtain ⟨xr, hxr⟩ : ∃ x : OptA l (m : Int), x.1 = (r : Int) := ⟨⟨(r : Int), by rw [EO.out]; exact MEM.out j (r : Int) hjt hx er⟩, rfl⟩
                obtain ⟨fn, tmps, assign, body, hy, hRd⟩ := HY.out pr2 xr w6 J6.out (by rw [EO.out, show pr2.length = (vals pr2).length by unfold vals; rw [List.length_map], hpr2.out]; exact PRE.out j (r : Int) hjt hx hjt er)
                rw [hxr] at hy
                gi_wp2
                refine hRd.mono ?_
                rintro e w7 (⟨rfl, J7, K7⟩ | ⟨rfl, Jx7⟩)
                · gi_wp2
                  go_roundw
                  case rel => exact ⟨j + 1, by omega, by go_num, ⟨_, by show vals _ = _; rw [vals_app, hxr, hpr2.out, filter_take hjt, er, if_pos hx, ← List.append_assoc], J7⟩, kpB_t K6.out K7⟩
                  case measure => simp [intOf]; omega
                · gi_wp2
                  refine bodyPost_ret (results_none rfl _ _ _) rfl ?_
                  refine ⟨⟨_, rfl⟩, .inr ⟨_, ?_, Jx7⟩⟩
                  rw [vals_app, hxr, hpr2.out, EO.out, List.append_assoc]
                  refine flat_pre hlt ?_
                  rw [eq, eC]
                  have pr := filter_pre (fun d => decide (nmI l d = oOpt)) GK (j + 1)
                  rw [filter_take hjt, er, if_pos hx] at pr
                  exact pr
              · have s32 : (kr == 32) = false := beq_eq_false_iff_ne.2 d32
                have hx : ¬ decide (nmI l (r : Int) = oOpt) = true := fun t => d32 (R32.out.2 (of_decide_eq_true t))
                gi_wp2
                refine ⟨fun _ h => (by cases h), ?_⟩
                gi_wp2
                go_roundw
                case rel => exact ⟨j + 1, by omega, by go_num, ⟨pr2, by show vals _ = _; rw [filter_take hjt, er, if_neg hx, List.append_nil]; exact hpr2.out, J6⟩, K6⟩
                case measure => simp [intOf]; omega
            · obtain rfl : j = GK.length := by omega
              gi_wp2
              go_roundw
              case rel => exact ⟨k + 1, by omega, by go_num, ⟨pr2, by show vals _ = _; rw [flat_take hlt, eq, eC, hpr2.out, List.take_length], hJq⟩, hKq⟩
              case measure => simp [intOf]; omega
        · have n33 : (kq == 33) = false := beq_eq_false_iff_ne.2 c33
          have eC : optsC l (q : Int) = [] := by unfold optsC; rw [if_neg no, if_neg (fun r => c33 (K33.out.2 r))]
          gi_wp2
          go_roundw
          case rel => exact ⟨k + 1, by omega, by go_num, ⟨pre, by show vals _ = _; rw [flat_take hlt, eq, eC, List.append_nil]; exact hpre.out, J4⟩, K4⟩
          case measure => simp [intOf]; omega
    · obtain rfl : k = KS.length := by omega
      gi_wp2
      go_end0
      exact ⟨⟨_, rfl⟩, .inl ⟨pre, by rw [hpre.out, List.take_length, EO.out], hJs.out⟩⟩

end Go.Proofs.YtemikdmkjgmflaaDoor
