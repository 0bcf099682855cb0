/- A name that is none. strings.Clone. The types of kinds. The program's Lower and Same, and the document's Lower, answer by the small letters of a text, for every text. -/
import Derived.Test.YtnojgejcmaajmaaDoorJsd9
import Derived.Shelf.Strconv.Clone
import Derived.Deep.MidRow

namespace Go.Proofs.YtnojgejcmaajmaaDoor
open Go.RowKit
def noName (n : ByteArray) : Bool := n.size == 0
end Go.Proofs.YtnojgejcmaajmaaDoor

namespace Go.Proofs.YtnojgejcmaajmaaDoor
open Go.Shelf Go.RowKit
set_option maxRecDepth 100000
def cloren : Go.Shelf.Ren := ⟨fun | 316 => 49 | n => n, fun | 0 => 0 | 3 => 3 | 4 => 4 | 5 => 5 | 9 => 9 | 37 => 44 | 72 => 46 | 127 => 63 | n => n, fun  | n => n⟩
theorem laysM316 : Go.Proofs.LaysM.n316 Tryd.prog cloren := {
  mixed := by kernel_rfl
  f316 := Tryd.func49.trans (congrArg some (by kernel_rfl))
  t0 := Tryd.underlying0
  a0 := Tryd.isAgg0
  z0 := Tryd.sizeOf0
  v0 := Tryd.zeroValue0
  t3 := Tryd.underlying3
  a3 := Tryd.isAgg3
  z3 := Tryd.sizeOf3
  v3 := Tryd.zeroValue3
  t4 := Tryd.underlying4
  a4 := Tryd.isAgg4
  z4 := Tryd.sizeOf4
  v4 := Tryd.zeroValue4
  t9 := Tryd.underlying9
  a9 := Tryd.isAgg9
  z9 := Tryd.sizeOf9
  v9 := Tryd.zeroValue9
  t37 := Tryd.underlying44
  a37 := Tryd.isAgg44
  z37 := Tryd.sizeOf44
  v37 := Tryd.zeroValue44
  t127 := Tryd.underlying63
  a127 := Tryd.isAgg63
  z127 := Tryd.sizeOf63
  v127 := Tryd.zeroValue63
  t5 := Tryd.underlying5
  a5 := Tryd.isAgg5
  z5 := Tryd.sizeOf5
  v5 := Tryd.zeroValue5
  i0 := by kernel_rfl
  i3 := by kernel_rfl
  i4 := by kernel_rfl
  i5 := by kernel_rfl
  i9 := by kernel_rfl
  i37 := by kernel_rfl
  i127 := by kernel_rfl }
set_option maxHeartbeats 400000 in
theorem clone_any (s : ByteArray) (w : World) (hs : s.size ≤ 281474976710656) :
    Calls Tryd.prog 34 #[.string s] w fun e w' => e = .returned (.string s) ∧ Below w.heap.size w w' := by
  have hc := fun w => (Any.stringslite_Clone laysM316 s w (by omega) : Calls Tryd.prog 49 #[.string s] w fun e w' => e = .returned (.string s) ∧ Below w.heap.size w w')
  have HC := hide hc
  clear hc
  go_enter Tryd.func34, Tryd.ntmps34
  go_wp2_with fail
  refine (HC.out _).mono ?_
  rintro e w1 ⟨rfl, b1⟩
  go_wp2_with fail
  go_ret
  exact ⟨rfl, b1⟩
end Go.Proofs.YtnojgejcmaajmaaDoor

namespace Go.Proofs.YtnojgejcmaajmaaDoor
open Go.RowKit
set_option maxRecDepth 100000
/-- The program's two tables. -/
structure KTabs (w : World) : Prop where
  types : ∀ k, k < 30 → w.cell? ⟨1, k, none⟩ = some (.string (typeN k))
  last : ∀ k, k < 8 → w.cell? ⟨0, k, none⟩ = some (.string (lastN k))
theorem KTabs.below {w w' : World} (h : KTabs w) (hb : Below w.heap.size w w') : KTabs w' :=
  ⟨fun k hk => (hb.cell (World.block_lt_of_cell? _ _ (h.types k hk))).trans (h.types k hk), fun k hk => (hb.cell (World.block_lt_of_cell? _ _ (h.last k hk))).trans (h.last k hk)⟩
theorem index_types (k : Nat) (hk : k < 30) (w : World) :
    (Instr.index 82 (.agg #[.string (typeN 0), .string (typeN 1), .string (typeN 2), .string (typeN 3), .string (typeN 4), .string (typeN 5), .string (typeN 6), .string (typeN 7), .string (typeN 8), .string (typeN 9), .string (typeN 10), .string (typeN 11), .string (typeN 12), .string (typeN 13), .string (typeN 14), .string (typeN 15), .string (typeN 16), .string (typeN 17), .string (typeN 18), .string (typeN 19), .string (typeN 20), .string (typeN 21), .string (typeN 22), .string (typeN 23), .string (typeN 24), .string (typeN 25), .string (typeN 26), .string (typeN 27), .string (typeN 28), .string (typeN 29)]) (.int .i64 k)).run Tryd.prog w = .ok (.string (typeN k)) w := by
  match k, hk with
  | 0, _ => rfl
  | 1, _ => rfl
  | 2, _ => rfl
  | 3, _ => rfl
  | 4, _ => rfl
  | 5, _ => rfl
  | 6, _ => rfl
  | 7, _ => rfl
  | 8, _ => rfl
  | 9, _ => rfl
  | 10, _ => rfl
  | 11, _ => rfl
  | 12, _ => rfl
  | 13, _ => rfl
  | 14, _ => rfl
  | 15, _ => rfl
  | 16, _ => rfl
  | 17, _ => rfl
  | 18, _ => rfl
  | 19, _ => rfl
  | 20, _ => rfl
  | 21, _ => rfl
  | 22, _ => rfl
  | 23, _ => rfl
  | 24, _ => rfl
  | 25, _ => rfl
  | 26, _ => rfl
  | 27, _ => rfl
  | 28, _ => rfl
  | 29, _ => rfl
  | k + 30, h => exact absurd h (by omega)
theorem index_last (k : Nat) (hk : k < 8) (w : World) :
    (Instr.index 74 (.agg #[.string (lastN 0), .string (lastN 1), .string (lastN 2), .string (lastN 3), .string (lastN 4), .string (lastN 5), .string (lastN 6), .string (lastN 7)]) (.int .i64 k)).run Tryd.prog w = .ok (.string (lastN k)) w := by
  match k, hk with
  | 0, _ => rfl
  | 1, _ => rfl
  | 2, _ => rfl
  | 3, _ => rfl
  | 4, _ => rfl
  | 5, _ => rfl
  | 6, _ => rfl
  | 7, _ => rfl
  | k + 8, h => exact absurd h (by omega)
/-- A whole table, as it lies there. -/
theorem range_texts (w : World) (g n : Nat) (f : Nat → ByteArray) (h : ∀ k, k < n → w.cell? ⟨g, k, none⟩ = some (.string (f k))) : w.rangeAt g 0 ((List.range n).map fun k => Value.string (f k)) := by
  intro j v hv
  rw [Nat.zero_add]
  rw [List.getElem?_map] at hv
  by_cases hj : j < n
  · rw [List.getElem?_range hj] at hv
    cases hv
    exact h j hj
  · rw [List.getElem?_eq_none (by rw [List.length_range]; omega)] at hv
    cases hv
theorem load_types (w : World) (hT : KTabs w) : ∃ CS : List Value, w.rangeAt 1 0 CS ∧ (Tryd.prog.info? 82).map (·.size) = some CS.length ∧ ∀ (k : Nat) (_ : k < 30) W, (Instr.index 82 (.agg CS.toArray) (.int .i64 k)).run Tryd.prog W = .ok (.string (typeN k)) W :=
  ⟨_, range_texts w _ 30 typeN hT.types, by rw [List.length_map, List.length_range]; kernel_rfl, fun k hk W => index_types k hk W⟩
theorem load_last (w : World) (hT : KTabs w) : ∃ CS : List Value, w.rangeAt 0 0 CS ∧ (Tryd.prog.info? 74).map (·.size) = some CS.length ∧ ∀ (k : Nat) (_ : k < 8) W, (Instr.index 74 (.agg CS.toArray) (.int .i64 k)).run Tryd.prog W = .ok (.string (lastN k)) W :=
  ⟨_, range_texts w _ 8 lastN hT.last, by rw [List.length_map, List.length_range]; kernel_rfl, fun k hk W => index_last k hk W⟩
theorem typeS_none {k : Int} (h : ∀ n : Nat, 1 ≤ n → n ≤ 29 → ¬ k = (n : Int)) : typeS k = ⟨#[]⟩ := by
  unfold typeS
  split
  · rename_i q
    have : k = 0 := by
      by_cases e : k = 0
      · exact e
      · exact absurd (show k = (k.toNat : Int) by omega) (h k.toNat (by omega) (by omega))
    rw [this]; rfl
  · rfl
set_option maxHeartbeats 4000000 in
theorem refType_any (k : Int) (w : World) :
    Calls Tryd.prog 55 #[.int .i64 k] w fun e w' => e = .returned (.string (typeS k)) ∧ w' = w := by
  by_cases h : 1 ≤ k ∧ k ≤ 29
  · obtain ⟨n, rfl⟩ : ∃ n : Nat, k = (n : Int) := ⟨k.toNat, by omega⟩
    have hn : n < 30 := by omega
    have h1 : 1 ≤ n := by omega
    clear h
    match n, hn, h1 with
    | 1, _, _ =>
      go_enter Tryd.func55, Tryd.ntmps55
      go_wp2_with fail
      go_ret
      exact ⟨rfl, rfl⟩
    | 2, _, _ =>
      go_enter Tryd.func55, Tryd.ntmps55
      go_wp2_with fail
      go_ret
      exact ⟨rfl, rfl⟩
    | 3, _, _ =>
      go_enter Tryd.func55, Tryd.ntmps55
      go_wp2_with fail
      go_ret
      exact ⟨rfl, rfl⟩
    | 4, _, _ =>
      go_enter Tryd.func55, Tryd.ntmps55
      go_wp2_with fail
      go_ret
      exact ⟨rfl, rfl⟩
    | 5, _, _ =>
      go_enter Tryd.func55, Tryd.ntmps55
      go_wp2_with fail
      go_ret
      exact ⟨rfl, rfl⟩
    | 6, _, _ =>
      go_enter Tryd.func55, Tryd.ntmps55
      go_wp2_with fail
      go_ret
      exact ⟨rfl, rfl⟩
    | 7, _, _ =>
      go_enter Tryd.func55, Tryd.ntmps55
      go_wp2_with fail
      go_ret
      exact ⟨rfl, rfl⟩
    | 8, _, _ =>
      go_enter Tryd.func55, Tryd.ntmps55
      go_wp2_with fail
      go_ret
      exact ⟨rfl, rfl⟩
    | 9, _, _ =>
      go_enter Tryd.func55, Tryd.ntmps55
      go_wp2_with fail
      go_ret
      exact ⟨rfl, rfl⟩
    | 10, _, _ =>
      go_enter Tryd.func55, Tryd.ntmps55
      go_wp2_with fail
      go_ret
      exact ⟨rfl, rfl⟩
    | 11, _, _ =>
      go_enter Tryd.func55, Tryd.ntmps55
      go_wp2_with fail
      go_ret
      exact ⟨rfl, rfl⟩
    | 12, _, _ =>
      go_enter Tryd.func55, Tryd.ntmps55
      go_wp2_with fail
      go_ret
      exact ⟨rfl, rfl⟩
    | 13, _, _ =>
      go_enter Tryd.func55, Tryd.ntmps55
      go_wp2_with fail
      go_ret
      exact ⟨rfl, rfl⟩
    | 14, _, _ =>
      go_enter Tryd.func55, Tryd.ntmps55
      go_wp2_with fail
      go_ret
      exact ⟨rfl, rfl⟩
    | 15, _, _ =>
      go_enter Tryd.func55, Tryd.ntmps55
      go_wp2_with fail
      go_ret
      exact ⟨rfl, rfl⟩
    | 16, _, _ =>
      go_enter Tryd.func55, Tryd.ntmps55
      go_wp2_with fail
      go_ret
      exact ⟨rfl, rfl⟩
    | 17, _, _ =>
      go_enter Tryd.func55, Tryd.ntmps55
      go_wp2_with fail
      go_ret
      exact ⟨rfl, rfl⟩
    | 18, _, _ =>
      go_enter Tryd.func55, Tryd.ntmps55
      go_wp2_with fail
      go_ret
      exact ⟨rfl, rfl⟩
    | 19, _, _ =>
      go_enter Tryd.func55, Tryd.ntmps55
      go_wp2_with fail
      go_ret
      exact ⟨rfl, rfl⟩
    | 20, _, _ =>
      go_enter Tryd.func55, Tryd.ntmps55
      go_wp2_with fail
      go_ret
      exact ⟨rfl, rfl⟩
    | 21, _, _ =>
      go_enter Tryd.func55, Tryd.ntmps55
      go_wp2_with fail
      go_ret
      exact ⟨rfl, rfl⟩
    | 22, _, _ =>
      go_enter Tryd.func55, Tryd.ntmps55
      go_wp2_with fail
      go_ret
      exact ⟨rfl, rfl⟩
    | 23, _, _ =>
      go_enter Tryd.func55, Tryd.ntmps55
      go_wp2_with fail
      go_ret
      exact ⟨rfl, rfl⟩
    | 24, _, _ =>
      go_enter Tryd.func55, Tryd.ntmps55
      go_wp2_with fail
      go_ret
      exact ⟨rfl, rfl⟩
    | 25, _, _ =>
      go_enter Tryd.func55, Tryd.ntmps55
      go_wp2_with fail
      go_ret
      exact ⟨rfl, rfl⟩
    | 26, _, _ =>
      go_enter Tryd.func55, Tryd.ntmps55
      go_wp2_with fail
      go_ret
      exact ⟨rfl, rfl⟩
    | 27, _, _ =>
      go_enter Tryd.func55, Tryd.ntmps55
      go_wp2_with fail
      go_ret
      exact ⟨rfl, rfl⟩
    | 28, _, _ =>
      go_enter Tryd.func55, Tryd.ntmps55
      go_wp2_with fail
      go_ret
      exact ⟨rfl, rfl⟩
    | 29, _, _ =>
      go_enter Tryd.func55, Tryd.ntmps55
      go_wp2_with fail
      go_ret
      exact ⟨rfl, rfl⟩
    | n + 30, q, _ => exact absurd q (by omega)
  · have E : Hid (typeS k = ⟨#[]⟩) := typeS_none (fun n h1 h2 q => h (by omega))
    have e1 : (k == 1) = false := by rw [beq_eq_false_iff_ne]; omega
    have e2 : (k == 2) = false := by rw [beq_eq_false_iff_ne]; omega
    have e3 : (k == 3) = false := by rw [beq_eq_false_iff_ne]; omega
    have e4 : (k == 4) = false := by rw [beq_eq_false_iff_ne]; omega
    have e5 : (k == 5) = false := by rw [beq_eq_false_iff_ne]; omega
    have e6 : (k == 6) = false := by rw [beq_eq_false_iff_ne]; omega
    have e7 : (k == 7) = false := by rw [beq_eq_false_iff_ne]; omega
    have e8 : (k == 8) = false := by rw [beq_eq_false_iff_ne]; omega
    have e9 : (k == 9) = false := by rw [beq_eq_false_iff_ne]; omega
    have e10 : (k == 10) = false := by rw [beq_eq_false_iff_ne]; omega
    have e11 : (k == 11) = false := by rw [beq_eq_false_iff_ne]; omega
    have e12 : (k == 12) = false := by rw [beq_eq_false_iff_ne]; omega
    have e13 : (k == 13) = false := by rw [beq_eq_false_iff_ne]; omega
    have e14 : (k == 14) = false := by rw [beq_eq_false_iff_ne]; omega
    have e15 : (k == 15) = false := by rw [beq_eq_false_iff_ne]; omega
    have e16 : (k == 16) = false := by rw [beq_eq_false_iff_ne]; omega
    have e17 : (k == 17) = false := by rw [beq_eq_false_iff_ne]; omega
    have e18 : (k == 18) = false := by rw [beq_eq_false_iff_ne]; omega
    have e19 : (k == 19) = false := by rw [beq_eq_false_iff_ne]; omega
    have e20 : (k == 20) = false := by rw [beq_eq_false_iff_ne]; omega
    have e21 : (k == 21) = false := by rw [beq_eq_false_iff_ne]; omega
    have e22 : (k == 22) = false := by rw [beq_eq_false_iff_ne]; omega
    have e23 : (k == 23) = false := by rw [beq_eq_false_iff_ne]; omega
    have e24 : (k == 24) = false := by rw [beq_eq_false_iff_ne]; omega
    have e25 : (k == 25) = false := by rw [beq_eq_false_iff_ne]; omega
    have e26 : (k == 26) = false := by rw [beq_eq_false_iff_ne]; omega
    have e27 : (k == 27) = false := by rw [beq_eq_false_iff_ne]; omega
    have e28 : (k == 28) = false := by rw [beq_eq_false_iff_ne]; omega
    have e29 : (k == 29) = false := by rw [beq_eq_false_iff_ne]; omega
    clear h
    go_enter Tryd.func55, Tryd.ntmps55
    go_wp2_with fail
    go_ret
    exact ⟨ret_str E.out.symm, rfl⟩
end Go.Proofs.YtnojgejcmaajmaaDoor

namespace Go.Proofs.YtnojgejcmaajmaaDoor
open Go.RowKit
set_option maxRecDepth 100000
theorem byteTypes : ByteTypes Tryd.prog 44 5 9 := ⟨Tryd.underlying44, Tryd.underlying5, Tryd.underlying9, by kernel_rfl⟩
/-- Behind k rounds: the first k bytes of the new row are small, the others as they were. -/
structure LowAt (w : World) (s : ByteArray) (k : Nat) (wr : World) : Prop where
  cells : ∀ j, j < s.size → wr.cell? ⟨w.heap.size, j, none⟩ = some (.int .u8 ((if j < k then lowB (byteAt s j) else byteAt s j).toNat : Int))
  free : ∀ j, j < s.size → wr.frozen? ⟨w.heap.size, j, none⟩ = false
  below : Below w.heap.size w wr
theorem lowAt_start (w : World) (s : ByteArray) : LowAt w s 0 (Lib.bytesWorld w 5 s) :=
  ⟨fun j hj => by rw [Lib.bytesWorld_cell _ _ _ _ hj]; rfl, fun j hj => bytes_free w 5 s j hj, bytes_below w 5 s⟩
theorem lowAt_here {w : World} {s : ByteArray} {k : Nat} {wr : World} (h : LowAt w s k wr) (hk : k < s.size) : wr.cell? ⟨w.heap.size, k, none⟩ = some (.int .u8 ((byteAt s k).toNat : Int)) := by
  rw [h.cells k hk, if_neg (by omega)]
theorem lowAt_yes {w : World} {s : ByteArray} {k : Nat} {wr : World} (h : LowAt w s k wr) (hk : k < s.size) (h1 : 65 ≤ (byteAt s k).toNat) (h2 : (byteAt s k).toNat ≤ 90) :
    LowAt w s (k + 1) (wr.setCell ⟨w.heap.size, k, none⟩ (.int .u8 (((byteAt s k).toNat : Int) - 65 + 97))) := by
  refine ⟨fun j hj => ?_, fun j hj => ?_, h.below.setCell (Nat.le_refl _) _⟩
  · by_cases e : j = k
    · subst e
      rw [World.cell?_setCell_same _ _ _ (lowAt_here h hk), if_pos (by omega), lowB_yes _ h1 h2]
      congr 2; omega
    · rw [World.cell?_setCell_other _ _ _ _ (fun x => e (by simpa using x.symm)), h.cells j hj]
      by_cases e2 : j < k
      · rw [if_pos e2, if_pos (by omega)]
      · rw [if_neg e2, if_neg (by omega)]
  · rw [World.frozen?_setCell]; exact h.free j hj
theorem lowAt_no {w : World} {s : ByteArray} {k : Nat} {wr : World} (h : LowAt w s k wr) (h1 : ¬ (65 ≤ (byteAt s k).toNat ∧ (byteAt s k).toNat ≤ 90)) : LowAt w s (k + 1) wr := by
  refine ⟨fun j hj => ?_, h.free, h.below⟩
  rw [h.cells j hj]
  by_cases e2 : j < k
  · rw [if_pos e2, if_pos (by omega)]
  · by_cases e : j = k
    · subst e; rw [if_neg (by omega), if_pos (by omega), lowB_no _ h1]
    · rw [if_neg e2, if_neg (by omega)]
theorem lowAt_end {w : World} {s : ByteArray} {wr : World} (h : LowAt w s s.size wr) (cap : Nat) :
    (convert 44 9 (.slice (some ⟨w.heap.size, 0, none⟩) s.size cap)).run Tryd.prog wr = .ok (.string (lowS s)) wr := by
  have hl : ((lowL s.data.toList).map fun c => (c.toNat : Int)).length = s.size := by simp [lowL]
  have := run_convert_bytes_arg (P := Tryd.prog) wr 44 5 byteTypes.sl byteTypes.el w.heap.size 0 s.size cap _ hl (fun i hi => by
    rw [Nat.zero_add, h.cells i hi, if_pos hi]
    simp [lowL, byteAt, List.getD, hi]) 9 byteTypes.str
  rw [this, strOfNums_bytes]; rfl
set_option maxHeartbeats 400000 in
theorem lower_any (s : ByteArray) (w : World) (hs : s.size ≤ maxLen) :
    Calls Tryd.prog 33 #[.string s] w fun e w' => e = .returned (.string (lowS s)) ∧ Below w.heap.size w w' := by
  unfold maxLen at hs
  have hconv := fun w => Lib.run_convert_string_bytes (P := Tryd.prog) w 9 44 5 s byteTypes.str byteTypes.sl byteTypes.el
  go_enter Tryd.func33, Tryd.ntmps33
  go_wp2
  go_loopw [10] (fun i wr => ∃ k : Nat, k ≤ s.size ∧ i = .int .i64 k ∧ LowAt w s k wr) (fun i _ => s.size - (intOf i).toNat)
  case atStart => exact ⟨0, Nat.zero_le _, rfl, lowAt_start w s⟩
  case round =>
    obtain ⟨k, hk, rfl, hl⟩ := hrel
    by_cases hlt : k < s.size
    · have hc := lowAt_here hl hlt
      have hf := hl.free k hlt
      have hb : ((byteAt s k).toNat : Int) ≤ 255 := by have := (byteAt s k).toNat_lt; omega
      have HY := hide (lowAt_yes hl hlt)
      have HN := hide (lowAt_no hl)
      go_wp2
      · go_roundw
        case rel => exact ⟨k + 1, by omega, by go_num, HY.out (by omega) (by omega)⟩
        case measure => simp [intOf]; omega
      · go_roundw
        case rel => exact ⟨k + 1, by omega, by go_num, HN.out (by omega)⟩
        case measure => simp [intOf]; omega
      · go_roundw
        case rel => exact ⟨k + 1, by omega, by go_num, HN.out (by omega)⟩
        case measure => simp [intOf]; omega
    · have e : k = s.size := by omega
      subst e
      have hend := lowAt_end hl (grownCap w s.size 0 5)
      go_wp2
      go_ret
      exact ⟨rfl, hl.below⟩

end Go.Proofs.YtnojgejcmaajmaaDoor
