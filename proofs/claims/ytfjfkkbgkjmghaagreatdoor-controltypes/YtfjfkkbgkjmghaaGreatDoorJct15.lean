/- The program's unitOf of layer 12. What strings.TrimRight answers at noughts. What strings.CutPrefix, strings.Cut and strings.TrimRight answer. The program's cut, millionths and Parse answer by the functions of 'Num' and 'NumProg'. The program's cut answers by the parts of a number's text. The program's Show answers by the function of 'Num'. -/
import Derived.Test.YtfjfkkbgkjmghaaGreatDoorJct6
import Derived.Test.YtfjfkkbgkjmghaaGreatDoorJct16
import Derived.Test.YtfjfkkbgkjmghaaGreatDoorJct17
import Derived.Test.YtfjfkkbgkjmghaaGreatDoorJct18
import Derived.Shelf.Strings.Trim
import Derived.Shelf.Strings.Cut
import Derived.Shelf.Small.Wraps

namespace Go.Proofs.YtfjfkkbgkjmghaaGreatDoor
open Go.RowKit
set_option maxRecDepth 100000
/-- A kind's row of the table of units. -/
def momK (k : Int) : Int := if k ≤ 12 then k - 7 else 0
def UnitAt (w : World) (k : Nat) : Prop := w.cell? ⟨0, k * 3, none⟩ = some (.int .i64 (momK (k + 8))) ∧ w.cell? ⟨0, k * 3 + 1, none⟩ = some (.int .i64 (scaleK (k + 8))) ∧ w.cell? ⟨0, k * 3 + 2, none⟩ = some (.int .i64 (defK (k + 8)))
def Units (w : World) : Prop := ∀ k, k < 7 → UnitAt w k
theorem Units.below {w w' : World} (h : Units w) (hb : Below w.heap.size w w') : Units w' := fun k hk => ⟨(hb.cell (World.block_lt_of_cell? _ _ (h k hk).1)).trans (h k hk).1, (hb.cell (World.block_lt_of_cell? _ _ (h k hk).2.1)).trans (h k hk).2.1, (hb.cell (World.block_lt_of_cell? _ _ (h k hk).2.2)).trans (h k hk).2.2⟩
def rowU (k : Int) : Value := if 8 ≤ k ∧ k ≤ 14 then .agg #[.int .i64 (momK k), .int .i64 (scaleK k), .int .i64 (defK k)] else .agg #[.int .i64 0, .int .i64 0, .int .i64 0]
set_option maxHeartbeats 4000000 in
set_option maxRecDepth 100000 in
theorem unitOf_8 (w : World) (hU : Units w) : Calls Tryz.prog 115 #[.int .i64 8] w fun e w' => e = .returned (.agg #[.int .i64 1, .int .i64 86400000, .int .i64 86400000]) ∧ Below w.heap.size w w' := by
  obtain ⟨c0, c1, c2⟩ := hU 0 (by decide)
  rw [show momK ((0 : Nat) + 8) = 1 by decide] at c0
  rw [show scaleK ((0 : Nat) + 8) = 86400000 by decide] at c1
  rw [show defK ((0 : Nat) + 8) = 86400000 by decide] at c2
  have c3 : w.cell? ⟨0, 0, none⟩ = some (.int .i64 1) := c0
  have c4 : w.cell? ⟨0, 1, none⟩ = some (.int .i64 86400000) := c1
  have c5 : w.cell? ⟨0, 2, none⟩ = some (.int .i64 86400000) := c2
  have hlt : 0 < w.heap.size := World.block_lt_of_cell? _ _ c3
  have hne : 0 ≠ w.heap.size := by omega
  clear c0 c1 c2 hU
  go_enter Tryz.func115, Tryz.ntmps115
  go_wp2_with fail
  refine bodyPost_ret (v := .agg #[.int .i64 1, .int .i64 86400000, .int .i64 86400000]) (by simp [results, go_sem]) rfl ?_
  exact ⟨rfl, (Below.refl _ w).alloc (Nat.le_refl _) _⟩
set_option maxHeartbeats 4000000 in
set_option maxRecDepth 100000 in
theorem unitOf_9 (w : World) (hU : Units w) : Calls Tryz.prog 115 #[.int .i64 9] w fun e w' => e = .returned (.agg #[.int .i64 2, .int .i64 1, .int .i64 1]) ∧ Below w.heap.size w w' := by
  obtain ⟨c0, c1, c2⟩ := hU 1 (by decide)
  rw [show momK ((1 : Nat) + 8) = 2 by decide] at c0
  rw [show scaleK ((1 : Nat) + 8) = 1 by decide] at c1
  rw [show defK ((1 : Nat) + 8) = 1 by decide] at c2
  have c3 : w.cell? ⟨0, 3, none⟩ = some (.int .i64 2) := c0
  have c4 : w.cell? ⟨0, 4, none⟩ = some (.int .i64 1) := c1
  have c5 : w.cell? ⟨0, 5, none⟩ = some (.int .i64 1) := c2
  have hlt : 0 < w.heap.size := World.block_lt_of_cell? _ _ c3
  have hne : 0 ≠ w.heap.size := by omega
  clear c0 c1 c2 hU
  go_enter Tryz.func115, Tryz.ntmps115
  go_wp2_with fail
  refine bodyPost_ret (v := .agg #[.int .i64 2, .int .i64 1, .int .i64 1]) (by simp [results, go_sem]) rfl ?_
  exact ⟨rfl, (Below.refl _ w).alloc (Nat.le_refl _) _⟩
set_option maxHeartbeats 4000000 in
set_option maxRecDepth 100000 in
theorem unitOf_10 (w : World) (hU : Units w) : Calls Tryz.prog 115 #[.int .i64 10] w fun e w' => e = .returned (.agg #[.int .i64 3, .int .i64 604800000, .int .i64 604800000]) ∧ Below w.heap.size w w' := by
  obtain ⟨c0, c1, c2⟩ := hU 2 (by decide)
  rw [show momK ((2 : Nat) + 8) = 3 by decide] at c0
  rw [show scaleK ((2 : Nat) + 8) = 604800000 by decide] at c1
  rw [show defK ((2 : Nat) + 8) = 604800000 by decide] at c2
  have c3 : w.cell? ⟨0, 6, none⟩ = some (.int .i64 3) := c0
  have c4 : w.cell? ⟨0, 7, none⟩ = some (.int .i64 604800000) := c1
  have c5 : w.cell? ⟨0, 8, none⟩ = some (.int .i64 604800000) := c2
  have hlt : 0 < w.heap.size := World.block_lt_of_cell? _ _ c3
  have hne : 0 ≠ w.heap.size := by omega
  clear c0 c1 c2 hU
  go_enter Tryz.func115, Tryz.ntmps115
  go_wp2_with fail
  refine bodyPost_ret (v := .agg #[.int .i64 3, .int .i64 604800000, .int .i64 604800000]) (by simp [results, go_sem]) rfl ?_
  exact ⟨rfl, (Below.refl _ w).alloc (Nat.le_refl _) _⟩
set_option maxHeartbeats 4000000 in
set_option maxRecDepth 100000 in
theorem unitOf_11 (w : World) (hU : Units w) : Calls Tryz.prog 115 #[.int .i64 11] w fun e w' => e = .returned (.agg #[.int .i64 4, .int .i64 1000, .int .i64 60000]) ∧ Below w.heap.size w w' := by
  obtain ⟨c0, c1, c2⟩ := hU 3 (by decide)
  rw [show momK ((3 : Nat) + 8) = 4 by decide] at c0
  rw [show scaleK ((3 : Nat) + 8) = 1000 by decide] at c1
  rw [show defK ((3 : Nat) + 8) = 60000 by decide] at c2
  have c3 : w.cell? ⟨0, 9, none⟩ = some (.int .i64 4) := c0
  have c4 : w.cell? ⟨0, 10, none⟩ = some (.int .i64 1000) := c1
  have c5 : w.cell? ⟨0, 11, none⟩ = some (.int .i64 60000) := c2
  have hlt : 0 < w.heap.size := World.block_lt_of_cell? _ _ c3
  have hne : 0 ≠ w.heap.size := by omega
  clear c0 c1 c2 hU
  go_enter Tryz.func115, Tryz.ntmps115
  go_wp2_with fail
  refine bodyPost_ret (v := .agg #[.int .i64 4, .int .i64 1000, .int .i64 60000]) (by simp [results, go_sem]) rfl ?_
  exact ⟨rfl, (Below.refl _ w).alloc (Nat.le_refl _) _⟩
set_option maxHeartbeats 4000000 in
set_option maxRecDepth 100000 in
theorem unitOf_12 (w : World) (hU : Units w) : Calls Tryz.prog 115 #[.int .i64 12] w fun e w' => e = .returned (.agg #[.int .i64 5, .int .i64 1000, .int .i64 60000]) ∧ Below w.heap.size w w' := by
  obtain ⟨c0, c1, c2⟩ := hU 4 (by decide)
  rw [show momK ((4 : Nat) + 8) = 5 by decide] at c0
  rw [show scaleK ((4 : Nat) + 8) = 1000 by decide] at c1
  rw [show defK ((4 : Nat) + 8) = 60000 by decide] at c2
  have c3 : w.cell? ⟨0, 12, none⟩ = some (.int .i64 5) := c0
  have c4 : w.cell? ⟨0, 13, none⟩ = some (.int .i64 1000) := c1
  have c5 : w.cell? ⟨0, 14, none⟩ = some (.int .i64 60000) := c2
  have hlt : 0 < w.heap.size := World.block_lt_of_cell? _ _ c3
  have hne : 0 ≠ w.heap.size := by omega
  clear c0 c1 c2 hU
  go_enter Tryz.func115, Tryz.ntmps115
  go_wp2_with fail
  refine bodyPost_ret (v := .agg #[.int .i64 5, .int .i64 1000, .int .i64 60000]) (by simp [results, go_sem]) rfl ?_
  exact ⟨rfl, (Below.refl _ w).alloc (Nat.le_refl _) _⟩
set_option maxHeartbeats 4000000 in
set_option maxRecDepth 100000 in
theorem unitOf_13 (w : World) (hU : Units w) : Calls Tryz.prog 115 #[.int .i64 13] w fun e w' => e = .returned (.agg #[.int .i64 0, .int .i64 1000000, .int .i64 1000000]) ∧ Below w.heap.size w w' := by
  obtain ⟨c0, c1, c2⟩ := hU 5 (by decide)
  rw [show momK ((5 : Nat) + 8) = 0 by decide] at c0
  rw [show scaleK ((5 : Nat) + 8) = 1000000 by decide] at c1
  rw [show defK ((5 : Nat) + 8) = 1000000 by decide] at c2
  have c3 : w.cell? ⟨0, 15, none⟩ = some (.int .i64 0) := c0
  have c4 : w.cell? ⟨0, 16, none⟩ = some (.int .i64 1000000) := c1
  have c5 : w.cell? ⟨0, 17, none⟩ = some (.int .i64 1000000) := c2
  have hlt : 0 < w.heap.size := World.block_lt_of_cell? _ _ c3
  have hne : 0 ≠ w.heap.size := by omega
  clear c0 c1 c2 hU
  go_enter Tryz.func115, Tryz.ntmps115
  go_wp2_with fail
  refine bodyPost_ret (v := .agg #[.int .i64 0, .int .i64 1000000, .int .i64 1000000]) (by simp [results, go_sem]) rfl ?_
  exact ⟨rfl, (Below.refl _ w).alloc (Nat.le_refl _) _⟩
set_option maxHeartbeats 4000000 in
set_option maxRecDepth 100000 in
theorem unitOf_14 (w : World) (hU : Units w) : Calls Tryz.prog 115 #[.int .i64 14] w fun e w' => e = .returned (.agg #[.int .i64 0, .int .i64 1000000, .int .i64 1000000]) ∧ Below w.heap.size w w' := by
  obtain ⟨c0, c1, c2⟩ := hU 6 (by decide)
  rw [show momK ((6 : Nat) + 8) = 0 by decide] at c0
  rw [show scaleK ((6 : Nat) + 8) = 1000000 by decide] at c1
  rw [show defK ((6 : Nat) + 8) = 1000000 by decide] at c2
  have c3 : w.cell? ⟨0, 18, none⟩ = some (.int .i64 0) := c0
  have c4 : w.cell? ⟨0, 19, none⟩ = some (.int .i64 1000000) := c1
  have c5 : w.cell? ⟨0, 20, none⟩ = some (.int .i64 1000000) := c2
  have hlt : 0 < w.heap.size := World.block_lt_of_cell? _ _ c3
  have hne : 0 ≠ w.heap.size := by omega
  clear c0 c1 c2 hU
  go_enter Tryz.func115, Tryz.ntmps115
  go_wp2_with fail
  refine bodyPost_ret (v := .agg #[.int .i64 0, .int .i64 1000000, .int .i64 1000000]) (by simp [results, go_sem]) rfl ?_
  exact ⟨rfl, (Below.refl _ w).alloc (Nat.le_refl _) _⟩
set_option maxHeartbeats 4000000 in
set_option maxRecDepth 100000 in
theorem unitOf_lt (k : Int) (w : World) (h : k < 8) : Calls Tryz.prog 115 #[.int .i64 k] w fun e w' => e = .returned (.agg #[.int .i64 0, .int .i64 0, .int .i64 0]) ∧ Below w.heap.size w w' := by
  go_enter Tryz.func115, Tryz.ntmps115
  go_wp2_with fail
  refine bodyPost_ret (v := .agg #[.int .i64 0, .int .i64 0, .int .i64 0]) (by simp [results, go_sem]) rfl ?_
  exact ⟨rfl, (Below.refl _ w).alloc (Nat.le_refl _) _⟩
set_option maxHeartbeats 4000000 in
set_option maxRecDepth 100000 in
theorem unitOf_gt (k : Int) (w : World) (h : 14 < k) : Calls Tryz.prog 115 #[.int .i64 k] w fun e w' => e = .returned (.agg #[.int .i64 0, .int .i64 0, .int .i64 0]) ∧ Below w.heap.size w w' := by
  have h8 : ¬ k < 8 := by omega
  have d8 : decide (k < 8) = false := decide_eq_false h8
  go_enter Tryz.func115, Tryz.ntmps115
  go_wp2_with fail
  refine bodyPost_ret (v := .agg #[.int .i64 0, .int .i64 0, .int .i64 0]) (by simp [results, go_sem]) rfl ?_
  exact ⟨rfl, (Below.refl _ w).alloc (Nat.le_refl _) _⟩
theorem unitOf_any (k : Int) (w : World) (hU : Units w) : Calls Tryz.prog 115 #[.int .i64 k] w fun e w' => e = .returned (rowU k) ∧ Below w.heap.size w w' := by
  by_cases h : 8 ≤ k ∧ k ≤ 14
  · rcases (show k = 8 ∨ k = 9 ∨ k = 10 ∨ k = 11 ∨ k = 12 ∨ k = 13 ∨ k = 14 by omega) with rfl | rfl | rfl | rfl | rfl | rfl | rfl
    · exact unitOf_8 w hU
    · exact unitOf_9 w hU
    · exact unitOf_10 w hU
    · exact unitOf_11 w hU
    · exact unitOf_12 w hU
    · exact unitOf_13 w hU
    · exact unitOf_14 w hU
  · unfold rowU
    rw [if_neg h]
    rcases (show k < 8 ∨ 14 < k by omega) with q | q
    · exact unitOf_lt k w q
    · exact unitOf_gt k w q
end Go.Proofs.YtfjfkkbgkjmghaaGreatDoor

namespace Go.Proofs.YtfjfkkbgkjmghaaGreatDoor
open Go.Shelf Go.RowKit
set_option maxRecDepth 100000
def trren : Go.Shelf.Ren := ⟨fun | 119 => 226 | 120 => 208 | 137 => 125 | 151 => 177 | 152 => 207 | 162 => 185 | 197 => 176 | 217 => 168 | 224 => 227 | 225 => 228 | 227 => 140 | 228 => 175 | 232 => 139 | 234 => 142 | 236 => 144 | 260 => 206 | 266 => 204 | 271 => 178 | n => n, fun | 0 => 0 | 3 => 3 | 4 => 4 | 5 => 5 | 9 => 9 | 21 => 21 | 46 => 194 | 72 => 108 | 105 => 167 | 116 => 139 | 117 => 140 | 119 => 193 | 124 => 143 | 138 => 196 | 139 => 197 | n => n, fun | 3 => 3 | 4 => 4 | n => n⟩
theorem lays162 : Go.Proofs.Lays.n162 Tryz.prog trren := {
  mixed := by kernel_rfl
  f119 := Tryz.func226.trans (congrArg some (by kernel_rfl))
  f120 := Tryz.func208.trans (congrArg some (by kernel_rfl))
  f137 := Tryz.func125.trans (congrArg some (by kernel_rfl))
  f151 := Tryz.func177.trans (congrArg some (by kernel_rfl))
  f152 := Tryz.func207.trans (congrArg some (by kernel_rfl))
  f162 := Tryz.func185.trans (congrArg some (by kernel_rfl))
  f197 := Tryz.func176.trans (congrArg some (by kernel_rfl))
  f217 := Tryz.func168.trans (congrArg some (by kernel_rfl))
  f224 := Tryz.func227.trans (congrArg some (by kernel_rfl))
  f225 := Tryz.func228.trans (congrArg some (by kernel_rfl))
  f227 := Tryz.func140.trans (congrArg some (by kernel_rfl))
  f228 := Tryz.func175.trans (congrArg some (by kernel_rfl))
  f232 := Tryz.func139.trans (congrArg some (by kernel_rfl))
  f234 := Tryz.func142.trans (congrArg some (by kernel_rfl))
  f236 := Tryz.func144.trans (congrArg some (by kernel_rfl))
  f260 := Tryz.func206.trans (congrArg some (by kernel_rfl))
  f266 := Tryz.func204.trans (congrArg some (by kernel_rfl))
  f271 := Tryz.func178.trans (congrArg some (by kernel_rfl))
  t0 := Tryz.underlying0
  a0 := Tryz.isAgg0
  z0 := Tryz.sizeOf0
  v0 := Tryz.zeroValue0
  t3 := Tryz.underlying3
  a3 := Tryz.isAgg3
  z3 := Tryz.sizeOf3
  v3 := Tryz.zeroValue3
  t4 := Tryz.underlying4
  a4 := Tryz.isAgg4
  z4 := Tryz.sizeOf4
  v4 := Tryz.zeroValue4
  t5 := Tryz.underlying5
  a5 := Tryz.isAgg5
  z5 := Tryz.sizeOf5
  v5 := Tryz.zeroValue5
  t9 := Tryz.underlying9
  a9 := Tryz.isAgg9
  z9 := Tryz.sizeOf9
  v9 := Tryz.zeroValue9
  t21 := Tryz.underlying21
  a21 := Tryz.isAgg21
  z21 := Tryz.sizeOf21
  v21 := Tryz.zeroValue21
  t46 := Tryz.underlying194
  a46 := Tryz.isAgg194
  z46 := Tryz.sizeOf194
  v46 := Tryz.zeroValue194
  t105 := Tryz.underlying167
  a105 := Tryz.isAgg167
  z105 := Tryz.sizeOf167
  v105 := Tryz.zeroValue167
  t116 := Tryz.underlying139
  a116 := Tryz.isAgg139
  z116 := Tryz.sizeOf139
  t117 := Tryz.underlying140
  a117 := Tryz.isAgg140
  z117 := Tryz.sizeOf140
  v117 := Tryz.zeroValue140
  t119 := Tryz.underlying193
  a119 := Tryz.isAgg193
  z119 := Tryz.sizeOf193
  t124 := Tryz.underlying143
  a124 := Tryz.isAgg143
  z124 := Tryz.sizeOf143
  v124 := Tryz.zeroValue143
  t138 := Tryz.underlying196
  a138 := Tryz.isAgg196
  z138 := Tryz.sizeOf196
  v138 := Tryz.zeroValue196
  t139 := Tryz.underlying197
  a139 := Tryz.isAgg197
  z139 := Tryz.sizeOf197
  v139 := Tryz.zeroValue197
  g3 := by kernel_rfl
  g4 := by kernel_rfl }
theorem trimRight_any (s : ByteArray) (w : World) (hs : s.size ≤ 9223372036854775807) :
    Calls Tryz.prog 185 #[.string s, .string ⟨#[48]⟩] w fun e w' => e = .returned (.string (txt (trimZ s.data.toList))) ∧ w' = w :=
  Any.strings_TrimRight_one lays162 s 48 (by decide) w hs
end Go.Proofs.YtfjfkkbgkjmghaaGreatDoor

namespace Go.Proofs.YtfjfkkbgkjmghaaGreatDoor
open Go.Shelf Go.RowKit
set_option maxRecDepth 100000
def cpren : Go.Shelf.Ren := ⟨fun | 103 => 182 | 206 => 230 | 210 => 212 | n => n, fun | 3 => 3 | 4 => 4 | 5 => 5 | 9 => 9 | 24 => 53 | 72 => 108 | n => n, fun  | n => n⟩
theorem lays103 : Go.Proofs.Lays.n103 Tryz.prog cpren := {
  mixed := by kernel_rfl
  f103 := Tryz.func182.trans (congrArg some (by kernel_rfl))
  f206 := Tryz.func230.trans (congrArg some (by kernel_rfl))
  f210 := Tryz.func212.trans (congrArg some (by kernel_rfl))
  t3 := Tryz.underlying3
  a3 := Tryz.isAgg3
  z3 := Tryz.sizeOf3
  v3 := Tryz.zeroValue3
  t4 := Tryz.underlying4
  a4 := Tryz.isAgg4
  z4 := Tryz.sizeOf4
  v4 := Tryz.zeroValue4
  t9 := Tryz.underlying9
  a9 := Tryz.isAgg9
  z9 := Tryz.sizeOf9
  v9 := Tryz.zeroValue9
  t24 := Tryz.underlying53
  a24 := Tryz.isAgg53
  z24 := Tryz.sizeOf53
  v24 := Tryz.zeroValue53 }
def ctren : Go.Shelf.Ren := ⟨fun | 145 => 183 | 217 => 168 | 219 => 211 | 220 => 213 | 224 => 227 | 225 => 228 | 266 => 204 | 267 => 229 | 314 => 242 | n => n, fun | 3 => 3 | 4 => 4 | 5 => 5 | 9 => 9 | 46 => 194 | 51 => 207 | 59 => 173 | 72 => 108 | 146 => 208 | n => n, fun | 1 => 1 | n => n⟩
theorem lays145 : Go.Proofs.Lays.n145 Tryz.prog ctren := {
  mixed := by kernel_rfl
  f145 := Tryz.func183.trans (congrArg some (by kernel_rfl))
  f217 := Tryz.func168.trans (congrArg some (by kernel_rfl))
  f219 := Tryz.func211.trans (congrArg some (by kernel_rfl))
  f220 := Tryz.func213.trans (congrArg some (by kernel_rfl))
  f224 := Tryz.func227.trans (congrArg some (by kernel_rfl))
  f225 := Tryz.func228.trans (congrArg some (by kernel_rfl))
  f266 := Tryz.func204.trans (congrArg some (by kernel_rfl))
  f267 := Tryz.func229.trans (congrArg some (by kernel_rfl))
  f314 := Tryz.func242.trans (congrArg some (by kernel_rfl))
  t3 := Tryz.underlying3
  a3 := Tryz.isAgg3
  z3 := Tryz.sizeOf3
  v3 := Tryz.zeroValue3
  t4 := Tryz.underlying4
  a4 := Tryz.isAgg4
  z4 := Tryz.sizeOf4
  v4 := Tryz.zeroValue4
  t5 := Tryz.underlying5
  a5 := Tryz.isAgg5
  z5 := Tryz.sizeOf5
  v5 := Tryz.zeroValue5
  t9 := Tryz.underlying9
  a9 := Tryz.isAgg9
  z9 := Tryz.sizeOf9
  v9 := Tryz.zeroValue9
  t46 := Tryz.underlying194
  a46 := Tryz.isAgg194
  z46 := Tryz.sizeOf194
  v46 := Tryz.zeroValue194
  t51 := Tryz.underlying207
  a51 := Tryz.isAgg207
  z51 := Tryz.sizeOf207
  v51 := Tryz.zeroValue207
  t59 := Tryz.underlying173
  a59 := Tryz.isAgg173
  z59 := Tryz.sizeOf173
  v59 := Tryz.zeroValue173
  t146 := Tryz.underlying208
  a146 := Tryz.isAgg208
  z146 := Tryz.sizeOf208
  v146 := Tryz.zeroValue208
  g1 := by kernel_rfl }
theorem cutPrefix_any (s : ByteArray) (w : World) :
    Calls Tryz.prog 182 #[.string s, .string ⟨#[45]⟩] w fun e w' => e = .returned (.tuple #[.string (txt (bodyV s.data.toList)), .bool (negV s.data.toList)]) ∧ w' = w := by
  have := Any.strings_CutPrefix lays103 s ⟨#[45]⟩ w
  have e1 : Lib.trimPrefix s.data.toList (⟨#[45]⟩ : ByteArray).data.toList = bodyV s.data.toList := body_prefix _
  have e2 : Lib.hasPrefix s.data.toList (⟨#[45]⟩ : ByteArray).data.toList = negV s.data.toList := neg_prefix _
  rw [e1, e2] at this
  exact this
theorem cutAt_no (l : List UInt8) (w : World) (hs : l.length < 4294967281) (hm : SomeMax w) (h : (46 : UInt8) ∉ l) :
    Calls Tryz.prog 183 #[.string (txt l), .string ⟨#[46]⟩] w fun e w' => e = .returned (.tuple #[.string (txt l), .string ⟨#[]⟩, .bool false]) ∧ Below w.heap.size w w' := by
  obtain ⟨m, hm⟩ := hm
  have := Any.strings_Cut lays145 (txt l) ⟨#[46]⟩ m w hs hm
  have e1 : Lib.cut (txt l).data.toList (⟨#[46]⟩ : ByteArray).data.toList = (l, [], false) := cut_no h
  rw [e1] at this
  refine this.mono ?_
  rintro e w' ⟨rfl, n, rfl⟩
  exact ⟨rfl, ⟨rfl, rfl, rfl, Nat.le_refl _, fun _ _ => rfl⟩⟩
theorem cutAt_yes (a b : List UInt8) (w : World) (hs : (a ++ 46 :: b).length < 4294967281) (hm : SomeMax w) (h : (46 : UInt8) ∉ a) :
    Calls Tryz.prog 183 #[.string (txt (a ++ 46 :: b)), .string ⟨#[46]⟩] w fun e w' => e = .returned (.tuple #[.string (txt a), .string (txt b), .bool true]) ∧ Below w.heap.size w w' := by
  obtain ⟨m, hm⟩ := hm
  have := Any.strings_Cut lays145 (txt (a ++ 46 :: b)) ⟨#[46]⟩ m w hs hm
  have e1 : Lib.cut (txt (a ++ 46 :: b)).data.toList (⟨#[46]⟩ : ByteArray).data.toList = (a, b, true) := cut_yes h
  rw [e1] at this
  refine this.mono ?_
  rintro e w' ⟨rfl, n, rfl⟩
  exact ⟨rfl, ⟨rfl, rfl, rfl, Nat.le_refl _, fun _ _ => rfl⟩⟩
end Go.Proofs.YtfjfkkbgkjmghaaGreatDoor

namespace Go.Proofs.YtfjfkkbgkjmghaaGreatDoor
open Go.RowKit
set_option maxRecDepth 100000
theorem ret_mil {n : Int} {b : Bool} {m : Int} {c : Bool} (h : n = m) (g : b = c) : Ending.returned (.tuple #[.int .i64 n, .bool b]) = .returned (.tuple #[.int .i64 m, .bool c]) := by rw [h, g]
set_option maxHeartbeats 1000000 in
theorem millionths_no (s : ByteArray) (w : World) (hs : s.size ≤ maxLen) (hn : someD (s.data.toList.drop 6) = true) :
    Calls Tryz.prog 148 #[.string s] w fun e w' => e = .returned (.tuple #[.int .i64 0, .bool false]) ∧ w' = w := by
  have hz := trimZ_size s.data.toList
  have hl := (trimZ_len s.data.toList).2 hn
  have hsz : s.data.toList.length = s.size := by simp
  unfold maxLen at hs
  have hT := fun w => trimRight_any s w (by omega)
  generalize trimZ s.data.toList = t at *
  have ht : (txt t).size = t.length := rfl
  have hl' : (6 : Int) < ((txt t).size : Int) := by omega
  have HT := hide hT
  clear hT hn
  go_enter Tryz.func148, Tryz.ntmps148
  go_wp2_with fail
  refine (HT.out _).mono ?_
  rintro e u1 ⟨rfl, rfl⟩
  go_wp2_with fail
  go_ret2
  exact ⟨rfl, rfl⟩
theorem tens_le {n t j : Nat} (h : n < 10 ^ t) (hj : t + j ≤ 6) : n * 10 ^ j ≤ 1000000 := by
  have h1 : n * 10 ^ j ≤ 10 ^ t * 10 ^ j := Nat.mul_le_mul_right _ (Nat.le_of_lt h)
  rw [← Nat.pow_add] at h1
  have h2 : 10 ^ (t + j) ≤ 10 ^ 6 := Nat.pow_le_pow_right (by decide) hj
  have h3 : 10 ^ 6 = 1000000 := by decide
  omega
theorem tens_next (n j : Nat) : n * 10 ^ (j + 1) = n * 10 ^ j * 10 := by rw [Nat.pow_succ, Nat.mul_assoc]
/-- A number with j noughts behind it. -/
structure TenAt (a j n : Nat) : Prop where
  is : n = a * 10 ^ j
set_option maxHeartbeats 1000000 in
theorem millionths_yes (s : ByteArray) (w : World) (hs : s.size ≤ maxLen) (hd : ∀ c ∈ s.data.toList, isDg c = true) (hn : someD (s.data.toList.drop 6) = false) :
    Calls Tryz.prog 148 #[.string s] w fun e w' => e = .returned (.tuple #[.int .i64 (fracOf 6 s.data.toList : Nat), .bool true]) ∧ w' = w := by
  have hl : (trimZ s.data.toList).length ≤ 6 := by
    rcases Nat.lt_or_ge 6 (trimZ s.data.toList).length with g | g
    · rw [(trimZ_len _).1 g] at hn; cases hn
    · exact g
  have hdt := trimZ_dg hd
  have hfr := trimZ_frac hl
  unfold maxLen at hs
  have hT := fun w => trimRight_any s w (by omega)
  generalize trimZ s.data.toList = t at *
  have hlt := natOf_lt t hdt
  have hW := fun w => wholePart_any (txt t) w (by rw [txt_size]; unfold maxLen; omega) hdt
  have ew : wholeV 0 (txt t).data.toList = natOf t := wholeV_eq 0 t (by
    have := tens_le (j := 0) hlt (by omega)
    unfold MW; unfold natOf at this; omega)
  rw [ew] at hW
  have ht : (txt t).size = t.length := rfl
  have hle := fun j => tens_le (j := j) hlt
  generalize natOf t = n at *
  have HT := hide hT
  have HW := hide hW
  have HF := hide hfr
  have HL := hide hle
  have hl' : ((txt t).size : Int) ≤ 6 := by omega
  clear hT hW hn hd hdt hlt hfr ew hle
  go_enter Tryz.func148, Tryz.ntmps148
  go_wp2_with fail
  refine (HT.out _).mono ?_
  rintro e u1 ⟨rfl, rfl⟩
  go_wp2_with fail
  refine (HW.out _).mono ?_
  rintro e u1 ⟨rfl, rfl⟩
  go_wp2_with fail
  go_loop [4, 15] (fun v i => ∃ j m : Nat, t.length + j ≤ 6 ∧ i = .int .i64 j ∧ v = .int .i64 m ∧ TenAt n j m) (fun _ i => 6 - (intOf i).toNat)
  case atStart => exact ⟨0, n, hl, rfl, rfl, ⟨by rw [Nat.pow_zero, Nat.mul_one]⟩⟩
  case round =>
    obtain ⟨j, m, hj, rfl, rfl, hm⟩ := hrel
    have hmb : m ≤ 1000000 := by rw [hm.is]; exact HL.out j hj
    by_cases hlt : t.length + j < 6
    · have E : TenAt n (j + 1) (m * 10) := ⟨by rw [tens_next, ← hm.is]⟩
      clear hm
      go_wp2_with fail
      go_round
      case rel => exact ⟨j + 1, m * 10, by omega, by go_num, by go_num, E⟩
      case measure => simp [intOf]; omega
    · have E : Hid (m = fracOf 6 s.data.toList) := by
        have e := HF.out
        rw [show 6 - t.length = j by omega] at e
        rw [hm.is]; exact e
      clear hm
      go_wp2_with fail
      go_ret2
      exact ⟨ret_mil (by rw [E.out]) rfl, rfl⟩
end Go.Proofs.YtfjfkkbgkjmghaaGreatDoor

namespace Go.Proofs.YtfjfkkbgkjmghaaGreatDoor
open Go.RowKit
set_option maxRecDepth 100000
theorem allDT_any (l : List UInt8) (w : World) (hs : l.length < 4294967281) :
    Calls Tryz.prog 184 #[.string (txt l)] w fun e w' => e = .returned (.bool (allD l)) ∧ w' = w :=
  allDigits_any (txt l) w (by rw [txt_size]; unfold maxLen; omega)
theorem allDN_any (w : World) : Calls Tryz.prog 184 #[.string ⟨#[]⟩] w fun e w' => e = .returned (.bool true) ∧ w' = w := allDT_any [] w (by decide)
theorem txt_none (l : List UInt8) : (txt l).toList = [] ↔ l = [] := by rw [ByteArray.toList_eq]; exact Iff.rfl
theorem txt_some {l : List UInt8} (h : l ≠ []) : (txt l).toList.isEmpty = false := by
  cases g : (txt l).toList.isEmpty with
  | false => rfl
  | true => exact absurd ((txt_none l).1 (List.isEmpty_iff.1 g)) h
theorem body_size (s : ByteArray) : (bodyV s.data.toList).length ≤ s.size := by
  have e : s.data.toList.length = s.size := by simp
  unfold bodyV
  split
  · rw [List.length_tail]; omega
  · omega
set_option maxHeartbeats 1000000 in
theorem cut_A1 (s : ByteArray) (hb : bodyV s.data.toList = []) (w : World) (_hs : s.size < 4294967281) (hM : SomeMax w) :
    Calls Tryz.prog 146 #[.string s] w fun e w' => e = .returned (.tuple #[.string ⟨#[]⟩, .string ⟨#[]⟩, .bool false, .bool false]) ∧ Below w.heap.size w w' := by
  have hz := body_size s
  have hn := (txt_none []).2 rfl
  have hP := fun w => cutPrefix_any s w
  rw [hb] at hP hz
  have HP := hide hP
  have HC := hide (cutAt_no [] w (by decide) hM (by decide))
  clear hP hb hM
  go_enter Tryz.func146, Tryz.ntmps146
  go_wp2_with fail
  refine (HP.out _).mono ?_
  rintro e u1 ⟨rfl, rfl⟩
  go_wp2_with fail
  refine HC.out.mono ?_
  rintro e w1 ⟨rfl, b1⟩
  go_wp2_with fail
  (try simp only [Exit.inBlock, Exit.then])
  refine bodyPost_ret (results_tmp4 rfl _ _ _) rfl ?_
  exact ⟨rfl, b1⟩
set_option maxHeartbeats 1000000 in
theorem cut_A2 (s : ByteArray) (b : List UInt8) (hb : bodyV s.data.toList = b) (hp : (46 : UInt8) ∉ b) (h0 : b ≠ []) (hd : allD b = false) (w : World) (hs : s.size < 4294967281) (hM : SomeMax w) :
    Calls Tryz.prog 146 #[.string s] w fun e w' => e = .returned (.tuple #[.string ⟨#[]⟩, .string ⟨#[]⟩, .bool false, .bool false]) ∧ Below w.heap.size w w' := by
  have hz := body_size s
  have hn := mt (txt_none b).1 h0
  have hn2 := txt_some h0
  have hl : b.length < 4294967281 := by rw [← hb]; omega
  have hD := fun w => allDT_any b w hl
  rw [hd] at hD
  have HD := hide hD
  clear hD hd h0
  have hP := fun w => cutPrefix_any s w
  rw [hb] at hP hz
  have HP := hide hP
  have HC := hide (cutAt_no b w (by omega) hM hp)
  clear hP hb hM
  go_enter Tryz.func146, Tryz.ntmps146
  go_wp2_with fail
  refine (HP.out _).mono ?_
  rintro e u1 ⟨rfl, rfl⟩
  go_wp2_with fail
  refine HC.out.mono ?_
  rintro e w1 ⟨rfl, b1⟩
  go_wp2_with fail
  refine (HD.out _).mono ?_
  rintro e u2 ⟨rfl, rfl⟩
  go_wp2_with fail
  (try simp only [Exit.inBlock, Exit.then])
  refine bodyPost_ret (results_tmp4 rfl _ _ _) rfl ?_
  exact ⟨rfl, b1⟩
set_option maxHeartbeats 1000000 in
theorem cut_A3 (s : ByteArray) (b : List UInt8) (hb : bodyV s.data.toList = b) (hp : (46 : UInt8) ∉ b) (h0 : b ≠ []) (hd : allD b = true) (w : World) (hs : s.size < 4294967281) (hM : SomeMax w) :
    Calls Tryz.prog 146 #[.string s] w fun e w' => e = .returned (.tuple #[.string (txt b), .string ⟨#[]⟩, .bool (negV s.data.toList), .bool true]) ∧ Below w.heap.size w w' := by
  have hz := body_size s
  have hn := mt (txt_none b).1 h0
  have hn2 := txt_some h0
  have hl : b.length < 4294967281 := by rw [← hb]; omega
  have hD := fun w => allDT_any b w hl
  rw [hd] at hD
  have HD := hide hD
  clear hD hd h0
  have hP := fun w => cutPrefix_any s w
  rw [hb] at hP hz
  have HP := hide hP
  have HC := hide (cutAt_no b w (by omega) hM hp)
  clear hP hb hM
  generalize negV s.data.toList = g at *
  go_enter Tryz.func146, Tryz.ntmps146
  go_wp2_with fail
  refine (HP.out _).mono ?_
  rintro e u1 ⟨rfl, rfl⟩
  go_wp2_with fail
  refine HC.out.mono ?_
  rintro e w1 ⟨rfl, b1⟩
  go_wp2_with fail
  refine (HD.out _).mono ?_
  rintro e u2 ⟨rfl, rfl⟩
  go_wp2_with fail
  refine (allDN_any _).mono ?_
  rintro e u2 ⟨rfl, rfl⟩
  go_wp2_with fail
  (try simp only [Exit.inBlock, Exit.then])
  refine bodyPost_ret (results_tmp4 rfl _ _ _) rfl ?_
  exact ⟨rfl, b1⟩
set_option maxHeartbeats 1000000 in
theorem cut_B1 (s : ByteArray) (a : List UInt8) (hb : bodyV s.data.toList = a ++ 46 :: []) (hp : (46 : UInt8) ∉ a) (w : World) (hs : s.size < 4294967281) (hM : SomeMax w) :
    Calls Tryz.prog 146 #[.string s] w fun e w' => e = .returned (.tuple #[.string ⟨#[]⟩, .string ⟨#[]⟩, .bool false, .bool false]) ∧ Below w.heap.size w w' := by
  have hz := body_size s
  have hn := (txt_none []).2 rfl
  have hP := fun w => cutPrefix_any s w
  rw [hb] at hP hz
  have HP := hide hP
  have HC := hide (cutAt_yes a [] w (by omega) hM hp)
  clear hP hb hM
  go_enter Tryz.func146, Tryz.ntmps146
  go_wp2_with fail
  refine (HP.out _).mono ?_
  rintro e u1 ⟨rfl, rfl⟩
  go_wp2_with fail
  refine HC.out.mono ?_
  rintro e w1 ⟨rfl, b1⟩
  go_wp2_with fail
  (try simp only [Exit.inBlock, Exit.then])
  refine bodyPost_ret (results_tmp4 rfl _ _ _) rfl ?_
  exact ⟨rfl, b1⟩
set_option maxHeartbeats 1000000 in
theorem cut_B2 (s : ByteArray) (a f : List UInt8) (hb : bodyV s.data.toList = a ++ 46 :: f) (hp : (46 : UInt8) ∉ a) (h0 : f ≠ []) (hd : allD a = false) (w : World) (hs : s.size < 4294967281) (hM : SomeMax w) :
    Calls Tryz.prog 146 #[.string s] w fun e w' => e = .returned (.tuple #[.string ⟨#[]⟩, .string ⟨#[]⟩, .bool false, .bool false]) ∧ Below w.heap.size w w' := by
  have hz := body_size s
  have hn := mt (txt_none f).1 h0
  have hn2 := txt_some h0
  have hl : (a ++ 46 :: f).length < 4294967281 := by rw [← hb]; omega
  have hl2 : a.length < 4294967281 ∧ f.length < 4294967281 := by simp at hl; omega
  have hD := fun w => allDT_any a w hl2.1
  rw [hd] at hD
  have HD := hide hD
  clear hD hd h0
  have hP := fun w => cutPrefix_any s w
  rw [hb] at hP hz
  have HP := hide hP
  have HC := hide (cutAt_yes a f w hl hM hp)
  clear hP hb hM
  go_enter Tryz.func146, Tryz.ntmps146
  go_wp2_with fail
  refine (HP.out _).mono ?_
  rintro e u1 ⟨rfl, rfl⟩
  go_wp2_with fail
  refine HC.out.mono ?_
  rintro e w1 ⟨rfl, b1⟩
  go_wp2_with fail
  refine (HD.out _).mono ?_
  rintro e u2 ⟨rfl, rfl⟩
  go_wp2_with fail
  (try simp only [Exit.inBlock, Exit.then])
  refine bodyPost_ret (results_tmp4 rfl _ _ _) rfl ?_
  exact ⟨rfl, b1⟩
set_option maxHeartbeats 1000000 in
theorem cut_B3 (s : ByteArray) (a f : List UInt8) (hb : bodyV s.data.toList = a ++ 46 :: f) (hp : (46 : UInt8) ∉ a) (h0 : f ≠ []) (hd : allD a = true) (hd2 : allD f = false) (w : World) (hs : s.size < 4294967281) (hM : SomeMax w) :
    Calls Tryz.prog 146 #[.string s] w fun e w' => e = .returned (.tuple #[.string ⟨#[]⟩, .string ⟨#[]⟩, .bool false, .bool false]) ∧ Below w.heap.size w w' := by
  have hz := body_size s
  have hn := mt (txt_none f).1 h0
  have hn2 := txt_some h0
  have hl : (a ++ 46 :: f).length < 4294967281 := by rw [← hb]; omega
  have hl2 : a.length < 4294967281 ∧ f.length < 4294967281 := by simp at hl; omega
  have hD := fun w => allDT_any a w hl2.1
  rw [hd] at hD
  have HD := hide hD
  have hE := fun w => allDT_any f w hl2.2
  rw [hd2] at hE
  have HE := hide hE
  clear hD hd h0 hE hd2
  have hP := fun w => cutPrefix_any s w
  rw [hb] at hP hz
  have HP := hide hP
  have HC := hide (cutAt_yes a f w hl hM hp)
  clear hP hb hM
  go_enter Tryz.func146, Tryz.ntmps146
  go_wp2_with fail
  refine (HP.out _).mono ?_
  rintro e u1 ⟨rfl, rfl⟩
  go_wp2_with fail
  refine HC.out.mono ?_
  rintro e w1 ⟨rfl, b1⟩
  go_wp2_with fail
  refine (HD.out _).mono ?_
  rintro e u2 ⟨rfl, rfl⟩
  go_wp2_with fail
  refine (HE.out _).mono ?_
  rintro e u2 ⟨rfl, rfl⟩
  go_wp2_with fail
  (try simp only [Exit.inBlock, Exit.then])
  refine bodyPost_ret (results_tmp4 rfl _ _ _) rfl ?_
  exact ⟨rfl, b1⟩
set_option maxHeartbeats 1000000 in
theorem cut_B4 (s : ByteArray) (a f : List UInt8) (hb : bodyV s.data.toList = a ++ 46 :: f) (hp : (46 : UInt8) ∉ a) (h0 : f ≠ []) (hd : allD a = true) (hd2 : allD f = true) (w : World) (hs : s.size < 4294967281) (hM : SomeMax w) :
    Calls Tryz.prog 146 #[.string s] w fun e w' => e = .returned (.tuple #[.string (txt a), .string (txt f), .bool (negV s.data.toList), .bool true]) ∧ Below w.heap.size w w' := by
  have hz := body_size s
  have hn := mt (txt_none f).1 h0
  have hn2 := txt_some h0
  have hl : (a ++ 46 :: f).length < 4294967281 := by rw [← hb]; omega
  have hl2 : a.length < 4294967281 ∧ f.length < 4294967281 := by simp at hl; omega
  have hD := fun w => allDT_any a w hl2.1
  rw [hd] at hD
  have HD := hide hD
  have hE := fun w => allDT_any f w hl2.2
  rw [hd2] at hE
  have HE := hide hE
  clear hD hd h0 hE hd2
  have hP := fun w => cutPrefix_any s w
  rw [hb] at hP hz
  have HP := hide hP
  have HC := hide (cutAt_yes a f w hl hM hp)
  clear hP hb hM
  generalize negV s.data.toList = g at *
  go_enter Tryz.func146, Tryz.ntmps146
  go_wp2_with fail
  refine (HP.out _).mono ?_
  rintro e u1 ⟨rfl, rfl⟩
  go_wp2_with fail
  refine HC.out.mono ?_
  rintro e w1 ⟨rfl, b1⟩
  go_wp2_with fail
  refine (HD.out _).mono ?_
  rintro e u2 ⟨rfl, rfl⟩
  go_wp2_with fail
  refine (HE.out _).mono ?_
  rintro e u2 ⟨rfl, rfl⟩
  go_wp2_with fail
  (try simp only [Exit.inBlock, Exit.then])
  refine bodyPost_ret (results_tmp4 rfl _ _ _) rfl ?_
  exact ⟨rfl, b1⟩
theorem cut_none (s : ByteArray) (w : World) (hs : s.size < 4294967281) (hM : SomeMax w) (hp : partsV (bodyV s.data.toList) = none) :
    Calls Tryz.prog 146 #[.string s] w fun e w' => e = .returned (.tuple #[.string ⟨#[]⟩, .string ⟨#[]⟩, .bool false, .bool false]) ∧ Below w.heap.size w w' := by
  by_cases h46 : (46 : UInt8) ∈ bodyV s.data.toList
  · obtain ⟨a, f, hb, hn⟩ := first_point h46
    by_cases h0 : f = []
    · subst h0; exact cut_B1 s a hb hn w hs hM
    · cases g : allD a with
      | false => exact cut_B2 s a f hb hn h0 g w hs hM
      | true =>
        cases g2 : allD f with
        | false => exact cut_B3 s a f hb hn h0 g g2 w hs hM
        | true =>
          rw [hb, partsV_point ((allD_iff a).1 g) ((allD_iff f).1 g2) h0] at hp; cases hp
  · by_cases h0 : bodyV s.data.toList = []
    · exact cut_A1 s h0 w hs hM
    · cases g : allD (bodyV s.data.toList) with
      | false => exact cut_A2 s _ rfl h46 h0 g w hs hM
      | true => rw [partsV_whole ((allD_iff _).1 g) h0] at hp; cases hp
theorem cut_some (s : ByteArray) (w : World) (hs : s.size < 4294967281) (hM : SomeMax w) {a f : List UInt8} (hp : partsV (bodyV s.data.toList) = some (a, f)) :
    Calls Tryz.prog 146 #[.string s] w fun e w' => e = .returned (.tuple #[.string (txt a), .string (txt f), .bool (negV s.data.toList), .bool true]) ∧ Below w.heap.size w w' := by
  have ⟨ha, hf, hc⟩ := partsV_some hp
  rcases hc with ⟨rfl, h0, hb⟩ | ⟨h0, hb⟩
  · exact cut_A3 s a hb (dg_no_point ha) h0 ((allD_iff a).2 ha) w hs hM
  · exact cut_B4 s a f hb (dg_no_point ha) h0 ((allD_iff a).2 ha) ((allD_iff f).2 hf) w hs hM
theorem ret_numP {n : Int} {b : Int} {m : Int} {c : Int} (h : (n, b) = (m, c)) : Ending.returned (.tuple #[.int .i64 n, .int .i64 b]) = .returned (.tuple #[.int .i64 m, .int .i64 c]) := by cases h; rfl
theorem parts_size {s : ByteArray} {a f : List UInt8} (hp : partsV (bodyV s.data.toList) = some (a, f)) : a.length ≤ s.size ∧ f.length ≤ s.size := by
  have hz := body_size s
  have ⟨_, _, hc⟩ := partsV_some hp
  rcases hc with ⟨rfl, h0, hb⟩ | ⟨h0, hb⟩
  · rw [hb] at hz; simp; exact hz
  · rw [hb] at hz; simp at hz; omega
set_option maxHeartbeats 1000000 in
set_option maxRecDepth 100000 in
theorem parse_none (s : ByteArray) (w : World) (hs : s.size < 4294967281) (hM : SomeMax w) (hp : partsV (bodyV s.data.toList) = none) :
    Calls Tryz.prog 116 #[.string s] w fun e w' => e = .returned (.tuple #[.int .i64 0, .int .i64 1]) ∧ Below w.heap.size w w' := by
  have HC := hide (cut_none s w hs hM hp)
  clear hp hM
  go_enter Tryz.func116, Tryz.ntmps116
  go_wp2_with fail
  refine HC.out.mono ?_
  rintro e w1 ⟨rfl, b1⟩
  go_wp2_with fail
  go_ret2
  exact ⟨rfl, b1⟩
set_option maxHeartbeats 1000000 in
set_option maxRecDepth 100000 in
theorem parse_B1 (s : ByteArray) (w : World) (hs : s.size < 4294967281) (hM : SomeMax w) {a f : List UInt8} (hp : partsV (bodyV s.data.toList) = some (a, f)) (h6 : someD (f.drop 6) = true) :
    Calls Tryz.prog 116 #[.string s] w fun e w' => e = .returned (.tuple #[.int .i64 0, .int .i64 2]) ∧ Below w.heap.size w w' := by
  have ⟨z1, z2⟩ := parts_size hp
  have ⟨ha, hf, _⟩ := partsV_some hp
  have HC := hide (cut_some s w hs hM hp)
  have HW := hide (fun w => wholePart_any (txt a) w (by rw [txt_size]; unfold maxLen; omega) ha)
  have HF := hide (fun w => millionths_no (txt f) w (by rw [txt_size]; unfold maxLen; omega) h6)
  clear hp hM ha hf h6
  go_enter Tryz.func116, Tryz.ntmps116
  go_wp2_with fail
  refine HC.out.mono ?_
  rintro e w1 ⟨rfl, b1⟩
  go_wp2_with fail
  refine (HW.out _).mono ?_
  rintro e u2 ⟨rfl, rfl⟩
  go_wp2_with fail
  refine (HF.out _).mono ?_
  rintro e u2 ⟨rfl, rfl⟩
  go_wp2_with fail
  go_ret2
  exact ⟨rfl, b1⟩
set_option maxHeartbeats 1000000 in
set_option maxRecDepth 100000 in
theorem parse_B2 (s : ByteArray) (w : World) (hs : s.size < 4294967281) (hM : SomeMax w) {a f : List UInt8} (hp : partsV (bodyV s.data.toList) = some (a, f)) (h6 : someD (f.drop 6) = false) (hw : MW < wholeV 0 a) :
    Calls Tryz.prog 116 #[.string s] w fun e w' => e = .returned (.tuple #[.int .i64 0, .int .i64 2]) ∧ Below w.heap.size w w' := by
  have ⟨z1, z2⟩ := parts_size hp
  have ⟨ha, hf, _⟩ := partsV_some hp
  have HC := hide (cut_some s w hs hM hp)
  have HW := hide (fun w => wholePart_any (txt a) w (by rw [txt_size]; unfold maxLen; omega) ha)
  have HF := hide (fun w => millionths_yes (txt f) w (by rw [txt_size]; unfold maxLen; omega) hf h6)
  have hlt := fracOf_lt 6 f hf
  have h10 : 10 ^ 6 = 1000000 := by decide
  rw [h10] at hlt
  have hle := wholeV_le 0 a (by unfold MW; omega) ha
  unfold MW at *
  rw [txt_data] at *
  generalize wholeV 0 a = n at *
  have hw' : (1000000000000 : Int) < (n : Int) := by omega
  clear hp hM ha hf h6
  go_enter Tryz.func116, Tryz.ntmps116
  go_wp2_with fail
  refine HC.out.mono ?_
  rintro e w1 ⟨rfl, b1⟩
  go_wp2_with fail
  refine (HW.out _).mono ?_
  rintro e u2 ⟨rfl, rfl⟩
  go_wp2_with fail
  refine (HF.out _).mono ?_
  rintro e u2 ⟨rfl, rfl⟩
  go_wp2_with fail
  go_ret2
  exact ⟨rfl, b1⟩
set_option maxHeartbeats 1000000 in
set_option maxRecDepth 100000 in
theorem parse_B3 (s : ByteArray) (w : World) (hs : s.size < 4294967281) (hM : SomeMax w) {a f : List UInt8} (hp : partsV (bodyV s.data.toList) = some (a, f)) (h6 : someD (f.drop 6) = false) (hw : wholeV 0 a = MW) (h0 : 0 < fracOf 6 f) :
    Calls Tryz.prog 116 #[.string s] w fun e w' => e = .returned (.tuple #[.int .i64 0, .int .i64 2]) ∧ Below w.heap.size w w' := by
  have ⟨z1, z2⟩ := parts_size hp
  have ⟨ha, hf, _⟩ := partsV_some hp
  have HC := hide (cut_some s w hs hM hp)
  have HW := hide (fun w => wholePart_any (txt a) w (by rw [txt_size]; unfold maxLen; omega) ha)
  have HF := hide (fun w => millionths_yes (txt f) w (by rw [txt_size]; unfold maxLen; omega) hf h6)
  have hlt := fracOf_lt 6 f hf
  have h10 : 10 ^ 6 = 1000000 := by decide
  rw [h10] at hlt
  have hle := wholeV_le 0 a (by unfold MW; omega) ha
  unfold MW at *
  rw [txt_data] at *
  generalize wholeV 0 a = n at *
  subst hw
  generalize fracOf 6 f = m at *
  have h0' : (0 : Int) < (m : Int) := by omega
  clear hp hM ha hf h6
  go_enter Tryz.func116, Tryz.ntmps116
  go_wp2_with fail
  refine HC.out.mono ?_
  rintro e w1 ⟨rfl, b1⟩
  go_wp2_with fail
  refine (HW.out _).mono ?_
  rintro e u2 ⟨rfl, rfl⟩
  go_wp2_with fail
  refine (HF.out _).mono ?_
  rintro e u2 ⟨rfl, rfl⟩
  go_wp2_with fail
  go_ret2
  exact ⟨rfl, b1⟩
set_option maxHeartbeats 1000000 in
set_option maxRecDepth 100000 in
theorem parse_lt_true (s : ByteArray) (w : World) (hs : s.size < 4294967281) (hM : SomeMax w) {a f : List UInt8} (hp : partsV (bodyV s.data.toList) = some (a, f)) (h6 : someD (f.drop 6) = false) (hw : wholeV 0 a ≤ MW) (_h0 : ¬ (wholeV 0 a = MW ∧ 0 < fracOf 6 f)) (hg : negV s.data.toList = true) (hx : wholeV 0 a < MW) :
    Calls Tryz.prog 116 #[.string s] w fun e w' => e = .returned (.tuple #[.int .i64 (-((wholeV 0 a * 1000000 + fracOf 6 f : Nat) : Int)), .int .i64 0]) ∧ Below w.heap.size w w' := by
  have ⟨z1, z2⟩ := parts_size hp
  have ⟨ha, hf, _⟩ := partsV_some hp
  have HC := hide (cut_some s w hs hM hp)
  have HW := hide (fun w => wholePart_any (txt a) w (by rw [txt_size]; unfold maxLen; omega) ha)
  have HF := hide (fun w => millionths_yes (txt f) w (by rw [txt_size]; unfold maxLen; omega) hf h6)
  have hlt := fracOf_lt 6 f hf
  have h10 : 10 ^ 6 = 1000000 := by decide
  rw [h10] at hlt
  have hle := wholeV_le 0 a (by unfold MW; omega) ha
  unfold MW at *
  rw [txt_data] at *
  generalize wholeV 0 a = n at *
  rw [hg] at HC
  generalize fracOf 6 f = m at *
  have hw' : (n : Int) ≤ 1000000000000 := by omega
  have hm' : (m : Int) < 1000000 := by omega
  have hx' : (n : Int) < 1000000000000 := by omega
  have hR : ((n * 1000000 + m : Nat) : Int) = (n : Int) * 1000000 + (m : Int) := by omega
  have hn0 : 0 ≤ (n : Int) := by omega
  have hm0 : 0 ≤ (m : Int) := by omega
  rw [hR]
  clear hR hw hle _h0 hx hlt hp hM ha hf h6 hg h10 hw'
  generalize (n : Int) = x at *
  generalize (m : Int) = y at *
  go_enter Tryz.func116, Tryz.ntmps116
  go_wp2_with fail
  refine HC.out.mono ?_
  rintro e w1 ⟨rfl, b1⟩
  go_wp2_with fail
  refine (HW.out _).mono ?_
  rintro e u2 ⟨rfl, rfl⟩
  go_wp2_with fail
  refine (HF.out _).mono ?_
  rintro e u2 ⟨rfl, rfl⟩
  go_wp2_with fail
  go_ret2
  exact ⟨rfl, b1⟩
set_option maxHeartbeats 1000000 in
set_option maxRecDepth 100000 in
theorem parse_eq_true (s : ByteArray) (w : World) (hs : s.size < 4294967281) (hM : SomeMax w) {a f : List UInt8} (hp : partsV (bodyV s.data.toList) = some (a, f)) (h6 : someD (f.drop 6) = false) (hw : wholeV 0 a ≤ MW) (h0 : ¬ (wholeV 0 a = MW ∧ 0 < fracOf 6 f)) (hg : negV s.data.toList = true) (hx : wholeV 0 a = MW) :
    Calls Tryz.prog 116 #[.string s] w fun e w' => e = .returned (.tuple #[.int .i64 (-((wholeV 0 a * 1000000 + fracOf 6 f : Nat) : Int)), .int .i64 0]) ∧ Below w.heap.size w w' := by
  have ⟨z1, z2⟩ := parts_size hp
  have ⟨ha, hf, _⟩ := partsV_some hp
  have HC := hide (cut_some s w hs hM hp)
  have HW := hide (fun w => wholePart_any (txt a) w (by rw [txt_size]; unfold maxLen; omega) ha)
  have HF := hide (fun w => millionths_yes (txt f) w (by rw [txt_size]; unfold maxLen; omega) hf h6)
  have hlt := fracOf_lt 6 f hf
  have h10 : 10 ^ 6 = 1000000 := by decide
  rw [h10] at hlt
  have hle := wholeV_le 0 a (by unfold MW; omega) ha
  unfold MW at *
  rw [txt_data] at *
  generalize wholeV 0 a = n at *
  rw [hg] at HC
  generalize fracOf 6 f = m at *
  have hw' : (n : Int) ≤ 1000000000000 := by omega
  have hm' : (m : Int) < 1000000 := by omega
  subst hx
  obtain rfl : m = 0 := by omega
  clear hp hM ha hf h6 hg
  go_enter Tryz.func116, Tryz.ntmps116
  go_wp2_with fail
  refine HC.out.mono ?_
  rintro e w1 ⟨rfl, b1⟩
  go_wp2_with fail
  refine (HW.out _).mono ?_
  rintro e u2 ⟨rfl, rfl⟩
  go_wp2_with fail
  refine (HF.out _).mono ?_
  rintro e u2 ⟨rfl, rfl⟩
  go_wp2_with fail
  go_ret2
  exact ⟨ret_numP (by go_num), b1⟩
set_option maxHeartbeats 1000000 in
set_option maxRecDepth 100000 in
theorem parse_lt_false (s : ByteArray) (w : World) (hs : s.size < 4294967281) (hM : SomeMax w) {a f : List UInt8} (hp : partsV (bodyV s.data.toList) = some (a, f)) (h6 : someD (f.drop 6) = false) (hw : wholeV 0 a ≤ MW) (_h0 : ¬ (wholeV 0 a = MW ∧ 0 < fracOf 6 f)) (hg : negV s.data.toList = false) (hx : wholeV 0 a < MW) :
    Calls Tryz.prog 116 #[.string s] w fun e w' => e = .returned (.tuple #[.int .i64 ((wholeV 0 a * 1000000 + fracOf 6 f : Nat) : Int), .int .i64 0]) ∧ Below w.heap.size w w' := by
  have ⟨z1, z2⟩ := parts_size hp
  have ⟨ha, hf, _⟩ := partsV_some hp
  have HC := hide (cut_some s w hs hM hp)
  have HW := hide (fun w => wholePart_any (txt a) w (by rw [txt_size]; unfold maxLen; omega) ha)
  have HF := hide (fun w => millionths_yes (txt f) w (by rw [txt_size]; unfold maxLen; omega) hf h6)
  have hlt := fracOf_lt 6 f hf
  have h10 : 10 ^ 6 = 1000000 := by decide
  rw [h10] at hlt
  have hle := wholeV_le 0 a (by unfold MW; omega) ha
  unfold MW at *
  rw [txt_data] at *
  generalize wholeV 0 a = n at *
  rw [hg] at HC
  generalize fracOf 6 f = m at *
  have hw' : (n : Int) ≤ 1000000000000 := by omega
  have hm' : (m : Int) < 1000000 := by omega
  have hx' : (n : Int) < 1000000000000 := by omega
  have hR : ((n * 1000000 + m : Nat) : Int) = (n : Int) * 1000000 + (m : Int) := by omega
  have hn0 : 0 ≤ (n : Int) := by omega
  have hm0 : 0 ≤ (m : Int) := by omega
  rw [hR]
  clear hR hw hle _h0 hx hlt hp hM ha hf h6 hg h10 hw'
  generalize (n : Int) = x at *
  generalize (m : Int) = y at *
  go_enter Tryz.func116, Tryz.ntmps116
  go_wp2_with fail
  refine HC.out.mono ?_
  rintro e w1 ⟨rfl, b1⟩
  go_wp2_with fail
  refine (HW.out _).mono ?_
  rintro e u2 ⟨rfl, rfl⟩
  go_wp2_with fail
  refine (HF.out _).mono ?_
  rintro e u2 ⟨rfl, rfl⟩
  go_wp2_with fail
  go_ret2
  exact ⟨rfl, b1⟩
set_option maxHeartbeats 1000000 in
set_option maxRecDepth 100000 in
theorem parse_eq_false (s : ByteArray) (w : World) (hs : s.size < 4294967281) (hM : SomeMax w) {a f : List UInt8} (hp : partsV (bodyV s.data.toList) = some (a, f)) (h6 : someD (f.drop 6) = false) (hw : wholeV 0 a ≤ MW) (h0 : ¬ (wholeV 0 a = MW ∧ 0 < fracOf 6 f)) (hg : negV s.data.toList = false) (hx : wholeV 0 a = MW) :
    Calls Tryz.prog 116 #[.string s] w fun e w' => e = .returned (.tuple #[.int .i64 ((wholeV 0 a * 1000000 + fracOf 6 f : Nat) : Int), .int .i64 0]) ∧ Below w.heap.size w w' := by
  have ⟨z1, z2⟩ := parts_size hp
  have ⟨ha, hf, _⟩ := partsV_some hp
  have HC := hide (cut_some s w hs hM hp)
  have HW := hide (fun w => wholePart_any (txt a) w (by rw [txt_size]; unfold maxLen; omega) ha)
  have HF := hide (fun w => millionths_yes (txt f) w (by rw [txt_size]; unfold maxLen; omega) hf h6)
  have hlt := fracOf_lt 6 f hf
  have h10 : 10 ^ 6 = 1000000 := by decide
  rw [h10] at hlt
  have hle := wholeV_le 0 a (by unfold MW; omega) ha
  unfold MW at *
  rw [txt_data] at *
  generalize wholeV 0 a = n at *
  rw [hg] at HC
  generalize fracOf 6 f = m at *
  have hw' : (n : Int) ≤ 1000000000000 := by omega
  have hm' : (m : Int) < 1000000 := by omega
  subst hx
  obtain rfl : m = 0 := by omega
  clear hp hM ha hf h6 hg
  go_enter Tryz.func116, Tryz.ntmps116
  go_wp2_with fail
  refine HC.out.mono ?_
  rintro e w1 ⟨rfl, b1⟩
  go_wp2_with fail
  refine (HW.out _).mono ?_
  rintro e u2 ⟨rfl, rfl⟩
  go_wp2_with fail
  refine (HF.out _).mono ?_
  rintro e u2 ⟨rfl, rfl⟩
  go_wp2_with fail
  go_ret2
  exact ⟨ret_numP (by go_num), b1⟩
theorem parse_any (s : ByteArray) (w : World) (hs : s.size < 4294967281) (hM : SomeMax w) :
    Calls Tryz.prog 116 #[.string s] w fun e w' => e = .returned (.tuple #[.int .i64 (parseV s.data.toList).1, .int .i64 (parseV s.data.toList).2]) ∧ Below w.heap.size w w' := by
  unfold parseV
  cases hp : partsV (bodyV s.data.toList) with
  | none => exact parse_none s w hs hM hp
  | some x =>
    obtain ⟨a, f⟩ := x
    have ⟨ha, hf, _⟩ := partsV_some hp
    simp only
    cases h6 : someD (f.drop 6) with
    | true => rw [num_bad (.inr (.inr h6)) hf]; exact parse_B1 s w hs hM hp h6
    | false =>
      rcases Nat.lt_or_ge MW (wholeV 0 a) with hw | hw
      · rw [num_bad (.inl hw) hf]; exact parse_B2 s w hs hM hp h6 hw
      · by_cases h0 : wholeV 0 a = MW ∧ 0 < fracOf 6 f
        · rw [num_bad (.inr (.inl h0)) hf]; exact parse_B3 s w hs hM hp h6 h0.1 h0.2
        · rw [num_fine hw h0 h6 hf]
          cases hg : negV s.data.toList with
          | true =>
            rw [if_pos rfl]
            rcases Nat.lt_or_eq_of_le hw with hx | hx
            · exact parse_lt_true s w hs hM hp h6 hw h0 hg hx
            · exact parse_eq_true s w hs hM hp h6 hw h0 hg hx
          | false =>
            rw [if_neg (by decide)]
            rcases Nat.lt_or_eq_of_le hw with hx | hx
            · exact parse_lt_false s w hs hM hp h6 hw h0 hg hx
            · exact parse_eq_false s w hs hM hp h6 hw h0 hg hx
end Go.Proofs.YtfjfkkbgkjmghaaGreatDoor

namespace Go.Proofs.YtfjfkkbgkjmghaaGreatDoor
open Go.RowKit
set_option maxRecDepth 100000
theorem pad_text {r : Nat} (h : r < 1000000) : (txt (decD (1000000 + r))).extract 1 7 = txt (padD 6 r) ∧ (txt (decD (1000000 + r))).size = 7 := by
  have e : decD (1000000 + r) = dgB 1 :: padD 6 r := dec_pad 6 r h
  rw [e]
  have hl := padD_len 6 r
  refine ⟨?_, by rw [txt_size, List.length_cons, hl]⟩
  have := Lib.extract_mk (dgB 1 :: padD 6 r) 1 7
  unfold txt
  rw [this]
  have h2 : List.take (7 - 1) (List.drop 1 (dgB 1 :: padD 6 r)) = padD 6 r := by
    rw [List.drop_one, List.tail_cons]; exact List.take_of_length_le (by omega)
  rw [h2]
theorem frac_text {r : Nat} (h : r < 1000000) : trimZ (txt (padD 6 r)).data.toList = fracD 6 r := trim_pad 6 r h
set_option maxHeartbeats 2000000 in
theorem show_p0 (u : Nat) (w : World) (hu : u ≤ 9223372036854775807) (hr : u % 1000000 = 0) (hT : Tens w) :
    Calls Tryz.prog 155 #[.int .i64 ((u : Int))] w fun e w' => e = .returned (.string (txt (tellL [] u))) ∧ Below w.heap.size w w' := by
  have hF := fun w hT => format_any (u / 1000000) w (by omega) hT
  have hdl := decD_len (n := u / 1000000) (k := 20) (by omega) (by decide)
  have hL := fun w => leftU_any u 1000000 w (by omega) (by omega) (by omega)
  rw [show ((u / 1000000 : Nat) : Int) = (u : Int) / 1000000 by omega] at hF
  rw [show ((u % 1000000 : Nat) : Int) = (u : Int) % 1000000 by omega, show ((1000000 : Nat) : Int) = 1000000 from rfl] at hL
  have HX := hide (tell_no (pre := []) hr)
  have hr' : (u : Int) % 1000000 = 0 := by omega
  rw [hr'] at hL
  clear hr'
  generalize decD (u / 1000000) = d at *
  have HF := hide hF
  have HL := hide hL
  have HTn := hide hT
  clear hF hL hT hr
  have hx0 : 0 ≤ (u : Int) := by omega
  have hx1 : (u : Int) ≤ 9223372036854775807 := by omega
  have h0 := HoldsB.fresh w
  have b0 : Below w.heap.size w (w.alloc (.cells #[.pointer none, .slice none 0 0] 108)) := (Below.refl _ w).alloc (Nat.le_refl _) _
  clear hu
  generalize (u : Int) = x at *
  go_enter Tryz.func155, Tryz.ntmps155
  go_wp2_with fail
  refine (HF.out _ (HTn.out.below b0)).mono ?_
  rintro e w2 ⟨rfl, b2⟩
  have c2 := b0.trans (b2.mono b0.size)
  go_wp2_with fail
  refine (writeString _ _ _ (txt d) _ (h0.below b2) (by simp [txt_size]; omega) c2.size).mono ?_
  rintro e w3 ⟨rfl, h3, b3⟩
  have c3 := c2.trans b3
  go_wp2_with fail
  refine (HL.out _).mono ?_
  rintro e u1 ⟨rfl, rfl⟩
  go_wp2_with fail
  refine (builderText _ _ _ _ h3 c3.size).mono ?_
  rintro e w7 ⟨rfl, b7⟩
  go_wp2_with fail
  go_ret
  refine ⟨ret_str ?_, c3.trans b7⟩
  rw [HX.out]
  simp [txt_data]
set_option maxHeartbeats 2000000 in
theorem show_p1 (u : Nat) (w : World) (hu : u ≤ 9223372036854775807) (hr : u % 1000000 ≠ 0) (hT : Tens w) :
    Calls Tryz.prog 155 #[.int .i64 ((u : Int))] w fun e w' => e = .returned (.string (txt (tellL [] u))) ∧ Below w.heap.size w w' := by
  have hF := fun w hT => format_any (u / 1000000) w (by omega) hT
  have hdl := decD_len (n := u / 1000000) (k := 20) (by omega) (by decide)
  have hL := fun w => leftU_any u 1000000 w (by omega) (by omega) (by omega)
  rw [show ((u / 1000000 : Nat) : Int) = (u : Int) / 1000000 by omega] at hF
  rw [show ((u % 1000000 : Nat) : Int) = (u : Int) % 1000000 by omega, show ((1000000 : Nat) : Int) = 1000000 from rfl] at hL
  have HX := hide (tell_yes (pre := []) hr)
  have hr0 : 0 < (u : Int) % 1000000 := by omega
  have hr1 : (u : Int) % 1000000 < 1000000 := by omega
  have hG := fun w hT => format_any (1000000 + u % 1000000) w (by omega) hT
  have ⟨hp1, hp2⟩ := pad_text (r := u % 1000000) (by omega)
  have hR := fun w => trimRight_any (txt (padD 6 (u % 1000000))) w (by rw [txt_size, padD_len]; omega)
  rw [frac_text (by omega)] at hR
  have hfl := fracD_len 6 (u % 1000000)
  rw [show ((1000000 + u % 1000000 : Nat) : Int) = 1000000 + (u : Int) % 1000000 by omega] at hG
  generalize decD (1000000 + u % 1000000) = g at *
  generalize padD 6 (u % 1000000) = q at *
  generalize fracD 6 (u % 1000000) = f at *
  have HG := hide hG
  have HR := hide hR
  clear hG hR
  generalize decD (u / 1000000) = d at *
  have HF := hide hF
  have HL := hide hL
  have HTn := hide hT
  clear hF hL hT hr
  have hx0 : 0 ≤ (u : Int) := by omega
  have hx1 : (u : Int) ≤ 9223372036854775807 := by omega
  have h0 := HoldsB.fresh w
  have b0 : Below w.heap.size w (w.alloc (.cells #[.pointer none, .slice none 0 0] 108)) := (Below.refl _ w).alloc (Nat.le_refl _) _
  clear hu
  generalize (u : Int) = x at *
  go_enter Tryz.func155, Tryz.ntmps155
  go_wp2_with fail
  refine (HF.out _ (HTn.out.below b0)).mono ?_
  rintro e w2 ⟨rfl, b2⟩
  have c2 := b0.trans (b2.mono b0.size)
  go_wp2_with fail
  refine (writeString _ _ _ (txt d) _ (h0.below b2) (by simp [txt_size]; omega) c2.size).mono ?_
  rintro e w3 ⟨rfl, h3, b3⟩
  have c3 := c2.trans b3
  go_wp2_with fail
  refine (HL.out _).mono ?_
  rintro e u1 ⟨rfl, rfl⟩
  go_wp2_with fail
  refine (writeByte _ _ _ 46 _ h3 (by simp [txt_data]; omega) c3.size).mono ?_
  rintro e w4 ⟨rfl, h4, b4⟩
  have c4 := c3.trans b4
  go_wp2_with fail
  refine (HG.out _ (HTn.out.below c4)).mono ?_
  rintro e w5 ⟨rfl, b5⟩
  have c5 := c4.trans (b5.mono c4.size)
  go_wp2_with fail
  refine (HR.out _).mono ?_
  rintro e u1 ⟨rfl, rfl⟩
  go_wp2_with fail
  refine (writeString _ _ _ (txt f) _ (h4.below b5) (by simp [txt_size, txt_data]; omega) c5.size).mono ?_
  rintro e w6 ⟨rfl, h6, b6⟩
  have c6 := c5.trans b6
  go_wp2_with fail
  refine (builderText _ _ _ _ h6 c6.size).mono ?_
  rintro e w7 ⟨rfl, b7⟩
  go_wp2_with fail
  go_ret
  refine ⟨ret_str ?_, c6.trans b7⟩
  rw [HX.out]
  simp [txt_data]
set_option maxHeartbeats 2000000 in
theorem show_n0 (u : Nat) (w : World) (hu : u ≤ 9223372036854775808) (h1 : 1 ≤ u) (hr : u % 1000000 = 0) (hT : Tens w) :
    Calls Tryz.prog 155 #[.int .i64 (-(u : Int))] w fun e w' => e = .returned (.string (txt (tellL [45] u))) ∧ Below w.heap.size w w' := by
  have hF := fun w hT => format_any (u / 1000000) w (by omega) hT
  have hdl := decD_len (n := u / 1000000) (k := 20) (by omega) (by decide)
  have hL := fun w => leftU_any u 1000000 w (by omega) (by omega) (by omega)
  rw [show ((u / 1000000 : Nat) : Int) = (u : Int) / 1000000 by omega] at hF
  rw [show ((u % 1000000 : Nat) : Int) = (u : Int) % 1000000 by omega, show ((1000000 : Nat) : Int) = 1000000 from rfl] at hL
  have HX := hide (tell_no (pre := [45]) hr)
  have hr' : (u : Int) % 1000000 = 0 := by omega
  rw [hr'] at hL
  clear hr'
  generalize decD (u / 1000000) = d at *
  have HF := hide hF
  have HL := hide hL
  have HTn := hide hT
  clear hF hL hT hr
  have hx0 : 1 ≤ (u : Int) := by omega
  have hx1 : (u : Int) ≤ 9223372036854775808 := by omega
  have h0 := HoldsB.fresh w
  have b0 : Below w.heap.size w (w.alloc (.cells #[.pointer none, .slice none 0 0] 108)) := (Below.refl _ w).alloc (Nat.le_refl _) _
  have hneg : IntKind.u64.wrap (-IntKind.u64.wrap (-(u : Int))) = (u : Int) := by rw [IntKind.wrap_u64, IntKind.wrap_u64]; omega
  clear hu h1
  generalize (u : Int) = x at *
  go_enter Tryz.func155, Tryz.ntmps155
  go_wp2_with fail
  refine (writeByte _ _ _ 45 _ h0 (by simp) b0.size).mono ?_
  rintro e w1 ⟨rfl, h1, b1⟩
  have c1 := b0.trans b1
  go_wp2_with fail
  refine (HF.out _ (HTn.out.below c1)).mono ?_
  rintro e w2 ⟨rfl, b2⟩
  have c2 := c1.trans (b2.mono c1.size)
  go_wp2_with fail
  refine (writeString _ _ _ (txt d) _ (h1.below b2) (by simp [txt_size]; omega) c2.size).mono ?_
  rintro e w3 ⟨rfl, h3, b3⟩
  have c3 := c2.trans b3
  go_wp2_with fail
  refine (HL.out _).mono ?_
  rintro e u1 ⟨rfl, rfl⟩
  go_wp2_with fail
  refine (builderText _ _ _ _ h3 c3.size).mono ?_
  rintro e w7 ⟨rfl, b7⟩
  go_wp2_with fail
  go_ret
  refine ⟨ret_str ?_, c3.trans b7⟩
  rw [HX.out]
  simp [txt_data]
set_option maxHeartbeats 2000000 in
theorem show_n1 (u : Nat) (w : World) (hu : u ≤ 9223372036854775808) (h1 : 1 ≤ u) (hr : u % 1000000 ≠ 0) (hT : Tens w) :
    Calls Tryz.prog 155 #[.int .i64 (-(u : Int))] w fun e w' => e = .returned (.string (txt (tellL [45] u))) ∧ Below w.heap.size w w' := by
  have hF := fun w hT => format_any (u / 1000000) w (by omega) hT
  have hdl := decD_len (n := u / 1000000) (k := 20) (by omega) (by decide)
  have hL := fun w => leftU_any u 1000000 w (by omega) (by omega) (by omega)
  rw [show ((u / 1000000 : Nat) : Int) = (u : Int) / 1000000 by omega] at hF
  rw [show ((u % 1000000 : Nat) : Int) = (u : Int) % 1000000 by omega, show ((1000000 : Nat) : Int) = 1000000 from rfl] at hL
  have HX := hide (tell_yes (pre := [45]) hr)
  have hr0 : 0 < (u : Int) % 1000000 := by omega
  have hr1 : (u : Int) % 1000000 < 1000000 := by omega
  have hG := fun w hT => format_any (1000000 + u % 1000000) w (by omega) hT
  have ⟨hp1, hp2⟩ := pad_text (r := u % 1000000) (by omega)
  have hR := fun w => trimRight_any (txt (padD 6 (u % 1000000))) w (by rw [txt_size, padD_len]; omega)
  rw [frac_text (by omega)] at hR
  have hfl := fracD_len 6 (u % 1000000)
  rw [show ((1000000 + u % 1000000 : Nat) : Int) = 1000000 + (u : Int) % 1000000 by omega] at hG
  generalize decD (1000000 + u % 1000000) = g at *
  generalize padD 6 (u % 1000000) = q at *
  generalize fracD 6 (u % 1000000) = f at *
  have HG := hide hG
  have HR := hide hR
  clear hG hR
  generalize decD (u / 1000000) = d at *
  have HF := hide hF
  have HL := hide hL
  have HTn := hide hT
  clear hF hL hT hr
  have hx0 : 1 ≤ (u : Int) := by omega
  have hx1 : (u : Int) ≤ 9223372036854775808 := by omega
  have h0 := HoldsB.fresh w
  have b0 : Below w.heap.size w (w.alloc (.cells #[.pointer none, .slice none 0 0] 108)) := (Below.refl _ w).alloc (Nat.le_refl _) _
  have hneg : IntKind.u64.wrap (-IntKind.u64.wrap (-(u : Int))) = (u : Int) := by rw [IntKind.wrap_u64, IntKind.wrap_u64]; omega
  clear hu h1
  generalize (u : Int) = x at *
  go_enter Tryz.func155, Tryz.ntmps155
  go_wp2_with fail
  refine (writeByte _ _ _ 45 _ h0 (by simp) b0.size).mono ?_
  rintro e w1 ⟨rfl, h1, b1⟩
  have c1 := b0.trans b1
  go_wp2_with fail
  refine (HF.out _ (HTn.out.below c1)).mono ?_
  rintro e w2 ⟨rfl, b2⟩
  have c2 := c1.trans (b2.mono c1.size)
  go_wp2_with fail
  refine (writeString _ _ _ (txt d) _ (h1.below b2) (by simp [txt_size]; omega) c2.size).mono ?_
  rintro e w3 ⟨rfl, h3, b3⟩
  have c3 := c2.trans b3
  go_wp2_with fail
  refine (HL.out _).mono ?_
  rintro e u1 ⟨rfl, rfl⟩
  go_wp2_with fail
  refine (writeByte _ _ _ 46 _ h3 (by simp [txt_data]; omega) c3.size).mono ?_
  rintro e w4 ⟨rfl, h4, b4⟩
  have c4 := c3.trans b4
  go_wp2_with fail
  refine (HG.out _ (HTn.out.below c4)).mono ?_
  rintro e w5 ⟨rfl, b5⟩
  have c5 := c4.trans (b5.mono c4.size)
  go_wp2_with fail
  refine (HR.out _).mono ?_
  rintro e u1 ⟨rfl, rfl⟩
  go_wp2_with fail
  refine (writeString _ _ _ (txt f) _ (h4.below b5) (by simp [txt_size, txt_data]; omega) c5.size).mono ?_
  rintro e w6 ⟨rfl, h6, b6⟩
  have c6 := c5.trans b6
  go_wp2_with fail
  refine (builderText _ _ _ _ h6 c6.size).mono ?_
  rintro e w7 ⟨rfl, b7⟩
  go_wp2_with fail
  go_ret
  refine ⟨ret_str ?_, c6.trans b7⟩
  rw [HX.out]
  simp [txt_data]
theorem show_any (n : Int) (w : World) (h1 : -9223372036854775808 ≤ n) (h2 : n ≤ 9223372036854775807) (hT : Tens w) :
    Calls Tryz.prog 155 #[.int .i64 n] w fun e w' => e = .returned (.string (txt (showL n))) ∧ Below w.heap.size w w' := by
  rw [tell_is]
  by_cases hn : n < 0
  · obtain ⟨u, rfl⟩ : ∃ u : Nat, n = -(u : Int) := ⟨n.natAbs, by omega⟩
    have e : (-(u : Int)).natAbs = u := by omega
    rw [if_pos hn, e]
    by_cases hr : u % 1000000 = 0
    · exact show_n0 u w (by omega) (by omega) hr hT
    · exact show_n1 u w (by omega) (by omega) hr hT
  · obtain ⟨u, rfl⟩ : ∃ u : Nat, n = (u : Int) := ⟨n.toNat, by omega⟩
    have e : (u : Int).natAbs = u := by omega
    rw [if_neg hn, e]
    by_cases hr : u % 1000000 = 0
    · exact show_p0 u w (by omega) hr hT
    · exact show_p1 u w (by omega) hr hT

end Go.Proofs.YtfjfkkbgkjmghaaGreatDoor
