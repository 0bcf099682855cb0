/- The program's Left, Fits and Down of layer 3. A text cut at a sign, and the texts between a sign, as the library's strings.Cut and strings.Split have them. What strings.Split and strings.Join answer. The document's Split, and what a row of texts is. The document's Blank and Strip. The document's NoBreaks. The document's Trim and Clean of layer 7 alone. The program's Clean and Trim of mail alone. -/
import Derived.Test.YtfjfkkbgkjmghaaGreatDoorJct12
import Derived.Test.YtfjfkkbgkjmghaaGreatDoorJct16
import Derived.Test.YtfjfkkbgkjmghaaGreatDoorJct26
import Derived.Test.YtfjfkkbgkjmghaaGreatDoorJct27
import Derived.Lib.SplitLaws
import Derived.Lib.Join
import Derived.Shelf.Strings.Split
import Derived.Shelf.Strings.OnBuilder
import Derived.Shelf.Strings.PiecesUse
import Derived.Shelf.Small.Strs

namespace Go.Proofs.YtfjfkkbgkjmghaaGreatDoor
open Go.RowKit
set_option maxRecDepth 100000
set_option maxHeartbeats 1000000 in
theorem left_any (n s : Int) (w : World) (_h1 : -9223372036854775808 ≤ n) (_h2 : n ≤ 9223372036854775807) (h3 : 1 ≤ s) (h4 : s ≤ 9223372036854775807) :
    Calls Tryz.prog 167 #[.int .i64 n, .int .i64 s] w fun e w' => e = .returned (.int .i64 (n % s)) ∧ w' = w := by
  have ⟨a1, a2⟩ := left_at (n := n) h3
  by_cases hc : 0 ≤ n.tmod s
  · have E := hide (a1 hc)
    clear a1 a2
    go_enter Tryz.func167, Tryz.ntmps167
    go_wp2_with fail
    go_ret
    exact ⟨ret_int E.out.symm, rfl⟩
  · have hc' : n.tmod s < 0 := by omega
    have E := hide (a2 hc').1
    have b := (a2 hc').2.1
    clear a1 a2 hc
    go_enter Tryz.func167, Tryz.ntmps167
    go_wp2_with fail
    go_ret
    exact ⟨ret_int E.out.symm, rfl⟩
set_option maxHeartbeats 1000000 in
theorem fits_any (n base step : Int) (w : World) (h1 : -9223372036854775808 ≤ n) (h2 : n ≤ 9223372036854775807) (g1 : -9223372036854775808 ≤ base) (g2 : base ≤ 9223372036854775807) (h4 : step ≤ 9223372036854775807) (h5 : -9223372036854775808 ≤ step) :
    Calls Tryz.prog 123 #[.int .i64 n, .int .i64 base, .int .i64 step] w fun e w' => e = .returned (.bool (fitV n base step)) ∧ w' = w := by
  by_cases hs : 1 ≤ step
  · have E := hide (fit_is (n := n) (base := base) hs)
    go_enter Tryz.func123, Tryz.ntmps123
    go_wp2_with fail
    refine (left_any n step _ h1 h2 hs h4).mono ?_
    rintro e u1 ⟨rfl, rfl⟩
    go_wp2_with fail
    refine (left_any base step _ g1 g2 hs h4).mono ?_
    rintro e u1 ⟨rfl, rfl⟩
    go_wp2_with fail
    go_ret
    exact ⟨ret_bool E.out.symm, rfl⟩
  · have E := hide (fit_no (n := n) (base := base) hs)
    have hs' : step ≤ 0 := by omega
    clear hs
    go_enter Tryz.func123, Tryz.ntmps123
    go_wp2_with fail
    go_ret
    exact ⟨ret_bool E.out.symm, rfl⟩
set_option maxHeartbeats 1000000 in
theorem down_any (n base step : Int) (w : World) (h1 : -9223372036854775808 ≤ n) (h2 : n ≤ 9223372036854775807) (g1 : -9223372036854775808 ≤ base) (g2 : base ≤ 9223372036854775807) (h4 : step ≤ 9223372036854775807) (h5 : -9223372036854775808 ≤ step) :
    Calls Tryz.prog 124 #[.int .i64 n, .int .i64 base, .int .i64 step] w fun e w' => e = .returned (.tuple #[.int .i64 (downV n base step), .bool (downOk n base step)]) ∧ w' = w := by
  by_cases hs : 1 ≤ step
  · have ⟨a1, a2⟩ := left_less (n := n) hs
    have ⟨b1, b2⟩ := left_less (n := base) hs
    have ⟨m1, m2⟩ := much_bounds (n := n) (base := base) hs
    have hL := left_any (n % step - base % step) step
    rw [much_left] at hL
    by_cases hm : muchV n base step ≤ n + 9223372036854775808
    · have E := hide (down_some hs hm)
      have E2 := hide (downV_yes E.out)
      generalize muchV n base step = m at *
      have HL := hide (fun w => hL w (by omega) (by omega) hs h4)
      clear hL
      go_enter Tryz.func124, Tryz.ntmps124
      go_wp2_with fail
      refine (left_any n step _ h1 h2 hs h4).mono ?_
      rintro e u1 ⟨rfl, rfl⟩
      go_wp2_with fail
      refine (left_any base step _ g1 g2 hs h4).mono ?_
      rintro e u1 ⟨rfl, rfl⟩
      go_wp2_with fail
      refine (HL.out _).mono ?_
      rintro e u1 ⟨rfl, rfl⟩
      go_wp2_with fail
      go_ret2
      exact ⟨ret_down E2.out.symm E.out.symm, rfl⟩
    · have E := hide (down_none (n := n) (base := base) (step := step) (by omega))
      have E2 := hide (downV_no E.out)
      generalize muchV n base step = m at *
      have HL := hide (fun w => hL w (by omega) (by omega) hs h4)
      have hm' : n + 9223372036854775808 < m := by omega
      clear hL hm
      go_enter Tryz.func124, Tryz.ntmps124
      go_wp2_with fail
      refine (left_any n step _ h1 h2 hs h4).mono ?_
      rintro e u1 ⟨rfl, rfl⟩
      go_wp2_with fail
      refine (left_any base step _ g1 g2 hs h4).mono ?_
      rintro e u1 ⟨rfl, rfl⟩
      go_wp2_with fail
      refine (HL.out _).mono ?_
      rintro e u1 ⟨rfl, rfl⟩
      go_wp2_with fail
      go_ret2
      exact ⟨ret_down E2.out.symm E.out.symm, rfl⟩
  · have E := hide (down_off (n := n) (base := base) hs)
    have E2 := hide (downV_no E.out)
    have hs' : step ≤ 0 := by omega
    clear hs
    go_enter Tryz.func124, Tryz.ntmps124
    go_wp2_with fail
    go_ret2
    exact ⟨ret_down E2.out.symm E.out.symm, rfl⟩
end Go.Proofs.YtfjfkkbgkjmghaaGreatDoor

namespace Go.Proofs.YtfjfkkbgkjmghaaGreatDoor
open Go.RowKit
theorem ix_some {c : UInt8} {a b : List UInt8} (h : c ∉ a) : Lib.index (a ++ c :: b) [c] = (a.length : Int) := by
  rw [Lib.index_one]
  induction a with
  | nil => simp [Lib.indexByte]
  | cons x a ih =>
    have hb : x ≠ c := fun e => h (by rw [e]; exact List.mem_cons_self ..)
    have := ih (fun e => h (List.mem_cons_of_mem _ e))
    rw [List.cons_append]
    unfold Lib.indexByte
    have h0 : ¬ ((a.length : Int) == -1) = true := by simp
    rw [this, if_neg (by simpa using hb), if_neg h0]; simp
/-- A text with the sign, cut at the first one. -/
theorem ix_first {c : UInt8} : ∀ {l : List UInt8}, c ∈ l → ∃ a b, l = a ++ c :: b ∧ c ∉ a
  | [], h => by cases h
  | x :: l, h => by
    by_cases e : x = c
    · subst e; exact ⟨[], l, rfl, by simp⟩
    · rcases List.mem_cons.1 h with h1 | h1
      · exact absurd h1.symm e
      · obtain ⟨a, b, rfl, h2⟩ := ix_first h1
        refine ⟨x :: a, b, rfl, fun h3 => ?_⟩
        rcases List.mem_cons.1 h3 with h4 | h4
        · exact e h4.symm
        · exact h2 h4
theorem splitK_is (c : UInt8) : ∀ (k : Nat) (l : List UInt8), l.count c = k → Lib.splitK [c] 0 k l = splitL c l
  | 0, l, h => by
    have hn : c ∉ l := fun m => by have := List.count_pos_iff.2 m; omega
    rw [split_alone hn]; rfl
  | k + 1, l, h => by
    have hm : c ∈ l := List.count_pos_iff.1 (by omega)
    obtain ⟨a, b, rfl, ha⟩ := ix_first hm
    have hc : b.count c = k := by
      rw [List.count_append, List.count_eq_zero_of_not_mem ha, List.count_cons_self] at h
      omega
    have h0 : ¬ ((a.length : Int) == -1) = true := by simp
    rw [Lib.splitK, ix_some ha, if_neg h0, split_sign b ha, ← splitK_is c k b hc]
    have e1 : ((a.length : Int)).toNat = a.length := by omega
    rw [e1]
    simp
/-- The library's pieces. -/
theorem pieces_is (c : UInt8) (s : ByteArray) : Lib.splitB ⟨#[c]⟩ 0 (Lib.countB s ⟨#[c]⟩) s = (splitL c s.data.toList).map txt := by
  have h1 := Lib.splitB_data ⟨#[c]⟩ 0 (Lib.countB s ⟨#[c]⟩) s
  have h2 : Lib.countB s ⟨#[c]⟩ = s.data.toList.count c := Lib.count_one c s.data.toList
  have h3 : (⟨#[c]⟩ : ByteArray).data.toList = [c] := rfl
  rw [h3, splitK_is c _ _ h2.symm] at h1
  rw [← h1, List.map_map]
  exact (List.map_id _).symm
theorem pieces_count (c : UInt8) (s : ByteArray) : Lib.countB s ⟨#[c]⟩ + 1 = (splitL c s.data.toList).length := by
  have := Lib.splitB_all ⟨#[c]⟩ (Nat.le_refl 1) 0 _ s rfl
  rw [pieces_is, List.length_map] at this
  exact this.symm
theorem join_is (c : UInt8) : ∀ ps : List (List UInt8), Lib.join ps [c] = joinL c ps
  | [] => rfl
  | [a] => Lib.join_one a [c]
  | a :: b :: t => by
    have ih := join_is c (b :: t)
    rw [Lib.join_cons] at ih
    rw [Lib.join_cons]
    show a ++ ([c] ++ b ++ Lib.joinTail [c] t) = a ++ c :: joinL c (b :: t)
    rw [← ih]; simp
end Go.Proofs.YtfjfkkbgkjmghaaGreatDoor

namespace Go.Proofs.YtfjfkkbgkjmghaaGreatDoor
open Go.Shelf Go.RowKit
set_option maxRecDepth 100000
def mspren : Go.Shelf.Ren := ⟨fun | 138 => 180 | 143 => 181 | 146 => 113 | 195 => 209 | 197 => 176 | 217 => 168 | 218 => 210 | 219 => 211 | 221 => 145 | 224 => 227 | 225 => 228 | 260 => 206 | 266 => 204 | 267 => 229 | 268 => 179 | 314 => 242 | n => n, fun | 0 => 0 | 3 => 3 | 4 => 4 | 5 => 5 | 9 => 9 | 21 => 21 | 31 => 76 | 46 => 194 | 51 => 207 | 72 => 108 | 105 => 167 | 119 => 193 | 138 => 196 | 139 => 197 | 146 => 208 | n => n, fun | 1 => 1 | 3 => 3 | 4 => 4 | n => n⟩
theorem lays146 : Go.Proofs.Lays.n146 Tryz.prog mspren := {
  mixed := by kernel_rfl
  f138 := Tryz.func180.trans (congrArg some (by kernel_rfl))
  f143 := Tryz.func181.trans (congrArg some (by kernel_rfl))
  f146 := Tryz.func113.trans (congrArg some (by kernel_rfl))
  f195 := Tryz.func209.trans (congrArg some (by kernel_rfl))
  f197 := Tryz.func176.trans (congrArg some (by kernel_rfl))
  f217 := Tryz.func168.trans (congrArg some (by kernel_rfl))
  f218 := Tryz.func210.trans (congrArg some (by kernel_rfl))
  f219 := Tryz.func211.trans (congrArg some (by kernel_rfl))
  f221 := Tryz.func145.trans (congrArg some (by kernel_rfl))
  f224 := Tryz.func227.trans (congrArg some (by kernel_rfl))
  f225 := Tryz.func228.trans (congrArg some (by kernel_rfl))
  f260 := Tryz.func206.trans (congrArg some (by kernel_rfl))
  f266 := Tryz.func204.trans (congrArg some (by kernel_rfl))
  f267 := Tryz.func229.trans (congrArg some (by kernel_rfl))
  f268 := Tryz.func179.trans (congrArg some (by kernel_rfl))
  f314 := Tryz.func242.trans (congrArg some (by kernel_rfl))
  t0 := Tryz.underlying0
  a0 := Tryz.isAgg0
  z0 := Tryz.sizeOf0
  v0 := Tryz.zeroValue0
  t3 := Tryz.underlying3
  a3 := Tryz.isAgg3
  z3 := Tryz.sizeOf3
  v3 := Tryz.zeroValue3
  t4 := Tryz.underlying4
  a4 := Tryz.isAgg4
  z4 := Tryz.sizeOf4
  v4 := Tryz.zeroValue4
  t5 := Tryz.underlying5
  a5 := Tryz.isAgg5
  z5 := Tryz.sizeOf5
  v5 := Tryz.zeroValue5
  t9 := Tryz.underlying9
  a9 := Tryz.isAgg9
  z9 := Tryz.sizeOf9
  v9 := Tryz.zeroValue9
  t21 := Tryz.underlying21
  a21 := Tryz.isAgg21
  z21 := Tryz.sizeOf21
  v21 := Tryz.zeroValue21
  t31 := Tryz.underlying76
  a31 := Tryz.isAgg76
  z31 := Tryz.sizeOf76
  v31 := Tryz.zeroValue76
  t46 := Tryz.underlying194
  a46 := Tryz.isAgg194
  z46 := Tryz.sizeOf194
  v46 := Tryz.zeroValue194
  t51 := Tryz.underlying207
  a51 := Tryz.isAgg207
  z51 := Tryz.sizeOf207
  v51 := Tryz.zeroValue207
  t105 := Tryz.underlying167
  a105 := Tryz.isAgg167
  z105 := Tryz.sizeOf167
  v105 := Tryz.zeroValue167
  t119 := Tryz.underlying193
  a119 := Tryz.isAgg193
  z119 := Tryz.sizeOf193
  t138 := Tryz.underlying196
  a138 := Tryz.isAgg196
  z138 := Tryz.sizeOf196
  v138 := Tryz.zeroValue196
  t139 := Tryz.underlying197
  a139 := Tryz.isAgg197
  z139 := Tryz.sizeOf197
  v139 := Tryz.zeroValue197
  t146 := Tryz.underlying208
  a146 := Tryz.isAgg208
  z146 := Tryz.sizeOf208
  v146 := Tryz.zeroValue208
  g1 := by kernel_rfl
  g3 := by kernel_rfl
  g4 := by kernel_rfl }
def mjoren : Go.Shelf.Ren := ⟨fun | 156 => 114 | 165 => 106 | 166 => 107 | 169 => 109 | 240 => 136 | 241 => 137 | 276 => 173 | 277 => 174 | n => n, fun | 0 => 0 | 3 => 3 | 4 => 4 | 5 => 5 | 9 => 9 | 20 => 20 | 31 => 76 | 37 => 87 | 70 => 106 | 72 => 108 | 75 => 111 | 76 => 112 | 80 => 115 | 127 => 88 | 164 => 164 | n => n, fun  | n => n⟩
theorem lays156 : Go.Proofs.Lays.n156 Tryz.prog mjoren := {
  mixed := by kernel_rfl
  f156 := Tryz.func114.trans (congrArg some (by kernel_rfl))
  f165 := Tryz.func106.trans (congrArg some (by kernel_rfl))
  f166 := Tryz.func107.trans (congrArg some (by kernel_rfl))
  f169 := Tryz.func109.trans (congrArg some (by kernel_rfl))
  f240 := Tryz.func136.trans (congrArg some (by kernel_rfl))
  f241 := Tryz.func137.trans (congrArg some (by kernel_rfl))
  f276 := Tryz.func173.trans (congrArg some (by kernel_rfl))
  f277 := Tryz.func174.trans (congrArg some (by kernel_rfl))
  t0 := Tryz.underlying0
  a0 := Tryz.isAgg0
  z0 := Tryz.sizeOf0
  v0 := Tryz.zeroValue0
  t3 := Tryz.underlying3
  a3 := Tryz.isAgg3
  z3 := Tryz.sizeOf3
  v3 := Tryz.zeroValue3
  t4 := Tryz.underlying4
  a4 := Tryz.isAgg4
  z4 := Tryz.sizeOf4
  v4 := Tryz.zeroValue4
  t9 := Tryz.underlying9
  a9 := Tryz.isAgg9
  z9 := Tryz.sizeOf9
  v9 := Tryz.zeroValue9
  t20 := Tryz.underlying20
  a20 := Tryz.isAgg20
  z20 := Tryz.sizeOf20
  v20 := Tryz.zeroValue20
  t31 := Tryz.underlying76
  a31 := Tryz.isAgg76
  z31 := Tryz.sizeOf76
  v31 := Tryz.zeroValue76
  t37 := Tryz.underlying87
  a37 := Tryz.isAgg87
  z37 := Tryz.sizeOf87
  v37 := Tryz.zeroValue87
  t70 := Tryz.underlying106
  a70 := Tryz.isAgg106
  z70 := Tryz.sizeOf106
  v70 := Tryz.zeroValue106
  t72 := Tryz.underlying108
  a72 := Tryz.isAgg108
  z72 := Tryz.sizeOf108
  v72 := Tryz.zeroValue108
  t75 := Tryz.underlying111
  a75 := Tryz.isAgg111
  z75 := Tryz.sizeOf111
  v75 := Tryz.zeroValue111
  t76 := Tryz.underlying112
  a76 := Tryz.isAgg112
  z76 := Tryz.sizeOf112
  v76 := Tryz.zeroValue112
  t127 := Tryz.underlying88
  a127 := Tryz.isAgg88
  z127 := Tryz.sizeOf88
  v127 := Tryz.zeroValue88
  t164 := Tryz.underlying164
  a164 := Tryz.isAgg164
  z164 := Tryz.sizeOf164
  v164 := Tryz.zeroValue164 }
theorem extraMj : Builder.Extra Tryz.prog mjoren := {
  sizeBuilder := by kernel_rfl
  liesBuilder := by kernel_rfl
  t5 := Tryz.underlying5
  a5 := Tryz.isAgg5
  z5 := Tryz.sizeOf5
  v5 := Tryz.zeroValue5
  infoByte := by kernel_rfl
  cellsByte := by kernel_rfl
  sizeByte := by kernel_rfl
  neB5 := by decide }
/-- A row of texts in a block g of the call's own. -/
structure RowT (w : World) (g : Nat) (ws : List (List UInt8)) : Prop where
  lt : g < w.heap.size
  cells : ∀ i (h : i < ws.length), w.cell? ⟨g, i, none⟩ = some (.string (txt ws[i]))
  free : ∀ i, w.frozen? ⟨g, i, none⟩ = false
theorem RowT.below {w w' : World} {g : Nat} {ws : List (List UInt8)} (h : RowT w g ws) (hb : Below w.heap.size w w') : RowT w' g ws := by
  refine ⟨by have := hb.size; have := h.lt; omega, fun i hi => (hb.cell (p := ⟨g, i, none⟩) h.lt).trans (h.cells i hi), fun i => ?_⟩
  have hb2 := hb.block g h.lt
  have := h.free i
  unfold World.frozen? at this ⊢
  rw [hb2]; exact this
theorem RowT.store {w : World} {g : Nat} {ws : List (List UInt8)} (h : RowT w g ws) {i : Nat} (hi : i < ws.length) (x : List UInt8) : RowT (w.setCell ⟨g, i, none⟩ (.string (txt x))) g (ws.set i x) := by
  refine ⟨by rw [World.size_setCell]; exact h.lt, fun j hj => ?_, fun j => by rw [World.frozen?_setCell]; exact h.free j⟩
  have hj2 : j < ws.length := by rw [List.length_set] at hj; exact hj
  by_cases e : j = i
  · subst e
    rw [World.cell?_setCell_same _ _ _ (h.cells j hj2)]
    simp
  · rw [World.cell?_setCell_other _ _ _ _ (fun x => e (by simpa using x.symm)), h.cells j hj2, List.getElem_set_ne (fun x => e x.symm)]
theorem splitT_any (c : UInt8) (s : ByteArray) (w : World) (hs : s.size < 4294967281) (hm : SomeMax w) :
    Calls Tryz.prog 113 #[.string s, .string ⟨#[c]⟩] w fun e w' => ∃ g, e = .returned (.slice (some ⟨g, 0, none⟩) (splitL c s.data.toList).length (splitL c s.data.toList).length) ∧ w.heap.size ≤ g ∧ RowT w' g (splitL c s.data.toList) ∧ Below w.heap.size w w' := by
  obtain ⟨m, hm⟩ := hm
  have := Any.strings_Split lays146 (by kernel_rfl) s ⟨#[c]⟩ m w hs hm (Nat.le_refl 1)
  rw [pieces_is, pieces_count] at this
  refine this.mono ?_
  rintro e w' ⟨rfl, rfl⟩
  refine ⟨w.heap.size, rfl, Nat.le_refl _, ⟨Lib.pieces_block _ _, fun i hi => ?_, fun i => Lib.pieces_frozen _ _ _ _⟩, (Below.refl _ w).alloc (Nat.le_refl _) _⟩
  exact Lib.pieces_cell_at w _ _ i _ (by rw [List.getElem?_map, List.getElem?_eq_getElem hi]; rfl)
theorem join_any (c : UInt8) (g cap : Nat) (ws : List (List UInt8)) (w : World) (hr : RowT w g ws) (h1 : ws.length ≤ 1073741824) (h2 : ws.length ≤ cap) (h3 : (joinL c ws).length ≤ 4294967296) :
    Calls Tryz.prog 114 #[.slice (some ⟨g, 0, none⟩) ws.length cap, .string ⟨#[c]⟩] w fun e w' => e = .returned (.string (txt (joinL c ws))) ∧ Below w.heap.size w w' := by
  have hd : (ws.map txt).map (·.data.toList) = ws := by
    rw [List.map_map]; exact List.map_id ws
  have hj : Lib.join ((ws.map txt).map (·.data.toList)) (⟨#[c]⟩ : ByteArray).data.toList = joinL c ws := by
    rw [hd]; exact join_is c ws
  have := Any.strings_Join lays156 extraMj g 0 cap (ws.map txt) ⟨#[c]⟩ w (fun j x hx => by
    rw [List.getElem?_map] at hx
    cases hw : ws[j]? with
    | none => rw [hw] at hx; cases hx
    | some y =>
      rw [hw] at hx
      obtain ⟨hj, rfl⟩ := List.getElem?_eq_some_iff.1 hw
      rw [Nat.zero_add, hr.cells j hj]
      exact congrArg (Option.map Value.string) hx) hr.lt (by rw [List.length_map]; omega) (by rw [List.length_map]; exact h2) (by rw [hj]; omega)
  rw [hj, List.length_map] at this
  exact this
end Go.Proofs.YtfjfkkbgkjmghaaGreatDoor

namespace Go.Proofs.YtfjfkkbgkjmghaaGreatDoor
open Go.RowKit
set_option maxRecDepth 100000
theorem textTypes : TextTypes Tryz.prog 76 9 := ⟨Tryz.underlying76, Tryz.underlying9, by kernel_rfl⟩
/-- A piece of a text. -/
def subL (s : ByteArray) (j k : Nat) : List UInt8 := (s.data.toList.drop j).take (k - j)
theorem subL_txt (s : ByteArray) (j k : Nat) : s.extract j k = txt (subL s j k) := by
  apply ByteArray.ext
  apply Array.ext'
  show (s.extract j k).data.toList = (s.data.toList.drop j).take (k - j)
  simp
theorem drop_cons {s : ByteArray} {k : Nat} (hk : k < s.size) : s.data.toList.drop k = s[k] :: s.data.toList.drop (k + 1) := by
  have : s[k] = s.data.toList[k]'(by simpa using hk) := by simp; rfl
  rw [this]; exact List.drop_eq_getElem_cons _
theorem subL_same (s : ByteArray) (k : Nat) : subL s k k = [] := by unfold subL; rw [Nat.sub_self, List.take_zero]
theorem subL_next {s : ByteArray} {j k : Nat} (h : j ≤ k) (hk : k < s.size) : subL s j (k + 1) = subL s j k ++ [s[k]] := by
  unfold subL
  rw [show k + 1 - j = (k - j) + 1 by omega, List.take_add_one, List.getElem?_drop, show j + (k - j) = k by omega]
  have : s.data.toList[k]? = some s[k] := by
    have e : s[k] = s.data.toList[k]'(by simpa using hk) := by simp; rfl
    rw [e]; exact List.getElem?_eq_getElem _
  rw [this]; rfl
structure SpAt (s : ByteArray) (c : UInt8) (k q : Nat) (done : List (List UInt8)) : Prop where
  le : q ≤ k
  is : k ≤ s.size → splitL c s.data.toList = done ++ prep (subL s q k) (splitL c (s.data.toList.drop k))
  all : s.size < k → splitL c s.data.toList = done
  len : done.length ≤ k
theorem sp_zero (s : ByteArray) (c : UInt8) : SpAt s c 0 0 [] := ⟨Nat.le_refl _, fun _ => by rw [subL_same, List.drop_zero, prep_nil, List.nil_append], fun h => by omega, Nat.le_refl _⟩
theorem sp_miss {s : ByteArray} {c : UInt8} {k q : Nat} {done : List (List UInt8)} (h : SpAt s c k q done) (hk : k < s.size) (hc : ¬ s[k] = c) : SpAt s c (k + 1) q done :=
  ⟨by have := h.le; omega, fun _ => by rw [h.is (by omega), drop_cons hk, split_miss _ hc, prep_prep, subL_next h.le hk], fun g => by omega, by have := h.len; omega⟩
theorem sp_hit {s : ByteArray} {c : UInt8} {k q : Nat} {done : List (List UInt8)} (h : SpAt s c k q done) (hk : k < s.size) (hc : s[k] = c) : SpAt s c (k + 1) (k + 1) (done ++ [subL s q k]) :=
  ⟨Nat.le_refl _, fun _ => by rw [h.is (by omega), drop_cons hk, hc, split_hit, subL_same, prep_nil, List.append_assoc]; show done ++ ((subL s q k ++ []) :: _) = _; rw [List.append_nil]; rfl, fun g => by omega, by have := h.len; simp; omega⟩
theorem sp_last {s : ByteArray} {c : UInt8} {q : Nat} {done : List (List UInt8)} (h : SpAt s c s.size q done) : SpAt s c (s.size + 1) (s.size + 1) (done ++ [subL s q s.size]) :=
  ⟨Nat.le_refl _, fun g => by omega, fun _ => by rw [h.is (Nat.le_refl _), List.drop_of_length_le (by simp)]; show done ++ [subL s q s.size ++ []] = _; rw [List.append_nil], by have := h.len; simp; omega⟩
theorem byte_eq {a b : UInt8} (h : (a.toNat : Int) = (b.toNat : Int)) : a = b := UInt8.toNat_inj.1 (by omega)
set_option maxHeartbeats 2000000 in
set_option maxRecDepth 100000 in
theorem refSplit_any (s : ByteArray) (c : UInt8) (w : World) (hs : s.size ≤ 1048576) :
    Calls Tryz.prog 69 #[.string s, .int .u8 (c.toNat : Int)] w fun e w' => ∃ v, e = .returned v ∧ OwnsT 9 w.heap.size w' v (splitL c s.data.toList) ∧ Below w.heap.size w w' := by
  go_enter Tryz.func69, Tryz.ntmps69
  go_wp2_with fail
  go_loopw [5, 6, 7] (fun v f i wr => ∃ (k q : Nat) (done : List (List UInt8)), k ≤ s.size + 1 ∧ i = .int .i64 k ∧ f = .int .i64 q ∧ SpAt s c k q done ∧ OwnsT 9 w.heap.size wr v done ∧ Below w.heap.size w wr) (fun _ _ i _ => s.size + 1 - (intOf i).toNat)
  case atStart => exact ⟨0, 0, [], Nat.zero_le _, rfl, rfl, sp_zero s c, OwnsT.nil _ _ _, Below.refl _ _⟩
  case round =>
    obtain ⟨k, q, done, hk, rfl, rfl, hw, hown, hb⟩ := hrel
    have hlen := hw.len
    have hq := hw.le
    have hsz := hb.size
    by_cases hle : k ≤ s.size
    · by_cases hlt : k < s.size
      · by_cases hc : s[k] = c
        · have HW := hide (sp_hit hw hlt hc)
          have HX := hide (subL_txt s q k)
          have i1 : (k : Int) < (s.size : Int) := by omega
          have i2 : ((k : Int) == (s.size : Int)) = false := by simp; omega
          have i3 : ((s[k].toNat : Int) == (c.toNat : Int)) = true := by rw [hc]; simp
          clear hw hc
          go_wp2_with (at_builtin; refine wpList_append_item textTypes _ _ rfl _ _ rfl w.heap.size _ _ (subL s q k) HX.out rfl hown rfl (by omega) (by omega) ?_; intro v' w' hown' hb')
          go_roundw
          case rel => exact ⟨k + 1, k + 1, done ++ [subL s q k], by omega, by go_num, by go_num, HW.out, hown', hb.trans hb'⟩
          case measure => simp [intOf]; omega
        · have HW := hide (sp_miss hw hlt hc)
          have i1 : (k : Int) < (s.size : Int) := by omega
          have i2 : ((k : Int) == (s.size : Int)) = false := by simp; omega
          have i3 : ((s[k].toNat : Int) == (c.toNat : Int)) = false := by
            rw [beq_eq_false_iff_ne]
            exact fun e => hc (byte_eq e)
          clear hw hc
          go_wp2_with fail
          go_roundw
          case rel => exact ⟨k + 1, q, done, by omega, by go_num, rfl, HW.out, hown, hb⟩
          case measure => simp [intOf]; omega
      · obtain rfl : k = s.size := by omega
        have HW := hide (sp_last hw)
        have HX := hide (subL_txt s q s.size)
        clear hw hlt
        go_wp2_with (at_builtin; refine wpList_append_item textTypes _ _ rfl _ _ rfl w.heap.size _ _ (subL s q s.size) HX.out rfl hown rfl (by omega) (by omega) ?_; intro v' w' hown' hb')
        go_roundw
        case rel => exact ⟨s.size + 1, s.size + 1, done ++ [subL s q s.size], by omega, by go_num, by go_num, HW.out, hown', hb.trans hb'⟩
        case measure => simp [intOf]
    · have HE := hide (hw.all (by omega))
      have hi : ¬ (k : Int) ≤ (s.size : Int) := by omega
      go_wp2_with fail
      go_ret
      exact ⟨_, rfl, by rw [HE.out]; exact hown, hb⟩

/-- What a row of texts is, for a loop over it. -/
theorem row_form {w1 : World} {base : Nat} {v : Value} {ws : List (List UInt8)} (hv : OwnsT 9 base w1 v ws) (hn : ws ≠ []) : ∃ g cap, v = .slice (some ⟨g, 0, none⟩) ws.length cap ∧ g < w1.heap.size ∧ ∀ i (h : i < ws.length), w1.cell? ⟨g, i, none⟩ = some (.string (txt ws[i])) := by
  rcases hv.2 with ⟨h1, h2⟩ | ⟨g, cap, cur, h1, h2, h3, h4⟩
  · exact absurd (List.eq_nil_of_length_eq_zero h2) hn
  · refine ⟨g, cap, h1, ?_, fun i h => ?_⟩
    · rcases Nat.lt_or_ge g w1.heap.size with h' | h'
      · exact h'
      · simp [Array.getElem?_eq_none h'] at h3
    · subst h1
      rw [World.ownsRow.cellAt hv i (by omega)]
      simp [cellT, h]
theorem prep_sum (a : List UInt8) (m : List (List UInt8)) : ((prep a m).map List.length).sum = a.length + (m.map List.length).sum := by
  cases m with
  | nil => simp [prep]
  | cons h t => simp [prep]; omega
theorem split_sum (c : UInt8) : ∀ l : List UInt8, ((splitL c l).map List.length).sum ≤ l.length
  | [] => by simp [splitL]
  | x :: l => by
    have ih := split_sum c l
    by_cases h : x = c
    · subst h
      rw [split_hit]
      simp only [List.map_cons, List.length_nil, List.sum_cons, List.length_cons]
      omega
    · rw [split_miss l h, prep_sum]
      simp only [List.length_cons, List.length_nil]
      omega
theorem split_count (c : UInt8) : ∀ l : List UInt8, (splitL c l).length ≤ l.length + 1
  | [] => by simp [splitL]
  | x :: l => by
    have ih := split_count c l
    by_cases h : x = c
    · subst h
      rw [split_hit]
      simp only [List.length_cons]
      omega
    · rw [split_miss l h]
      have : (prep [x] (splitL c l)).length ≤ (splitL c l).length + 1 := by
        cases splitL c l with
        | nil => simp [prep]
        | cons => simp [prep]
      have h2 : (prep [x] (splitL c l)).length = (splitL c l).length := by
        cases e : splitL c l with
        | nil => exact absurd e (split_ne c l)
        | cons => rfl
      rw [h2, List.length_cons]; omega
theorem mem_sum {p : List UInt8} : ∀ {ps : List (List UInt8)}, p ∈ ps → p.length ≤ (ps.map List.length).sum
  | q :: ps, h => by
    rcases List.mem_cons.1 h with e | e
    · subst e; simp
    · have := mem_sum e
      simp only [List.map_cons, List.sum_cons]; omega
theorem split_mem {c : UInt8} {l p : List UInt8} (h : p ∈ splitL c l) : p.length ≤ l.length := Nat.le_trans (mem_sum h) (split_sum c l)
end Go.Proofs.YtfjfkkbgkjmghaaGreatDoor

namespace Go.Proofs.YtfjfkkbgkjmghaaGreatDoor
open Go.RowKit
set_option maxRecDepth 100000
set_option maxHeartbeats 400000 in
theorem refBlank_any (c : UInt8) (w : World) :
    Calls Tryz.prog 94 #[.int .u8 (c.toNat : Int)] w fun e w' => e = .returned (.bool (isBl c)) ∧ w' = w := by
  have HB := hide (isBl_iff c)
  generalize (c.toNat : Int) = x at *
  cases hx : isBl c with
  | true =>
    have h5 := HB.out.1 hx
    clear hx HB
    rcases h5 with rfl | rfl | rfl | rfl | rfl
    all_goals
      go_enter Tryz.func94, Tryz.ntmps94
      go_wp2
      go_ret
      exact ⟨rfl, rfl⟩
  | false =>
    have h5 : ¬ (x = 9 ∨ x = 10 ∨ x = 12 ∨ x = 13 ∨ x = 32) := fun h => by rw [HB.out.2 h] at hx; cases hx
    have q1 : (x == 9) = false := by simp; omega
    have q2 : (x == 10) = false := by simp; omega
    have q3 : (x == 12) = false := by simp; omega
    have q4 : (x == 13) = false := by simp; omega
    have q5 : (x == 32) = false := by simp; omega
    clear hx HB h5
    go_enter Tryz.func94, Tryz.ntmps94
    go_wp2
    go_ret
    exact ⟨rfl, rfl⟩
set_option maxHeartbeats 400000 in
theorem refStrip_any (s : ByteArray) (w : World) (hs : s.size ≤ 281474976710656) :
    Calls Tryz.prog 68 #[.string s] w fun e w' => e = .returned (.string (stripS s)) ∧ Below w.heap.size w w' := by
  go_enter Tryz.func68, Tryz.ntmps68
  go_wp2_with fail
  go_loop [3] (fun i => ∃ p : Nat, p ≤ s.size ∧ i = .int .i64 p ∧ LeftB s p) (fun i => s.size - (intOf i).toNat)
  case atStart => exact ⟨0, Nat.zero_le _, rfl, leftB_zero s⟩
  case round =>
    obtain ⟨p, hp, rfl, hl⟩ := hrel
    by_cases hlt : p < s.size
    · cases hb : isBl s[p] with
      | true =>
        have HS := hide (leftB_succ hl hlt hb)
        go_wp2_with fail
        refine (refBlank_any s[p] _).mono ?_
        rintro e w1 ⟨rfl, rfl⟩
        go_wp2_with fail
        go_round
        case rel => exact ⟨p + 1, by omega, by go_num, HS.out⟩
        case measure => simp [intOf]; omega
      | false =>
        have HN := hide (noneB_at hlt hb)
        go_wp2_with fail
        refine (refBlank_any s[p] _).mono ?_
        rintro e w1 ⟨rfl, rfl⟩
        go_wp2_with fail
        go_loop [4] (fun i => ∃ q : Nat, p ≤ q ∧ q ≤ s.size ∧ i = .int .i64 q ∧ RightB s q) (fun i => (intOf i).toNat)
        case atStart => exact ⟨s.size, hp, Nat.le_refl _, rfl, rightB_end s⟩
        case round =>
          obtain ⟨q, hpq, hq, rfl, hr⟩ := hrel
          by_cases hgt : p < q
          · have hq1 : q - 1 < s.size := by omega
            have hti : ((q : Int) - 1).toNat = q - 1 := by omega
            cases hb : isBl (s[q - 1]'hq1) with
            | true =>
              have HS := hide (rightB_pred (k := q - 1) (by rw [Nat.sub_add_cancel (by omega)]; exact hr) hq1 hb)
              have HB := hide hb
              clear hb
              go_wp2_with fail
              refine (refBlank_any (s[q - 1]'hq1) _).mono ?_
              rintro e w1 ⟨rfl, rfl⟩
              rw [HB.out]
              go_wp2_with fail
              go_round
              case rel => exact ⟨q - 1, by omega, by omega, by go_num, HS.out⟩
              case measure => simp [intOf]; omega
            | false =>
              have HF := hide (stripS_found hpq hq hl hr HN.out (.inr (noneB_at hq1 hb)))
              go_wp2_with fail
              refine (refBlank_any (s[q - 1]'hq1) _).mono ?_
              rintro e w1 ⟨rfl, rfl⟩
              go_wp2_with fail
              go_ret
              exact ⟨ret_str HF.out.symm, Below.refl _ _⟩
          · have HF := hide (stripS_found hpq hq hl hr HN.out (.inl (by omega)))
            go_wp2_with fail
            go_ret
            exact ⟨ret_str HF.out.symm, Below.refl _ _⟩
    · have HN := hide (noneB_end (s := s) (k := p) (by omega))
      go_wp2_with fail
      go_loop [4] (fun i => ∃ q : Nat, p ≤ q ∧ q ≤ s.size ∧ i = .int .i64 q ∧ RightB s q) (fun i => (intOf i).toNat)
      case atStart => exact ⟨s.size, hp, Nat.le_refl _, rfl, rightB_end s⟩
      case round =>
        obtain ⟨q, hpq, hq, rfl, hr⟩ := hrel
        have hgt : ¬ p < q := by omega
        have HF := hide (stripS_found hpq hq hl hr HN.out (.inl (by omega)))
        go_wp2_with fail
        go_ret
        exact ⟨ret_str HF.out.symm, Below.refl _ _⟩
end Go.Proofs.YtfjfkkbgkjmghaaGreatDoor

namespace Go.Proofs.YtfjfkkbgkjmghaaGreatDoor
open Go.RowKit
set_option maxRecDepth 100000
theorem byteTypesE : ByteTypes Tryz.prog 87 5 9 := ⟨Tryz.underlying87, Tryz.underlying5, Tryz.underlying9, by kernel_rfl⟩
set_option maxHeartbeats 400000 in
theorem refEnds_any (s e : ByteArray) (w : World) (hs : s.size ≤ 1099511627776) (he : e.size ≤ 2) :
    Calls Tryz.prog 67 #[.string s, .string e] w fun r w' => r = .returned (.string (endsS e s)) ∧ Below w.heap.size w w' := by
  go_enter Tryz.func67, Tryz.ntmps67
  go_wp2
  go_loopw [5, 6] (fun v i wr => ∃ k : Nat, k ≤ s.size ∧ i = .int .i64 k ∧ OwnsB 5 w.heap.size wr v (endsP e.data.toList 0 (s.data.toList.take k)) ∧ (k < s.size → ¬ (byteAt s k = 10 ∧ prevAt s k = 13)) ∧ Below w.heap.size w wr) (fun _ i _ => s.size - (intOf i).toNat)
  case atStart => exact ⟨0, Nat.zero_le _, rfl, OwnsB.nil _ _ _, fun _ h => absurd h.2 (prevAt_zero s), Below.refl _ _⟩
  case round =>
    obtain ⟨k, hk, rfl, hown, hn, hb⟩ := hrel
    by_cases hlt : k < s.size
    · have hle := endsP_take_le e s k he
      have HT := hide (endsP_take e.data.toList s k hlt)
      have hsz := hb.size
      have HN := hide (hn hlt)
      clear hn
      have HE := hide (byteAt_eq s k hlt)
      have HB : Hid ((s[k].toNat : Int) = ((byteAt s k).toNat : Int)) := by rw [byteAt_eq s k hlt]; rfl
      by_cases h10 : (s[k].toNat : Int) = 10
      · have q1 : ((s[k].toNat : Int) != 10) = false := by simp [h10]
        have q2 : ((s[k].toNat : Int) == 13) = false := by simp [h10]
        have hc := (b10 (byteAt s k)).2 (by rw [← HB.out]; exact h10)
        have HP := hide (piece_end (e := e.data.toList) (p := prevAt s k) (c := byteAt s k) HN.out (.inl hc))
        have HX := hide (fun h : k + 1 < s.size => next_free s k (fun h13 => absurd (hc.symm.trans h13) (by decide)) h)
        clear h10 hc HE
        go_wp2_with (at_builtin; refine wpList_append_text byteTypesE wr rfl _ _ rfl w.heap.size _ _ e rfl hown rfl (by omega) (by omega) ?_; intro v' w' hown' hb')
        go_roundw
        case rel => exact ⟨k + 1, by omega, by go_num, by rw [HT.out, HP.out]; exact hown', fun h => HX.out h, hb.trans hb'⟩
        case measure => simp [intOf]; omega
      · by_cases h13 : (s[k].toNat : Int) = 13
        · have q1 : ((s[k].toNat : Int) != 10) = true := by simp [h13]
          have q2 : ((s[k].toNat : Int) != 13) = false := by simp [h13]
          have q3 : ((s[k].toNat : Int) == 13) = true := by simp [h13]
          have hc := (b13 (byteAt s k)).2 (by rw [← HB.out]; exact h13)
          have HP := hide (piece_end (e := e.data.toList) (p := prevAt s k) (c := byteAt s k) HN.out (.inr hc))
          by_cases hn1 : k + 1 < s.size
          · have hi1 : (k : Int) + 1 < (s.size : Int) := by omega
            by_cases hx : ((s[k + 1]'hn1).toNat : Int) = 10
            · have q4 : (((s[k + 1]'hn1).toNat : Int) == 10) = true := by simp [hx]
              have hc1 := (b10 (byteAt s (k + 1))).2 (by rw [← byteAt_eq s (k + 1) hn1]; exact hx)
              have hp1 : prevAt s (k + 1) = 13 := by unfold prevAt; rw [if_neg (by omega)]; exact hc
              have HT2 : Hid (endsP e.data.toList 0 (s.data.toList.take (k + 1 + 1)) = endsP e.data.toList 0 (s.data.toList.take k) ++ e.data.toList) := by
                show _ = _
                rw [endsP_take _ _ _ hn1, piece_none hc1 hp1, List.append_nil, HT.out, HP.out]
              have HX := hide (fun h : k + 1 + 1 < s.size => next_free s (k + 1) (fun h13 => absurd (hc1.symm.trans h13) (by decide)) h)
              clear h10 h13 hc HE hx hc1 hp1
              go_wp2_with (at_builtin; refine wpList_append_text byteTypesE wr rfl _ _ rfl w.heap.size _ _ e rfl hown rfl (by omega) (by omega) ?_; intro v' w' hown' hb')
              go_roundw
              case rel => exact ⟨k + 1 + 1, by omega, by go_num, by rw [HT2.out]; exact hown', fun h => HX.out h, hb.trans hb'⟩
              case measure => simp [intOf]; omega
            · have q4 : (((s[k + 1]'hn1).toNat : Int) == 10) = false := by simp [hx]
              have HX := hide (fun _ : k + 1 < s.size => fun h : byteAt s (k + 1) = 10 ∧ prevAt s (k + 1) = 13 => hx (by rw [byteAt_eq s (k + 1) hn1]; exact (b10 _).1 h.1))
              clear h10 h13 hc HE hx
              go_wp2_with (at_builtin; refine wpList_append_text byteTypesE wr rfl _ _ rfl w.heap.size _ _ e rfl hown rfl (by omega) (by omega) ?_; intro v' w' hown' hb')
              go_roundw
              case rel => exact ⟨k + 1, by omega, by go_num, by rw [HT.out, HP.out]; exact hown', fun h => HX.out h, hb.trans hb'⟩
              case measure => simp [intOf]; omega
          · have hi1 : ¬ (k : Int) + 1 < (s.size : Int) := by omega
            clear h10 h13 hc HE
            go_wp2_with (at_builtin; refine wpList_append_text byteTypesE wr rfl _ _ rfl w.heap.size _ _ e rfl hown rfl (by omega) (by omega) ?_; intro v' w' hown' hb')
            go_roundw
            case rel => exact ⟨k + 1, by omega, by go_num, by rw [HT.out, HP.out]; exact hown', fun h => absurd h hn1, hb.trans hb'⟩
            case measure => simp [intOf]; omega
        · have q1 : ((s[k].toNat : Int) != 10) = true := by simp [h10]
          have q2 : ((s[k].toNat : Int) != 13) = true := by simp [h13]
          have g10 := fun h => h10 (HB.out.trans ((b10 (byteAt s k)).1 h))
          have g13 := fun h => h13 (HB.out.trans ((b13 (byteAt s k)).1 h))
          have HP := hide (piece_byte (e := e.data.toList) (p := prevAt s k) (c := byteAt s k) g10 g13)
          have HX := hide (fun h : k + 1 < s.size => next_free s k g13 h)
          clear h10 h13 HE g10 g13
          go_wp2_with (at_builtin; refine wpList_append_byte byteTypesE wr _ rfl _ _ rfl w.heap.size _ _ (byteAt s k) HB.out rfl hown rfl (by omega) (by omega) ?_; intro v' w' hown' hb')
          go_roundw
          case rel => exact ⟨k + 1, by omega, by go_num, by rw [HT.out, HP.out]; exact hown', fun h => HX.out h, hb.trans hb'⟩
          case measure => simp [intOf]; omega
    · have e : k = s.size := by omega
      subst e
      rw [take_all] at hown
      have hend := hown.text byteTypesE
      go_wp2
      go_ret
      exact ⟨rfl, hb⟩
set_option maxHeartbeats 400000 in
theorem refNoBreaks_any (s : ByteArray) (w : World) (hs : s.size ≤ 1099511627776) :
    Calls Tryz.prog 44 #[.string s] w fun r w' => r = .returned (.string (noBreaksS s)) ∧ Below w.heap.size w w' := by
  go_enter Tryz.func44, Tryz.ntmps44
  go_wp2_with fail
  refine (refEnds_any s ⟨#[]⟩ _ hs (by decide)).mono ?_
  rintro r w1 ⟨rfl, b1⟩
  go_wp2_with fail
  go_ret
  exact ⟨rfl, b1⟩
end Go.Proofs.YtfjfkkbgkjmghaaGreatDoor

namespace Go.Proofs.YtfjfkkbgkjmghaaGreatDoor
open Go.RowKit
set_option maxRecDepth 100000
theorem strip_sum : ∀ (ws : List (List UInt8)) (k : Nat), ((((ws.take k).map stripL)).map List.length).sum ≤ (ws.map List.length).sum
  | [], k => by simp
  | a :: t, 0 => by simp
  | a :: t, k + 1 => by
    have ih := strip_sum t k
    have h := stripL_le a
    simp only [List.take_succ_cons, List.map_cons, List.sum_cons]
    omega
theorem join_take_le (ws : List (List UInt8)) (k : Nat) : (joinL 44 ((ws.take k).map stripL)).length ≤ (ws.map List.length).sum + ws.length := by
  have h1 := join_len 44 ((ws.take k).map stripL)
  have h2 := strip_sum ws k
  have h3 : ((ws.take k).map stripL).length ≤ ws.length := by rw [List.length_map]; exact List.length_take_le' ..
  omega
theorem take_one {α : Type} {ws : List α} {k : Nat} (hk : k < ws.length) : ws.take (k + 1) = ws.take k ++ [ws[k]] := by
  rw [List.take_succ_eq_append_getElem hk]
theorem join_first {ws : List (List UInt8)} (hk : 0 < ws.length) : joinL 44 ((ws.take (0 + 1)).map stripL) = stripL ws[0] := by
  rw [take_one hk]; rfl
theorem join_next {ws : List (List UInt8)} {k : Nat} (hk : k < ws.length) (h0 : k ≠ 0) : joinL 44 ((ws.take (k + 1)).map stripL) = joinL 44 ((ws.take k).map stripL) ++ [44] ++ stripL ws[k] := by
  rw [take_one hk, List.map_append]
  show joinL 44 (_ ++ [stripL ws[k]]) = _
  rw [join_snoc]
  · simp
  · intro e
    have := congrArg List.length e
    rw [List.length_map, List.length_take, List.length_nil] at this
    omega
theorem txt_plus (l k : List UInt8) : txt l ++ txt k = txt (l ++ k) := by
  apply ByteArray.ext
  rw [ByteArray.data_append]
  show l.toArray ++ k.toArray = (l ++ k).toArray
  simp
set_option maxHeartbeats 1000000 in
theorem refTrim_any (s : ByteArray) (w : World) (hs : s.size ≤ 131072) :
    Calls Tryz.prog 45 #[.string s] w fun e w' => e = .returned (.string (txt (trimM s.data.toList))) ∧ Below w.heap.size w w' := by
  have HN := hide (refNoBreaks_any s w (by omega))
  have HT := hide (fun w => refStrip_any (noBreaksS s) w (by have := endsS_size ⟨#[]⟩ s (by decide); unfold noBreaksS; omega))
  rw [show stripS (noBreaksS s) = txt (trimM s.data.toList) from rfl] at HT
  generalize txt (trimM s.data.toList) = t at *
  generalize noBreaksS s = n at *
  go_enter Tryz.func45, Tryz.ntmps45
  go_wp2_with fail
  refine HN.out.mono ?_
  rintro e v1 ⟨rfl, b1⟩
  go_wp2_with fail
  refine (HT.out _).mono ?_
  rintro e v2 ⟨rfl, b2⟩
  go_wp2_with fail
  go_ret
  exact ⟨rfl, chain b1 b2⟩
set_option maxHeartbeats 2000000 in
set_option maxRecDepth 100000 in
theorem refCleanM_any (s : ByteArray) (w : World) (hs : s.size ≤ 131072) :
    Calls Tryz.prog 47 #[.string s] w fun e w' => e = .returned (.string (txt (cleanM s.data.toList))) ∧ Below w.heap.size w w' := by
  have HS := hide (refSplit_any s 44 w (by omega))
  have E : Hid (cleanM s.data.toList = joinL 44 ((splitL 44 s.data.toList).map stripL)) := rfl
  have hne := split_ne 44 s.data.toList
  have hcnt := split_count 44 s.data.toList
  have hsum := split_sum 44 s.data.toList
  have hls : s.data.toList.length = s.size := by simp
  have hmem := hide (fun p hp => Nat.le_trans (split_mem (c := 44) (l := s.data.toList) (p := p) hp) (show s.data.toList.length ≤ 131072 by omega))
  rw [hls] at hcnt hsum
  clear hls
  generalize splitL 44 s.data.toList = ws at *
  have JL : Hid (∀ k, (joinL 44 ((ws.take k).map stripL)).length ≤ 262146) := fun k => by have := join_take_le ws k; omega
  clear hsum
  go_enter Tryz.func47, Tryz.ntmps47
  go_wp2_with fail
  refine HS.out.mono ?_
  rintro e w1 ⟨v, rfl, hv, b1⟩
  obtain ⟨g, cap, rfl, hg, hcells⟩ := row_form hv hne
  have HC := hide hcells
  clear hcells hv HS
  go_wp2_with fail
  go_loopw [4, 5] (fun o i wr => ∃ j : Nat, j ≤ ws.length ∧ i = .int .i64 j ∧ o = .string (txt (joinL 44 ((ws.take j).map stripL))) ∧ Below w1.heap.size w1 wr) (fun _ i _ => ws.length - (intOf i).toNat)
  case atStart => exact ⟨0, Nat.zero_le _, rfl, rfl, Below.refl _ _⟩
  case round =>
    obtain ⟨j, hj, rfl, rfl, hb⟩ := hrel
    rename World => wr
    by_cases hjl : j < ws.length
    · have hc := (hb.cell (p := ⟨g, j, none⟩) hg).trans (HC.out j hjl)
      have hm := hmem.out ws[j] (List.getElem_mem _)
      have HT := hide (refStrip_any (txt ws[j]) wr (by rw [txt_size]; omega))
      have z2 : (stripS (txt ws[j])).size ≤ 131072 := by have := stripS_size (txt ws[j]); rw [txt_size] at this; omega
      have z1 : (txt (joinL 44 ((ws.take j).map stripL))).size ≤ 262146 := JL.out j
      have j1 : (j : Int) < (ws.length : Int) := by omega
      have zc : (⟨#[44]⟩ : ByteArray).size = 1 := rfl
      by_cases h0 : j = 0
      · subst h0
        have EQ : Hid (txt (joinL 44 ((ws.take (0 + 1)).map stripL)) = txt (joinL 44 ((ws.take 0).map stripL)) ++ stripS (txt ws[0])) := by
          show _ = _
          rw [join_first hjl]
          show txt (stripL ws[0]) = txt [] ++ txt (stripL ws[0])
          rw [txt_plus]; rfl
        have p1 := fun w => run_string_add_sum (P := Tryz.prog) w (txt (joinL 44 ((ws.take 0).map stripL))) (stripS (txt ws[0])) (by omega)
        have RD : Hid (∀ u, u = txt (joinL 44 ((ws.take 0).map stripL)) ++ stripS (txt ws[0]) → Value.string u = .string (txt (joinL 44 ((ws.take (0 + 1)).map stripL)))) := fun u hu => by rw [hu, EQ.out]
        clear EQ hmem HC hm JL
        generalize txt (joinL 44 ((ws.take 0).map stripL)) ++ stripS (txt ws[0]) = s2 at *
        generalize txt (joinL 44 ((ws.take 0).map stripL)) = s0 at *
        generalize stripS (txt ws[0]) = t2 at *
        generalize txt ws[0] = t at *
        go_wp2_with fail
        refine HT.out.mono ?_
        rintro e u1 ⟨rfl, c1⟩
        go_wp2_with fail
        go_roundw
        case rel => exact ⟨0 + 1, by omega, by go_num, RD.out _ rfl, hb.trans (c1.mono hb.size)⟩
        case measure => simp [intOf]; omega
      · have EQ : Hid (txt (joinL 44 ((ws.take (j + 1)).map stripL)) = txt (joinL 44 ((ws.take j).map stripL)) ++ ⟨#[44]⟩ ++ stripS (txt ws[j])) := by
          show _ = _
          rw [join_next hjl h0]
          show _ = txt _ ++ txt [44] ++ txt (stripL ws[j])
          rw [txt_plus, txt_plus]
        have p1 := fun w => run_string_add_sum (P := Tryz.prog) w (txt (joinL 44 ((ws.take j).map stripL))) ⟨#[44]⟩ (by omega)
        have p2 := fun w => run_string_add_sum (P := Tryz.prog) w (txt (joinL 44 ((ws.take j).map stripL)) ++ ⟨#[44]⟩) (stripS (txt ws[j])) (by rw [ByteArray.size_append]; omega)
        have RD : Hid (∀ u, u = txt (joinL 44 ((ws.take j).map stripL)) ++ ⟨#[44]⟩ ++ stripS (txt ws[j]) → Value.string u = .string (txt (joinL 44 ((ws.take (j + 1)).map stripL)))) := fun u hu => by rw [hu, EQ.out]
        have j0 : (0 : Int) < (j : Int) := by omega
        clear EQ hmem HC hm JL h0
        generalize txt (joinL 44 ((ws.take j).map stripL)) ++ ⟨#[44]⟩ ++ stripS (txt ws[j]) = s2 at *
        generalize txt (joinL 44 ((ws.take j).map stripL)) ++ ⟨#[44]⟩ = s1 at *
        generalize txt (joinL 44 ((ws.take j).map stripL)) = s0 at *
        generalize stripS (txt ws[j]) = t2 at *
        generalize txt ws[j] = t at *
        go_wp2_with fail
        refine HT.out.mono ?_
        rintro e u1 ⟨rfl, c1⟩
        go_wp2_with fail
        go_roundw
        case rel => exact ⟨j + 1, by omega, by go_num, RD.out _ rfl, hb.trans (c1.mono hb.size)⟩
        case measure => simp [intOf]; omega
    · obtain rfl : j = ws.length := by omega
      have E2 : Hid (txt (joinL 44 ((ws.take ws.length).map stripL)) = txt (cleanM s.data.toList)) := by
        show _ = _
        rw [E.out, List.take_length]
      clear hmem HC JL
      generalize txt (joinL 44 ((ws.take ws.length).map stripL)) = s0 at *
      go_wp2_with fail
      go_ret
      exact ⟨ret_str E2.out, chain b1 hb⟩
end Go.Proofs.YtfjfkkbgkjmghaaGreatDoor

namespace Go.Proofs.YtfjfkkbgkjmghaaGreatDoor
open Go.RowKit
set_option maxRecDepth 100000
/-- What the program's road names: the library's variable MaxLen holds some number. -/
def MailTabs (w : World) : Prop := SomeMax w
theorem MailTabs.below {w w' : World} (h : MailTabs w) (hb : Below w.heap.size w w') : MailTabs w' := SomeMax.below h hb
/-- The first j texts are stripped, the others as they were. -/
def partS (ws : List (List UInt8)) (j : Nat) : List (List UInt8) := (ws.take j).map stripL ++ ws.drop j
theorem partS_len {ws : List (List UInt8)} {j : Nat} : (partS ws j).length = ws.length := by
  unfold partS
  rw [List.length_append, List.length_map, List.length_take, List.length_drop]; omega
theorem partS_all (ws : List (List UInt8)) : partS ws ws.length = ws.map stripL := by
  unfold partS
  rw [List.take_length, List.drop_length, List.append_nil]
theorem partS_at {ws : List (List UInt8)} {j : Nat} (hj : j < ws.length) (h2 : j < (partS ws j).length) : (partS ws j)[j] = ws[j] := by
  have hl : ((ws.take j).map stripL).length = j := by rw [List.length_map, List.length_take]; omega
  have h3 : (partS ws j)[j]? = ws[j]? := by
    unfold partS
    rw [List.getElem?_append_right (by omega), List.getElem?_drop]
    congr 1
    omega
  rw [List.getElem?_eq_getElem h2, List.getElem?_eq_getElem hj] at h3
  exact Option.some.inj h3
theorem partS_next {ws : List (List UInt8)} {j : Nat} (hj : j < ws.length) : (partS ws j).set j (stripL ws[j]) = partS ws (j + 1) := by
  have hl : ((ws.take j).map stripL).length = j := by rw [List.length_map, List.length_take]; omega
  unfold partS
  rw [List.set_append_right _ _ (by omega), hl, Nat.sub_self, List.drop_eq_getElem_cons hj, List.set_cons_zero, take_one hj, List.map_append, List.append_assoc]
  rfl
set_option maxHeartbeats 1000000 in
theorem mailClean_any (s : ByteArray) (w : World) (hs : s.size ≤ 100000) (hT : MailTabs w) :
    Calls Tryz.prog 84 #[.string s] w fun e w' => e = .returned (.string (txt (cleanM s.data.toList))) ∧ Below w.heap.size w w' := by
  have HS := hide (splitT_any 44 s w (by omega) hT)
  have E : Hid (cleanM s.data.toList = joinL 44 ((splitL 44 s.data.toList).map stripL)) := rfl
  have hls : s.data.toList.length = s.size := by simp
  have hcnt := split_count 44 s.data.toList
  have hsum := split_sum 44 s.data.toList
  have hmem := hide (fun p hp => Nat.le_trans (split_mem (c := 44) (l := s.data.toList) (p := p) hp) (show s.data.toList.length ≤ 100000 by omega))
  rw [hls] at hcnt hsum
  clear hls hT
  generalize splitL 44 s.data.toList = ws at *
  have JL : Hid ((joinL 44 (ws.map stripL)).length ≤ 4294967296) := by
    have := join_take_le ws ws.length
    rw [List.take_length] at this
    show _ ≤ _
    omega
  clear hsum
  go_enter Tryz.func84, Tryz.ntmps84
  go_wp2_with fail
  refine HS.out.mono ?_
  rintro e w1 ⟨g, rfl, hg, hr, b1⟩
  clear HS
  have R0 : RowT w1 g (partS ws 0) := hr
  clear hr
  go_wp2_with fail
  go_loopw [9] (fun i wr => ∃ j : Nat, j ≤ ws.length ∧ i = .int .i64 j ∧ RowT wr g (partS ws j) ∧ Below w.heap.size w wr) (fun i _ => ws.length - (intOf i).toNat)
  case atStart => exact ⟨0, Nat.zero_le _, rfl, R0, b1⟩
  case round =>
    obtain ⟨j, hj, rfl, hr, hb⟩ := hrel
    rename World => wr
    by_cases hjl : j < ws.length
    · have hj2 : j < (partS ws j).length := by rw [partS_len]; exact hjl
      have hc := hr.cells j hj2
      rw [partS_at hjl hj2] at hc
      have hmm := hmem.out ws[j] (List.getElem_mem _)
      have HP := hide (strip_any (txt ws[j]) wr (by rw [txt_size]; omega))
      have HR := hide (fun w' (bb : Below wr.heap.size wr w') => (hr.below bb).store hj2 (stripL ws[j]))
      rw [partS_next hjl, show txt (stripL ws[j]) = stripS (txt ws[j]) from rfl] at HR
      have HF := hide (fun w' (bb : Below wr.heap.size wr w') => (hr.below bb).free j)
      have HX := hide (fun w' (bb : Below wr.heap.size wr w') => (hr.below bb).cells j hj2)
      rw [partS_at hjl hj2] at HX
      have HB := hide (fun w' (bb : Below wr.heap.size wr w') => (chain hb bb).setCell (p := ⟨g, j, none⟩) hg (.string (stripS (txt ws[j]))))
      have j1 : (j : Int) < (ws.length : Int) := by omega
      clear hr hmm hmem R0
      generalize stripS (txt ws[j]) = t2 at *
      generalize txt ws[j] = t at *
      go_wp2_with fail
      refine HP.out.mono ?_
      rintro e u1 ⟨rfl, c1⟩
      have hf := HF.out u1 c1
      have hx := HX.out u1 c1
      go_wp2_with fail
      go_roundw
      case rel => exact ⟨j + 1, by omega, by go_num, HR.out _ c1, HB.out _ c1⟩
      case measure => simp [intOf]; omega
    · obtain rfl : j = ws.length := by omega
      rw [partS_all] at hr
      have HJ := hide (join_any 44 g ws.length (ws.map stripL) wr hr (by rw [List.length_map]; omega) (by rw [List.length_map]; omega) JL.out)
      rw [List.length_map, ← E.out] at HJ
      clear hmem hr R0
      go_wp2_with fail
      refine HJ.out.mono ?_
      rintro e u1 ⟨rfl, c1⟩
      go_wp2_with fail
      go_ret
      exact ⟨rfl, chain hb c1⟩
set_option maxHeartbeats 1000000 in
theorem mailTrim_any (s : ByteArray) (w : World) (hs : s.size ≤ 100000) (_hT : MailTabs w) :
    Calls Tryz.prog 59 #[.string s] w fun e w' => e = .returned (.string (txt (trimM s.data.toList))) ∧ Below w.heap.size w w' := by
  have HN := hide (noBreaks_any s w (by omega))
  have HT := hide (fun w => strip_any (noBreaksS s) w (by have := endsS_size ⟨#[]⟩ s (by decide); unfold noBreaksS; omega))
  rw [show stripS (noBreaksS s) = txt (trimM s.data.toList) from rfl] at HT
  generalize txt (trimM s.data.toList) = t at *
  generalize noBreaksS s = n at *
  go_enter Tryz.func59, Tryz.ntmps59
  go_wp2_with fail
  refine HN.out.mono ?_
  rintro e v1 ⟨rfl, b1⟩
  go_wp2_with fail
  refine (HT.out _).mono ?_
  rintro e v2 ⟨rfl, b2⟩
  go_wp2_with fail
  go_ret
  exact ⟨rfl, chain b1 b2⟩

end Go.Proofs.YtfjfkkbgkjmghaaGreatDoor
