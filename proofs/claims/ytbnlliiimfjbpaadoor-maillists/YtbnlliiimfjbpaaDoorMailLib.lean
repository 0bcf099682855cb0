/- What strings.Cut, strings.Split, strings.Join, strings.IndexByte answer: the shelf's contracts, laid at this program. Conditions: texts of fewer than 2^32 - 15 bytes for Cut and Split, which read the library's variable MaxLen: it holds some number. -/
import Derived.Shelf.Strings.Cut
import Derived.Shelf.Strings.Split
import Derived.Shelf.Strings.OnBuilder
import Derived.Shelf.Strings.PiecesUse
import Derived.Shelf.Small.Strs
import Derived.Test.YtbnlliiimfjbpaaDoorProg
import Derived.Test.YtbnlliiimfjbpaaDoorMax
import Derived.Test.YtbnlliiimfjbpaaDoorCuts
namespace Go.Proofs.YtbnlliiimfjbpaaDoor
open Go.Shelf Go.RowKit

def mctren : Go.Shelf.Ren := ⟨fun | 145 => 17 | 217 => 43 | 219 => 42 | 220 => 29 | 224 => 59 | 225 => 58 | 266 => 61 | 267 => 60 | 314 => 70 | n => n, fun | 3 => 3 | 4 => 4 | 5 => 5 | 9 => 9 | 46 => 58 | 51 => 66 | 59 => 27 | 72 => 39 | 146 => 67 | n => n, fun | 1 => 0 | n => n⟩
theorem lays145 : Go.Proofs.Lays.n145 Tryd.prog mctren := {
  mixed := by kernel_rfl
  f145 := Tryd.func17.trans (congrArg some (by kernel_rfl))
  f217 := Tryd.func43.trans (congrArg some (by kernel_rfl))
  f219 := Tryd.func42.trans (congrArg some (by kernel_rfl))
  f220 := Tryd.func29.trans (congrArg some (by kernel_rfl))
  f224 := Tryd.func59.trans (congrArg some (by kernel_rfl))
  f225 := Tryd.func58.trans (congrArg some (by kernel_rfl))
  f266 := Tryd.func61.trans (congrArg some (by kernel_rfl))
  f267 := Tryd.func60.trans (congrArg some (by kernel_rfl))
  f314 := Tryd.func70.trans (congrArg some (by kernel_rfl))
  t3 := Tryd.underlying3
  a3 := Tryd.isAgg3
  z3 := Tryd.sizeOf3
  v3 := Tryd.zeroValue3
  t4 := Tryd.underlying4
  a4 := Tryd.isAgg4
  z4 := Tryd.sizeOf4
  v4 := Tryd.zeroValue4
  t5 := Tryd.underlying5
  a5 := Tryd.isAgg5
  z5 := Tryd.sizeOf5
  v5 := Tryd.zeroValue5
  t9 := Tryd.underlying9
  a9 := Tryd.isAgg9
  z9 := Tryd.sizeOf9
  v9 := Tryd.zeroValue9
  t46 := Tryd.underlying58
  a46 := Tryd.isAgg58
  z46 := Tryd.sizeOf58
  v46 := Tryd.zeroValue58
  t51 := Tryd.underlying66
  a51 := Tryd.isAgg66
  z51 := Tryd.sizeOf66
  v51 := Tryd.zeroValue66
  t59 := Tryd.underlying27
  a59 := Tryd.isAgg27
  z59 := Tryd.sizeOf27
  v59 := Tryd.zeroValue27
  t146 := Tryd.underlying67
  a146 := Tryd.isAgg67
  z146 := Tryd.sizeOf67
  v146 := Tryd.zeroValue67
  g1 := by kernel_rfl }
def mspren : Go.Shelf.Ren := ⟨fun | 138 => 45 | 143 => 46 | 146 => 23 | 195 => 62 | 197 => 63 | 217 => 43 | 218 => 64 | 219 => 42 | 221 => 33 | 224 => 59 | 225 => 58 | 260 => 71 | 266 => 61 | 267 => 60 | 268 => 44 | 314 => 70 | n => n, fun | 0 => 0 | 3 => 3 | 4 => 4 | 5 => 5 | 9 => 9 | 21 => 21 | 31 => 24 | 46 => 58 | 51 => 66 | 72 => 39 | 105 => 60 | 119 => 70 | 138 => 72 | 139 => 73 | 146 => 67 | n => n, fun | 1 => 0 | 3 => 1 | 4 => 2 | n => n⟩
theorem lays146 : Go.Proofs.Lays.n146 Tryd.prog mspren := {
  mixed := by kernel_rfl
  f138 := Tryd.func45.trans (congrArg some (by kernel_rfl))
  f143 := Tryd.func46.trans (congrArg some (by kernel_rfl))
  f146 := Tryd.func23.trans (congrArg some (by kernel_rfl))
  f195 := Tryd.func62.trans (congrArg some (by kernel_rfl))
  f197 := Tryd.func63.trans (congrArg some (by kernel_rfl))
  f217 := Tryd.func43.trans (congrArg some (by kernel_rfl))
  f218 := Tryd.func64.trans (congrArg some (by kernel_rfl))
  f219 := Tryd.func42.trans (congrArg some (by kernel_rfl))
  f221 := Tryd.func33.trans (congrArg some (by kernel_rfl))
  f224 := Tryd.func59.trans (congrArg some (by kernel_rfl))
  f225 := Tryd.func58.trans (congrArg some (by kernel_rfl))
  f260 := Tryd.func71.trans (congrArg some (by kernel_rfl))
  f266 := Tryd.func61.trans (congrArg some (by kernel_rfl))
  f267 := Tryd.func60.trans (congrArg some (by kernel_rfl))
  f268 := Tryd.func44.trans (congrArg some (by kernel_rfl))
  f314 := Tryd.func70.trans (congrArg some (by kernel_rfl))
  t0 := Tryd.underlying0
  a0 := Tryd.isAgg0
  z0 := Tryd.sizeOf0
  v0 := Tryd.zeroValue0
  t3 := Tryd.underlying3
  a3 := Tryd.isAgg3
  z3 := Tryd.sizeOf3
  v3 := Tryd.zeroValue3
  t4 := Tryd.underlying4
  a4 := Tryd.isAgg4
  z4 := Tryd.sizeOf4
  v4 := Tryd.zeroValue4
  t5 := Tryd.underlying5
  a5 := Tryd.isAgg5
  z5 := Tryd.sizeOf5
  v5 := Tryd.zeroValue5
  t9 := Tryd.underlying9
  a9 := Tryd.isAgg9
  z9 := Tryd.sizeOf9
  v9 := Tryd.zeroValue9
  t21 := Tryd.underlying21
  a21 := Tryd.isAgg21
  z21 := Tryd.sizeOf21
  v21 := Tryd.zeroValue21
  t31 := Tryd.underlying24
  a31 := Tryd.isAgg24
  z31 := Tryd.sizeOf24
  v31 := Tryd.zeroValue24
  t46 := Tryd.underlying58
  a46 := Tryd.isAgg58
  z46 := Tryd.sizeOf58
  v46 := Tryd.zeroValue58
  t51 := Tryd.underlying66
  a51 := Tryd.isAgg66
  z51 := Tryd.sizeOf66
  v51 := Tryd.zeroValue66
  t105 := Tryd.underlying60
  a105 := Tryd.isAgg60
  z105 := Tryd.sizeOf60
  v105 := Tryd.zeroValue60
  t119 := Tryd.underlying70
  a119 := Tryd.isAgg70
  z119 := Tryd.sizeOf70
  t138 := Tryd.underlying72
  a138 := Tryd.isAgg72
  z138 := Tryd.sizeOf72
  v138 := Tryd.zeroValue72
  t139 := Tryd.underlying73
  a139 := Tryd.isAgg73
  z139 := Tryd.sizeOf73
  v139 := Tryd.zeroValue73
  t146 := Tryd.underlying67
  a146 := Tryd.isAgg67
  z146 := Tryd.sizeOf67
  v146 := Tryd.zeroValue67
  g1 := by kernel_rfl
  g3 := by kernel_rfl
  g4 := by kernel_rfl }
def mjoren : Go.Shelf.Ren := ⟨fun | 156 => 26 | 165 => 37 | 166 => 38 | 169 => 39 | 240 => 55 | 241 => 56 | 276 => 68 | 277 => 69 | n => n, fun | 0 => 0 | 3 => 3 | 4 => 4 | 5 => 5 | 9 => 9 | 20 => 20 | 31 => 24 | 37 => 37 | 70 => 36 | 72 => 39 | 75 => 42 | 76 => 43 | 80 => 45 | 127 => 55 | 164 => 63 | n => n, fun  | n => n⟩
theorem lays156 : Go.Proofs.Lays.n156 Tryd.prog mjoren := {
  mixed := by kernel_rfl
  f156 := Tryd.func26.trans (congrArg some (by kernel_rfl))
  f165 := Tryd.func37.trans (congrArg some (by kernel_rfl))
  f166 := Tryd.func38.trans (congrArg some (by kernel_rfl))
  f169 := Tryd.func39.trans (congrArg some (by kernel_rfl))
  f240 := Tryd.func55.trans (congrArg some (by kernel_rfl))
  f241 := Tryd.func56.trans (congrArg some (by kernel_rfl))
  f276 := Tryd.func68.trans (congrArg some (by kernel_rfl))
  f277 := Tryd.func69.trans (congrArg some (by kernel_rfl))
  t0 := Tryd.underlying0
  a0 := Tryd.isAgg0
  z0 := Tryd.sizeOf0
  v0 := Tryd.zeroValue0
  t3 := Tryd.underlying3
  a3 := Tryd.isAgg3
  z3 := Tryd.sizeOf3
  v3 := Tryd.zeroValue3
  t4 := Tryd.underlying4
  a4 := Tryd.isAgg4
  z4 := Tryd.sizeOf4
  v4 := Tryd.zeroValue4
  t9 := Tryd.underlying9
  a9 := Tryd.isAgg9
  z9 := Tryd.sizeOf9
  v9 := Tryd.zeroValue9
  t20 := Tryd.underlying20
  a20 := Tryd.isAgg20
  z20 := Tryd.sizeOf20
  v20 := Tryd.zeroValue20
  t31 := Tryd.underlying24
  a31 := Tryd.isAgg24
  z31 := Tryd.sizeOf24
  v31 := Tryd.zeroValue24
  t37 := Tryd.underlying37
  a37 := Tryd.isAgg37
  z37 := Tryd.sizeOf37
  v37 := Tryd.zeroValue37
  t70 := Tryd.underlying36
  a70 := Tryd.isAgg36
  z70 := Tryd.sizeOf36
  v70 := Tryd.zeroValue36
  t72 := Tryd.underlying39
  a72 := Tryd.isAgg39
  z72 := Tryd.sizeOf39
  v72 := Tryd.zeroValue39
  t75 := Tryd.underlying42
  a75 := Tryd.isAgg42
  z75 := Tryd.sizeOf42
  v75 := Tryd.zeroValue42
  t76 := Tryd.underlying43
  a76 := Tryd.isAgg43
  z76 := Tryd.sizeOf43
  v76 := Tryd.zeroValue43
  t127 := Tryd.underlying55
  a127 := Tryd.isAgg55
  z127 := Tryd.sizeOf55
  v127 := Tryd.zeroValue55
  t164 := Tryd.underlying63
  a164 := Tryd.isAgg63
  z164 := Tryd.sizeOf63
  v164 := Tryd.zeroValue63 }
def mibren : Go.Shelf.Ren := ⟨fun | 137 => 31 | 217 => 43 | 266 => 61 | n => n, fun | 3 => 3 | 5 => 5 | 9 => 9 | 72 => 39 | n => n, fun  | n => n⟩
theorem lays137 : Go.Proofs.Lays.n137 Tryd.prog mibren := {
  mixed := by kernel_rfl
  f137 := Tryd.func31.trans (congrArg some (by kernel_rfl))
  f217 := Tryd.func43.trans (congrArg some (by kernel_rfl))
  f266 := Tryd.func61.trans (congrArg some (by kernel_rfl))
  t3 := Tryd.underlying3
  a3 := Tryd.isAgg3
  z3 := Tryd.sizeOf3
  v3 := Tryd.zeroValue3
  t5 := Tryd.underlying5
  a5 := Tryd.isAgg5
  z5 := Tryd.sizeOf5
  v5 := Tryd.zeroValue5
  t9 := Tryd.underlying9
  a9 := Tryd.isAgg9
  z9 := Tryd.sizeOf9
  v9 := Tryd.zeroValue9 }
theorem extraMj : Builder.Extra Tryd.prog mjoren := {
  sizeBuilder := by kernel_rfl
  liesBuilder := by kernel_rfl
  t5 := Tryd.underlying5
  a5 := Tryd.isAgg5
  z5 := Tryd.sizeOf5
  v5 := Tryd.zeroValue5
  infoByte := by kernel_rfl
  cellsByte := by kernel_rfl
  sizeByte := by kernel_rfl
  neB5 := by decide }

theorem indexByte_is (s : ByteArray) (c : UInt8) (w : World) :
    Calls Tryd.prog 31 #[.string s, .int .u8 (c.toNat : Int)] w fun e w' => e = .returned (.int .i64 (Lib.indexByte s.data.toList c)) ∧ w' = w := by
  have := Any.strings_IndexByte lays137 s (c.toNat : Int) w
  rw [show ((c.toNat : Int)).toNat.toUInt8 = c by simp] at this
  exact this
theorem index_mem (c : UInt8) : ∀ l : List UInt8, 0 ≤ Lib.indexByte l c ↔ l.contains c = true
  | [] => by simp [Lib.indexByte]
  | b :: l => by
    have ih := index_mem c l
    have ge := Lib.indexByte_ge l c
    unfold Lib.indexByte
    by_cases h : b = c
    · subst h; simp
    · have h1 : (b == c) = false := by simpa using h
      have h2 : (c == b) = false := by simpa using fun e => h e.symm
      rw [h1, List.contains_cons, h2, Bool.false_or]
      by_cases g : Lib.indexByte l c = -1
      · rw [g] at ih ⊢; simp at ih ⊢; exact ih
      · have g1 : (Lib.indexByte l c == -1) = false := by simpa using g
        rw [g1, ← ih]; simp; omega
theorem index_yes {c : UInt8} {l : List UInt8} (h : hasB l c = true) : 0 ≤ Lib.indexByte l c := (index_mem c l).2 h
theorem index_no {c : UInt8} {l : List UInt8} (h : hasB l c = false) : Lib.indexByte l c < 0 := by
  rcases Int.lt_or_le (Lib.indexByte l c) 0 with g | g
  · exact g
  · have := (index_mem c l).1 g
    unfold hasB at h
    rw [h] at this; cases this
theorem cutc_none (c : UInt8) (l : List UInt8) (w : World) (hs : l.length < 4294967281) (hm : SomeMax w) (h : c ∉ l) :
    Calls Tryd.prog 17 #[.string (txt l), .string ⟨#[c]⟩] w fun e w' => e = .returned (.tuple #[.string (txt l), .string ⟨#[]⟩, .bool false]) ∧ Below w.heap.size w w' := by
  obtain ⟨m, hm⟩ := hm
  have := Any.strings_Cut lays145 (txt l) ⟨#[c]⟩ m w hs hm
  have e1 : Lib.cut (txt l).data.toList (⟨#[c]⟩ : ByteArray).data.toList = (l, [], false) := cutc_no h
  rw [e1] at this
  refine this.mono ?_
  rintro e w' ⟨rfl, n, rfl⟩
  exact ⟨rfl, ⟨rfl, rfl, rfl, Nat.le_refl _, fun _ _ => rfl⟩⟩
theorem cutc_some (c : UInt8) (a b : List UInt8) (w : World) (hs : (a ++ c :: b).length < 4294967281) (hm : SomeMax w) (h : c ∉ a) :
    Calls Tryd.prog 17 #[.string (txt (a ++ c :: b)), .string ⟨#[c]⟩] w fun e w' => e = .returned (.tuple #[.string (txt a), .string (txt b), .bool true]) ∧ Below w.heap.size w w' := by
  obtain ⟨m, hm⟩ := hm
  have := Any.strings_Cut lays145 (txt (a ++ c :: b)) ⟨#[c]⟩ m w hs hm
  have e1 : Lib.cut (txt (a ++ c :: b)).data.toList (⟨#[c]⟩ : ByteArray).data.toList = (a, b, true) := cutc_yes h
  rw [e1] at this
  refine this.mono ?_
  rintro e w' ⟨rfl, n, rfl⟩
  exact ⟨rfl, ⟨rfl, rfl, rfl, Nat.le_refl _, fun _ _ => rfl⟩⟩

/-- A row of texts in a block g of the call's own. -/
structure RowT (w : World) (g : Nat) (ws : List (List UInt8)) : Prop where
  lt : g < w.heap.size
  cells : ∀ i (h : i < ws.length), w.cell? ⟨g, i, none⟩ = some (.string (txt ws[i]))
  free : ∀ i, w.frozen? ⟨g, i, none⟩ = false
theorem RowT.below {w w' : World} {g : Nat} {ws : List (List UInt8)} (h : RowT w g ws) (hb : Below w.heap.size w w') : RowT w' g ws := by
  refine ⟨by have := hb.size; have := h.lt; omega, fun i hi => (hb.cell (p := ⟨g, i, none⟩) h.lt).trans (h.cells i hi), fun i => ?_⟩
  have hb2 := hb.block g h.lt
  have := h.free i
  unfold World.frozen? at this ⊢
  rw [hb2]; exact this
theorem RowT.store {w : World} {g : Nat} {ws : List (List UInt8)} (h : RowT w g ws) {i : Nat} (hi : i < ws.length) (x : List UInt8) : RowT (w.setCell ⟨g, i, none⟩ (.string (txt x))) g (ws.set i x) := by
  refine ⟨by rw [World.size_setCell]; exact h.lt, fun j hj => ?_, fun j => by rw [World.frozen?_setCell]; exact h.free j⟩
  have hj2 : j < ws.length := by rw [List.length_set] at hj; exact hj
  by_cases e : j = i
  · subst e
    rw [World.cell?_setCell_same _ _ _ (h.cells j hj2)]
    simp
  · rw [World.cell?_setCell_other _ _ _ _ (fun x => e (by simpa using x.symm)), h.cells j hj2, List.getElem_set_ne (fun x => e x.symm)]
theorem split_any (c : UInt8) (s : ByteArray) (w : World) (hs : s.size < 4294967281) (hm : SomeMax w) :
    Calls Tryd.prog 23 #[.string s, .string ⟨#[c]⟩] w fun e w' => ∃ g, e = .returned (.slice (some ⟨g, 0, none⟩) (splitL c s.data.toList).length (splitL c s.data.toList).length) ∧ w.heap.size ≤ g ∧ RowT w' g (splitL c s.data.toList) ∧ Below w.heap.size w w' := by
  obtain ⟨m, hm⟩ := hm
  have := Any.strings_Split lays146 (by kernel_rfl) s ⟨#[c]⟩ m w hs hm (Nat.le_refl 1)
  rw [pieces_is, pieces_count] at this
  refine this.mono ?_
  rintro e w' ⟨rfl, rfl⟩
  refine ⟨w.heap.size, rfl, Nat.le_refl _, ⟨Lib.pieces_block _ _, fun i hi => ?_, fun i => Lib.pieces_frozen _ _ _ _⟩, (Below.refl _ w).alloc (Nat.le_refl _) _⟩
  exact Lib.pieces_cell_at w _ _ i _ (by rw [List.getElem?_map, List.getElem?_eq_getElem hi]; rfl)
theorem join_any (c : UInt8) (g cap : Nat) (ws : List (List UInt8)) (w : World) (hr : RowT w g ws) (h1 : ws.length ≤ 1073741824) (h2 : ws.length ≤ cap) (h3 : (joinL c ws).length ≤ 4294967296) :
    Calls Tryd.prog 26 #[.slice (some ⟨g, 0, none⟩) ws.length cap, .string ⟨#[c]⟩] w fun e w' => e = .returned (.string (txt (joinL c ws))) ∧ Below w.heap.size w w' := by
  have hd : (ws.map txt).map (·.data.toList) = ws := by
    rw [List.map_map]; exact List.map_id ws
  have hj : Lib.join ((ws.map txt).map (·.data.toList)) (⟨#[c]⟩ : ByteArray).data.toList = joinL c ws := by
    rw [hd]; exact join_is c ws
  have := Any.strings_Join lays156 extraMj g 0 cap (ws.map txt) ⟨#[c]⟩ w (fun j x hx => by
    rw [List.getElem?_map] at hx
    cases hw : ws[j]? with
    | none => rw [hw] at hx; cases hx
    | some y =>
      rw [hw] at hx
      obtain ⟨hj, rfl⟩ := List.getElem?_eq_some_iff.1 hw
      rw [Nat.zero_add, hr.cells j hj]
      exact congrArg (Option.map Value.string) hx) hr.lt (by rw [List.length_map]; omega) (by rw [List.length_map]; exact h2) (by rw [hj]; omega)
  rw [hj, List.length_map] at this
  exact this

end Go.Proofs.YtbnlliiimfjbpaaDoor
