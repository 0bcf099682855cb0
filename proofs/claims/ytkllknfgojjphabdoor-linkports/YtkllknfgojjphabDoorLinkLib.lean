/- What strings.Cut, CutPrefix, CutSuffix, HasPrefix, Split, IndexByte, LastIndexByte answer: the shelf's contracts, laid at this program; rows of texts. Conditions: texts of fewer than 2^32 - 15 bytes for Cut and Split, which read the library's variable MaxLen: it holds some number. -/
import Derived.Shelf.Strings.Cut
import Derived.Shelf.Strings.Split
import Derived.Shelf.Strings.PiecesUse
import Derived.Shelf.Strings.Prefix
import Derived.Shelf.Strings.LastIndex
import Derived.Shelf.Small.Wraps
import Derived.Shelf.Small.Strs
import Derived.Test.YtkllknfgojjphabDoorProg
import Derived.Test.YtkllknfgojjphabDoorMax
import Derived.Test.YtkllknfgojjphabDoorLinkP2
namespace Go.Proofs.YtkllknfgojjphabDoor
open Go.Shelf Go.RowKit

def kctren : Go.Shelf.Ren := ⟨fun | 145 => 14 | 217 => 46 | 219 => 40 | 220 => 28 | 224 => 48 | 225 => 47 | 266 => 55 | 267 => 49 | 314 => 56 | n => n, fun | 3 => 3 | 4 => 4 | 5 => 5 | 9 => 9 | 46 => 49 | 51 => 58 | 59 => 31 | 146 => 59 | n => n, fun | 1 => 0 | n => n⟩
theorem lays145 : Go.Proofs.Lays.n145 Tryd.prog kctren := {
  mixed := by kernel_rfl
  f145 := Tryd.func14.trans (congrArg some (by kernel_rfl))
  f217 := Tryd.func46.trans (congrArg some (by kernel_rfl))
  f219 := Tryd.func40.trans (congrArg some (by kernel_rfl))
  f220 := Tryd.func28.trans (congrArg some (by kernel_rfl))
  f224 := Tryd.func48.trans (congrArg some (by kernel_rfl))
  f225 := Tryd.func47.trans (congrArg some (by kernel_rfl))
  f266 := Tryd.func55.trans (congrArg some (by kernel_rfl))
  f267 := Tryd.func49.trans (congrArg some (by kernel_rfl))
  f314 := Tryd.func56.trans (congrArg some (by kernel_rfl))
  t3 := Tryd.underlying3
  a3 := Tryd.isAgg3
  z3 := Tryd.sizeOf3
  v3 := Tryd.zeroValue3
  t4 := Tryd.underlying4
  a4 := Tryd.isAgg4
  z4 := Tryd.sizeOf4
  v4 := Tryd.zeroValue4
  t5 := Tryd.underlying5
  a5 := Tryd.isAgg5
  z5 := Tryd.sizeOf5
  v5 := Tryd.zeroValue5
  t9 := Tryd.underlying9
  a9 := Tryd.isAgg9
  z9 := Tryd.sizeOf9
  v9 := Tryd.zeroValue9
  t46 := Tryd.underlying49
  a46 := Tryd.isAgg49
  z46 := Tryd.sizeOf49
  v46 := Tryd.zeroValue49
  t51 := Tryd.underlying58
  a51 := Tryd.isAgg58
  z51 := Tryd.sizeOf58
  v51 := Tryd.zeroValue58
  t59 := Tryd.underlying31
  a59 := Tryd.isAgg31
  z59 := Tryd.sizeOf31
  v59 := Tryd.zeroValue31
  t146 := Tryd.underlying59
  a146 := Tryd.isAgg59
  z146 := Tryd.sizeOf59
  v146 := Tryd.zeroValue59
  g1 := by kernel_rfl }
def kspren : Go.Shelf.Ren := ⟨fun | 138 => 44 | 143 => 45 | 146 => 20 | 195 => 52 | 197 => 53 | 217 => 46 | 218 => 54 | 219 => 40 | 221 => 36 | 224 => 48 | 225 => 47 | 260 => 58 | 266 => 55 | 267 => 49 | 268 => 43 | 314 => 56 | n => n, fun | 0 => 0 | 3 => 3 | 4 => 4 | 5 => 5 | 9 => 9 | 21 => 21 | 31 => 33 | 46 => 49 | 51 => 58 | 105 => 56 | 119 => 51 | 138 => 53 | 139 => 54 | 146 => 59 | n => n, fun | 1 => 0 | 3 => 1 | 4 => 2 | n => n⟩
theorem lays146 : Go.Proofs.Lays.n146 Tryd.prog kspren := {
  mixed := by kernel_rfl
  f138 := Tryd.func44.trans (congrArg some (by kernel_rfl))
  f143 := Tryd.func45.trans (congrArg some (by kernel_rfl))
  f146 := Tryd.func20.trans (congrArg some (by kernel_rfl))
  f195 := Tryd.func52.trans (congrArg some (by kernel_rfl))
  f197 := Tryd.func53.trans (congrArg some (by kernel_rfl))
  f217 := Tryd.func46.trans (congrArg some (by kernel_rfl))
  f218 := Tryd.func54.trans (congrArg some (by kernel_rfl))
  f219 := Tryd.func40.trans (congrArg some (by kernel_rfl))
  f221 := Tryd.func36.trans (congrArg some (by kernel_rfl))
  f224 := Tryd.func48.trans (congrArg some (by kernel_rfl))
  f225 := Tryd.func47.trans (congrArg some (by kernel_rfl))
  f260 := Tryd.func58.trans (congrArg some (by kernel_rfl))
  f266 := Tryd.func55.trans (congrArg some (by kernel_rfl))
  f267 := Tryd.func49.trans (congrArg some (by kernel_rfl))
  f268 := Tryd.func43.trans (congrArg some (by kernel_rfl))
  f314 := Tryd.func56.trans (congrArg some (by kernel_rfl))
  t0 := Tryd.underlying0
  a0 := Tryd.isAgg0
  z0 := Tryd.sizeOf0
  v0 := Tryd.zeroValue0
  t3 := Tryd.underlying3
  a3 := Tryd.isAgg3
  z3 := Tryd.sizeOf3
  v3 := Tryd.zeroValue3
  t4 := Tryd.underlying4
  a4 := Tryd.isAgg4
  z4 := Tryd.sizeOf4
  v4 := Tryd.zeroValue4
  t5 := Tryd.underlying5
  a5 := Tryd.isAgg5
  z5 := Tryd.sizeOf5
  v5 := Tryd.zeroValue5
  t9 := Tryd.underlying9
  a9 := Tryd.isAgg9
  z9 := Tryd.sizeOf9
  v9 := Tryd.zeroValue9
  t21 := Tryd.underlying21
  a21 := Tryd.isAgg21
  z21 := Tryd.sizeOf21
  v21 := Tryd.zeroValue21
  t31 := Tryd.underlying33
  a31 := Tryd.isAgg33
  z31 := Tryd.sizeOf33
  v31 := Tryd.zeroValue33
  t46 := Tryd.underlying49
  a46 := Tryd.isAgg49
  z46 := Tryd.sizeOf49
  v46 := Tryd.zeroValue49
  t51 := Tryd.underlying58
  a51 := Tryd.isAgg58
  z51 := Tryd.sizeOf58
  v51 := Tryd.zeroValue58
  t105 := Tryd.underlying56
  a105 := Tryd.isAgg56
  z105 := Tryd.sizeOf56
  v105 := Tryd.zeroValue56
  t119 := Tryd.underlying51
  a119 := Tryd.isAgg51
  z119 := Tryd.sizeOf51
  t138 := Tryd.underlying53
  a138 := Tryd.isAgg53
  z138 := Tryd.sizeOf53
  v138 := Tryd.zeroValue53
  t139 := Tryd.underlying54
  a139 := Tryd.isAgg54
  z139 := Tryd.sizeOf54
  v139 := Tryd.zeroValue54
  t146 := Tryd.underlying59
  a146 := Tryd.isAgg59
  z146 := Tryd.sizeOf59
  v146 := Tryd.zeroValue59
  g1 := by kernel_rfl
  g3 := by kernel_rfl
  g4 := by kernel_rfl }
def kibren : Go.Shelf.Ren := ⟨fun | 137 => 39 | 217 => 46 | 266 => 55 | n => n, fun | 3 => 3 | 5 => 5 | 9 => 9 | n => n, fun  | n => n⟩
theorem lays137 : Go.Proofs.Lays.n137 Tryd.prog kibren := {
  mixed := by kernel_rfl
  f137 := Tryd.func39.trans (congrArg some (by kernel_rfl))
  f217 := Tryd.func46.trans (congrArg some (by kernel_rfl))
  f266 := Tryd.func55.trans (congrArg some (by kernel_rfl))
  t3 := Tryd.underlying3
  a3 := Tryd.isAgg3
  z3 := Tryd.sizeOf3
  v3 := Tryd.zeroValue3
  t5 := Tryd.underlying5
  a5 := Tryd.isAgg5
  z5 := Tryd.sizeOf5
  v5 := Tryd.zeroValue5
  t9 := Tryd.underlying9
  a9 := Tryd.isAgg9
  z9 := Tryd.sizeOf9
  v9 := Tryd.zeroValue9 }
def kcpren : Go.Shelf.Ren := ⟨fun | 103 => 9 | 206 => 35 | 210 => 19 | n => n, fun | 3 => 3 | 4 => 4 | 5 => 5 | 9 => 9 | 24 => 28 | n => n, fun  | n => n⟩
theorem lays103 : Go.Proofs.Lays.n103 Tryd.prog kcpren := {
  mixed := by kernel_rfl
  f103 := Tryd.func9.trans (congrArg some (by kernel_rfl))
  f206 := Tryd.func35.trans (congrArg some (by kernel_rfl))
  f210 := Tryd.func19.trans (congrArg some (by kernel_rfl))
  t3 := Tryd.underlying3
  a3 := Tryd.isAgg3
  z3 := Tryd.sizeOf3
  v3 := Tryd.zeroValue3
  t4 := Tryd.underlying4
  a4 := Tryd.isAgg4
  z4 := Tryd.sizeOf4
  v4 := Tryd.zeroValue4
  t9 := Tryd.underlying9
  a9 := Tryd.isAgg9
  z9 := Tryd.sizeOf9
  v9 := Tryd.zeroValue9
  t24 := Tryd.underlying28
  a24 := Tryd.isAgg28
  z24 := Tryd.sizeOf28
  v24 := Tryd.zeroValue28 }
def kcsren : Go.Shelf.Ren := ⟨fun | 104 => 11 | 207 => 38 | 211 => 24 | n => n, fun | 3 => 3 | 4 => 4 | 5 => 5 | 9 => 9 | 24 => 28 | n => n, fun  | n => n⟩
theorem lays104 : Go.Proofs.Lays.n104 Tryd.prog kcsren := {
  mixed := by kernel_rfl
  f104 := Tryd.func11.trans (congrArg some (by kernel_rfl))
  f207 := Tryd.func38.trans (congrArg some (by kernel_rfl))
  f211 := Tryd.func24.trans (congrArg some (by kernel_rfl))
  t3 := Tryd.underlying3
  a3 := Tryd.isAgg3
  z3 := Tryd.sizeOf3
  v3 := Tryd.zeroValue3
  t4 := Tryd.underlying4
  a4 := Tryd.isAgg4
  z4 := Tryd.sizeOf4
  v4 := Tryd.zeroValue4
  t9 := Tryd.underlying9
  a9 := Tryd.isAgg9
  z9 := Tryd.sizeOf9
  v9 := Tryd.zeroValue9
  t24 := Tryd.underlying28
  a24 := Tryd.isAgg28
  z24 := Tryd.sizeOf28
  v24 := Tryd.zeroValue28 }
def khpren : Go.Shelf.Ren := ⟨fun | 99 => 34 | 206 => 35 | n => n, fun | 3 => 3 | 4 => 4 | 5 => 5 | 9 => 9 | n => n, fun  | n => n⟩
theorem lays99 : Go.Proofs.Lays.n99 Tryd.prog khpren := {
  mixed := by kernel_rfl
  f99 := Tryd.func34.trans (congrArg some (by kernel_rfl))
  f206 := Tryd.func35.trans (congrArg some (by kernel_rfl))
  t3 := Tryd.underlying3
  a3 := Tryd.isAgg3
  z3 := Tryd.sizeOf3
  v3 := Tryd.zeroValue3
  t4 := Tryd.underlying4
  a4 := Tryd.isAgg4
  z4 := Tryd.sizeOf4
  v4 := Tryd.zeroValue4
  t9 := Tryd.underlying9
  a9 := Tryd.isAgg9
  z9 := Tryd.sizeOf9
  v9 := Tryd.zeroValue9 }
def kliren : Go.Shelf.Ren := ⟨fun | 149 => 51 | 222 => 57 | n => n, fun | 3 => 3 | 4 => 4 | 5 => 5 | 9 => 9 | n => n, fun  | n => n⟩
theorem lays149 : Go.Proofs.Lays.n149 Tryd.prog kliren := {
  mixed := by kernel_rfl
  f149 := Tryd.func51.trans (congrArg some (by kernel_rfl))
  f222 := Tryd.func57.trans (congrArg some (by kernel_rfl))
  t3 := Tryd.underlying3
  a3 := Tryd.isAgg3
  z3 := Tryd.sizeOf3
  v3 := Tryd.zeroValue3
  t4 := Tryd.underlying4
  a4 := Tryd.isAgg4
  z4 := Tryd.sizeOf4
  v4 := Tryd.zeroValue4
  t5 := Tryd.underlying5
  a5 := Tryd.isAgg5
  z5 := Tryd.sizeOf5
  v5 := Tryd.zeroValue5
  t9 := Tryd.underlying9
  a9 := Tryd.isAgg9
  z9 := Tryd.sizeOf9
  v9 := Tryd.zeroValue9 }

/-- Texts in a block, one behind the other. -/
def TextsAt (w : World) (g : Nat) (ts : List (List UInt8)) : Prop := ∀ i (h : i < ts.length), w.cell? ⟨g, i, none⟩ = some (.string (txt ts[i]))
theorem TextsAt.below {w w' : World} {g : Nat} {ts : List (List UInt8)} (h : TextsAt w g ts) (hb : Below w.heap.size w w') : TextsAt w' g ts :=
  fun i hi => (hb.cell (p := ⟨g, i, none⟩) (World.block_lt_of_cell? _ _ (h i hi))).trans (h i hi)
theorem TextsAt.take {w : World} {g : Nat} {ts : List (List UInt8)} (h : TextsAt w g ts) (n : Nat) : TextsAt w g (ts.take n) := fun i hi => by
  have hi2 : i < ts.length := by rw [List.length_take] at hi; omega
  rw [h i hi2, List.getElem_take]
theorem texts_new (w : World) (T : TypeId) (ts : List (List UInt8)) : TextsAt (w.alloc (.cells (ts.map fun t => Value.string (txt t)).toArray T)) w.heap.size ts := fun i hi => by
  rw [World.cell?_alloc_new, List.getElem?_toArray, List.getElem?_map, List.getElem?_eq_getElem hi]; rfl

theorem indexByte_is (s : ByteArray) (c : UInt8) (w : World) :
    Calls Tryd.prog 39 #[.string s, .int .u8 (c.toNat : Int)] w fun e w' => e = .returned (.int .i64 (Lib.indexByte s.data.toList c)) ∧ w' = w := by
  have := Any.strings_IndexByte lays137 s (c.toNat : Int) w
  rw [show ((c.toNat : Int)).toNat.toUInt8 = c by simp] at this
  exact this
theorem indexFirst_is (l : List UInt8) (c : UInt8) (w : World) :
    Calls Tryd.prog 39 #[.string (txt l), .int .u8 (c.toNat : Int)] w fun e w' => e = .returned (.int .i64 (if firstL c l < l.length then (firstL c l : Int) else -1)) ∧ w' = w := by
  have := indexByte_is (txt l) c w
  rw [txt_data, ixb_is] at this
  exact this
theorem cutc_is (c : UInt8) (l : List UInt8) (w : World) (hs : l.length < 4294967281) (hm : SomeMax w) :
    Calls Tryd.prog 14 #[.string (txt l), .string ⟨#[c]⟩] w fun e w' => e = .returned (.tuple #[.string (txt (headL c l)), .string (txt (tailL c l)), .bool (hasB l c)]) ∧ Below w.heap.size w w' := by
  obtain ⟨m, hm⟩ := hm
  have := Any.strings_Cut lays145 (txt l) ⟨#[c]⟩ m w hs hm
  have e1 : Lib.cut (txt l).data.toList (⟨#[c]⟩ : ByteArray).data.toList = (headL c l, tailL c l, hasB l c) := cut_is c l
  rw [e1] at this
  refine this.mono ?_
  rintro e w' ⟨rfl, n, rfl⟩
  exact ⟨rfl, ⟨rfl, rfl, rfl, Nat.le_refl _, fun _ _ => rfl⟩⟩
theorem cutd_is (l : List UInt8) (w : World) (hs : l.length < 4294967281) (hm : SomeMax w) {a b : List UInt8} {o : Bool} (h : Lib.cut l [58, 58] = (a, b, o)) :
    Calls Tryd.prog 14 #[.string (txt l), .string ⟨#[58, 58]⟩] w fun e w' => e = .returned (.tuple #[.string (txt a), .string (txt b), .bool o]) ∧ Below w.heap.size w w' := by
  obtain ⟨m, hm⟩ := hm
  have := Any.strings_Cut lays145 (txt l) ⟨#[58, 58]⟩ m w hs hm
  have e1 : Lib.cut (txt l).data.toList (⟨#[58, 58]⟩ : ByteArray).data.toList = (a, b, o) := h
  rw [e1] at this
  refine this.mono ?_
  rintro e w' ⟨rfl, n, rfl⟩
  exact ⟨rfl, ⟨rfl, rfl, rfl, Nat.le_refl _, fun _ _ => rfl⟩⟩
theorem split_any (c : UInt8) (l : List UInt8) (w : World) (hs : l.length < 4294967281) (hm : SomeMax w) :
    Calls Tryd.prog 20 #[.string (txt l), .string ⟨#[c]⟩] w fun e w' => ∃ g, e = .returned (.slice (some ⟨g, 0, none⟩) (splitL c l).length (splitL c l).length) ∧ w.heap.size ≤ g ∧ TextsAt w' g (splitL c l) ∧ Below w.heap.size w w' := by
  obtain ⟨m, hm⟩ := hm
  have := Any.strings_Split lays146 (by kernel_rfl) (txt l) ⟨#[c]⟩ m w hs hm (Nat.le_refl 1)
  rw [pieces_is, pieces_count, txt_data] at this
  refine this.mono ?_
  rintro e w' ⟨rfl, rfl⟩
  refine ⟨w.heap.size, rfl, Nat.le_refl _, fun i hi => ?_, (Below.refl _ w).alloc (Nat.le_refl _) _⟩
  exact Lib.pieces_cell_at w _ _ i _ (by rw [List.getElem?_map, List.getElem?_eq_getElem hi]; rfl)
theorem cutPre_is (l p : List UInt8) (w : World) :
    Calls Tryd.prog 9 #[.string (txt l), .string (txt p)] w fun e w' => e = .returned (.tuple #[.string (txt (Lib.trimPrefix l p)), .bool (Lib.hasPrefix l p)]) ∧ w' = w :=
  Any.strings_CutPrefix lays103 (txt l) (txt p) w
theorem cutSuf_is (l p : List UInt8) (w : World) (hs : l.length ≤ 9223372036854775807) :
    Calls Tryd.prog 11 #[.string (txt l), .string (txt p)] w fun e w' => e = .returned (.tuple #[.string (txt (Lib.trimSuffix l p)), .bool (Lib.hasSuffix l p)]) ∧ w' = w :=
  Any.strings_CutSuffix lays104 (txt l) (txt p) w hs
theorem hasPre_is (l p : List UInt8) (w : World) :
    Calls Tryd.prog 34 #[.string (txt l), .string (txt p)] w fun e w' => e = .returned (.bool (Lib.hasPrefix l p)) ∧ w' = w :=
  Any.strings_HasPrefix lays99 (txt l) (txt p) w
theorem byte_bang {l : List UInt8} {j : Nat} (h : j < l.length) : (txt l).data[j]! = l[j] := by
  show (l.toArray)[j]! = _
  rw [getElem!_pos _ _ (by simpa using h)]
  simp
theorem lix_is (l : List UInt8) (c : UInt8) : Lib.lastIndexByte (txt l) (c.toNat : Int) = lastL c l := by
  have hz : (txt l).size = l.length := rfl
  rcases Lib.lastIndexByte_spec (txt l) (c.toNat : Int) with ⟨h1, h2⟩ | ⟨i, hi, h1, h2, h3⟩
  · rw [h1, last_no]
    intro m
    obtain ⟨j, hj, e⟩ := List.getElem_of_mem m
    have := h2 j hj
    rw [byte_bang hj, e] at this
    exact this rfl
  · rw [h1]
    have hil : i < l.length := hi
    rw [byte_bang hil] at h2
    have e : l[i] = c := UInt8.toNat_inj.1 (by omega)
    have hl := List.take_append_drop i l
    rw [List.drop_eq_getElem_cons hil, e] at hl
    have hn : c ∉ l.drop (i + 1) := by
      intro m
      obtain ⟨j, hj, e2⟩ := List.getElem_of_mem m
      rw [List.length_drop] at hj
      rw [List.getElem_drop] at e2
      have := h3 (i + 1 + j) (by omega) (by omega)
      rw [byte_bang (by omega), e2] at this
      exact this rfl
    rw [← hl, last_app _ hn, List.length_take]
    congr 1
    omega
theorem lastIx_is (l : List UInt8) (c : UInt8) (w : World) (hs : l.length < 4611686018427387904) :
    Calls Tryd.prog 51 #[.string (txt l), .int .u8 (c.toNat : Int)] w fun e w' => e = .returned (.int .i64 (lastL c l)) ∧ w' = w := by
  have := Any.strings_LastIndexByte lays149 (txt l) (c.toNat : Int) hs w
  rw [lix_is] at this
  exact this

end Go.Proofs.YtkllknfgojjphabDoor
