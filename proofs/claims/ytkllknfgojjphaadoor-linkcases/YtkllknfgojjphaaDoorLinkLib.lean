/- What strings.Cut, CutPrefix, CutSuffix, HasPrefix, Split, IndexByte, LastIndexByte answer: the shelf's contracts, laid at this program; rows of texts. Conditions: texts of fewer than 2^32 - 15 bytes for Cut and Split, which read the library's variable MaxLen: it holds some number. -/
import Derived.Shelf.Strings.Cut
import Derived.Shelf.Strings.Split
import Derived.Shelf.Strings.PiecesUse
import Derived.Shelf.Strings.Prefix
import Derived.Shelf.Strings.LastIndex
import Derived.Shelf.Small.Wraps
import Derived.Shelf.Small.Strs
import Derived.Test.YtkllknfgojjphaaDoorProg
import Derived.Test.YtkllknfgojjphaaDoorMax
import Derived.Test.YtkllknfgojjphaaDoorLinkP2
namespace Go.Proofs.YtkllknfgojjphaaDoor
open Go.Shelf Go.RowKit

def kctren : Go.Shelf.Ren := ⟨fun | 145 => 19 | 217 => 60 | 219 => 59 | 220 => 44 | 224 => 68 | 225 => 67 | 266 => 70 | 267 => 69 | 314 => 75 | n => n, fun | 3 => 3 | 4 => 4 | 5 => 5 | 9 => 9 | 46 => 55 | 51 => 59 | 59 => 27 | 146 => 60 | n => n, fun | 1 => 2 | n => n⟩
theorem lays145 : Go.Proofs.Lays.n145 Tryd.prog kctren := {
  mixed := by kernel_rfl
  f145 := Tryd.func19.trans (congrArg some (by kernel_rfl))
  f217 := Tryd.func60.trans (congrArg some (by kernel_rfl))
  f219 := Tryd.func59.trans (congrArg some (by kernel_rfl))
  f220 := Tryd.func44.trans (congrArg some (by kernel_rfl))
  f224 := Tryd.func68.trans (congrArg some (by kernel_rfl))
  f225 := Tryd.func67.trans (congrArg some (by kernel_rfl))
  f266 := Tryd.func70.trans (congrArg some (by kernel_rfl))
  f267 := Tryd.func69.trans (congrArg some (by kernel_rfl))
  f314 := Tryd.func75.trans (congrArg some (by kernel_rfl))
  t3 := Tryd.underlying3
  a3 := Tryd.isAgg3
  z3 := Tryd.sizeOf3
  v3 := Tryd.zeroValue3
  t4 := Tryd.underlying4
  a4 := Tryd.isAgg4
  z4 := Tryd.sizeOf4
  v4 := Tryd.zeroValue4
  t5 := Tryd.underlying5
  a5 := Tryd.isAgg5
  z5 := Tryd.sizeOf5
  v5 := Tryd.zeroValue5
  t9 := Tryd.underlying9
  a9 := Tryd.isAgg9
  z9 := Tryd.sizeOf9
  v9 := Tryd.zeroValue9
  t46 := Tryd.underlying55
  a46 := Tryd.isAgg55
  z46 := Tryd.sizeOf55
  v46 := Tryd.zeroValue55
  t51 := Tryd.underlying59
  a51 := Tryd.isAgg59
  z51 := Tryd.sizeOf59
  v51 := Tryd.zeroValue59
  t59 := Tryd.underlying27
  a59 := Tryd.isAgg27
  z59 := Tryd.sizeOf27
  v59 := Tryd.zeroValue27
  t146 := Tryd.underlying60
  a146 := Tryd.isAgg60
  z146 := Tryd.sizeOf60
  v146 := Tryd.zeroValue60
  g1 := by kernel_rfl }
def kspren : Go.Shelf.Ren := ⟨fun | 138 => 72 | 143 => 73 | 146 => 47 | 195 => 76 | 197 => 77 | 217 => 60 | 218 => 78 | 219 => 59 | 221 => 62 | 224 => 68 | 225 => 67 | 260 => 80 | 266 => 70 | 267 => 69 | 268 => 71 | 314 => 75 | n => n, fun | 0 => 0 | 3 => 3 | 4 => 4 | 5 => 5 | 9 => 9 | 21 => 21 | 31 => 35 | 46 => 55 | 51 => 59 | 105 => 62 | 119 => 51 | 138 => 53 | 139 => 54 | 146 => 60 | n => n, fun | 1 => 2 | 3 => 0 | 4 => 1 | n => n⟩
theorem lays146 : Go.Proofs.Lays.n146 Tryd.prog kspren := {
  mixed := by kernel_rfl
  f138 := Tryd.func72.trans (congrArg some (by kernel_rfl))
  f143 := Tryd.func73.trans (congrArg some (by kernel_rfl))
  f146 := Tryd.func47.trans (congrArg some (by kernel_rfl))
  f195 := Tryd.func76.trans (congrArg some (by kernel_rfl))
  f197 := Tryd.func77.trans (congrArg some (by kernel_rfl))
  f217 := Tryd.func60.trans (congrArg some (by kernel_rfl))
  f218 := Tryd.func78.trans (congrArg some (by kernel_rfl))
  f219 := Tryd.func59.trans (congrArg some (by kernel_rfl))
  f221 := Tryd.func62.trans (congrArg some (by kernel_rfl))
  f224 := Tryd.func68.trans (congrArg some (by kernel_rfl))
  f225 := Tryd.func67.trans (congrArg some (by kernel_rfl))
  f260 := Tryd.func80.trans (congrArg some (by kernel_rfl))
  f266 := Tryd.func70.trans (congrArg some (by kernel_rfl))
  f267 := Tryd.func69.trans (congrArg some (by kernel_rfl))
  f268 := Tryd.func71.trans (congrArg some (by kernel_rfl))
  f314 := Tryd.func75.trans (congrArg some (by kernel_rfl))
  t0 := Tryd.underlying0
  a0 := Tryd.isAgg0
  z0 := Tryd.sizeOf0
  v0 := Tryd.zeroValue0
  t3 := Tryd.underlying3
  a3 := Tryd.isAgg3
  z3 := Tryd.sizeOf3
  v3 := Tryd.zeroValue3
  t4 := Tryd.underlying4
  a4 := Tryd.isAgg4
  z4 := Tryd.sizeOf4
  v4 := Tryd.zeroValue4
  t5 := Tryd.underlying5
  a5 := Tryd.isAgg5
  z5 := Tryd.sizeOf5
  v5 := Tryd.zeroValue5
  t9 := Tryd.underlying9
  a9 := Tryd.isAgg9
  z9 := Tryd.sizeOf9
  v9 := Tryd.zeroValue9
  t21 := Tryd.underlying21
  a21 := Tryd.isAgg21
  z21 := Tryd.sizeOf21
  v21 := Tryd.zeroValue21
  t31 := Tryd.underlying35
  a31 := Tryd.isAgg35
  z31 := Tryd.sizeOf35
  v31 := Tryd.zeroValue35
  t46 := Tryd.underlying55
  a46 := Tryd.isAgg55
  z46 := Tryd.sizeOf55
  v46 := Tryd.zeroValue55
  t51 := Tryd.underlying59
  a51 := Tryd.isAgg59
  z51 := Tryd.sizeOf59
  v51 := Tryd.zeroValue59
  t105 := Tryd.underlying62
  a105 := Tryd.isAgg62
  z105 := Tryd.sizeOf62
  v105 := Tryd.zeroValue62
  t119 := Tryd.underlying51
  a119 := Tryd.isAgg51
  z119 := Tryd.sizeOf51
  t138 := Tryd.underlying53
  a138 := Tryd.isAgg53
  z138 := Tryd.sizeOf53
  v138 := Tryd.zeroValue53
  t139 := Tryd.underlying54
  a139 := Tryd.isAgg54
  z139 := Tryd.sizeOf54
  v139 := Tryd.zeroValue54
  t146 := Tryd.underlying60
  a146 := Tryd.isAgg60
  z146 := Tryd.sizeOf60
  v146 := Tryd.zeroValue60
  g1 := by kernel_rfl
  g3 := by kernel_rfl
  g4 := by kernel_rfl }
def kibren : Go.Shelf.Ren := ⟨fun | 137 => 45 | 217 => 60 | 266 => 70 | n => n, fun | 3 => 3 | 5 => 5 | 9 => 9 | n => n, fun  | n => n⟩
theorem lays137 : Go.Proofs.Lays.n137 Tryd.prog kibren := {
  mixed := by kernel_rfl
  f137 := Tryd.func45.trans (congrArg some (by kernel_rfl))
  f217 := Tryd.func60.trans (congrArg some (by kernel_rfl))
  f266 := Tryd.func70.trans (congrArg some (by kernel_rfl))
  t3 := Tryd.underlying3
  a3 := Tryd.isAgg3
  z3 := Tryd.sizeOf3
  v3 := Tryd.zeroValue3
  t5 := Tryd.underlying5
  a5 := Tryd.isAgg5
  z5 := Tryd.sizeOf5
  v5 := Tryd.zeroValue5
  t9 := Tryd.underlying9
  a9 := Tryd.isAgg9
  z9 := Tryd.sizeOf9
  v9 := Tryd.zeroValue9 }
def kcpren : Go.Shelf.Ren := ⟨fun | 103 => 26 | 206 => 61 | 210 => 46 | n => n, fun | 3 => 3 | 4 => 4 | 5 => 5 | 9 => 9 | 24 => 24 | n => n, fun  | n => n⟩
theorem lays103 : Go.Proofs.Lays.n103 Tryd.prog kcpren := {
  mixed := by kernel_rfl
  f103 := Tryd.func26.trans (congrArg some (by kernel_rfl))
  f206 := Tryd.func61.trans (congrArg some (by kernel_rfl))
  f210 := Tryd.func46.trans (congrArg some (by kernel_rfl))
  t3 := Tryd.underlying3
  a3 := Tryd.isAgg3
  z3 := Tryd.sizeOf3
  v3 := Tryd.zeroValue3
  t4 := Tryd.underlying4
  a4 := Tryd.isAgg4
  z4 := Tryd.sizeOf4
  v4 := Tryd.zeroValue4
  t9 := Tryd.underlying9
  a9 := Tryd.isAgg9
  z9 := Tryd.sizeOf9
  v9 := Tryd.zeroValue9
  t24 := Tryd.underlying24
  a24 := Tryd.isAgg24
  z24 := Tryd.sizeOf24
  v24 := Tryd.zeroValue24 }
def kcsren : Go.Shelf.Ren := ⟨fun | 104 => 28 | 207 => 64 | 211 => 50 | n => n, fun | 3 => 3 | 4 => 4 | 5 => 5 | 9 => 9 | 24 => 24 | n => n, fun  | n => n⟩
theorem lays104 : Go.Proofs.Lays.n104 Tryd.prog kcsren := {
  mixed := by kernel_rfl
  f104 := Tryd.func28.trans (congrArg some (by kernel_rfl))
  f207 := Tryd.func64.trans (congrArg some (by kernel_rfl))
  f211 := Tryd.func50.trans (congrArg some (by kernel_rfl))
  t3 := Tryd.underlying3
  a3 := Tryd.isAgg3
  z3 := Tryd.sizeOf3
  v3 := Tryd.zeroValue3
  t4 := Tryd.underlying4
  a4 := Tryd.isAgg4
  z4 := Tryd.sizeOf4
  v4 := Tryd.zeroValue4
  t9 := Tryd.underlying9
  a9 := Tryd.isAgg9
  z9 := Tryd.sizeOf9
  v9 := Tryd.zeroValue9
  t24 := Tryd.underlying24
  a24 := Tryd.isAgg24
  z24 := Tryd.sizeOf24
  v24 := Tryd.zeroValue24 }
def khpren : Go.Shelf.Ren := ⟨fun | 99 => 57 | 206 => 61 | n => n, fun | 3 => 3 | 4 => 4 | 5 => 5 | 9 => 9 | n => n, fun  | n => n⟩
theorem lays99 : Go.Proofs.Lays.n99 Tryd.prog khpren := {
  mixed := by kernel_rfl
  f99 := Tryd.func57.trans (congrArg some (by kernel_rfl))
  f206 := Tryd.func61.trans (congrArg some (by kernel_rfl))
  t3 := Tryd.underlying3
  a3 := Tryd.isAgg3
  z3 := Tryd.sizeOf3
  v3 := Tryd.zeroValue3
  t4 := Tryd.underlying4
  a4 := Tryd.isAgg4
  z4 := Tryd.sizeOf4
  v4 := Tryd.zeroValue4
  t9 := Tryd.underlying9
  a9 := Tryd.isAgg9
  z9 := Tryd.sizeOf9
  v9 := Tryd.zeroValue9 }
def kliren : Go.Shelf.Ren := ⟨fun | 149 => 74 | 222 => 79 | n => n, fun | 3 => 3 | 4 => 4 | 5 => 5 | 9 => 9 | n => n, fun  | n => n⟩
theorem lays149 : Go.Proofs.Lays.n149 Tryd.prog kliren := {
  mixed := by kernel_rfl
  f149 := Tryd.func74.trans (congrArg some (by kernel_rfl))
  f222 := Tryd.func79.trans (congrArg some (by kernel_rfl))
  t3 := Tryd.underlying3
  a3 := Tryd.isAgg3
  z3 := Tryd.sizeOf3
  v3 := Tryd.zeroValue3
  t4 := Tryd.underlying4
  a4 := Tryd.isAgg4
  z4 := Tryd.sizeOf4
  v4 := Tryd.zeroValue4
  t5 := Tryd.underlying5
  a5 := Tryd.isAgg5
  z5 := Tryd.sizeOf5
  v5 := Tryd.zeroValue5
  t9 := Tryd.underlying9
  a9 := Tryd.isAgg9
  z9 := Tryd.sizeOf9
  v9 := Tryd.zeroValue9 }

/-- Texts in a block, one behind the other. -/
def TextsAt (w : World) (g : Nat) (ts : List (List UInt8)) : Prop := ∀ i (h : i < ts.length), w.cell? ⟨g, i, none⟩ = some (.string (txt ts[i]))
theorem TextsAt.below {w w' : World} {g : Nat} {ts : List (List UInt8)} (h : TextsAt w g ts) (hb : Below w.heap.size w w') : TextsAt w' g ts :=
  fun i hi => (hb.cell (p := ⟨g, i, none⟩) (World.block_lt_of_cell? _ _ (h i hi))).trans (h i hi)
theorem TextsAt.take {w : World} {g : Nat} {ts : List (List UInt8)} (h : TextsAt w g ts) (n : Nat) : TextsAt w g (ts.take n) := fun i hi => by
  have hi2 : i < ts.length := by rw [List.length_take] at hi; omega
  rw [h i hi2, List.getElem_take]
theorem texts_new (w : World) (T : TypeId) (ts : List (List UInt8)) : TextsAt (w.alloc (.cells (ts.map fun t => Value.string (txt t)).toArray T)) w.heap.size ts := fun i hi => by
  rw [World.cell?_alloc_new, List.getElem?_toArray, List.getElem?_map, List.getElem?_eq_getElem hi]; rfl

theorem indexByte_is (s : ByteArray) (c : UInt8) (w : World) :
    Calls Tryd.prog 45 #[.string s, .int .u8 (c.toNat : Int)] w fun e w' => e = .returned (.int .i64 (Lib.indexByte s.data.toList c)) ∧ w' = w := by
  have := Any.strings_IndexByte lays137 s (c.toNat : Int) w
  rw [show ((c.toNat : Int)).toNat.toUInt8 = c by simp] at this
  exact this
theorem indexFirst_is (l : List UInt8) (c : UInt8) (w : World) :
    Calls Tryd.prog 45 #[.string (txt l), .int .u8 (c.toNat : Int)] w fun e w' => e = .returned (.int .i64 (if firstL c l < l.length then (firstL c l : Int) else -1)) ∧ w' = w := by
  have := indexByte_is (txt l) c w
  rw [txt_data, ixb_is] at this
  exact this
theorem cutc_is (c : UInt8) (l : List UInt8) (w : World) (hs : l.length < 4294967281) (hm : SomeMax w) :
    Calls Tryd.prog 19 #[.string (txt l), .string ⟨#[c]⟩] w fun e w' => e = .returned (.tuple #[.string (txt (headL c l)), .string (txt (tailL c l)), .bool (hasB l c)]) ∧ Below w.heap.size w w' := by
  obtain ⟨m, hm⟩ := hm
  have := Any.strings_Cut lays145 (txt l) ⟨#[c]⟩ m w hs hm
  have e1 : Lib.cut (txt l).data.toList (⟨#[c]⟩ : ByteArray).data.toList = (headL c l, tailL c l, hasB l c) := cut_is c l
  rw [e1] at this
  refine this.mono ?_
  rintro e w' ⟨rfl, n, rfl⟩
  exact ⟨rfl, ⟨rfl, rfl, rfl, Nat.le_refl _, fun _ _ => rfl⟩⟩
theorem cutd_is (l : List UInt8) (w : World) (hs : l.length < 4294967281) (hm : SomeMax w) {a b : List UInt8} {o : Bool} (h : Lib.cut l [58, 58] = (a, b, o)) :
    Calls Tryd.prog 19 #[.string (txt l), .string ⟨#[58, 58]⟩] w fun e w' => e = .returned (.tuple #[.string (txt a), .string (txt b), .bool o]) ∧ Below w.heap.size w w' := by
  obtain ⟨m, hm⟩ := hm
  have := Any.strings_Cut lays145 (txt l) ⟨#[58, 58]⟩ m w hs hm
  have e1 : Lib.cut (txt l).data.toList (⟨#[58, 58]⟩ : ByteArray).data.toList = (a, b, o) := h
  rw [e1] at this
  refine this.mono ?_
  rintro e w' ⟨rfl, n, rfl⟩
  exact ⟨rfl, ⟨rfl, rfl, rfl, Nat.le_refl _, fun _ _ => rfl⟩⟩
theorem split_any (c : UInt8) (l : List UInt8) (w : World) (hs : l.length < 4294967281) (hm : SomeMax w) :
    Calls Tryd.prog 47 #[.string (txt l), .string ⟨#[c]⟩] w fun e w' => ∃ g, e = .returned (.slice (some ⟨g, 0, none⟩) (splitL c l).length (splitL c l).length) ∧ w.heap.size ≤ g ∧ TextsAt w' g (splitL c l) ∧ Below w.heap.size w w' := by
  obtain ⟨m, hm⟩ := hm
  have := Any.strings_Split lays146 (by kernel_rfl) (txt l) ⟨#[c]⟩ m w hs hm (Nat.le_refl 1)
  rw [pieces_is, pieces_count, txt_data] at this
  refine this.mono ?_
  rintro e w' ⟨rfl, rfl⟩
  refine ⟨w.heap.size, rfl, Nat.le_refl _, fun i hi => ?_, (Below.refl _ w).alloc (Nat.le_refl _) _⟩
  exact Lib.pieces_cell_at w _ _ i _ (by rw [List.getElem?_map, List.getElem?_eq_getElem hi]; rfl)
theorem cutPre_is (l p : List UInt8) (w : World) :
    Calls Tryd.prog 26 #[.string (txt l), .string (txt p)] w fun e w' => e = .returned (.tuple #[.string (txt (Lib.trimPrefix l p)), .bool (Lib.hasPrefix l p)]) ∧ w' = w :=
  Any.strings_CutPrefix lays103 (txt l) (txt p) w
theorem cutSuf_is (l p : List UInt8) (w : World) (hs : l.length ≤ 9223372036854775807) :
    Calls Tryd.prog 28 #[.string (txt l), .string (txt p)] w fun e w' => e = .returned (.tuple #[.string (txt (Lib.trimSuffix l p)), .bool (Lib.hasSuffix l p)]) ∧ w' = w :=
  Any.strings_CutSuffix lays104 (txt l) (txt p) w hs
theorem hasPre_is (l p : List UInt8) (w : World) :
    Calls Tryd.prog 57 #[.string (txt l), .string (txt p)] w fun e w' => e = .returned (.bool (Lib.hasPrefix l p)) ∧ w' = w :=
  Any.strings_HasPrefix lays99 (txt l) (txt p) w
theorem byte_bang {l : List UInt8} {j : Nat} (h : j < l.length) : (txt l).data[j]! = l[j] := by
  show (l.toArray)[j]! = _
  rw [getElem!_pos _ _ (by simpa using h)]
  simp
theorem lix_is (l : List UInt8) (c : UInt8) : Lib.lastIndexByte (txt l) (c.toNat : Int) = lastL c l := by
  have hz : (txt l).size = l.length := rfl
  rcases Lib.lastIndexByte_spec (txt l) (c.toNat : Int) with ⟨h1, h2⟩ | ⟨i, hi, h1, h2, h3⟩
  · rw [h1, last_no]
    intro m
    obtain ⟨j, hj, e⟩ := List.getElem_of_mem m
    have := h2 j hj
    rw [byte_bang hj, e] at this
    exact this rfl
  · rw [h1]
    have hil : i < l.length := hi
    rw [byte_bang hil] at h2
    have e : l[i] = c := UInt8.toNat_inj.1 (by omega)
    have hl := List.take_append_drop i l
    rw [List.drop_eq_getElem_cons hil, e] at hl
    have hn : c ∉ l.drop (i + 1) := by
      intro m
      obtain ⟨j, hj, e2⟩ := List.getElem_of_mem m
      rw [List.length_drop] at hj
      rw [List.getElem_drop] at e2
      have := h3 (i + 1 + j) (by omega) (by omega)
      rw [byte_bang (by omega), e2] at this
      exact this rfl
    rw [← hl, last_app _ hn, List.length_take]
    congr 1
    omega
theorem lastIx_is (l : List UInt8) (c : UInt8) (w : World) (hs : l.length < 4611686018427387904) :
    Calls Tryd.prog 74 #[.string (txt l), .int .u8 (c.toNat : Int)] w fun e w' => e = .returned (.int .i64 (lastL c l)) ∧ w' = w := by
  have := Any.strings_LastIndexByte lays149 (txt l) (c.toNat : Int) hs w
  rw [lix_is] at this
  exact this

end Go.Proofs.YtkllknfgojjphaaDoor
