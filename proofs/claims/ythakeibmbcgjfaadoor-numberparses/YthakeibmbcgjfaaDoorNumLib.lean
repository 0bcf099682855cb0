/- What strings.CutPrefix, strings.Cut and strings.TrimRight answer: the shelf's contracts, laid at this program. Conditions: texts of fewer than 2^32 - 15 bytes for Cut, which reads the library's variable MaxLen: it holds some number. -/
import Derived.Shelf.Strings.Cut
import Derived.Shelf.Strings.Trim
import Derived.Shelf.Small.Wraps
import Derived.Test.YthakeibmbcgjfaaDoorProg
import Derived.Test.YthakeibmbcgjfaaDoorNumProg
namespace Go.Proofs.YthakeibmbcgjfaaDoor
open Go.Shelf Go.RowKit

def cpren : Go.Shelf.Ren := ⟨fun | 103 => 23 | 206 => 42 | 210 => 32 | n => n, fun | 3 => 3 | 4 => 4 | 5 => 5 | 9 => 9 | 24 => 52 | 72 => 40 | n => n, fun  | n => n⟩
theorem lays103 : Go.Proofs.Lays.n103 Tryd.prog cpren := {
  mixed := by kernel_rfl
  f103 := Tryd.func23.trans (congrArg some (by kernel_rfl))
  f206 := Tryd.func42.trans (congrArg some (by kernel_rfl))
  f210 := Tryd.func32.trans (congrArg some (by kernel_rfl))
  t3 := Tryd.underlying3
  a3 := Tryd.isAgg3
  z3 := Tryd.sizeOf3
  v3 := Tryd.zeroValue3
  t4 := Tryd.underlying4
  a4 := Tryd.isAgg4
  z4 := Tryd.sizeOf4
  v4 := Tryd.zeroValue4
  t9 := Tryd.underlying9
  a9 := Tryd.isAgg9
  z9 := Tryd.sizeOf9
  v9 := Tryd.zeroValue9
  t24 := Tryd.underlying52
  a24 := Tryd.isAgg52
  z24 := Tryd.sizeOf52
  v24 := Tryd.zeroValue52 }
def ctren : Go.Shelf.Ren := ⟨fun | 145 => 24 | 217 => 52 | 219 => 43 | 220 => 33 | 224 => 54 | 225 => 53 | 266 => 61 | 267 => 55 | 314 => 62 | n => n, fun | 3 => 3 | 4 => 4 | 5 => 5 | 9 => 9 | 46 => 84 | 51 => 81 | 59 => 54 | 72 => 40 | 146 => 90 | n => n, fun | 1 => 1 | n => n⟩
theorem lays145 : Go.Proofs.Lays.n145 Tryd.prog ctren := {
  mixed := by kernel_rfl
  f145 := Tryd.func24.trans (congrArg some (by kernel_rfl))
  f217 := Tryd.func52.trans (congrArg some (by kernel_rfl))
  f219 := Tryd.func43.trans (congrArg some (by kernel_rfl))
  f220 := Tryd.func33.trans (congrArg some (by kernel_rfl))
  f224 := Tryd.func54.trans (congrArg some (by kernel_rfl))
  f225 := Tryd.func53.trans (congrArg some (by kernel_rfl))
  f266 := Tryd.func61.trans (congrArg some (by kernel_rfl))
  f267 := Tryd.func55.trans (congrArg some (by kernel_rfl))
  f314 := Tryd.func62.trans (congrArg some (by kernel_rfl))
  t3 := Tryd.underlying3
  a3 := Tryd.isAgg3
  z3 := Tryd.sizeOf3
  v3 := Tryd.zeroValue3
  t4 := Tryd.underlying4
  a4 := Tryd.isAgg4
  z4 := Tryd.sizeOf4
  v4 := Tryd.zeroValue4
  t5 := Tryd.underlying5
  a5 := Tryd.isAgg5
  z5 := Tryd.sizeOf5
  v5 := Tryd.zeroValue5
  t9 := Tryd.underlying9
  a9 := Tryd.isAgg9
  z9 := Tryd.sizeOf9
  v9 := Tryd.zeroValue9
  t46 := Tryd.underlying84
  a46 := Tryd.isAgg84
  z46 := Tryd.sizeOf84
  v46 := Tryd.zeroValue84
  t51 := Tryd.underlying81
  a51 := Tryd.isAgg81
  z51 := Tryd.sizeOf81
  v51 := Tryd.zeroValue81
  t59 := Tryd.underlying54
  a59 := Tryd.isAgg54
  z59 := Tryd.sizeOf54
  v59 := Tryd.zeroValue54
  t146 := Tryd.underlying90
  a146 := Tryd.isAgg90
  z146 := Tryd.sizeOf90
  v146 := Tryd.zeroValue90
  g1 := by kernel_rfl }
def trren : Go.Shelf.Ren := ⟨fun | 119 => 60 | 120 => 49 | 137 => 59 | 151 => 41 | 152 => 51 | 162 => 20 | 197 => 50 | 217 => 52 | 224 => 54 | 225 => 53 | 227 => 29 | 228 => 39 | 232 => 28 | 234 => 30 | 236 => 31 | 260 => 58 | 266 => 61 | 271 => 40 | n => n, fun | 0 => 0 | 3 => 3 | 4 => 4 | 5 => 5 | 9 => 9 | 21 => 21 | 46 => 84 | 72 => 40 | 105 => 73 | 116 => 58 | 117 => 59 | 119 => 94 | 124 => 62 | 138 => 96 | 139 => 97 | n => n, fun | 3 => 4 | 4 => 5 | n => n⟩
theorem lays162 : Go.Proofs.Lays.n162 Tryd.prog trren := {
  mixed := by kernel_rfl
  f119 := Tryd.func60.trans (congrArg some (by kernel_rfl))
  f120 := Tryd.func49.trans (congrArg some (by kernel_rfl))
  f137 := Tryd.func59.trans (congrArg some (by kernel_rfl))
  f151 := Tryd.func41.trans (congrArg some (by kernel_rfl))
  f152 := Tryd.func51.trans (congrArg some (by kernel_rfl))
  f162 := Tryd.func20.trans (congrArg some (by kernel_rfl))
  f197 := Tryd.func50.trans (congrArg some (by kernel_rfl))
  f217 := Tryd.func52.trans (congrArg some (by kernel_rfl))
  f224 := Tryd.func54.trans (congrArg some (by kernel_rfl))
  f225 := Tryd.func53.trans (congrArg some (by kernel_rfl))
  f227 := Tryd.func29.trans (congrArg some (by kernel_rfl))
  f228 := Tryd.func39.trans (congrArg some (by kernel_rfl))
  f232 := Tryd.func28.trans (congrArg some (by kernel_rfl))
  f234 := Tryd.func30.trans (congrArg some (by kernel_rfl))
  f236 := Tryd.func31.trans (congrArg some (by kernel_rfl))
  f260 := Tryd.func58.trans (congrArg some (by kernel_rfl))
  f266 := Tryd.func61.trans (congrArg some (by kernel_rfl))
  f271 := Tryd.func40.trans (congrArg some (by kernel_rfl))
  t0 := Tryd.underlying0
  a0 := Tryd.isAgg0
  z0 := Tryd.sizeOf0
  v0 := Tryd.zeroValue0
  t3 := Tryd.underlying3
  a3 := Tryd.isAgg3
  z3 := Tryd.sizeOf3
  v3 := Tryd.zeroValue3
  t4 := Tryd.underlying4
  a4 := Tryd.isAgg4
  z4 := Tryd.sizeOf4
  v4 := Tryd.zeroValue4
  t5 := Tryd.underlying5
  a5 := Tryd.isAgg5
  z5 := Tryd.sizeOf5
  v5 := Tryd.zeroValue5
  t9 := Tryd.underlying9
  a9 := Tryd.isAgg9
  z9 := Tryd.sizeOf9
  v9 := Tryd.zeroValue9
  t21 := Tryd.underlying21
  a21 := Tryd.isAgg21
  z21 := Tryd.sizeOf21
  v21 := Tryd.zeroValue21
  t46 := Tryd.underlying84
  a46 := Tryd.isAgg84
  z46 := Tryd.sizeOf84
  v46 := Tryd.zeroValue84
  t105 := Tryd.underlying73
  a105 := Tryd.isAgg73
  z105 := Tryd.sizeOf73
  v105 := Tryd.zeroValue73
  t116 := Tryd.underlying58
  a116 := Tryd.isAgg58
  z116 := Tryd.sizeOf58
  t117 := Tryd.underlying59
  a117 := Tryd.isAgg59
  z117 := Tryd.sizeOf59
  v117 := Tryd.zeroValue59
  t119 := Tryd.underlying94
  a119 := Tryd.isAgg94
  z119 := Tryd.sizeOf94
  t124 := Tryd.underlying62
  a124 := Tryd.isAgg62
  z124 := Tryd.sizeOf62
  v124 := Tryd.zeroValue62
  t138 := Tryd.underlying96
  a138 := Tryd.isAgg96
  z138 := Tryd.sizeOf96
  v138 := Tryd.zeroValue96
  t139 := Tryd.underlying97
  a139 := Tryd.isAgg97
  z139 := Tryd.sizeOf97
  v139 := Tryd.zeroValue97
  g3 := by kernel_rfl
  g4 := by kernel_rfl }

/-- The library's variable MaxLen holds some number. -/
def SomeMax (w : World) : Prop := ∃ m, w.cell? ⟨1, 0, none⟩ = some (.int .i64 m)
theorem SomeMax.below {w w' : World} (h : SomeMax w) (hb : Below w.heap.size w w') : SomeMax w' := by
  obtain ⟨m, hm⟩ := h
  exact ⟨m, (hb.cell (World.block_lt_of_cell? _ _ hm)).trans hm⟩

theorem cutPrefix_any (s : ByteArray) (w : World) :
    Calls Tryd.prog 23 #[.string s, .string ⟨#[45]⟩] w fun e w' => e = .returned (.tuple #[.string (txt (bodyV s.data.toList)), .bool (negV s.data.toList)]) ∧ w' = w := by
  have := Any.strings_CutPrefix lays103 s ⟨#[45]⟩ w
  have e1 : Lib.trimPrefix s.data.toList (⟨#[45]⟩ : ByteArray).data.toList = bodyV s.data.toList := body_prefix _
  have e2 : Lib.hasPrefix s.data.toList (⟨#[45]⟩ : ByteArray).data.toList = negV s.data.toList := neg_prefix _
  rw [e1, e2] at this
  exact this
theorem cutAt_no (l : List UInt8) (w : World) (hs : l.length < 4294967281) (hm : SomeMax w) (h : (46 : UInt8) ∉ l) :
    Calls Tryd.prog 24 #[.string (txt l), .string ⟨#[46]⟩] w fun e w' => e = .returned (.tuple #[.string (txt l), .string ⟨#[]⟩, .bool false]) ∧ Below w.heap.size w w' := by
  obtain ⟨m, hm⟩ := hm
  have := Any.strings_Cut lays145 (txt l) ⟨#[46]⟩ m w hs hm
  have e1 : Lib.cut (txt l).data.toList (⟨#[46]⟩ : ByteArray).data.toList = (l, [], false) := cut_no h
  rw [e1] at this
  refine this.mono ?_
  rintro e w' ⟨rfl, n, rfl⟩
  exact ⟨rfl, ⟨rfl, rfl, rfl, Nat.le_refl _, fun _ _ => rfl⟩⟩
theorem cutAt_yes (a b : List UInt8) (w : World) (hs : (a ++ 46 :: b).length < 4294967281) (hm : SomeMax w) (h : (46 : UInt8) ∉ a) :
    Calls Tryd.prog 24 #[.string (txt (a ++ 46 :: b)), .string ⟨#[46]⟩] w fun e w' => e = .returned (.tuple #[.string (txt a), .string (txt b), .bool true]) ∧ Below w.heap.size w w' := by
  obtain ⟨m, hm⟩ := hm
  have := Any.strings_Cut lays145 (txt (a ++ 46 :: b)) ⟨#[46]⟩ m w hs hm
  have e1 : Lib.cut (txt (a ++ 46 :: b)).data.toList (⟨#[46]⟩ : ByteArray).data.toList = (a, b, true) := cut_yes h
  rw [e1] at this
  refine this.mono ?_
  rintro e w' ⟨rfl, n, rfl⟩
  exact ⟨rfl, ⟨rfl, rfl, rfl, Nat.le_refl _, fun _ _ => rfl⟩⟩
theorem trimRight_any (s : ByteArray) (w : World) (hs : s.size ≤ 9223372036854775807) :
    Calls Tryd.prog 20 #[.string s, .string ⟨#[48]⟩] w fun e w' => e = .returned (.string (txt (trimZ s.data.toList))) ∧ w' = w :=
  Any.strings_TrimRight_one lays162 s 48 (by decide) w hs

end Go.Proofs.YthakeibmbcgjfaaDoor
