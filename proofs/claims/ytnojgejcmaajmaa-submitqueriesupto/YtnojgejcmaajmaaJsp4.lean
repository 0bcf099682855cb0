/- The shelf's strings.Cut, laid at this program. -/
import Derived.Test.YtnojgejcmaajmaaProg
import Derived.Shelf.Strings.Cut

namespace Go.Proofs.Ytnojgejcmaajmaa
open Go.Shelf Go.RowKit
set_option maxRecDepth 100000
def pctren : Go.Shelf.Ren := ⟨fun | 145 => 7 | 217 => 16 | 219 => 14 | 220 => 12 | 224 => 18 | 225 => 17 | 266 => 20 | 267 => 19 | 314 => 21 | n => n, fun | 3 => 3 | 4 => 4 | 5 => 5 | 9 => 9 | 46 => 43 | 51 => 44 | 59 => 25 | 72 => 30 | 146 => 45 | n => n, fun | 1 => 0 | n => n⟩
theorem lays145 : Go.Proofs.Lays.n145 Try.prog pctren := {
  mixed := by kernel_rfl
  f145 := Try.func7.trans (congrArg some (by kernel_rfl))
  f217 := Try.func16.trans (congrArg some (by kernel_rfl))
  f219 := Try.func14.trans (congrArg some (by kernel_rfl))
  f220 := Try.func12.trans (congrArg some (by kernel_rfl))
  f224 := Try.func18.trans (congrArg some (by kernel_rfl))
  f225 := Try.func17.trans (congrArg some (by kernel_rfl))
  f266 := Try.func20.trans (congrArg some (by kernel_rfl))
  f267 := Try.func19.trans (congrArg some (by kernel_rfl))
  f314 := Try.func21.trans (congrArg some (by kernel_rfl))
  t3 := Try.underlying3
  a3 := Try.isAgg3
  z3 := Try.sizeOf3
  v3 := Try.zeroValue3
  t4 := Try.underlying4
  a4 := Try.isAgg4
  z4 := Try.sizeOf4
  v4 := Try.zeroValue4
  t5 := Try.underlying5
  a5 := Try.isAgg5
  z5 := Try.sizeOf5
  v5 := Try.zeroValue5
  t9 := Try.underlying9
  a9 := Try.isAgg9
  z9 := Try.sizeOf9
  v9 := Try.zeroValue9
  t46 := Try.underlying43
  a46 := Try.isAgg43
  z46 := Try.sizeOf43
  v46 := Try.zeroValue43
  t51 := Try.underlying44
  a51 := Try.isAgg44
  z51 := Try.sizeOf44
  v51 := Try.zeroValue44
  t59 := Try.underlying25
  a59 := Try.isAgg25
  z59 := Try.sizeOf25
  v59 := Try.zeroValue25
  t146 := Try.underlying45
  a146 := Try.isAgg45
  z146 := Try.sizeOf45
  v146 := Try.zeroValue45
  g1 := by kernel_rfl }

end Go.Proofs.Ytnojgejcmaajmaa
