/- The program's Path, Bubbles, Cancels of layer 23. -/
import Derived.Test.YtmobcijigiacoaaRows
import Derived.Shelf.Slices.Reverse
import Derived.Lib.OwnBridge
import Derived.WalkKit
import Derived.ProofKit
import Derived.OpenShut
import Derived.ShutString
import Derived.Below
import Derived.WalkSpells
import Derived.WalkLawsBesides
import Derived.KernelRfl
import Derived.Deep.AppendLies
import Derived.Maps.AppendAt
import Derived.Laws.OwnMore
import Derived.Shelf.Abstract
import Derived.Deep.QuietTactic
import Derived.BigQuiet
import Derived.OwnWalk
import Derived.Deep.RegionHeld3
import Derived.Deep.RegionWith
import Derived.BigRegion
import Derived.Laws.MakeOwn

namespace Go.Proofs.Ytmobcijigiacoaa
open Go.RowKit Go.Shelf
set_option maxRecDepth 100000
def evren : Go.Shelf.Ren := ⟨fun | 112 => 22 | n => n, fun | 0 => 0 | 3 => 3 | 4 => 4 | 5 => 5 | 28 => 25 | n => n, fun  | n => n⟩
theorem lays112 : Go.Proofs.Lays.n112 Try.prog evren := {
  mixed := by kernel_rfl
  f112 := Try.func22.trans (congrArg some (by kernel_rfl))
  t0 := Try.underlying0
  a0 := Try.isAgg0
  z0 := Try.sizeOf0
  v0 := Try.zeroValue0
  t3 := Try.underlying3
  a3 := Try.isAgg3
  z3 := Try.sizeOf3
  v3 := Try.zeroValue3
  t4 := Try.underlying4
  a4 := Try.isAgg4
  z4 := Try.sizeOf4
  v4 := Try.zeroValue4
  t28 := Try.underlying25
  a28 := Try.isAgg25
  z28 := Try.sizeOf25
  v28 := Try.zeroValue25 }

end Go.Proofs.Ytmobcijigiacoaa
