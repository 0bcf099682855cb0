/- The program's Calls of layer 23. The program's functions of layer 23 that the laws ask for. -/
import Derived.Test.YtmobcijigiacoaaRows
import Derived.WalkKit
import Derived.ProofKit
import Derived.OpenShut
import Derived.ShutString
import Derived.Below
import Derived.WalkSpells
import Derived.WalkLawsBesides
import Derived.KernelRfl
import Derived.Deep.AppendLies
import Derived.Maps.AppendAt
import Derived.Laws.OwnMore
import Derived.Shelf.Abstract
import Derived.Deep.QuietTactic
import Derived.BigQuiet
import Derived.OwnWalk
import Derived.Deep.RegionHeld3
import Derived.Deep.RegionWith
import Derived.BigRegion
import Derived.Laws.MakeOwn
import Derived.Shelf.Slices.Reverse
import Derived.Lib.OwnBridge
import Derived.Deep.MidRow
import Derived.RangeFuncWrites
import Derived.RangeFuncCalls
import Derived.RangeFuncBox
import Derived.RangeFuncNested
import Derived.RangeFuncLeaves
import Derived.Shelf.RegionOpen
import Derived.OwnWalkIn
import Derived.TacticsInMore
import Derived.LoopNIn
import Derived.LoopIn
import Derived.OrdersIn
import Derived.OrdersHeld
import Derived.TacticsIn

namespace Go.Proofs.Ytmobcijigiacoaa
open Go.RowKit Go.Shelf
set_option maxRecDepth 100000
attribute [local go_sem] Oper.semAt_some
/-- No table is named on the road. -/
def EvTabs (_ : World) : Prop := True
end Go.Proofs.Ytmobcijigiacoaa

namespace Go.Proofs.Ytmobcijigiacoaa

theorem evTabs_at (W : Go.World) : EvTabs W := trivial

end Go.Proofs.Ytmobcijigiacoaa
