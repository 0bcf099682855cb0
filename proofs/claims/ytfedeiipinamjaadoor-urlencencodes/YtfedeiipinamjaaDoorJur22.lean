/- Stage 19's wakes and its laws, walked. -/
import Derived.Test.YtfedeiipinamjaaDoorRows
import Derived.Test.YtfedeiipinamjaaDoorProg
import Derived.KernelRfl
import Derived.WalkKit
import Derived.ProofKit
import Derived.OpenShut
import Derived.ShutString
import Derived.Below
import Derived.WalkSpells
import Derived.WalkLawsBesides
import Derived.Laws.BytesArg
import Derived.Lib.ConvBytes
import Derived.Lib.AppendStr
import Derived.Lib.Replace
import Derived.Lib.SlTrimSet
import Derived.Deep.AppendLies
import Derived.Maps.AppendAt
import Derived.Laws.OwnMore
import Derived.Lib.Builder
import Derived.Lib.UnsafeStr
import Derived.Shelf.Strings.Builder2
import Derived.Shelf.Strings.Builder1
import Derived.Lib.SplitLaws
import Derived.Lib.Join
import Derived.Deep.QuietTactic
import Derived.BigQuiet
import Derived.Deep.RegionLaw
import Derived.Shelf.Small.Strs
import Derived.Lib.LaidU8
import Derived.Shelf.Strings.Replace
import Derived.Shelf.Strings.BuilderK
import Derived.Shelf.Strings.Cut
import Derived.Shelf.Abstract

namespace Go.Proofs.YtfedeiipinamjaaDoor
open Go.RowKit
set_option maxRecDepth 100000
theorem beq_txt (s : ByteArray) : (s.toList == s.toList) = true := by simp

end Go.Proofs.YtfedeiipinamjaaDoor
