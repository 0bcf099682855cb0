/- Stage 14's wakes and long, and its laws, walked. -/
import Derived.Test.YtfjfkkbgkjmghaaGreatDoorJct30
import Derived.Lib.SplitLaws
import Derived.Lib.Join
import Derived.Shelf.Strings.Split
import Derived.Shelf.Strings.OnBuilder
import Derived.Shelf.Strings.PiecesUse
import Derived.Shelf.Strings.Builder2
import Derived.WalkSmall
import Derived.Deep.RegionLaw

namespace Go.Proofs.YtfjfkkbgkjmghaaGreatDoor
open Go.RowKit
theorem start_files (k : Int) (ax : List (ByteArray × ByteArray)) (text t : ByteArray) : (startP k ax text t).files = [] := by
  unfold startP
  (repeat' split) <;> rfl

end Go.Proofs.YtfjfkkbgkjmghaaGreatDoor
