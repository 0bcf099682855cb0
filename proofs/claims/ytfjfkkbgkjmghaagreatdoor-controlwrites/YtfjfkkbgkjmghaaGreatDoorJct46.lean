/- Stage 14's laws ControlWrites, ControlTypes, ControlChanges, ControlRetypes, ControlResets, walked. -/
import Derived.Test.YtfjfkkbgkjmghaaGreatDoorJct30
import Derived.Lib.SplitLaws
import Derived.Lib.Join
import Derived.Shelf.Strings.Split
import Derived.Shelf.Strings.OnBuilder
import Derived.Shelf.Strings.PiecesUse
import Derived.Shelf.Strings.Builder2
import Derived.WalkSmall
import Derived.Deep.RegionLaw

namespace Go.Proofs.YtfjfkkbgkjmghaaGreatDoor
open Go.RowKit
theorem few_of {fs gs : List En} (h : FsOK fs) (e : gs = fs ∨ gs = []) : gs.length ≤ 4398046511104 := by
  rcases e with e | e
  · rw [e]; exact h.len
  · rw [e]; decide

end Go.Proofs.YtfjfkkbgkjmghaaGreatDoor
