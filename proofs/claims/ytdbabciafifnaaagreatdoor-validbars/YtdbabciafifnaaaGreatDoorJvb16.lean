/- The name of the attribute that holds a value. A control's value as a function of its kind, its state and its attributes. -/
import Derived.Test.YtdbabciafifnaaaGreatDoorJvb8
import Derived.Test.YtdbabciafifnaaaGreatDoorJvb10
import Derived.Test.YtdbabciafifnaaaGreatDoorJvb11

namespace Go.Proofs.YtdbabciafifnaaaGreatDoor
open Go.RowKit
def valS : ByteArray := ⟨#[118, 97, 108, 117, 101]⟩
end Go.Proofs.YtdbabciafifnaaaGreatDoor

namespace Go.Proofs.YtdbabciafifnaaaGreatDoor
open Go.RowKit
def onS : ByteArray := ⟨#[111, 110]⟩
def fakeS : ByteArray := ⟨#[67, 58, 92, 102, 97, 107, 101, 112, 97, 116, 104, 92]⟩
def isPush (k : Int) : Bool := decide (25 ≤ k ∧ k ≤ 27)
def fileT (fs : List En) : ByteArray := match fs with
  | [] => ⟨#[]⟩
  | e :: _ => fakeS ++ e.fname
def valueP (k : Int) (c : Ct) (ax : List (ByteArray × ByteArray)) : ByteArray :=
  if modeV k = 1 then c.val else if modeV k = 2 then fndS ax valS else if modeV k = 3 then (if (findA ax valS).isSome then fndS ax valS else onS)
  else if modeV k = 4 then fileT c.files else if isPush k = true then fndS ax valS else ⟨#[]⟩

end Go.Proofs.YtdbabciafifnaaaGreatDoor
