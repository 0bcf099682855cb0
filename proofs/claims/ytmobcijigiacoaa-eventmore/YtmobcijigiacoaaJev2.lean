/- Documents as lists of nodes. -/
import Derived.WalkKit
import Derived.ProofKit
import Derived.OpenShut
import Derived.ShutString
import Derived.Below
import Derived.WalkSpells
import Derived.WalkLawsBesides
import Derived.KernelRfl

namespace Go.Proofs.Ytmobcijigiacoaa
open Go.RowKit
/-- A node: its name and text, its attributes, its parent's number, its children's. -/
structure Nd where
  name : ByteArray
  text : ByteArray
  attrs : List (ByteArray × ByteArray)
  parent : Int
  kids : List Int
def nd0 : Nd := ⟨⟨#[]⟩, ⟨#[]⟩, [], -1, []⟩
def nd (l : List Nd) (i : Nat) : Nd := l.getD i nd0
def parI (l : List Nd) (i : Int) : Int := (nd l i.toNat).parent

end Go.Proofs.Ytmobcijigiacoaa
