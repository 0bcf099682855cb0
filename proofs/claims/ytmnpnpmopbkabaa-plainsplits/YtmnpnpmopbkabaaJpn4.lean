/- What a control has, as a structure. -/
import Derived.WalkKit
import Derived.ProofKit
import Derived.OpenShut
import Derived.ShutString
import Derived.Below
import Derived.WalkSpells
import Derived.WalkLawsBesides
import Derived.KernelRfl

namespace Go.Proofs.Ytmnpnpmopbkabaa
open Go.RowKit
/-- One of a form's entries. -/
structure En where
  name : ByteArray
  val : ByteArray
  file : Bool
  fname : ByteArray
  typ : ByteArray
/-- What a control has. -/
structure Ct where
  val : ByteArray
  dirty : Bool
  typed : Bool
  chk : Bool
  dchk : Bool
  mixed : Bool
  sel : Bool
  dsel : Bool
  custom : ByteArray
  files : List En

end Go.Proofs.Ytmnpnpmopbkabaa
