/- Addresses of mail as lists of bytes. -/
import Derived.WalkKit
import Derived.ProofKit
import Derived.OpenShut
import Derived.ShutString
import Derived.Below
import Derived.WalkSpells
import Derived.WalkLawsBesides
import Derived.KernelRfl
import Derived.Laws.BytesArg
import Derived.Lib.ConvBytes
import Derived.Lib.AppendStr
import Derived.Lib.SlTrimSet
import Derived.Lib.Replace

namespace Go.Proofs.YtfedeiipinamjaaDoor
open Go.RowKit
/-- A text ahead of the first of a row of texts. -/
def prep (a : List UInt8) : List (List UInt8) → List (List UInt8)
  | [] => [a]
  | h :: t => (a ++ h) :: t
/-- The texts between a sign. -/
def splitL (c : UInt8) : List UInt8 → List (List UInt8)
  | [] => [[]]
  | x :: l => if x = c then [] :: splitL c l else prep [x] (splitL c l)
theorem split_hit {c : UInt8} (l : List UInt8) : splitL c (c :: l) = [] :: splitL c l := if_pos rfl
theorem split_miss {c x : UInt8} (l : List UInt8) (h : ¬ x = c) : splitL c (x :: l) = prep [x] (splitL c l) := if_neg h
theorem split_alone {c : UInt8} : ∀ {l : List UInt8}, c ∉ l → splitL c l = [l]
  | [], _ => rfl
  | x :: l, h => by
    rw [split_miss l (fun e => h (by rw [e]; exact List.mem_cons_self ..)), split_alone (fun e => h (List.mem_cons_of_mem _ e))]
    rfl
theorem split_sign {c : UInt8} : ∀ {a : List UInt8} (l : List UInt8), c ∉ a → splitL c (a ++ c :: l) = a :: splitL c l
  | [], l, _ => split_hit l
  | x :: a, l, h => by
    rw [List.cons_append, split_miss _ (fun e => h (by rw [e]; exact List.mem_cons_self ..)), split_sign l (fun e => h (List.mem_cons_of_mem _ e))]
    rfl

end Go.Proofs.YtfedeiipinamjaaDoor
