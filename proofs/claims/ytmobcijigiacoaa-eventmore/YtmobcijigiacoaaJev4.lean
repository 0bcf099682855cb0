/- Documents as they lie in the world. -/
import Derived.WalkKit
import Derived.ProofKit
import Derived.OpenShut
import Derived.ShutString
import Derived.Below
import Derived.WalkSpells
import Derived.WalkLawsBesides
import Derived.KernelRfl

namespace Go.Proofs.Ytmobcijigiacoaa
open Go.RowKit
/-- A row of attributes behind a slice. -/
def AttrsV (w : World) (v : Value) (ax : List (ByteArray × ByteArray)) : Prop := ∃ p c, v = .slice p ax.length c ∧ (ax = [] ∨ ∃ b o, p = some ⟨b, o, none⟩ ∧ ∀ i (h : i < ax.length), w.cell? ⟨b, o + i * 2, none⟩ = some (.string ax[i].1) ∧ w.cell? ⟨b, o + i * 2 + 1, none⟩ = some (.string ax[i].2))

end Go.Proofs.Ytmobcijigiacoaa
