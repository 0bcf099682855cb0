/- A text cut at a sign, and the texts between a sign, as the library's strings.Cut and strings.Split have them. -/
import Derived.Lib.SplitLaws
import Derived.Lib.Join
import Derived.WalkKit
import Derived.ProofKit
import Derived.OpenShut
import Derived.ShutString
import Derived.Below
import Derived.WalkSpells
import Derived.WalkLawsBesides
import Derived.KernelRfl
import Derived.Laws.BytesArg
import Derived.Lib.ConvBytes
import Derived.Lib.AppendStr
import Derived.Lib.SlTrimSet
import Derived.Lib.Replace

namespace Go.Proofs.YtnojgejcmaajmaaGreatDoor
open Go.RowKit
theorem ix_none {c : UInt8} {l : List UInt8} (h : c ∉ l) : Lib.index l [c] = -1 := by
  rw [Lib.index_one]
  induction l with
  | nil => rfl
  | cons b l ih =>
    have hb : b ≠ c := fun x => h (by rw [x]; exact List.mem_cons_self ..)
    have := ih (fun x => h (List.mem_cons_of_mem _ x))
    unfold Lib.indexByte
    rw [this]; simp [hb]
theorem ix_some {c : UInt8} {a b : List UInt8} (h : c ∉ a) : Lib.index (a ++ c :: b) [c] = (a.length : Int) := by
  rw [Lib.index_one]
  induction a with
  | nil => simp [Lib.indexByte]
  | cons x a ih =>
    have hb : x ≠ c := fun e => h (by rw [e]; exact List.mem_cons_self ..)
    have := ih (fun e => h (List.mem_cons_of_mem _ e))
    rw [List.cons_append]
    unfold Lib.indexByte
    have h0 : ¬ ((a.length : Int) == -1) = true := by simp
    rw [this, if_neg (by simpa using hb), if_neg h0]; simp
theorem cutc_no {c : UInt8} {l : List UInt8} (h : c ∉ l) : Lib.cut l [c] = (l, [], false) := by
  unfold Lib.cut; rw [ix_none h]; rfl
theorem cutc_yes {c : UInt8} {a b : List UInt8} (h : c ∉ a) : Lib.cut (a ++ c :: b) [c] = (a, b, true) := by
  unfold Lib.cut; rw [ix_some h, if_pos (by omega)]
  simp
/-- A text with the sign, cut at the first one. -/
theorem ix_first {c : UInt8} : ∀ {l : List UInt8}, c ∈ l → ∃ a b, l = a ++ c :: b ∧ c ∉ a
  | [], h => by cases h
  | x :: l, h => by
    by_cases e : x = c
    · subst e; exact ⟨[], l, rfl, by simp⟩
    · rcases List.mem_cons.1 h with h1 | h1
      · exact absurd h1.symm e
      · obtain ⟨a, b, rfl, h2⟩ := ix_first h1
        refine ⟨x :: a, b, rfl, fun h3 => ?_⟩
        rcases List.mem_cons.1 h3 with h4 | h4
        · exact e h4.symm
        · exact h2 h4

end Go.Proofs.YtnojgejcmaajmaaGreatDoor
