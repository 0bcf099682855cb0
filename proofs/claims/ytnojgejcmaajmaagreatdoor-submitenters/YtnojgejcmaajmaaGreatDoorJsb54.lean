/- A node and what is within it, in order. Kinds of elements. -/
import Derived.Test.YtnojgejcmaajmaaGreatDoorJsb1

namespace Go.Proofs.YtnojgejcmaajmaaGreatDoor
open Go.RowKit
/-- The one node without a parent on the way up. -/
theorem root_one {l : List Nd} (h : Right l) : ∀ (d : Nat) {k a b : Int}, k < l.length → hgt l k ≤ d → a ∈ anc l k → b ∈ anc l k → parI l a < 0 → parI l b < 0 → a = b
  | 0, k, a, b, hk, hd, ha, _, _, _ => by
    by_cases e : k < 0
    · rw [anc_neg e] at ha; cases ha
    · have := hgt_up (h.ende hk) e; omega
  | d + 1, k, a, b, hk, hd, ha, hb, pa, pb => by
    by_cases e : k < 0
    · rw [anc_neg e] at ha; cases ha
    · have hu := hgt_up (h.ende hk) e
      rw [anc_up (h.ende hk) e] at ha hb
      rcases List.mem_cons.1 ha with q | q
      · rcases List.mem_cons.1 hb with r | r
        · rw [q, r]
        · rw [q] at pa; rw [anc_neg pa] at r; cases r
      · rcases List.mem_cons.1 hb with r | r
        · rw [r] at pb; rw [anc_neg pb] at q; cases q
        · exact root_one h d (h.up e hk).2 (by omega) q r pa pb
end Go.Proofs.YtnojgejcmaajmaaGreatDoor

namespace Go.Proofs.YtnojgejcmaajmaaGreatDoor
open Go.RowKit
def subB (k : Int) : Bool := decide (1 ≤ k ∧ k ≤ 27)
def listB (k : Int) : Bool := decide ((1 ≤ k ∧ k ≤ 19) ∨ (21 ≤ k ∧ k ≤ 29))
def blockB (k : Int) : Bool := decide (2 ≤ k ∧ k ≤ 13)

end Go.Proofs.YtnojgejcmaajmaaGreatDoor
