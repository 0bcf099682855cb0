/- The document's read of layer 20. The document's Decode of layer 20. -/
import Derived.Test.YtnojgejcmaajmaaGreatDoorJsb45

namespace Go.Proofs.YtnojgejcmaajmaaGreatDoor
open Go.RowKit
set_option maxRecDepth 100000
theorem cut_spec {t : List UInt8} : ∀ {s a b : List UInt8}, cutL t s = some (a, b) → s = a ++ t ++ b
  | [], a, b, h => by
    cases q : t.isPrefixOf [] with
    | true =>
      rw [cut_hit q] at h
      cases h
      have := List.isPrefixOf_iff_prefix.1 q
      have : t = [] := by simpa using this
      subst this; rfl
    | false =>
      have : t ≠ [] := fun e => by rw [e] at q; cases q
      rw [cut_end this] at h; cases h
  | c :: s, a, b, h => by
    cases q : t.isPrefixOf (c :: s) with
    | true =>
      rw [cut_hit q] at h
      cases h
      obtain ⟨z, hz⟩ := List.isPrefixOf_iff_prefix.1 q
      rw [← hz]
      simp
    | false =>
      rw [cut_miss q] at h
      cases g : cutL t s with
      | none => rw [g] at h; cases h
      | some p =>
        rw [g] at h
        cases h
        have := cut_spec (a := p.1) (b := p.2) g
        show c :: s = c :: (p.1 ++ t) ++ p.2
        rw [this]; rfl
end Go.Proofs.YtnojgejcmaajmaaGreatDoor

namespace Go.Proofs.YtnojgejcmaajmaaGreatDoor
open Go.RowKit
set_option maxRecDepth 100000
def decR (o : Option (List En)) : List En := o.getD []
def decI (o : Option (List En)) : Int := if o.isSome = true then 0 else 1
theorem decF_nil (b : List UInt8) (n : Nat) : decF b n [] = none := by
  cases n with
  | zero => rfl
  | succ n => unfold decF; rw [cut_end (by unfold btwL; simp)]
theorem decF_more (b : List UInt8) : ∀ {n m : Nat} {l : List UInt8}, l.length ≤ n → l.length ≤ m → decF b n l = decF b m l
  | 0, m, l, h, _ => by
    have : l = [] := List.eq_nil_of_length_eq_zero (by omega)
    subst this
    rw [decF_nil, decF_nil]
  | n + 1, 0, l, _, h => by
    have : l = [] := List.eq_nil_of_length_eq_zero (by omega)
    subst this
    rw [decF_nil, decF_nil]
  | n + 1, m + 1, l, h, g => by
    unfold decF
    cases c : cutL (btwL b) l with
    | none => rfl
    | some pr =>
      obtain ⟨p, r⟩ := pr
      have sp := congrArg List.length (cut_spec c)
      rw [List.length_append, List.length_append] at sp
      have bl : (btwL b).length = b.length + 4 := rfl
      show (match readL p with | none => none | some e => if r = endL then some [e] else if [13, 10].isPrefixOf r = true then (decF b n (r.drop 2)).map (e :: ·) else none) = (match readL p with | none => none | some e => if r = endL then some [e] else if [13, 10].isPrefixOf r = true then (decF b m (r.drop 2)).map (e :: ·) else none)
      rw [decF_more b (n := n) (m := m) (l := r.drop 2) (by rw [List.length_drop]; omega) (by rw [List.length_drop]; omega)]
theorem decP_no {s b : List UInt8} (h : fitL b = false) : decP s b = none := by unfold decP; rw [if_neg (by rw [h]; decide)]
theorem decP_end {s b : List UInt8} (h : fitL b = true) (g : s = 45 :: 45 :: (b ++ endL)) : decP s b = some [] := by unfold decP; rw [if_pos h, if_pos g]
theorem ret_dec {v : Value} {c d : Int} (g : c = d) : Ending.returned (.tuple #[v, .int .i64 c]) = .returned (.tuple #[v, .int .i64 d]) := by rw [g]
theorem eq_bL {s t : ByteArray} : (s.toList == t.toList) = decide (bL s = bL t) := by
  rw [ByteArray.toList_eq, ByteArray.toList_eq]
  cases h : (s.data.toList == t.data.toList) with
  | true => exact (decide_eq_true (by simpa using h)).symm
  | false => exact (decide_eq_false (by simpa using h)).symm

end Go.Proofs.YtnojgejcmaajmaaGreatDoor
