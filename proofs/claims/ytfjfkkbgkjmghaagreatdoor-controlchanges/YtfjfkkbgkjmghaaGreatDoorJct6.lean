/- Documents as lists of nodes. Bounds and steps of values that are numbers, as functions of kinds, attributes and texts. -/
import Derived.Test.YtfjfkkbgkjmghaaGreatDoorJct3
import Derived.Lib.ItoaNum
import Derived.Lib.TrimByte
import Derived.Lib.CutLaws
import Derived.Lib.IndexBytes
import Derived.Deep.QuietTactic

namespace Go.Proofs.YtfjfkkbgkjmghaaGreatDoor
open Go.RowKit
/-- A node: its name and text, its attributes, its parent's number, its children's. -/
structure Nd where
  name : ByteArray
  text : ByteArray
  attrs : List (ByteArray × ByteArray)
  parent : Int
  kids : List Int
def at0 : ByteArray × ByteArray := (⟨#[]⟩, ⟨#[]⟩)
/-- The place of an attribute. -/
def findA (ax : List (ByteArray × ByteArray)) (n : ByteArray) : Option Nat := ax.findIdx? fun a => decide (a.1 = n)
def findV (o : Option Nat) : Int := match o with
  | none => -1
  | some k => (k : Int)
end Go.Proofs.YtfjfkkbgkjmghaaGreatDoor

namespace Go.Proofs.YtfjfkkbgkjmghaaGreatDoor
open Go.RowKit
def optI (o : Option Int) : Int := o.getD 0
/-- The number that Parse answers, if it does. -/
def okP (r : Int × Int) : Option Int := if r.2 = 0 then some r.1 else none
/-- The number of a text, by a kind. -/
def numK (k : Int) (l : List UInt8) : Option Int := if k = 13 ∨ k = 14 then okP (parseV l) else if 8 ≤ k ∧ k ≤ 12 then momT (k - 7) l else none
theorem parse_out (l : List UInt8) : (parseV l).2 = 0 ∨ (parseV l).1 = 0 := by
  unfold parseV
  split
  · exact .inr rfl
  · unfold numV
    split
    · exact .inr rfl
    · exact .inl rfl
theorem parse_opt (l : List UInt8) : (parseV l).1 = optI (okP (parseV l)) ∧ ((parseV l).2 == 0) = (okP (parseV l)).isSome := by
  unfold okP optI
  rcases parse_out l with h | h
  · rw [if_pos h]; exact ⟨rfl, by rw [h]; rfl⟩
  · by_cases q : (parseV l).2 = 0
    · rw [if_pos q]; exact ⟨rfl, by rw [q]; rfl⟩
    · rw [if_neg q]; exact ⟨h, beq_eq_false_iff_ne.2 q⟩
theorem mom_opt {k : Int} (h : 1 ≤ k ∧ k ≤ 5) (l : List UInt8) : (momV k l).1 = optI (momT k l) ∧ ((momV k l).2 == 0) = (momT k l).isSome := by
  unfold momV
  rw [if_pos h]
  cases momT k l with
  | none => exact ⟨rfl, rfl⟩
  | some n => exact ⟨rfl, rfl⟩
theorem parts_dg {l w f : List UInt8} (h : partsV l = some (w, f)) : ∀ c ∈ f, isDg c = true := by
  unfold partsV at h
  split at h
  · split at h
    · cases h
    · cases h; exact fun c q => by cases q
  · split at h
    · rename_i q
      cases h
      exact List.all_eq_true.1 q.2.2
    · cases h
/-- Numbers are not beyond 10^18. -/
theorem parse_range {l : List UInt8} {n : Int} (h : okP (parseV l) = some n) : -1000000000000000000 ≤ n ∧ n ≤ 1000000000000000000 := by
  unfold okP at h
  split at h
  · cases h
    unfold parseV
    split
    · exact ⟨by decide, by decide⟩
    · rename_i w f hp
      unfold numV
      split
      · exact ⟨by decide, by decide⟩
      · rename_i q
        have hd := parts_dg hp
        have hm : fracOf 6 f < 1000000 ∧ (natOf w = MW → fracOf 6 f = 0) := ⟨fracOf_lt 6 f hd, fun e => someD_zero 6 f hd (by
          by_cases t : someD f = true
          · exact absurd (.inr (.inl ⟨e, t⟩)) q
          · simpa using t)⟩
        have hw : natOf w ≤ MW := by
          rcases Nat.lt_or_ge MW (natOf w) with t | t
          · exact absurd (.inl t) q
          · exact t
        have hM : MW = 1000000000000 := rfl
        show -1000000000000000000 ≤ (if negV l = true then -((natOf w * 1000000 + fracOf 6 f : Nat) : Int) else ((natOf w * 1000000 + fracOf 6 f : Nat) : Int)) ∧ (if negV l = true then -((natOf w * 1000000 + fracOf 6 f : Nat) : Int) else ((natOf w * 1000000 + fracOf 6 f : Nat) : Int)) ≤ 1000000000000000000
        have hs : natOf w * 1000000 + fracOf 6 f ≤ 1000000000000000000 := by
          rcases Nat.lt_or_ge (natOf w) MW with t | t
          · omega
          · have := hm.2 (by omega); omega
        split <;> omega
  · cases h
theorem num_range {k : Int} {l : List UInt8} {n : Int} (h : numK k l = some n) : -1000000000000000000 ≤ n ∧ n ≤ 1000000000000000000 := by
  unfold numK at h
  split at h
  · exact parse_range h
  · split at h
    · rename_i q
      obtain ⟨t, ht⟩ := mom_normal (kind := k - 7) (by omega) (by omega) h
      rcases ht with ⟨_, k, y, m, d, hd, rfl, _⟩ | ⟨_, y, m, y1, y2, m1, m2, rfl, _⟩ | ⟨_, y, k, y1, y2, k1, k2, rfl, _⟩ | ⟨_, k, hk, rfl, _⟩ | ⟨_, k, y, m, d, r, hd, hr, rfl, _⟩
      · have := hd.bounds; omega
      · omega
      · have := first_range (y := y) (by omega) (by omega)
        have := (weeks_is y).2
        omega
      · omega
      · have := hd.bounds; omega
    · cases h
/-- A number's text, by a kind. -/
def ShK (k n : Int) (o : Option (List UInt8)) : Prop :=
  ((k = 13 ∨ k = 14) ∧ ((-1000000000000000000 ≤ n ∧ n ≤ 1000000000000000000 ∧ o = some (showL n)) ∨ (¬ (-1000000000000000000 ≤ n ∧ n ≤ 1000000000000000000) ∧ o = none))) ∨
  ((8 ≤ k ∧ k ≤ 12) ∧ ((∃ t, ShowIs (k - 7) n t ∧ o = some t) ∨ (ShowNo (k - 7) n ∧ o = none))) ∨
  (¬ (8 ≤ k ∧ k ≤ 14) ∧ o = none)
theorem shk_some (k n : Int) : ∃ o, ShK k n o := by
  by_cases h : k = 13 ∨ k = 14
  · by_cases q : -1000000000000000000 ≤ n ∧ n ≤ 1000000000000000000
    · exact ⟨_, .inl ⟨h, .inl ⟨q.1, q.2, rfl⟩⟩⟩
    · exact ⟨_, .inl ⟨h, .inr ⟨q, rfl⟩⟩⟩
  · by_cases h2 : 8 ≤ k ∧ k ≤ 12
    · rcases show_cases (kind := k - 7) n (by omega) (by omega) with ⟨t, ht⟩ | hn
      · exact ⟨_, .inr (.inl ⟨h2, .inl ⟨t, ht, rfl⟩⟩)⟩
      · exact ⟨_, .inr (.inl ⟨h2, .inr ⟨hn, rfl⟩⟩)⟩
    · exact ⟨none, .inr (.inr ⟨by omega, rfl⟩)⟩
/-- What has a number can be shown. -/
theorem shk_num {k n : Int} {l : List UInt8} (h : numK k l = some n) : ∃ t, ShK k n (some t) := by
  have r := num_range h
  unfold numK at h
  split at h
  · rename_i q
    exact ⟨_, .inl ⟨q, .inl ⟨r.1, r.2, rfl⟩⟩⟩
  · split at h
    · rename_i q
      obtain ⟨t, ht⟩ := mom_normal (kind := k - 7) (by omega) (by omega) h
      exact ⟨t, .inr (.inl ⟨q, .inl ⟨t, ht, rfl⟩⟩)⟩
    · cases h
def minS : ByteArray := ⟨#[109, 105, 110]⟩
def maxS : ByteArray := ⟨#[109, 97, 120]⟩
def stepS : ByteArray := ⟨#[115, 116, 101, 112]⟩
def valS : ByteArray := ⟨#[118, 97, 108, 117, 101]⟩
def anyS : ByteArray := ⟨#[97, 110, 121]⟩
/-- The number of an attribute. -/
def attrK (k : Int) (ax : List (ByteArray × ByteArray)) (name : ByteArray) : Option Int := (findA ax name).bind fun i => numK k (ax.getD i at0).2.data.toList
def leastK (k : Int) (ax : List (ByteArray × ByteArray)) : Option Int := if (attrK k ax minS).isSome then attrK k ax minS else if k = 14 then some 0 else none
def mostK (k : Int) (ax : List (ByteArray × ByteArray)) : Option Int := if (attrK k ax maxS).isSome then attrK k ax maxS else if k = 14 then some (if 100000000 < optI (leastK k ax) then optI (leastK k ax) else 100000000) else none
def scaleK (k : Int) : Int := if k = 8 then 86400000 else if k = 9 then 1 else if k = 10 then 604800000 else if k = 11 ∨ k = 12 then 1000 else 1000000
def defK (k : Int) : Int := if k = 11 ∨ k = 12 then 60000 else scaleK k
/-- The step that a number makes. -/
def outN (k n : Int) : Int := n / 1000000 * scaleK k + n % 1000000 * scaleK k / 1000000
def stepN (k n : Int) : Int := if n ≤ 0 then defK k else if 1000000000000000000 / scaleK k < n / 1000000 then defK k else
  if outN k n = 0 ∨ 1000000000000000000 < outN k n then defK k else outN k n
def stepOf (k : Int) (o : Option Int) : Int := match o with
  | none => defK k
  | some n => stepN k n
def stepK (k : Int) (ax : List (ByteArray × ByteArray)) : Option Int := if 8 ≤ k ∧ k ≤ 14 then
    match findA ax stepS with
    | none => some (defK k)
    | some i => if lowS (ax.getD i at0).2 = anyS then none else some (stepOf k (okP (parseV (ax.getD i at0).2.data.toList)))
  else none
def baseK (k : Int) (ax : List (ByteArray × ByteArray)) : Int := if (attrK k ax minS).isSome then optI (attrK k ax minS) else if (attrK k ax valS).isSome then optI (attrK k ax valS) else if k = 10 then -259200000 else 0
theorem optI_range {o : Option Int} {B : Int} (hB : 0 ≤ B) (h : ∀ n, o = some n → -B ≤ n ∧ n ≤ B) : -B ≤ optI o ∧ optI o ≤ B := by
  cases o with
  | none => exact ⟨by show -B ≤ (0 : Int); omega, hB⟩
  | some n => exact h n rfl
theorem attr_range (k : Int) (ax : List (ByteArray × ByteArray)) (name : ByteArray) : -1000000000000000000 ≤ optI (attrK k ax name) ∧ optI (attrK k ax name) ≤ 1000000000000000000 := by
  refine optI_range (B := 1000000000000000000) (by decide) fun n h => ?_
  unfold attrK at h
  obtain ⟨i, _, h⟩ := Option.bind_eq_some_iff.1 h
  exact num_range h
theorem least_range (k : Int) (ax : List (ByteArray × ByteArray)) : -1000000000000000000 ≤ optI (leastK k ax) ∧ optI (leastK k ax) ≤ 1000000000000000000 := by
  unfold leastK
  split
  · exact attr_range k ax minS
  · split <;> exact ⟨by decide, by decide⟩
theorem base_range (k : Int) (ax : List (ByteArray × ByteArray)) : -1000000000000000000 ≤ baseK k ax ∧ baseK k ax ≤ 1000000000000000000 := by
  unfold baseK
  split
  · exact attr_range k ax minS
  · split
    · exact attr_range k ax valS
    · split <;> exact ⟨by decide, by decide⟩
theorem def_range (k : Int) : 1 ≤ defK k ∧ defK k ≤ 604800000 := by
  unfold defK scaleK
  (repeat' split) <;> omega
theorem scale_range (k : Int) : 1 ≤ scaleK k ∧ scaleK k ≤ 604800000 := by
  unfold scaleK
  (repeat' split) <;> omega
theorem stepOf_range (k : Int) (o : Option Int) : 1 ≤ stepOf k o ∧ stepOf k o ≤ 1000000000000000000 := by
  have d := def_range k
  have s := scale_range k
  cases o with
  | none => exact ⟨d.1, by show defK k ≤ _; omega⟩
  | some n =>
    show 1 ≤ stepN k n ∧ stepN k n ≤ 1000000000000000000
    unfold stepN
    split
    · omega
    · split
      · omega
      · split
        · omega
        · rename_i h0 _ h
          have a1 : 0 ≤ n / 1000000 * scaleK k := Int.mul_nonneg (Int.ediv_nonneg (by omega) (by omega)) (by omega)
          have a2 : 0 ≤ n % 1000000 * scaleK k / 1000000 := Int.ediv_nonneg (Int.mul_nonneg (Int.emod_nonneg _ (by omega)) (by omega)) (by omega)
          have e : outN k n = n / 1000000 * scaleK k + n % 1000000 * scaleK k / 1000000 := rfl
          omega
theorem step_range (k : Int) (ax : List (ByteArray × ByteArray)) {b : Int} (h : stepK k ax = some b) : 1 ≤ b ∧ b ≤ 1000000000000000000 := by
  have d := def_range k
  unfold stepK at h
  split at h
  · split at h
    · cases h; omega
    · split at h
      · cases h
      · cases h; exact stepOf_range _ _
  · cases h

end Go.Proofs.YtfjfkkbgkjmghaaGreatDoor
