/- A select's options by way of its children. -/
import Derived.Test.YtldbaoolddlacaaDoorJgd9

namespace Go.Proofs.YtldbaoolddlacaaDoor
open Go.RowKit
theorem seekR_in {t : ByteArray} {f l : Nat} : ∀ {n k x : Nat}, seekR t f l n k = some x → f ≤ x ∧ x ≤ l
  | 0, k, x, h => by cases h
  | n + 1, k, x, h => by
    unfold seekR at h
    split at h
    · rename_i q
      rw [Bool.and_eq_true, Bool.and_eq_true, Nat.ble_eq, Nat.ble_eq] at q
      cases h
      exact ⟨q.1, q.2.1⟩
    · exact seekR_in h
theorem kInt_in {r : Option Nat} {f l : Nat} {z : Int} (hz : (f : Int) ≤ z ∧ z ≤ (l : Int)) (h : ∀ x, r = some x → f ≤ x ∧ x ≤ l) : (f : Int) ≤ kInt r z ∧ kInt r z ≤ (l : Int) := by
  cases r with
  | none => exact hz
  | some x =>
    have := h x rfl
    show (f : Int) ≤ (x : Int) ∧ (x : Int) ≤ (l : Int)
    omega
theorem byT_in {o : Option ByteArray} {f l : Nat} {z : Int} (hz : (f : Int) ≤ z ∧ z ≤ (l : Int)) : (f : Int) ≤ byT o f l z ∧ byT o f l z ≤ (l : Int) := by
  cases o with
  | none => exact hz
  | some t => exact kInt_in hz (fun x e => seekR_in e)
theorem seekL_in {t : ByteArray} : ∀ {n k x : Nat}, seekL t n k = some x → lastN x = t
  | 0, k, x, h => by cases h
  | n + 1, k, x, h => by
    unfold seekL at h
    split at h
    · rename_i q; cases h; exact q
    · exact seekL_in h
theorem kOf_last {name : ByteArray} {o : Option ByteArray} {i : Nat} (h : kOf name o = 28 + (i : Int)) : lastN i = name := by
  unfold kOf at h
  split at h
  · have := byT_in (o := o) (f := 1) (l := 22) (z := 2) (by decide)
    omega
  · split at h
    · omega
    · split at h
      · omega
      · split at h
        · have := byT_in (o := o) (f := 25) (l := 27) (z := 25) (by decide)
          omega
        · split at h
          · omega
          · rename_i j e
            obtain rfl : j = i := by omega
            exact seekL_in e

end Go.Proofs.YtldbaoolddlacaaDoor
