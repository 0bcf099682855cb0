/- Entries told as plain lines, and a text's lines, as functions of lists. The document's Encode, Split of layer 21. -/
import Derived.Test.YtmnpnpmopbkabaaJpn15

namespace Go.Proofs.Ytmnpnpmopbkabaa
open Go.RowKit
def lnA : List UInt8 → List UInt8 → List (List UInt8)
  | cur, [] => if cur = [] then [] else [cur]
  | cur, c :: r => if c = 13 then (match r with
      | [] => cur :: lnA [] []
      | d :: r2 => if d = 10 then cur :: lnA [] r2 else cur :: lnA [] (d :: r2))
    else if c = 10 then cur :: lnA [] r else lnA (cur ++ [c]) r
def linN (s : List UInt8) : List (List UInt8) := lnA [] s
theorem ln_nil (cur : List UInt8) : lnA cur [] = if cur = [] then [] else [cur] := by unfold lnA; rfl
theorem ln_byte {cur r : List UInt8} {c : UInt8} (h1 : c ≠ 10) (h2 : c ≠ 13) : lnA cur (c :: r) = lnA (cur ++ [c]) r := by
  conv => lhs; unfold lnA
  rw [if_neg h2, if_neg h1]
theorem ln_10 (cur r : List UInt8) : lnA cur (10 :: r) = cur :: lnA [] r := by
  conv => lhs; unfold lnA
  rw [if_neg (by decide), if_pos rfl]
theorem ln_1310 (cur r : List UInt8) : lnA cur (13 :: 10 :: r) = cur :: lnA [] r := by
  conv => lhs; unfold lnA
  rw [if_pos rfl]
  rfl
theorem ln_13 {cur r : List UInt8} (h : r.head? ≠ some 10) : lnA cur (13 :: r) = cur :: lnA [] r := by
  conv => lhs; unfold lnA
  rw [if_pos rfl]
  cases r with
  | nil => rfl
  | cons d r =>
    show (if d = 10 then cur :: lnA [] r else cur :: lnA [] (d :: r)) = _
    rw [if_neg (fun t => h (by rw [t]; rfl))]
theorem ln_count : ∀ (n : Nat) (s cur : List UInt8), s.length ≤ n → (lnA cur s).length ≤ s.length + 1
  | 0, s, cur, h => by
    have : s = [] := List.eq_nil_of_length_eq_zero (by omega)
    subst this
    rw [ln_nil]
    split <;> simp
  | n + 1, [], cur, _ => by
    rw [ln_nil]
    split <;> simp
  | n + 1, c :: r, cur, h => by
    have hr : r.length ≤ n := by simpa using h
    by_cases h1 : c = 10
    · subst h1
      rw [ln_10]
      have := ln_count n r [] hr
      simp only [List.length_cons]
      omega
    · by_cases h2 : c = 13
      · subst h2
        by_cases h3 : r.head? = some 10
        · cases r with
          | nil => cases h3
          | cons d r =>
            have : d = 10 := by simpa using h3
            subst this
            rw [ln_1310]
            have := ln_count n r [] (by simp at hr; omega)
            simp only [List.length_cons]
            omega
        · rw [ln_13 h3]
          have := ln_count n r [] hr
          simp only [List.length_cons]
          omega
      · rw [ln_byte h1 h2]
        have := ln_count n r (cur ++ [c]) hr
        simp only [List.length_cons]
        omega
end Go.Proofs.Ytmnpnpmopbkabaa

namespace Go.Proofs.Ytmnpnpmopbkabaa
open Go.RowKit
set_option maxRecDepth 100000
theorem textTypesN : TextTypes Try.prog 27 9 := ⟨Try.underlying27, Try.underlying9, by kernel_rfl⟩

end Go.Proofs.Ytmnpnpmopbkabaa
