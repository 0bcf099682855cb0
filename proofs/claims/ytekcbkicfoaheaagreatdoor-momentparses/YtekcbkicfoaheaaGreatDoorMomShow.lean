/- Which text a number has, of each kind, there and back: plain facts of no program. No condition. -/
import Derived.Test.YtekcbkicfoaheaaGreatDoorMom
namespace Go.Proofs.YtekcbkicfoaheaaGreatDoor
open Go.RowKit

def Daily : Int := 86400000
/-- The text t is the text of the number n of that kind. -/
def ShowIs (kind n : Int) (t : List UInt8) : Prop :=
  (kind = 1 ∧ ∃ (k : Int) (y m d : Nat), IsDay k y m d ∧ n = k * 86400000 ∧ t = dateL y m d) ∨
  (kind = 2 ∧ ∃ y m : Nat, 1 ≤ y ∧ y ≤ 275760 ∧ 1 ≤ m ∧ m ≤ 12 ∧ n = ((y : Int) - 1970) * 12 + m - 1 ∧ t = monthL y m) ∨
  (kind = 3 ∧ ∃ y k : Nat, 1 ≤ y ∧ y ≤ 275760 ∧ 1 ≤ k ∧ (k : Int) ≤ weeksV y ∧ n = (firstV y + 7 * ((k : Int) - 1)) * 86400000 ∧ t = weekL y k) ∨
  (kind = 4 ∧ ∃ k : Nat, k < 86400000 ∧ n = k ∧ t = clockL k) ∨
  (kind = 5 ∧ ∃ (k : Int) (y m d r : Nat), IsDay k y m d ∧ r < 86400000 ∧ n = k * 86400000 + r ∧ t = dateL y m d ++ 84 :: clockL r)
/-- No text of that kind has the number n. -/
def ShowNo (kind n : Int) : Prop :=
  (kind = 1 ∧ (¬ n % 86400000 = 0 ∨ n / 86400000 < newV 1 ∨ newV 275761 ≤ n / 86400000)) ∨
  (kind = 2 ∧ (n / 12 < -1969 ∨ 273790 < n / 12)) ∨
  (kind = 3 ∧ (¬ n % 86400000 = 0 ∨ n / 86400000 < firstV 1 ∨ firstV 275761 ≤ n / 86400000 ∨ ¬ wdayV (n / 86400000) = 1)) ∨
  (kind = 4 ∧ (n < 0 ∨ 86400000 ≤ n)) ∨
  (kind = 5 ∧ (n / 86400000 < newV 1 ∨ newV 275761 ≤ n / 86400000))
theorem day_nat {n y m d : Int} (h : IsDay n y m d) : ∃ Y M D : Nat, IsDay n Y M D ∧ (Y : Int) = y ∧ (M : Int) = m ∧ (D : Int) = d := by
  have h1 := h.y1; have h2 := h.m1; have h3 := h.d1
  obtain ⟨Y, rfl⟩ : ∃ Y : Nat, y = Y := ⟨y.toNat, by omega⟩
  obtain ⟨M, rfl⟩ : ∃ M : Nat, m = M := ⟨m.toNat, by omega⟩
  obtain ⟨D, rfl⟩ : ∃ D : Nat, d = D := ⟨d.toNat, by omega⟩
  exact ⟨Y, M, D, h, rfl, rfl, rfl⟩
theorem week_nat {n y : Int} (h : InWeeks n y) (y1 : 1 ≤ y) (hw : wdayV n = 1) : ∃ Y k : Nat, (Y : Int) = y ∧ 1 ≤ k ∧ (k : Int) ≤ weeksV y ∧ (k : Int) = weekV n y ∧ n = firstV y + 7 * ((k : Int) - 1) := by
  have ⟨a, b, c, d⟩ := week_is h
  obtain ⟨Y, rfl⟩ : ∃ Y : Nat, y = Y := ⟨y.toNat, by omega⟩
  obtain ⟨k, hk⟩ : ∃ k : Nat, weekV n Y = k := ⟨(weekV n Y).toNat, by omega⟩
  rw [hk] at a b c d
  refine ⟨Y, k, rfl, by omega, b, hk.symm, ?_⟩
  have f := first_monday Y
  unfold wdayV at f hw
  omega
theorem show_cases {kind : Int} (n : Int) (h1 : 1 ≤ kind) (h2 : kind ≤ 5) : (∃ t, ShowIs kind n t) ∨ ShowNo kind n := by
  rcases (show kind = 1 ∨ kind = 2 ∨ kind = 3 ∨ kind = 4 ∨ kind = 5 by omega) with h | h | h | h | h
  · by_cases g : n % 86400000 = 0 ∧ newV 1 ≤ n / 86400000 ∧ n / 86400000 < newV 275761
    · obtain ⟨y, m, d, hd⟩ := day_some g.2.1 g.2.2
      obtain ⟨Y, M, D, hd', -⟩ := day_nat hd
      exact .inl ⟨_, .inl ⟨h, _, Y, M, D, hd', by omega, rfl⟩⟩
    · exact .inr (.inl ⟨h, by omega⟩)
  · by_cases g : n / 12 < -1969 ∨ 273790 < n / 12
    · exact .inr (.inr (.inl ⟨h, g⟩))
    · exact .inl ⟨_, .inr (.inl ⟨h, (n / 12 + 1970).toNat, (n % 12 + 1).toNat, by omega, by omega, by omega, by omega, by omega, rfl⟩)⟩
  · by_cases g : n % 86400000 = 0 ∧ firstV 1 ≤ n / 86400000 ∧ n / 86400000 < firstV 275761 ∧ wdayV (n / 86400000) = 1
    · obtain ⟨y, y1, y2, hy⟩ := inWeeks_some g.2.1 g.2.2.1
      obtain ⟨Y, k, rfl, k1, k2, k3, e⟩ := week_nat hy y1 g.2.2.2
      exact .inl ⟨_, .inr (.inr (.inl ⟨h, Y, k, by omega, by omega, k1, k2, by rw [← e]; omega, rfl⟩))⟩
    · exact .inr (.inr (.inr (.inl ⟨h, by omega⟩)))
  · by_cases g : n < 0 ∨ 86400000 ≤ n
    · exact .inr (.inr (.inr (.inr (.inl ⟨h, g⟩))))
    · exact .inl ⟨_, .inr (.inr (.inr (.inl ⟨h, n.toNat, by omega, by omega, rfl⟩)))⟩
  · by_cases g : newV 1 ≤ n / 86400000 ∧ n / 86400000 < newV 275761
    · obtain ⟨y, m, d, hd⟩ := day_some g.1 g.2
      obtain ⟨Y, M, D, hd', -⟩ := day_nat hd
      exact .inl ⟨_, .inr (.inr (.inr (.inr ⟨h, _, Y, M, D, (n % 86400000).toNat, hd', by omega, by omega, rfl⟩)))⟩
    · exact .inr (.inr (.inr (.inr (.inr ⟨h, by omega⟩))))
theorem sep_take {p : UInt8 → Bool} {l k : List UInt8} {c : UInt8} (h : ∀ x ∈ l, p x = true) (hc : p c = false) : (l ++ c :: k).takeWhile p = l ∧ (l ++ c :: k).dropWhile p = c :: k := by
  induction l with
  | nil => simp [hc]
  | cons x l ih =>
    have hx := h x (List.mem_cons_self ..)
    have ⟨i1, i2⟩ := ih (fun d hd => h d (List.mem_cons_of_mem _ hd))
    simp [hx, i1, i2]
/-- A day's text, a sign, a time's text. -/
theorem local_is {l k : List UInt8} {c : UInt8} (h : ∀ x ∈ l, isSep x = false) (hc : isSep c = true) : localT (l ++ c :: k) = (dateT l).bind fun d => (clockT k).bind fun t => some (d * 86400000 + t) := by
  have ⟨a, b⟩ := sep_take (p := fun c => !isSep c) (l := l) (k := k) (c := c) (fun x hx => by simp [h x hx]) (by simp [hc])
  unfold localT
  rw [a, b]; rfl
theorem dg_sep {c : UInt8} (h : isDg c = true) : isSep c = false := by
  have := (isDg_iff c).1 h
  unfold isSep
  have a : c ≠ 84 := by intro e; subst e; revert this; decide
  have b : c ≠ 32 := by intro e; subst e; revert this; decide
  simp [a, b]
theorem dateL_sep (y m d : Nat) : ∀ x ∈ dateL y m d, isSep x = false := by
  intro x hx
  unfold dateL at hx
  simp only [List.append_assoc, List.cons_append, List.mem_append, List.mem_cons] at hx
  rcases hx with h | h | h | h | h
  · exact dg_sep (pad_dg _ _ x h)
  · subst h; decide
  · exact dg_sep (pad_dg _ _ x h)
  · subst h; decide
  · exact dg_sep (pad_dg _ _ x h)
/-- There and back. -/
theorem mom_back {kind n : Int} {t : List UInt8} (h : ShowIs kind n t) : momT kind t = some n := by
  rcases h with ⟨rfl, k, y, m, d, hd, rfl, rfl⟩ | ⟨rfl, y, m, y1, y2, m1, m2, rfl, rfl⟩ | ⟨rfl, y, k, y1, y2, k1, k2, rfl, rfl⟩ | ⟨rfl, k, hk, rfl, rfl⟩ | ⟨rfl, k, y, m, d, r, hd, hr, rfl, rfl⟩
  · show (dateT _).map _ = _
    rw [date_back hd]; rfl
  · show monthT _ = _
    exact month_back y1 y2 m1 m2
  · show (weekT _).map _ = _
    rw [week_back y1 y2 k1 k2]; rfl
  · show clockT _ = _
    exact clock_back hk
  · show localT _ = _
    rw [local_is (dateL_sep y m d) (by decide), date_back hd, clock_back hr]; rfl
theorem year_of {l : List UInt8} {y : Int} (h : yrV l = some y) : 1 ≤ y ∧ y ≤ 275760 := by
  unfold yrV at h
  split at h
  · cases h; omega
  · cases h
theorem date_of_text {l : List UInt8} {k : Int} (h : dateT l = some k) : ∃ y m d : Nat, IsDay k y m d := by
  unfold dateT at h
  rw [Option.bind_eq_some_iff] at h
  obtain ⟨y, hy, ht⟩ := h
  unfold dateTail at ht
  split at ht
  · split at ht
    · unfold numD at ht
      split at ht
      · rename_i g
        cases ht
        obtain ⟨Y, M, D, hd, -⟩ := day_nat (day_is g.1 g.2)
        exact ⟨Y, M, D, hd⟩
      · cases ht
    · cases ht
  · cases ht
theorem frac_some_T {l : List UInt8} {n k : Int} (h : fracT n l = some k) : n ≤ k ∧ k < n + 1000 := by
  unfold fracT at h
  split at h
  · cases h; omega
  · split at h
    · rename_i g
      cases h
      have := fracOf_lt 3 _ (List.all_eq_true.1 g.2.2.2)
      omega
    · cases h
theorem sec_some {l : List UInt8} {n k : Int} (h : secT n l = some k) : n ≤ k ∧ k < n + 60000 := by
  unfold secT at h
  split at h
  · cases h; omega
  · split at h
    · have := frac_some_T h
      omega
    · cases h
  · cases h
theorem clock_some {l : List UInt8} {k : Int} (h : clockT l = some k) : 0 ≤ k ∧ k < 86400000 := by
  unfold clockT at h
  split at h
  · split at h
    · have := sec_some h
      omega
    · cases h
  · cases h
/-- What is read has a text. -/
theorem mom_normal {kind n : Int} {l : List UInt8} (h1 : 1 ≤ kind) (h2 : kind ≤ 5) (h : momT kind l = some n) : ∃ t, ShowIs kind n t := by
  rcases (show kind = 1 ∨ kind = 2 ∨ kind = 3 ∨ kind = 4 ∨ kind = 5 by omega) with rfl | rfl | rfl | rfl | rfl
  · have h : (dateT l).map (· * 86400000) = some n := h
    rw [Option.map_eq_some_iff] at h
    obtain ⟨k, hk, rfl⟩ := h
    obtain ⟨y, m, d, hd⟩ := date_of_text hk
    exact ⟨_, .inl ⟨rfl, k, y, m, d, hd, rfl, rfl⟩⟩
  · have h : monthT l = some n := h
    unfold monthT at h
    rw [Option.bind_eq_some_iff] at h
    obtain ⟨y, hy, ht⟩ := h
    have ⟨y1, y2⟩ := year_of hy
    unfold monthTail at ht
    split at ht
    · split at ht
      · cases ht
        rename_i a b _ g
        exact ⟨_, .inr (.inl ⟨rfl, y.toNat, (twoV a b).toNat, by omega, by omega, by omega, by omega, by omega, rfl⟩)⟩
      · cases ht
    · cases ht
  · have h : (weekT l).map (· * 86400000) = some n := h
    rw [Option.map_eq_some_iff] at h
    obtain ⟨k, hk, rfl⟩ := h
    unfold weekT at hk
    rw [Option.bind_eq_some_iff] at hk
    obtain ⟨y, hy, ht⟩ := hk
    have ⟨y1, y2⟩ := year_of hy
    unfold weekTail at ht
    split at ht
    · split at ht
      · cases ht
        rename_i a b _ g
        rw [weeks_in ⟨y1, y2⟩] at g
        obtain ⟨Y, rfl⟩ : ∃ Y : Nat, y = Y := ⟨y.toNat, by omega⟩
        exact ⟨_, .inr (.inr (.inl ⟨rfl, Y, (twoV a b).toNat, by omega, by omega, by omega, by omega, by rw [show (((twoV a b).toNat : Nat) : Int) = twoV a b by omega], rfl⟩))⟩
      · cases ht
    · cases ht
  · have h : clockT l = some n := h
    have := clock_some h
    exact ⟨_, .inr (.inr (.inr (.inl ⟨rfl, n.toNat, by omega, by omega, rfl⟩)))⟩
  · have h : localT l = some n := h
    unfold localT localRest at h
    split at h
    · cases h
    · rw [Option.bind_eq_some_iff] at h
      obtain ⟨d, hd, h⟩ := h
      rw [Option.bind_eq_some_iff] at h
      obtain ⟨t, ht, h⟩ := h
      cases h
      obtain ⟨y, m, e, he⟩ := date_of_text hd
      have := clock_some ht
      exact ⟨_, .inr (.inr (.inr (.inr ⟨rfl, d, y, m, e, t.toNat, he, by omega, by omega, rfl⟩)))⟩

end Go.Proofs.YtekcbkicfoaheaaGreatDoor
