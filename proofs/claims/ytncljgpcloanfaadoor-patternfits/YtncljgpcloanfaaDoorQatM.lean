/- What a pattern fits: by places of a text of signs, and by lists of places; both say the same; plain facts of no program. No condition. -/
import Derived.Test.YtncljgpcloanfaaDoorQatP
namespace Go.Proofs.YtncljgpcloanfaaDoor

def wordN (c : Nat) : Bool := isDN c || (decide (97 ≤ c ∧ c ≤ 122) || (decide (65 ≤ c ∧ c ≤ 90) || c == 95))
def blankN (c : Nat) : Bool := c == 9 || (c == 10 || (c == 12 || (c == 13 || c == 32)))
def namedN (k c : Nat) : Bool := if k = 100 then isDN c else if k = 119 then wordN c else blankN c
def fitItem : Item → Nat → Bool
  | ⟨true, k, _⟩, c => namedN k c
  | ⟨false, a, b⟩, c => decide (a ≤ c) && decide (c ≤ b)
def fitOne : One → Nat → Bool
  | ⟨0, x, _, _⟩, c => c == x
  | ⟨1, _, _, _⟩, c => !(c == 10) && !(c == 13)
  | ⟨2, k, neg, _⟩, c => if neg then !namedN k c else namedN k c
  | ⟨_ + 3, _, neg, is⟩, c => if is.any (fun i => fitItem i c) then !neg else neg

/-- So many times, one behind the other. -/
def Pow (R : Nat → Nat → Prop) : Nat → Nat → Nat → Prop
  | 0, i, j => i = j
  | n + 1, i, j => ∃ m, R i m ∧ Pow R n m j
/-- Does a pattern fit what stands from a place to another? -/
def M (s : List Nat) : Pat → Nat → Nat → Prop
  | ⟨false, none, _, _⟩, i, j => i = j
  | ⟨true, _, some (lo, hi), k⟩, i, j => ∃ n m, lo ≤ n ∧ (∀ h, hi = some h → n ≤ lo + (h - lo)) ∧ Pow (M s (k rfl true)) n i m ∧ M s (k rfl false) m j
  | ⟨true, _, none, k⟩, i, j => M s (k rfl true) i j ∨ M s (k rfl false) i j
  | ⟨false, some o, _, _⟩, i, j => j = i + 1 ∧ ∃ c, s[i]? = some c ∧ fitOne o c = true

theorem Pow.le {R : Nat → Nat → Prop} (h : ∀ i j, R i j → i ≤ j) : ∀ {n i j : Nat}, Pow R n i j → i ≤ j
  | 0, _, _, e => Nat.le_of_eq e
  | _ + 1, i, _, ⟨m, h1, h2⟩ => Nat.le_trans (h i m h1) (Pow.le h h2)
theorem M_le (s : List Nat) : ∀ (p : Pat) {i j : Nat}, M s p i j → i ≤ j
  | ⟨false, none, _, _⟩, _, _, h => Nat.le_of_eq h
  | ⟨true, _, some (_, _), k⟩, _, _, ⟨_, _, _, _, h1, h2⟩ => Nat.le_trans (Pow.le (fun _ _ => M_le s (k rfl true)) h1) (M_le s (k rfl false) h2)
  | ⟨true, _, none, k⟩, _, _, h => by
    rcases h with h | h
    · exact M_le s (k rfl true) h
    · exact M_le s (k rfl false) h
  | ⟨false, some _, _, _⟩, _, _, h => by have := h.1; omega
theorem Pow.top {R : Nat → Nat → Prop} {t : Nat} (h : ∀ i j, R i j → i ≤ t → j ≤ t) : ∀ {n i j : Nat}, Pow R n i j → i ≤ t → j ≤ t
  | 0, _, _, e, hi => by rw [← show _ = _ from e]; exact hi
  | _ + 1, i, j, ⟨m, h1, h2⟩, hi => Pow.top h h2 (h i m h1 hi)
theorem M_top (s : List Nat) : ∀ (p : Pat) {i j : Nat}, M s p i j → i ≤ s.length → j ≤ s.length
  | ⟨false, none, _, _⟩, _, _, h, hi => by have : _ = _ := h; omega
  | ⟨true, _, some (_, _), k⟩, _, _, ⟨_, _, _, _, h1, h2⟩, hi => M_top s (k rfl false) h2 (Pow.top (fun _ _ => M_top s (k rfl true)) h1 hi)
  | ⟨true, _, none, k⟩, _, _, h, hi => by
    rcases h with h | h
    · exact M_top s (k rfl true) h hi
    · exact M_top s (k rfl false) h hi
  | ⟨false, some _, _, _⟩, i, j, h, hi => by
    obtain ⟨e, c, hc, _⟩ := h
    have := (List.getElem?_eq_some_iff.1 hc).1
    omega
theorem Pow.add {R : Nat → Nat → Prop} : ∀ {n m i k j : Nat}, Pow R n i k → Pow R m k j → Pow R (n + m) i j
  | 0, m, i, k, j, h1, h2 => by have e : i = k := h1; subst e; rw [Nat.zero_add]; exact h2
  | n + 1, m, i, k, j, ⟨q, h1, h3⟩, h2 => by
    rw [show n + 1 + m = (n + m) + 1 by omega]
    exact ⟨q, h1, Pow.add h3 h2⟩
theorem Pow.cut {R : Nat → Nat → Prop} : ∀ {n m i j : Nat}, Pow R (n + m) i j → ∃ k, Pow R n i k ∧ Pow R m k j
  | 0, m, i, j, h => ⟨i, rfl, by rw [Nat.zero_add] at h; exact h⟩
  | n + 1, m, i, j, h => by
    rw [show n + 1 + m = (n + m) + 1 by omega] at h
    obtain ⟨q, h1, h2⟩ := h
    obtain ⟨k, h3, h4⟩ := Pow.cut h2
    exact ⟨k, ⟨q, h1, h3⟩, h4⟩
/-- What goes so many times goes in as many steps as there are places. -/
theorem Pow.short {R : Nat → Nat → Prop} (h : ∀ i j, R i j → i ≤ j) : ∀ {n i j : Nat}, Pow R n i j → ∃ m, m ≤ j - i ∧ m ≤ n ∧ Pow R m i j
  | 0, _, _, e => ⟨0, Nat.zero_le _, Nat.le_refl _, e⟩
  | n + 1, i, j, ⟨q, h1, h2⟩ => by
    obtain ⟨m, m1, m2, m3⟩ := Pow.short h h2
    have l1 := h i q h1
    have l2 := Pow.le h h2
    by_cases e : i = q
    · subst e; exact ⟨m, m1, by omega, m3⟩
    · exact ⟨m + 1, by omega, by omega, q, h1, m3⟩

/-- Lists of places. -/
def orB (a b : List Bool) : List Bool := List.zipWith (· || ·) a b
def shiftB (f : Nat → Bool) (s : List Nat) (x : List Bool) : List Bool := false :: List.zipWith (fun b c => b && f c) x s
def iterB (g : List Bool → List Bool) : Nat → List Bool → List Bool
  | 0, x => x
  | n + 1, x => iterB g n (g x)
def growB (g : List Bool → List Bool) (n : Nat) (x : List Bool) : List Bool := iterB (fun y => orB y (g y)) n x
def moreN (lo : Nat) (hi : Option Nat) (n : Nat) : Nat :=
  match hi with
  | none => n
  | some h => h - lo
def ends (s : List Nat) : Pat → List Bool → List Bool
  | ⟨false, none, _, _⟩, x => x
  | ⟨true, _, some (lo, hi), k⟩, x => ends s (k rfl false) (growB (ends s (k rfl true)) (moreN lo hi x.length) (iterB (ends s (k rfl true)) lo x))
  | ⟨true, _, none, k⟩, x => orB (ends s (k rfl true) x) (ends s (k rfl false) x)
  | ⟨false, some o, _, _⟩, x => shiftB (fitOne o) s x
def onB (x : List Bool) (j : Nat) : Prop := x.getD j false = true

theorem orB_len {a b : List Bool} (h : a.length = b.length) : (orB a b).length = a.length := by unfold orB; rw [List.length_zipWith]; omega
theorem orB_on {a b : List Bool} (h : a.length = b.length) (j : Nat) : onB (orB a b) j ↔ onB a j ∨ onB b j := by
  unfold onB orB
  by_cases hj : j < a.length
  · simp [List.getD, List.getElem?_zipWith, hj, show j < b.length by omega]
  · simp [List.getD, List.getElem?_zipWith, hj, show ¬ j < b.length by omega]
theorem shiftB_len {f : Nat → Bool} {s : List Nat} {x : List Bool} (h : x.length = s.length + 1) : (shiftB f s x).length = s.length + 1 := by
  unfold shiftB; rw [List.length_cons, List.length_zipWith]; omega
theorem shiftB_on {f : Nat → Bool} {s : List Nat} {x : List Bool} (h : x.length = s.length + 1) (j : Nat) : onB (shiftB f s x) j ↔ ∃ i, onB x i ∧ j = i + 1 ∧ ∃ c, s[i]? = some c ∧ f c = true := by
  unfold onB shiftB
  cases j with
  | zero => simp
  | succ j =>
    by_cases hj : j < s.length
    · have hx : j < x.length := by omega
      have e : (false :: List.zipWith (fun b c => b && f c) x s).getD (j + 1) false = (x[j] && f s[j]) := by
        simp [List.getD, List.getElem?_zipWith, hj, hx]
      rw [e, Bool.and_eq_true]
      constructor
      · rintro ⟨h1, h2⟩
        exact ⟨j, by simp [List.getD, hx, h1], rfl, s[j], by simp [hj], h2⟩
      · rintro ⟨i, h1, h2, c, h3, h4⟩
        obtain rfl : j = i := by omega
        obtain ⟨_, h5⟩ := List.getElem?_eq_some_iff.1 h3
        exact ⟨by simpa [List.getD, hx] using h1, by rw [h5]; exact h4⟩
    · have e : (false :: List.zipWith (fun b c => b && f c) x s).getD (j + 1) false = false := by
        simp [List.getD, List.getElem?_zipWith, hj]
      rw [e]
      constructor
      · intro h; cases h
      · rintro ⟨i, h1, h2, c, h3, h4⟩
        obtain rfl : j = i := by omega
        exact absurd (List.getElem?_eq_some_iff.1 h3).1 hj
/-- A step over lists that says what a step over places says. -/
structure Steps (n : Nat) (g : List Bool → List Bool) (R : Nat → Nat → Prop) : Prop where
  len : ∀ x, x.length = n → (g x).length = n
  on : ∀ x, x.length = n → ∀ j, onB (g x) j ↔ ∃ i, onB x i ∧ R i j
theorem Steps.iter {n : Nat} {g : List Bool → List Bool} {R : Nat → Nat → Prop} (h : Steps n g R) : ∀ m, Steps n (iterB g m) (Pow R m)
  | 0 => ⟨fun _ hx => hx, fun x _ j => ⟨fun hj => ⟨j, hj, rfl⟩, fun ⟨i, hi, e⟩ => by have e : i = j := e; rw [← e]; exact hi⟩⟩
  | m + 1 => by
    have ih := h.iter m
    refine ⟨fun x hx => ih.len _ (h.len x hx), fun x hx j => ?_⟩
    show onB (iterB g m (g x)) j ↔ _
    rw [ih.on _ (h.len x hx)]
    constructor
    · rintro ⟨q, hq, hp⟩
      obtain ⟨i, hi, hr⟩ := (h.on x hx q).1 hq
      exact ⟨i, hi, q, hr, hp⟩
    · rintro ⟨i, hi, q, hr, hp⟩
      exact ⟨q, (h.on x hx q).2 ⟨i, hi, hr⟩, hp⟩
def UpTo (R : Nat → Nat → Prop) (m : Nat) (i j : Nat) : Prop := ∃ n, n ≤ m ∧ Pow R n i j
theorem UpTo.one {R : Nat → Nat → Prop} {m : Nat} : ∀ {i j : Nat}, Pow (fun a b => a = b ∨ R a b) m i j ↔ UpTo R m i j := by
  induction m with
  | zero =>
    intro i j
    constructor
    · intro h; exact ⟨0, Nat.le_refl _, h⟩
    · rintro ⟨n, hn, h⟩
      obtain rfl : n = 0 := by omega
      exact h
  | succ m ih =>
    intro i j
    constructor
    · rintro ⟨q, h1, h2⟩
      obtain ⟨n, hn, hp⟩ := ih.1 h2
      rcases h1 with e | h1
      · subst e; exact ⟨n, by omega, hp⟩
      · exact ⟨n + 1, by omega, q, h1, hp⟩
    · rintro ⟨n, hn, hp⟩
      cases n with
      | zero => exact ⟨i, .inl rfl, ih.2 ⟨0, Nat.zero_le _, hp⟩⟩
      | succ n =>
        obtain ⟨q, h1, h2⟩ := hp
        exact ⟨q, .inr h1, ih.2 ⟨n, by omega, h2⟩⟩
theorem Steps.grow {n : Nat} {g : List Bool → List Bool} {R : Nat → Nat → Prop} (h : Steps n g R) (m : Nat) : Steps n (growB g m) (UpTo R m) := by
  have h1 : Steps n (fun y => orB y (g y)) (fun a b => a = b ∨ R a b) := by
    refine ⟨fun x hx => by rw [orB_len (by rw [hx, h.len x hx])]; exact hx, fun x hx j => ?_⟩
    rw [orB_on (by rw [hx, h.len x hx]), h.on x hx]
    constructor
    · rintro (hj | ⟨i, hi, hr⟩)
      · exact ⟨j, hj, .inl rfl⟩
      · exact ⟨i, hi, .inr hr⟩
    · rintro ⟨i, hi, e | hr⟩
      · subst e; exact .inl hi
      · exact .inr ⟨i, hi, hr⟩
  have h2 := h1.iter m
  refine ⟨h2.len, fun x hx j => ?_⟩
  show onB (iterB _ m x) j ↔ _
  rw [h2.on x hx]
  constructor
  · rintro ⟨i, hi, hp⟩; exact ⟨i, hi, UpTo.one.1 hp⟩
  · rintro ⟨i, hi, hp⟩; exact ⟨i, hi, UpTo.one.2 hp⟩
theorem Steps.comp {n : Nat} {f g : List Bool → List Bool} {R S : Nat → Nat → Prop} (hf : Steps n f R) (hg : Steps n g S) : Steps n (fun x => g (f x)) (fun i j => ∃ m, R i m ∧ S m j) := by
  refine ⟨fun x hx => hg.len _ (hf.len x hx), fun x hx j => ?_⟩
  rw [hg.on _ (hf.len x hx)]
  constructor
  · rintro ⟨m, hm, hs⟩
    obtain ⟨i, hi, hr⟩ := (hf.on x hx m).1 hm
    exact ⟨i, hi, m, hr, hs⟩
  · rintro ⟨i, hi, m, hr, hs⟩
    exact ⟨m, (hf.on x hx m).2 ⟨i, hi, hr⟩, hs⟩
theorem on_lt {x : List Bool} {j : Nat} (h : onB x j) : j < x.length := by
  rcases Nat.lt_or_ge j x.length with g | g
  · exact g
  · unfold onB at h
    rw [show x.getD j false = false by simp [List.getD, List.getElem?_eq_none g]] at h
    cases h
/-- Lists of places say what places say. -/
theorem ends_steps (s : List Nat) : ∀ p : Pat, Steps (s.length + 1) (ends s p) (M s p)
  | ⟨false, none, _, _⟩ => ⟨fun _ h => h, fun x _ j => ⟨fun hj => ⟨j, hj, rfl⟩, fun ⟨i, hi, e⟩ => by have e : i = j := e; rw [← e]; exact hi⟩⟩
  | ⟨false, some o, _, _⟩ => ⟨fun _ h => shiftB_len h, fun x h j => shiftB_on h j⟩
  | ⟨true, _, none, k⟩ => by
    have h1 := ends_steps s (k rfl true)
    have h2 := ends_steps s (k rfl false)
    refine ⟨fun x hx => by show (orB _ _).length = _; rw [orB_len (by rw [h1.len x hx, h2.len x hx])]; exact h1.len x hx, fun x hx j => ?_⟩
    show onB (orB _ _) j ↔ _
    rw [orB_on (by rw [h1.len x hx, h2.len x hx]), h1.on x hx, h2.on x hx]
    constructor
    · rintro (⟨i, hi, h⟩ | ⟨i, hi, h⟩)
      · exact ⟨i, hi, .inl h⟩
      · exact ⟨i, hi, .inr h⟩
    · rintro ⟨i, hi, h | h⟩
      · exact .inl ⟨i, hi, h⟩
      · exact .inr ⟨i, hi, h⟩
  | ⟨true, o, some (lo, hi), k⟩ => by
    have h1 := ends_steps s (k rfl true)
    have h2 := ends_steps s (k rfl false)
    have h3 := ((h1.iter lo).comp (h1.grow (moreN lo hi (s.length + 1)))).comp h2
    have he : ∀ x, x.length = s.length + 1 → ends s ⟨true, o, some (lo, hi), k⟩ x = ends s (k rfl false) (growB (ends s (k rfl true)) (moreN lo hi (s.length + 1)) (iterB (ends s (k rfl true)) lo x)) := fun x hx => by
      show ends s (k rfl false) (growB (ends s (k rfl true)) (moreN lo hi x.length) _) = _
      rw [hx]
    refine ⟨fun x hx => by rw [he x hx]; exact h3.len x hx, fun x hx j => ?_⟩
    rw [he x hx]
    refine (h3.on x hx j).trans ?_
    constructor
    · rintro ⟨i, hx1, m, ⟨q, hq, n, hn, hp⟩, hr⟩
      refine ⟨i, hx1, ?_⟩
      cases hi with
      | none => exact ⟨lo + n, m, by omega, (fun h e => by cases e), Pow.add hq hp, hr⟩
      | some h => exact ⟨lo + n, m, by omega, (fun h' e => by cases e; have : n ≤ h - lo := hn; omega), Pow.add hq hp, hr⟩
    · rintro ⟨i, hx1, n, m, h4, h5, hp, hr⟩
      obtain ⟨d, rfl⟩ : ∃ d, n = lo + d := ⟨n - lo, by omega⟩
      obtain ⟨q, hq, hd⟩ := Pow.cut hp
      refine ⟨i, hx1, m, ⟨q, hq, ?_⟩, hr⟩
      cases hi with
      | none =>
        obtain ⟨kk, k1, _, k3⟩ := Pow.short (fun _ _ => M_le s (k rfl true)) hd
        have hil := on_lt hx1
        have hqt : q ≤ s.length := Pow.top (fun _ _ => M_top s (k rfl true)) hq (by omega)
        have hmt : m ≤ s.length := Pow.top (fun _ _ => M_top s (k rfl true)) hd hqt
        exact ⟨kk, by show kk ≤ s.length + 1; omega, k3⟩
      | some h => exact ⟨d, by have := h5 h rfl; show d ≤ h - lo; omega, hd⟩

end Go.Proofs.YtncljgpcloanfaaDoor
