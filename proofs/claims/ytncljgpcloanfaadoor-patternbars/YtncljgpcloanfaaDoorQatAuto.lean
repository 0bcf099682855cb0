/- A pattern as states: what a piece of such a machine leads to, however the rest of it looks; how a text leads through it; plain facts of no program. No condition. The program's way of reading a pattern, held against that of 'PatP'; what a set of spans fits; plain facts of no program. No condition. The program's way of reading how often a piece fits, and rows; plain facts of no program. No condition. How many states a pattern takes; plain facts of no program. No condition. Lists of states that are put in once each; plain facts of no program. No condition. -/
import Derived.Test.YtncljgpcloanfaaDoorQatM
namespace Go.Proofs.YtncljgpcloanfaaDoor

/-- A state: does it eat a sign, which ones, where it leads to. -/
structure St where
  eats : Bool
  has : Nat → Bool
  next : List Nat

/-- From a state, at a place of the text, so many steps lead to the end. -/
def AccN (T : List St) (s : List Nat) : Nat → Nat → Nat → Prop
  | 0, q, i => q = 0 ∧ i = s.length
  | n + 1, q, i => ∃ (st : St) (q' : Nat), T[q]? = some st ∧ q' ∈ st.next ∧ ((st.eats = false ∧ AccN T s n q' i) ∨ (st.eats = true ∧ ∃ c, s[i]? = some c ∧ st.has c = true ∧ AccN T s n q' (i + 1)))
theorem AccN.done {T : List St} {s : List Nat} : AccN T s 0 0 s.length := ⟨rfl, rfl⟩
theorem AccN.eps {T : List St} {s : List Nat} {n q i q' : Nat} {st : St} (h1 : T[q]? = some st) (h2 : st.eats = false) (h3 : q' ∈ st.next) (h4 : AccN T s n q' i) : AccN T s (n + 1) q i := ⟨st, q', h1, h3, .inl ⟨h2, h4⟩⟩
theorem AccN.eat {T : List St} {s : List Nat} {n q i q' c : Nat} {st : St} (h1 : T[q]? = some st) (h2 : st.eats = true) (h3 : s[i]? = some c) (h5 : st.has c = true) (h6 : q' ∈ st.next) (h4 : AccN T s n q' (i + 1)) : AccN T s (n + 1) q i := ⟨st, q', h1, h6, .inr ⟨h2, c, h3, h5, h4⟩⟩
def Acc (T : List St) (s : List Nat) (q i : Nat) : Prop := ∃ n, AccN T s n q i
/-- These states stand in a machine, from a place on. -/
def At (T : List St) (n0 : Nat) (X : List St) : Prop := ∀ (k : Nat) (st : St), X[k]? = some st → T[n0 + k]? = some st
theorem At.left {T X Y : List St} {n0 : Nat} (h : At T n0 (X ++ Y)) : At T n0 X := fun k st e => h k st (by
  rw [List.getElem?_append_left (List.getElem?_eq_some_iff.1 e).1]; exact e)
theorem At.right {T X Y : List St} {n0 : Nat} (h : At T n0 (X ++ Y)) : At T (n0 + X.length) Y := fun k st e => by
  rw [Nat.add_assoc]
  exact h _ st (by rw [List.getElem?_append_right (Nat.le_add_right _ _), Nat.add_sub_cancel_left]; exact e)
theorem At.head {T Y : List St} {st : St} {n0 : Nat} (h : At T n0 (st :: Y)) : T[n0]? = some st := h 0 st rfl
theorem At.tail {T Y : List St} {st : St} {n0 : Nat} (h : At T n0 (st :: Y)) : At T (n0 + 1) Y := At.right (X := [st]) (Y := Y) h

/-- What stands there leads from a state to another just over what R says, however the rest looks. -/
structure Frag (s : List Nat) (X : List St) (n0 b nx : Nat) (R : Nat → Nat → Prop) : Prop where
  there : ∀ T, At T n0 X → ∀ n i, AccN T s n b i → ∃ j m, m ≤ n ∧ R i j ∧ AccN T s m nx j
  back : ∀ T, At T n0 X → ∀ i j, R i j → Acc T s nx j → Acc T s b i
theorem Frag.mono {s : List Nat} {X Y : List St} {n0 n1 b nx : Nat} {R : Nat → Nat → Prop} (h : Frag s X n0 b nx R) (hs : ∀ T, At T n1 Y → At T n0 X) : Frag s Y n1 b nx R :=
  ⟨fun T hT => h.there T (hs T hT), fun T hT => h.back T (hs T hT)⟩
theorem Frag.as {s : List Nat} {X : List St} {n0 b nx : Nat} {R Q : Nat → Nat → Prop} (h : Frag s X n0 b nx R) (e : ∀ i j, R i j ↔ Q i j) : Frag s X n0 b nx Q := by
  obtain rfl : R = Q := funext fun i => funext fun j => propext (e i j)
  exact h
theorem frag_none (s : List Nat) (n0 nx : Nat) : Frag s [] n0 nx nx (fun i j => i = j) :=
  ⟨fun T _ n i h => ⟨i, n, Nat.le_refl _, rfl, h⟩, fun T _ i j e h => by subst e; exact h⟩
/-- One behind the other: the later one was added first. -/
theorem Frag.comp {s : List Nat} {X Y : List St} {n0 b1 b2 nx : Nat} {R1 R2 : Nat → Nat → Prop} (h1 : Frag s X n0 b1 nx R1) (h2 : Frag s Y (n0 + X.length) b2 b1 R2) : Frag s (X ++ Y) n0 b2 nx (fun i j => ∃ m, R2 i m ∧ R1 m j) := by
  refine ⟨fun T hT n i h => ?_, fun T hT i j ⟨m, r2, r1⟩ h => h2.back T hT.right i m r2 (h1.back T hT.left m j r1 h)⟩
  obtain ⟨k, n2, l2, r2, a2⟩ := h2.there T hT.right n i h
  obtain ⟨j, n1, l1, r1, a1⟩ := h1.there T hT.left n2 k a2
  exact ⟨j, n1, by omega, ⟨k, r2, r1⟩, a1⟩
theorem eps_step {T : List St} {s : List Nat} {n q i : Nat} {st : St} (hq : 0 < q) (e : T[q]? = some st) (he : st.eats = false) (h : AccN T s n q i) : ∃ n' q', n = n' + 1 ∧ q' ∈ st.next ∧ AccN T s n' q' i := by
  cases n with
  | zero => have := h.1; omega
  | succ n =>
    obtain ⟨st', q', h1, h3, ⟨h2, h4⟩ | ⟨h2, _⟩⟩ := h
    · rw [e] at h1; cases h1
      exact ⟨_, _, rfl, h3, h4⟩
    · rw [e] at h1; cases h1
      rw [he] at h2; cases h2
theorem eat_step {T : List St} {s : List Nat} {n q i : Nat} {st : St} (hq : 0 < q) (e : T[q]? = some st) (he : st.eats = true) (h : AccN T s n q i) : ∃ n' q' c, n = n' + 1 ∧ q' ∈ st.next ∧ s[i]? = some c ∧ st.has c = true ∧ AccN T s n' q' (i + 1) := by
  cases n with
  | zero => have := h.1; omega
  | succ n =>
    obtain ⟨st', q', h1, h6, ⟨h2, _⟩ | ⟨h2, c, h3, h5, h4⟩⟩ := h
    · rw [e] at h1; cases h1
      rw [he] at h2; cases h2
    · rw [e] at h1; cases h1
      exact ⟨_, _, _, rfl, h6, h3, h5, h4⟩
/-- A state that eats one sign. -/
theorem frag_eat (s : List Nat) (n0 nx : Nat) (f : Nat → Bool) (h0 : 0 < n0) : Frag s [⟨true, f, [nx]⟩] n0 n0 nx (fun i j => j = i + 1 ∧ ∃ c, s[i]? = some c ∧ f c = true) := by
  refine ⟨fun T hT n i h => ?_, fun T hT i j r h => ?_⟩
  · obtain ⟨n', q', c, e, m, hc, hf, a⟩ := eat_step h0 hT.head rfl h
    obtain rfl : q' = nx := by simpa using m
    exact ⟨i + 1, n', by omega, ⟨rfl, c, hc, hf⟩, a⟩
  · obtain ⟨rfl, c, hc, hf⟩ := r
    obtain ⟨n, a⟩ := h
    exact ⟨n + 1, .eat hT.head rfl hc hf (by simp) a⟩
/-- Rows, all to the same place, and a state that leads to all of them. -/
theorem frag_rows {s : List Nat} {X : List St} {n0 nx : Nat} {f : Nat → Bool} {bs : List Nat} {ps : List Pat} (h0 : 0 < n0) (hl : bs.length = ps.length) (h : ∀ (k : Nat) (b : Nat) (p : Pat), bs[k]? = some b → ps[k]? = some p → Frag s X n0 b nx (M s p)) :
    Frag s (X ++ [⟨false, f, bs⟩]) n0 (n0 + X.length) nx (fun i j => ∃ p, p ∈ ps ∧ M s p i j) := by
  refine ⟨fun T hT n i hn => ?_, fun T hT i j r hj => ?_⟩
  · obtain ⟨n', q', e, m, a⟩ := eps_step (by omega) hT.right.head rfl hn
    obtain ⟨k, hk⟩ := List.mem_iff_getElem?.1 m
    have hk2 : k < ps.length := by have := (List.getElem?_eq_some_iff.1 hk).1; simp at this; omega
    obtain ⟨j, m, l, r, a2⟩ := (h k q' ps[k] hk (List.getElem?_eq_getElem hk2)).there T hT.left n' i a
    exact ⟨j, m, by omega, ⟨_, List.getElem_mem hk2, r⟩, a2⟩
  · obtain ⟨p, hp, r⟩ := r
    obtain ⟨k, hk⟩ := List.mem_iff_getElem?.1 hp
    have hk2 : k < bs.length := by have := (List.getElem?_eq_some_iff.1 hk).1; omega
    obtain ⟨n, a⟩ := (h k bs[k] p (List.getElem?_eq_getElem hk2) hk).back T hT.left i j r hj
    exact ⟨n + 1, .eps hT.right.head rfl (List.getElem_mem hk2) a⟩
/-- Once more, or not. -/
theorem frag_more {s : List Nat} {X Y : List St} {n0 b b2 nx : Nat} {f : Nat → Bool} {R Q : Nat → Nat → Prop} (h0 : 0 < n0) (h1 : Frag s X n0 b nx Q) (h2 : Frag s Y (n0 + X.length) b2 b R) :
    Frag s (X ++ Y ++ [⟨false, f, [b2, nx]⟩]) n0 (n0 + (X ++ Y).length) nx (fun i j => i = j ∨ ∃ m, R i m ∧ Q m j) := by
  have h3 := h1.comp h2
  refine ⟨fun T hT n i hn => ?_, fun T hT i j r hj => ?_⟩
  · obtain ⟨n', q', e, m, a⟩ := eps_step (by omega) hT.right.head rfl hn
    rcases (show q' = b2 ∨ q' = nx by simpa using m) with rfl | rfl
    · obtain ⟨j, m, l, r, a2⟩ := h3.there T hT.left n' i a
      exact ⟨j, m, by omega, .inr r, a2⟩
    · exact ⟨i, n', by omega, .inl rfl, a⟩
  · rcases r with rfl | r
    · obtain ⟨n, a⟩ := hj
      exact ⟨n + 1, .eps hT.right.head rfl (by simp) a⟩
    · obtain ⟨n, a⟩ := h3.back T hT.left i j r hj
      exact ⟨n + 1, .eps hT.right.head rfl (by simp) a⟩
def Star (R : Nat → Nat → Prop) (i j : Nat) : Prop := ∃ n, Pow R n i j
/-- Any number of times. -/
theorem frag_loop {s : List Nat} {Y : List St} {n0 b nx : Nat} {f : Nat → Bool} {R : Nat → Nat → Prop} (h0 : 0 < n0) (h : Frag s Y (n0 + 1) b n0 R) :
    Frag s (⟨false, f, [b, nx]⟩ :: Y) n0 n0 nx (Star R) ∧ Frag s (⟨false, f, [b, nx]⟩ :: Y) n0 b nx (fun i j => ∃ m, R i m ∧ Star R m j) := by
  have A : Frag s (⟨false, f, [b, nx]⟩ :: Y) n0 n0 nx (Star R) := by
    refine ⟨fun T hT n => ?_, fun T hT i j r hj => ?_⟩
    · induction n using Nat.strongRecOn with
      | ind n ih =>
        intro i hn
        obtain ⟨n', q', e, m, a⟩ := eps_step h0 hT.head rfl hn
        rcases (show q' = b ∨ q' = nx by simpa using m) with rfl | rfl
        · obtain ⟨k, n2, l2, r2, a2⟩ := h.there T hT.tail n' i a
          obtain ⟨j, n3, l3, ⟨c, r3⟩, a3⟩ := ih n2 (by omega) k a2
          exact ⟨j, n3, by omega, ⟨c + 1, k, r2, r3⟩, a3⟩
        · exact ⟨i, n', by omega, ⟨0, rfl⟩, a⟩
    · obtain ⟨c, r⟩ := r
      induction c generalizing i with
      | zero =>
        obtain rfl : i = j := r
        obtain ⟨n, a⟩ := hj
        exact ⟨n + 1, .eps hT.head rfl (by simp) a⟩
      | succ c ih =>
        obtain ⟨k, r1, r2⟩ := r
        obtain ⟨n, a⟩ := h.back T hT.tail i k r1 (ih k r2)
        exact ⟨n + 1, .eps hT.head rfl (by simp) a⟩
  refine ⟨A, fun T hT n i hn => ?_, fun T hT i j ⟨k, r1, r2⟩ hj => h.back T hT.tail i k r1 (A.back T hT k j r2 hj)⟩
  obtain ⟨k, n2, l2, r2, a2⟩ := h.there T hT.tail n i hn
  obtain ⟨j, n3, l3, r3, a3⟩ := A.there T hT n2 k a2
  exact ⟨j, n3, by omega, ⟨k, r2, r3⟩, a3⟩
theorem pow_one_front {R : Nat → Nat → Prop} {n i j : Nat} : Pow R (n + 1) i j ↔ ∃ m, Pow R n i m ∧ R m j := by
  constructor
  · intro h
    obtain ⟨k, h1, h2⟩ := Pow.cut (m := 1) h
    obtain ⟨q, h3, h4⟩ := h2
    obtain rfl : q = j := h4
    exact ⟨k, h1, h3⟩
  · rintro ⟨m, h1, h2⟩
    exact Pow.add h1 ⟨j, h2, rfl⟩
theorem upto_more {R : Nat → Nat → Prop} {n i j : Nat} : UpTo R (n + 1) i j ↔ (i = j ∨ ∃ m, R i m ∧ UpTo R n m j) := by
  constructor
  · rintro ⟨k, hk, h⟩
    cases k with
    | zero => exact .inl h
    | succ k =>
      obtain ⟨m, h1, h2⟩ := h
      exact .inr ⟨m, h1, k, by omega, h2⟩
  · rintro (rfl | ⟨m, h1, k, hk, h2⟩)
    · exact ⟨0, by omega, rfl⟩
    · exact ⟨k + 1, by omega, m, h1, h2⟩
theorem upto_zero {R : Nat → Nat → Prop} {i j : Nat} : UpTo R 0 i j ↔ i = j := by
  constructor
  · rintro ⟨k, hk, h⟩
    obtain rfl : k = 0 := by omega
    exact h
  · rintro rfl; exact ⟨0, by omega, rfl⟩

/-- From so many to so many times. -/
def Often (R : Nat → Nat → Prop) (lo : Nat) (hi : Option Nat) (i j : Nat) : Prop := ∃ n, lo ≤ n ∧ (∀ h, hi = some h → n ≤ lo + (h - lo)) ∧ Pow R n i j
theorem often_some {R : Nat → Nat → Prop} {lo h i j : Nat} : (∃ m, Pow R lo i m ∧ UpTo R (h - lo) m j) ↔ Often R lo (some h) i j := by
  constructor
  · rintro ⟨m, h1, n, hn, h2⟩
    exact ⟨lo + n, by omega, fun _ e => by cases e; omega, Pow.add h1 h2⟩
  · rintro ⟨n, h1, h2, h3⟩
    have h2 := h2 h rfl
    obtain ⟨d, rfl⟩ : ∃ d, n = lo + d := ⟨n - lo, by omega⟩
    obtain ⟨m, h4, h5⟩ := Pow.cut h3
    exact ⟨m, h4, d, by omega, h5⟩
theorem often_star {R : Nat → Nat → Prop} {i j : Nat} : Star R i j ↔ Often R 0 none i j :=
  ⟨fun ⟨n, h⟩ => ⟨n, Nat.zero_le _, (fun _ e => by cases e), h⟩, fun ⟨n, _, _, h⟩ => ⟨n, h⟩⟩
theorem often_plus {R : Nat → Nat → Prop} {lo i j : Nat} : (∃ k, Pow R lo i k ∧ ∃ m, R k m ∧ Star R m j) ↔ Often R (lo + 1) none i j := by
  constructor
  · rintro ⟨k, h1, m, h2, n, h3⟩
    refine ⟨lo + (n + 1), by omega, (fun _ e => by cases e), Pow.add h1 ⟨m, h2, h3⟩⟩
  · rintro ⟨n, h1, _, h3⟩
    obtain ⟨d, rfl⟩ : ∃ d, n = lo + (d + 1) := ⟨n - lo - 1, by omega⟩
    obtain ⟨k, h4, m, h5, h6⟩ := Pow.cut h3
    exact ⟨k, h4, m, h5, d, h6⟩
theorem M_piece (s : List Nat) (a : Pat) (lo : Nat) (hi : Option Nat) (rest : Pat) (i j : Nat) : M s (.piece a lo hi rest) i j ↔ ∃ m, Often (M s a) lo hi i m ∧ M s rest m j := by
  constructor
  · rintro ⟨n, m, h1, h2, h3, h4⟩; exact ⟨m, ⟨n, h1, h2, h3⟩, h4⟩
  · rintro ⟨m, ⟨n, h1, h2, h3⟩, h4⟩; exact ⟨n, m, h1, h2, h3, h4⟩
/-- A pattern's rows; a row's pieces. -/
def rowsOf : Pat → List Pat
  | ⟨true, _, none, k⟩ => k rfl true :: rowsOf (k rfl false)
  | p => [p]
def piecesOf : Pat → List (Pat × Nat × Option Nat)
  | ⟨true, _, some (lo, hi), k⟩ => (k rfl true, lo, hi) :: piecesOf (k rfl false)
  | _ => []
theorem M_rows (s : List Nat) : ∀ (p : Pat) (i j : Nat), (∃ r, r ∈ rowsOf p ∧ M s r i j) ↔ M s p i j
  | ⟨true, _, none, k⟩, i, j => by
    constructor
    · rintro ⟨q, hq, h⟩
      rcases List.mem_cons.1 hq with rfl | hq
      · exact .inl h
      · exact .inr ((M_rows s (k rfl false) i j).1 ⟨q, hq, h⟩)
    · rintro (h | h)
      · exact ⟨k rfl true, by simp [rowsOf], h⟩
      · obtain ⟨q, hq, h⟩ := (M_rows s (k rfl false) i j).2 h
        exact ⟨q, by simp [rowsOf, hq], h⟩
  | ⟨false, _, _, _⟩, i, j => by simp [rowsOf]
  | ⟨true, _, some _, _⟩, i, j => by simp [rowsOf]

/-- Where a text may have led. -/
def Path (T : List St) (s : List Nat) (b q i : Nat) : Prop :=
  ∀ C : Nat → Nat → Prop, C b 0 → (∀ (q i q' : Nat) (st : St), C q i → T[q]? = some st → st.eats = false → q' ∈ st.next → C q' i) → (∀ (q i q' c : Nat) (st : St), C q i → T[q]? = some st → st.eats = true → s[i]? = some c → st.has c = true → q' ∈ st.next → C q' (i + 1)) → C q i
theorem Path.start {T : List St} {s : List Nat} {b : Nat} : Path T s b b 0 := fun _ h _ _ => h
theorem Path.eps {T : List St} {s : List Nat} {b q i q' : Nat} {st : St} (h : Path T s b q i) (h1 : T[q]? = some st) (h2 : st.eats = false) (h3 : q' ∈ st.next) : Path T s b q' i := fun C c0 c1 c2 => c1 q i q' st (h C c0 c1 c2) h1 h2 h3
theorem Path.eat {T : List St} {s : List Nat} {b q i q' c : Nat} {st : St} (h : Path T s b q i) (h1 : T[q]? = some st) (h2 : st.eats = true) (h3 : s[i]? = some c) (h5 : st.has c = true) (h6 : q' ∈ st.next) : Path T s b q' (i + 1) := fun C c0 c1 c2 => c2 q i q' c st (h C c0 c1 c2) h1 h2 h3 h5 h6
theorem Path.all {T : List St} {s : List Nat} {b : Nat} {C : Nat → Nat → Prop} (c0 : C b 0) (c1 : ∀ (q i q' : Nat) (st : St), Path T s b q i → C q i → T[q]? = some st → st.eats = false → q' ∈ st.next → C q' i) (c2 : ∀ (q i q' c : Nat) (st : St), Path T s b q i → C q i → T[q]? = some st → st.eats = true → s[i]? = some c → st.has c = true → q' ∈ st.next → C q' (i + 1)) {q i : Nat} (h : Path T s b q i) : C q i :=
  (h (fun q i => Path T s b q i ∧ C q i) ⟨.start, c0⟩ (fun q i q' st h h1 h2 h3 => ⟨h.1.eps h1 h2 h3, c1 q i q' st h.1 h.2 h1 h2 h3⟩) (fun q i q' c st h h1 h2 h3 h5 h6 => ⟨h.1.eat h1 h2 h3 h5 h6, c2 q i q' c st h.1 h.2 h1 h2 h3 h5 h6⟩)).2
theorem path_acc (T : List St) (s : List Nat) (b : Nat) : Path T s b 0 s.length ↔ Acc T s b 0 := by
  constructor
  · intro h
    have A : ∀ {q i}, Path T s b q i → Acc T s q i → Acc T s b 0 := by
      intro q i h
      exact Path.all (C := fun q i => Acc T s q i → Acc T s b 0) id (fun q i q' st _ ih h1 h2 h3 ⟨n, a⟩ => ih ⟨n + 1, .eps h1 h2 h3 a⟩) (fun q i q' c st _ ih h1 h2 h3 h5 h6 ⟨n, a⟩ => ih ⟨n + 1, .eat h1 h2 h3 h5 h6 a⟩) h
    exact A h ⟨0, .done⟩
  · rintro ⟨n, a⟩
    have A : ∀ {n q i}, AccN T s n q i → Path T s b q i → Path T s b 0 s.length := by
      intro n
      induction n with
      | zero =>
        intro q i h p
        obtain ⟨rfl, rfl⟩ := h
        exact p
      | succ n ih =>
        intro q i h p
        obtain ⟨st, q', h1, h3, ⟨h2, h4⟩ | ⟨h2, c, h5, h6, h4⟩⟩ := h
        · exact ih h4 (p.eps h1 h2 h3)
        · exact ih h4 (p.eat h1 h2 h5 h6 h3)
    exact A a .start
/-- A whole machine: its first state is the end. -/
theorem whole_acc {s : List Nat} {X : List St} {b : Nat} {p : Pat} {e : St} (h : Frag s X 1 b 0 (M s p)) (hn : e.next = []) : Path (e :: X) s b 0 s.length ↔ M s p 0 s.length := by
  have hT : At (e :: X) 1 X := At.right (X := [e]) (Y := X) (n0 := 0) (fun k st h => by rw [Nat.zero_add]; exact h)
  have Z : ∀ {n j}, AccN (e :: X) s n 0 j → j = s.length := by
    intro n j h
    cases n with
    | zero => exact h.2
    | succ n =>
      obtain ⟨st, q', h1, h3, _⟩ := h
      cases h1; rw [hn] at h3; cases h3
  rw [path_acc]
  constructor
  · rintro ⟨n, a⟩
    obtain ⟨j, m, _, r, a2⟩ := h.there _ hT n 0 a
    rw [← Z a2]; exact r
  · intro r
    exact h.back _ hT 0 s.length r ⟨0, .done⟩

/-- What some states lead to over nothing. -/
def Eps (T : List St) (l : List Nat) (q : Nat) : Prop :=
  ∀ C : Nat → Prop, (∀ q, q ∈ l → C q) → (∀ (q q' : Nat) (st : St), C q → T[q]? = some st → st.eats = false → q' ∈ st.next → C q') → C q
theorem Eps.base {T : List St} {l : List Nat} {q : Nat} (h : q ∈ l) : Eps T l q := fun _ c0 _ => c0 q h
theorem Eps.step {T : List St} {l : List Nat} {q q' : Nat} {st : St} (h : Eps T l q) (h1 : T[q]? = some st) (h2 : st.eats = false) (h3 : q' ∈ st.next) : Eps T l q' := fun C c0 c1 => c1 q q' st (h C c0 c1) h1 h2 h3
theorem path_zero (T : List St) (s : List Nat) (b q : Nat) : Path T s b q 0 ↔ Eps T [b] q := by
  constructor
  · intro h
    have A : ∀ {q i}, Path T s b q i → i = 0 → Eps T [b] q := by
      intro q i h
      exact Path.all (C := fun q i => i = 0 → Eps T [b] q) (fun _ => .base (by simp)) (fun q i q' st _ ih h1 h2 h3 e => .step (ih e) h1 h2 h3) (fun q i q' c st _ _ _ _ _ _ _ e => by omega) h
    exact A h rfl
  · intro h
    exact h (fun q => Path T s b q 0) (fun q h => by obtain rfl : q = b := by simpa using h
                                                     exact .start) (fun q q' st ih h1 h2 h3 => .eps ih h1 h2 h3)
/-- Where a sign leads to from some states. -/
def overL (T : List St) (c : Nat) (l : List Nat) : List Nat := l.flatMap fun q => match T[q]? with
  | some st => if st.eats && st.has c then st.next else []
  | none => []
theorem mem_overL {T : List St} {c : Nat} {l : List Nat} {q' : Nat} : q' ∈ overL T c l ↔ ∃ q st, q ∈ l ∧ T[q]? = some st ∧ st.eats = true ∧ st.has c = true ∧ q' ∈ st.next := by
  unfold overL
  rw [List.mem_flatMap]
  constructor
  · rintro ⟨q, hq, h⟩
    cases e : T[q]? with
    | none => rw [e] at h; cases h
    | some st =>
      rw [e] at h
      dsimp only at h
      split at h
      · rename_i g
        rw [Bool.and_eq_true] at g
        exact ⟨q, st, hq, e, g.1, g.2, h⟩
      · cases h
  · rintro ⟨q, st, hq, e, h1, h2, h3⟩
    refine ⟨q, hq, ?_⟩
    rw [e]
    simp [h1, h2, h3]
theorem path_succ {T : List St} {s : List Nat} {b : Nat} {i c : Nat} (hc : s[i]? = some c) {l : List Nat} (hl : ∀ q, q ∈ l ↔ Path T s b q i) (q : Nat) : Path T s b q (i + 1) ↔ Eps T (overL T c l) q := by
  constructor
  · intro h
    have A : ∀ {q k}, Path T s b q k → k = i + 1 → Eps T (overL T c l) q := by
      intro q k h
      refine Path.all (C := fun q k => k = i + 1 → Eps T (overL T c l) q) (fun e => by omega) (fun q k q' st _ ih h1 h2 h3 e => .step (ih e) h1 h2 h3) (fun q0 k0 q1 c0 st hp ih h1 h2 h3 h5 h6 e => ?_) h
      obtain rfl : k0 = i := by omega
      rw [hc] at h3; cases h3
      exact .base (mem_overL.2 ⟨q0, st, (hl q0).2 hp, h1, h2, h5, h6⟩)
    exact A h rfl
  · intro h
    refine h (fun q => Path T s b q (i + 1)) (fun q h => ?_) (fun q q' st ih h1 h2 h3 => .eps ih h1 h2 h3)
    obtain ⟨q0, st, h0, h1, h2, h3, h4⟩ := mem_overL.1 h
    exact .eat ((hl q0).1 h0) h1 h2 hc h3 h4
/-- A list that has the first ones and all that its own lead to, and nothing else. -/
theorem eps_closed {T : List St} {l L : List Nat} (h1 : ∀ q, q ∈ l → q ∈ L) (h2 : ∀ q, q ∈ L → Eps T l q) (h3 : ∀ q st, q ∈ L → T[q]? = some st → st.eats = false → ∀ q', q' ∈ st.next → q' ∈ L) (q : Nat) : q ∈ L ↔ Eps T l q := by
  constructor
  · exact h2 q
  · intro h
    exact h (fun q => q ∈ L) h1 (fun q q' st ih e1 e2 e3 => h3 _ _ ih e1 e2 _ e3)

/-- How many states an atom's inner takes at most. -/
def cost : Pat → Nat
  | ⟨false, _, _, _⟩ => 0
  | ⟨true, _, none, k⟩ => cost (k rfl true) + cost (k rfl false)
  | ⟨true, _, some (lo, hi), k⟩ => (match hi with
      | none => 1 + (lo - 1 + 1) * (cost (k rfl true) + 1)
      | some h => lo * (cost (k rfl true) + 1) + (h - lo) * (cost (k rfl true) + 2)) + cost (k rfl false)

end Go.Proofs.YtncljgpcloanfaaDoor
namespace Go.Proofs.YtncljgpcloanfaaDoor

def clsTk : List Nat := [92, 91, 93, 94, 45]
def clsEs : List Nat := [92, 91, 93, 94, 45, 47, 46]
def takenN : List Nat := [92, 94, 36, 46, 42, 43, 63, 40, 41, 91, 93, 123, 125, 124]
def escsN : List Nat := [92, 94, 36, 46, 42, 43, 63, 40, 41, 91, 93, 123, 125, 124, 47, 45]
/-- A sign of a class, told by itself or by \ ahead of it. -/
def memberQ : List Nat → Option (Nat × List Nat)
  | [] => none
  | c :: t => if c = 92 then (match t with
      | [] => none
      | d :: v => if inN clsEs d then some (d, v) else none) else if inN clsTk c then none else some (c, t)
def spanQ (a : Nat) : Option (Nat × List Nat) → Option (Item × List Nat)
  | none => none
  | some (b, r) => if b < a then none else some (.span a b, r)
def itemQ2 (l : List Nat) : Option (Item × List Nat) :=
  match memberQ l with
  | none => none
  | some (a, 45 :: v) => spanQ a (memberQ v)
  | some (a, r) => some (.span a a, r)
def itemQ : List Nat → Option (Item × List Nat)
  | 92 :: d :: v => if inN dwsN d then some (.kind d, v) else itemQ2 (92 :: d :: v)
  | l => itemQ2 l
theorem dws_esc {d : Nat} (h : inN dwsN d = true) : inN escClsN d = true := by
  simp [inN, dwsN] at h
  rcases h with rfl | rfl | rfl <;> rfl
theorem esc_dws {d : Nat} : inN escClsN d = (inN clsEs d || inN dwsN d) := by
  simp only [inN, escClsN, clsEs, dwsN, List.contains_cons, List.contains_nil, Bool.or_false, Bool.or_assoc]
theorem es_dws {d : Nat} (h : inN clsEs d = true) : inN dwsN d = false := by
  simp [inN, clsEs] at h
  rcases h with rfl | rfl | rfl | rfl | rfl | rfl | rfl <;> rfl
theorem tk_cls {c : Nat} (h : ¬ c = 92) : inN clsTk c = inN clsN c := by
  have : (c == 92) = false := by simpa using h
  simp only [inN, clsTk, clsN, List.contains_cons, List.contains_nil, Bool.or_false, this, Bool.false_or]
/-- What 'behindL' answers, by the program's way. -/
def NoKind (l : List Nat) : Prop := ∀ d v, l = 92 :: d :: v → inN dwsN d = false
theorem kind_or (l : List Nat) : (∃ d v, l = 92 :: d :: v ∧ inN dwsN d = true) ∨ NoKind l := by
  by_cases g : ∃ d v, l = 92 :: d :: v ∧ inN dwsN d = true
  · exact .inl g
  · refine .inr fun d v e => ?_
    cases hd : inN dwsN d with
    | false => rfl
    | true => exact absurd ⟨d, v, e, hd⟩ g
theorem behind_kind {d : Nat} (v : List Nat) (h : inN dwsN d = true) : behindL (92 :: d :: v) = some (true, d, v) := by
  simp only [behindL]
  rw [if_neg (by decide), if_pos trivial, esc_dws, h, Bool.or_true, if_pos rfl]
theorem behind_other {l : List Nat} (h : NoKind l) : behindL l = (memberQ l).map fun x => (false, x.1, x.2) := by
  cases l with
  | nil => rfl
  | cons c t =>
    by_cases e : c = 92
    · subst e
      cases t with
      | nil => rfl
      | cons d v =>
        have hd := h d v rfl
        simp only [behindL, memberQ]
        rw [if_neg (by decide), if_pos trivial, if_pos trivial, esc_dws, hd, Bool.or_false]
        cases inN clsEs d <;> rfl
    · have hb : behindL (c :: t) = if inN clsN c then none else some (false, c, t) := by
        simp only [behindL]; rw [if_neg e]
      have hm : memberQ (c :: t) = if inN clsN c then none else some (c, t) := by
        simp only [memberQ]; rw [if_neg e, tk_cls e]
      rw [hb, hm]
      cases inN clsN c <;> rfl
theorem member_kind {d : Nat} (v : List Nat) (h : inN dwsN d = true) : memberQ (92 :: d :: v) = none := by
  simp only [memberQ]
  rw [if_pos trivial]
  have : inN clsEs d = false := by
    cases g : inN clsEs d with
    | false => rfl
    | true => have := es_dws g; rw [h] at this; cases this
  rw [this]; rfl
theorem item_kind {d : Nat} {v : List Nat} (h : inN dwsN d = true) : itemQ (92 :: d :: v) = some (.kind d, v) ∧ itemL (92 :: d :: v) = if v.head? = some 45 then none else some (.kind d, v) := by
  constructor
  · simp only [itemQ]; rw [if_pos h]
  · have hb := behind_kind v h
    unfold itemL
    rw [hb]
    cases v with
    | nil => rfl
    | cons c t =>
      by_cases e : c = 45
      · subst e
        simp only [List.head?_cons]
        cases behindL t with
        | none => rfl
        | some y => rfl
      · have : ¬ (c :: t).head? = some 45 := by simpa using e
        rw [if_neg this]
        split
        · rename_i heq; cases heq
        · rename_i heq; cases heq; exact absurd rfl e
        · rename_i heq; cases heq; rfl
theorem spanQ_is (a : Nat) (v : List Nat) : (match behindL v with
      | none => none
      | some (k2, b, r) => if false || (k2 || decide (b < a)) then none else some (Item.span a b, r)) = spanQ a (memberQ v) := by
  rcases kind_or v with ⟨d, t, rfl, h⟩ | h
  · rw [behind_kind t h, member_kind t h]; rfl
  · rw [behind_other h]
    cases memberQ v with
    | none => rfl
    | some y => simp [spanQ]
theorem item_other {l : List Nat} (h : NoKind l) : itemQ l = itemL l := by
  have hq : itemQ l = itemQ2 l := by
    unfold itemQ
    split
    · rename_i d v
      have := h d v rfl
      rw [this]; rfl
    · rfl
  have hb := behind_other h
  rw [hq]
  unfold itemQ2 itemL
  rw [hb]
  cases memberQ l with
  | none => rfl
  | some y =>
    obtain ⟨a, r⟩ := y
    cases r with
    | nil => rfl
    | cons c v =>
      by_cases e : c = 45
      · subst e
        exact (spanQ_is a v).symm
      · simp only [Option.map_some]
        split
        · rename_i heq; cases heq
        · rename_i heq; cases heq; exact absurd rfl e
        · rename_i heq; cases heq
          split
          · rename_i heq; cases heq
          · rename_i heq; cases heq; exact absurd rfl e
          · rename_i heq; cases heq; rfl
/-- Items up to the ], one at least. -/
def itemsP (l : List Nat) : Option (List Item × List Nat) :=
  match itemL l with
  | none => none
  | some (i, r) => match itemsF (r.length + 1) r with
      | none => none
      | some (is, r2) => some (i :: is, r2)
def consI (i : Item) : Option (List Item × List Nat) → Option (List Item × List Nat)
  | none => none
  | some (is, r) => some (i :: is, r)
theorem itemL_nil : itemL [] = none := rfl
theorem itemsP_nil : itemsP [] = none := rfl
theorem items_at (r : List Nat) (h : r.head? ≠ some 93) : itemsF (r.length + 1) r = itemsP r := by
  cases r with
  | nil => rfl
  | cons c t =>
    have e : ¬ c = 93 := fun e => h (by rw [e]; rfl)
    unfold itemsF itemsP
    rw [if_neg e]
    cases hi : itemL (c :: t) with
    | none => rfl
    | some y =>
      obtain ⟨i, r⟩ := y
      have := item_less hi
      simp only
      rw [items_fuel (n := (c :: t).length) (m := r.length + 1) (l := r) this (by omega)]
      cases itemsF (r.length + 1) r <;> rfl
theorem itemsP_bad {l : List Nat} (h : itemQ l = none) : itemsP l = none := by
  have e : itemL l = none := by
    rcases kind_or l with ⟨d, v, rfl, hd⟩ | g
    · have hd := hd
      rw [(item_kind hd).1] at h; cases h
    · rw [← item_other g]
      exact h
  unfold itemsP; rw [e]
theorem itemsP_last {l t : List Nat} {i : Item} (h : itemQ l = some (i, 93 :: t)) : itemsP l = some ([i], t) := by
  have e : itemL l = some (i, 93 :: t) := by
    rcases kind_or l with ⟨d, v, rfl, hd⟩ | g
    · have hd := hd
      rw [(item_kind hd).1] at h; cases h
      rw [(item_kind hd).2]; rfl
    · rw [← item_other g]
      exact h
  unfold itemsP; rw [e]
  rfl
theorem itemQ_dash (v : List Nat) : itemQ (45 :: v) = none := rfl
theorem itemsP_more {l r : List Nat} {i : Item} (h : itemQ l = some (i, r)) (hr : r.head? ≠ some 93) : itemsP l = consI i (itemsP r) := by
  rcases kind_or l with ⟨d, v, rfl, hd⟩ | g
  · rw [(item_kind hd).1] at h; cases h
    by_cases e : r.head? = some 45
    · obtain ⟨t, rfl⟩ : ∃ t, r = 45 :: t := by
        cases r with
        | nil => cases e
        | cons c t => simp at e; exact ⟨t, by rw [e]⟩
      rw [itemsP_bad (itemQ_dash t)]
      unfold itemsP
      rw [(item_kind hd).2, if_pos e]; rfl
    · have e2 := (item_kind (v := r) hd).2
      rw [if_neg e] at e2
      show itemsP (92 :: d :: r) = _
      rw [itemsP, e2]
      simp only
      rw [items_at r hr]
      cases itemsP r <;> rfl
  · have e2 : itemL l = some (i, r) := by
      rw [← item_other g]
      exact h
    rw [show itemsP l = _ from by rw [itemsP, e2]]
    simp only
    rw [items_at r hr]
    cases itemsP r <;> rfl
theorem clsL_items (neg : Bool) (l : List Nat) : clsL neg l = (itemsP l).map fun x => (.one (.cls neg x.1), x.2) := by
  unfold clsL itemsP
  cases itemL l with
  | none => rfl
  | some y =>
    obtain ⟨i, r⟩ := y
    simp only
    cases itemsF (r.length + 1) r <;> rfl
/-- So many items ahead. -/
def preI (ds : List Item) (x : Option (List Item × List Nat)) : Option (List Item × List Nat) := x.map fun y => (ds ++ y.1, y.2)
theorem preI_nil (x : Option (List Item × List Nat)) : preI [] x = x := by cases x <;> simp [preI]
theorem preI_snoc (ds : List Item) (i : Item) (x : Option (List Item × List Nat)) : preI (ds ++ [i]) x = preI ds (consI i x) := by cases x <;> simp [preI, consI]

/-- Spans: what they fit. -/
def hasS (sp : List (Nat × Nat)) (oth : Bool) (c : Nat) : Bool := if sp.any (fun x => decide (x.1 ≤ c) && decide (c ≤ x.2)) then !oth else oth
def namedSp (k : Nat) : List (Nat × Nat) := if k = 100 then [(48, 57)] else if k = 119 then [(97, 122), (65, 90), (48, 57), (95, 95)] else [(9, 10), (12, 13), (32, 32)]
def itemSp : Item → List (Nat × Nat)
  | ⟨true, k, _⟩ => namedSp k
  | ⟨false, a, b⟩ => [(a, b)]
theorem named_fit (k c : Nat) : (namedSp k).any (fun x => decide (x.1 ≤ c) && decide (c ≤ x.2)) = namedN k c := by
  unfold namedSp namedN
  split
  · simp [isDN]
  · split
    · rw [Bool.eq_iff_iff]; simp [wordN, isDN]; omega
    · rw [Bool.eq_iff_iff]; simp [blankN]; omega
theorem item_fit (i : Item) (c : Nat) : (itemSp i).any (fun x => decide (x.1 ≤ c) && decide (c ≤ x.2)) = fitItem i c := by
  match i with
  | ⟨true, k, _⟩ => exact named_fit k c
  | ⟨false, a, b⟩ => simp [itemSp, fitItem]
theorem cls_fit (neg : Bool) (is : List Item) (c : Nat) : hasS (is.flatMap itemSp) neg c = fitOne (.cls neg is) c := by
  unfold hasS fitOne
  have : (is.flatMap itemSp).any (fun x => decide (x.1 ≤ c) && decide (c ≤ x.2)) = is.any (fun i => fitItem i c) := by
    rw [List.any_flatMap]
    congr 1
    funext i
    exact item_fit i c
  rw [this]
theorem kind_fit (k : Nat) (neg : Bool) (c : Nat) : hasS (namedSp k) neg c = fitOne (.kind k neg) c := by
  unfold hasS
  rw [named_fit, show fitOne (.kind k neg) c = if neg then !namedN k c else namedN k c from rfl]
  cases neg <;> cases namedN k c <;> rfl
theorem sign_fit (x c : Nat) : hasS [(x, x)] false c = fitOne (.sign x) c := by
  unfold hasS fitOne
  rw [Bool.eq_iff_iff]
  simp; omega
theorem any_fit (c : Nat) : hasS [(10, 10), (13, 13)] true c = fitOne .any c := by
  unfold hasS fitOne
  rw [Bool.eq_iff_iff]
  simp; omega

end Go.Proofs.YtncljgpcloanfaaDoor
namespace Go.Proofs.YtncljgpcloanfaaDoor

def numD (ds : List Nat) : Nat := ds.foldl (fun n c => n * 10 + (c - 48)) 0
theorem isDN_iff (c : Nat) : isDN c = true ↔ 48 ≤ c ∧ c ≤ 57 := by simp [isDN]
/-- The digits end at a place. -/
theorem digs_stop {l : List Nat} {k : Nat} (hk : k ≤ 2) (hl : k ≤ l.length) (hd : ∀ c ∈ l.take k, isDN c = true) (he : k = 2 ∨ k = l.length ∨ ∃ h : k < l.length, isDN l[k] = false) : digsL l = (numD (l.take k), k, l.drop k) := by
  rcases (show k = 0 ∨ k = 1 ∨ k = 2 by omega) with rfl | rfl | rfl
  · cases l with
    | nil => rfl
    | cons a t =>
      have : isDN a = false := by
        rcases he with e | e | ⟨_, e⟩
        · omega
        · simp at e
        · exact e
      unfold digsL; simp only [this]; rfl
  · cases l with
    | nil => simp at hl
    | cons a t =>
      have ha : isDN a = true := hd a (by simp)
      unfold digsL; simp only; rw [ha]
      cases t with
      | nil => simp [numD]
      | cons b r =>
        have : isDN b = false := by
          rcases he with e | e | ⟨_, e⟩
          · omega
          · simp at e
          · exact e
        simp [this, numD]
  · match l, hl, hd with
    | a :: b :: r, _, hd =>
      have ha : isDN a = true := hd a (by simp)
      have hb : isDN b = true := hd b (by simp)
      unfold digsL; simp only; rw [ha, hb]
      simp [numD]; omega
theorem numD_snoc (ds : List Nat) (c : Nat) : numD (ds ++ [c]) = numD ds * 10 + (c - 48) := by simp [numD]
theorem numD_le {l : List Nat} {k : Nat} (hk : k ≤ 2) (hd : ∀ c ∈ l.take k, isDN c = true) : numD (l.take k) ≤ 99 ∧ (k ≤ 1 → numD (l.take k) ≤ 9) := by
  rcases (show k = 0 ∨ k = 1 ∨ k = 2 by omega) with rfl | rfl | rfl
  · simp [numD]
  · cases l with
    | nil => simp [numD]
    | cons a t =>
      have := (isDN_iff a).1 (hd a (by simp))
      simp [numD]; omega
  · cases l with
    | nil => simp [numD]
    | cons a t =>
      have ha := (isDN_iff a).1 (hd a (by simp))
      cases t with
      | nil => simp [numD]; omega
      | cons b r =>
        have hb := (isDN_iff b).1 (hd b (by simp))
        simp [numD]; omega
/-- What stands behind {. -/
def bndR (t : List Nat) : Option (Nat × Option Nat × List Nat) :=
  if (digsL t).2.1 = 0 then none else match (digsL t).2.2 with
      | [] => none
      | x :: v => if x = 125 then some ((digsL t).1, some (digsL t).1, v) else if x = 44 then (match (digsL v).2.2 with
          | [] => none
          | y :: z => if y = 125 then (if (digsL v).2.1 = 0 then some ((digsL t).1, none, z) else if (digsL v).1 < (digsL t).1 then none else some ((digsL t).1, some (digsL v).1, z)) else none) else none
def oftenQ (g : Bool) : List Nat → Option (Nat × Option Nat × List Nat)
  | [] => some (1, some 1, [])
  | c :: t => if c = 42 then some (0, none, t) else if c = 43 then some (1, none, t) else if c = 63 then some (0, some 1, t)
    else if c = 123 ∧ g = false then bndR t else some (1, some 1, c :: t)
theorem often_set (l : List Nat) : oftenL false l = oftenQ false l := by
  cases l with
  | nil => rfl
  | cons c t =>
    simp only [oftenL, oftenQ]
    by_cases h1 : c = 42
    · rw [if_pos h1, if_pos h1]
    rw [if_neg h1, if_neg h1]
    by_cases h2 : c = 43
    · rw [if_pos h2, if_pos h2]
    rw [if_neg h2, if_neg h2]
    by_cases h3 : c = 63
    · rw [if_pos h3, if_pos h3]
    rw [if_neg h3, if_neg h3]
    by_cases h4 : c = 123
    · simp only [h4, bndR, and_self, if_true, Bool.false_eq_true, if_false]
      by_cases h5 : (digsL t).2.1 = 0
      · rw [if_pos h5, if_pos h5]
      · rw [if_neg h5, if_neg h5]
        cases (digsL t).2.2 with
        | nil => rfl
        | cons x v =>
          simp only
          by_cases h6 : x = 125
          · rw [if_pos h6, if_pos h6]
          · rw [if_neg h6, if_neg h6]
            by_cases h7 : x = 44
            · rw [if_pos h7, if_pos h7]
              cases (digsL v).2.2 <;> rfl
            · rw [if_neg h7, if_neg h7]
    · simp only [h4, false_and, if_false]
theorem often_grp {l : List Nat} (h : l.head? ≠ some 123) : oftenL true l = oftenQ true l := by
  cases l with
  | nil => rfl
  | cons c t =>
    have e : ¬ c = 123 := fun e => h (by rw [e]; rfl)
    unfold oftenL oftenQ
    simp [e]
theorem often_brace (t : List Nat) : oftenL true (123 :: t) = none := rfl
theorem often_brace' (t : List Nat) : oftenQ true (123 :: t) = some (1, some 1, 123 :: t) := rfl
theorem row_brace (k : Nat) (t : List Nat) : rowD k (123 :: t) = none := by
  refine row_bad k rfl ?_
  cases k <;> rfl
/-- A piece more. -/
theorem row_moreQ (k : Nat) {c : Nat} {t : List Nat} (h : stopN c = false) {a : Pat} {r1 r2 : List Nat} {lo : Nat} {hi : Option Nat} (ha : atomD k (c :: t) = some (a, r1)) (ho : oftenQ (c == 40) r1 = some (lo, hi, r2)) : rowD k (c :: t) = consP a lo hi (rowD k r2) := by
  by_cases g : (c == 40) = true
  · rw [g] at ho
    by_cases hb : r1.head? = some 123
    · obtain ⟨v, rfl⟩ : ∃ v, r1 = 123 :: v := by
        cases r1 with
        | nil => cases hb
        | cons x v => simp at hb; exact ⟨v, by rw [hb]⟩
      rw [often_brace'] at ho
      cases ho
      rw [row_often k h ha (by rw [g]; exact often_brace v), row_brace]; rfl
    · exact (row_next k h ha (by rw [g, often_grp hb]; exact ho)).1
  · have g : (c == 40) = false := by simpa using g
    rw [g] at ho
    exact (row_next k h ha (by rw [g, often_set]; exact ho)).1
theorem row_bad2 (k : Nat) {c : Nat} {t : List Nat} (h : stopN c = false) {a : Pat} {r1 : List Nat} (ha : atomD k (c :: t) = some (a, r1)) (ho : oftenQ (c == 40) r1 = none) : rowD k (c :: t) = none := by
  by_cases g : (c == 40) = true
  · rw [g] at ho
    by_cases hb : r1.head? = some 123
    · obtain ⟨v, rfl⟩ : ∃ v, r1 = 123 :: v := by
        cases r1 with
        | nil => cases hb
        | cons x v => simp at hb; exact ⟨v, by rw [hb]⟩
      rw [often_brace'] at ho; cases ho
    · exact row_often k h ha (by rw [g, often_grp hb]; exact ho)
  · have g : (c == 40) = false := by simpa using g
    rw [g] at ho
    exact row_often k h ha (by rw [g, often_set]; exact ho)
/-- So many pieces ahead; a row of them. -/
abbrev Pc := Pat × Nat × Option Nat
def preP (ps : List Pc) (x : Rd) : Rd := ps.foldr (fun p y => consP p.1 p.2.1 p.2.2 y) x
theorem preP_snoc (ps : List Pc) (p : Pc) (x : Rd) : preP (ps ++ [p]) x = preP ps (consP p.1 p.2.1 p.2.2 x) := by simp [preP]
def rowP : List Pc → Pat
  | [] => .eps
  | p :: t => .piece p.1 p.2.1 p.2.2 (rowP t)
theorem preP_none (ps : List Pc) : preP ps none = none := by
  induction ps with
  | nil => rfl
  | cons p t ih => show consP _ _ _ (preP t none) = none; rw [ih]; rfl
theorem preP_eps (ps : List Pc) (r : List Nat) : preP ps (some (.eps, r)) = some (rowP ps, r) := by
  induction ps with
  | nil => rfl
  | cons p t ih => show consP _ _ _ (preP t _) = _; rw [ih]; rfl
/-- So many rows ahead; a pattern of rows. -/
def preR (rs : List Pat) (x : Rd) : Rd := rs.foldr (fun r y => altP r y) x
theorem preR_snoc (rs : List Pat) (r : Pat) (x : Rd) : preR (rs ++ [r]) x = preR rs (altP r x) := by simp [preR]
def altsP : List Pat → Pat
  | [] => .eps
  | [r] => r
  | r :: rs => .alt r (altsP rs)
theorem altsP_cons (r : Pat) (rs : List Pat) (h : rs ≠ []) : altsP (r :: rs) = .alt r (altsP rs) := by
  cases rs with
  | nil => exact absurd rfl h
  | cons => rfl
theorem preR_none (rs : List Pat) : preR rs none = none := by
  induction rs with
  | nil => rfl
  | cons p t ih => show altP _ (preR t none) = none; rw [ih]; rfl
theorem preR_last (rs : List Pat) (r : Pat) (x : List Nat) : preR rs (some (r, x)) = some (altsP (rs ++ [r]), x) := by
  induction rs with
  | nil => rfl
  | cons p t ih =>
    show altP _ (preR t _) = _
    rw [ih, List.cons_append, altsP_cons _ _ (by simp)]; rfl
theorem M_alts (s : List Nat) : ∀ (rs : List Pat), rs ≠ [] → ∀ i j, M s (altsP rs) i j ↔ ∃ r, r ∈ rs ∧ M s r i j
  | [], h, _, _ => absurd rfl h
  | [r], _, i, j => by simp [altsP]
  | r :: q :: rs, _, i, j => by
    have ih := M_alts s (q :: rs) (by simp) i j
    constructor
    · intro h
      rcases (show M s r i j ∨ M s (altsP (q :: rs)) i j from h) with h | h
      · exact ⟨r, by simp, h⟩
      · obtain ⟨x, hx, h⟩ := ih.1 h
        exact ⟨x, List.mem_cons_of_mem _ hx, h⟩
    · rintro ⟨x, hx, h⟩
      rcases List.mem_cons.1 hx with rfl | hx
      · exact (show M s x i j ∨ M s (altsP (q :: rs)) i j from .inl h)
      · exact (show M s r i j ∨ M s (altsP (q :: rs)) i j from .inr (ih.2 ⟨x, hx, h⟩))
def hiZ : Option Nat → Int
  | none => -1
  | some h => (h : Int)
/-- How often: the bounds that the program relies on. -/
structure OftOk (g : Bool) (lo : Nat) (hi : Option Nat) : Prop where
  low : lo ≤ 99
  high : ∀ h, hi = some h → lo ≤ h ∧ h ≤ 99
  grp : g = true → lo ≤ 1 ∧ ∀ h, hi = some h → h ≤ 1
theorem digs_fst_le (l : List Nat) : (digsL l).1 ≤ 99 := by
  unfold digsL
  split
  · simp
  · split
    · rename_i a t h
      have ha := (isDN_iff a).1 h
      split
      · simp; omega
      · split
        · rename_i b r hb
          have hb := (isDN_iff b).1 hb
          simp; omega
        · simp; omega
    · simp
theorem oftenQ_ok {g : Bool} {l : List Nat} {lo : Nat} {hi : Option Nat} {r : List Nat} (h : oftenQ g l = some (lo, hi, r)) : OftOk g lo hi := by
  unfold oftenQ at h
  split at h
  · cases h; exact ⟨by omega, (fun x e => by cases e; omega), fun _ => ⟨by omega, (fun x e => by cases e; omega)⟩⟩
  · rename_i c t
    split at h
    · cases h; exact ⟨by omega, (fun x e => by cases e), fun _ => ⟨by omega, (fun x e => by cases e)⟩⟩
    · split at h
      · cases h; exact ⟨by omega, (fun x e => by cases e), fun _ => ⟨by omega, (fun x e => by cases e)⟩⟩
      · split at h
        · cases h; exact ⟨by omega, (fun x e => by cases e; omega), fun _ => ⟨by omega, (fun x e => by cases e; omega)⟩⟩
        · split at h
          · rename_i hc
            have n1 := digs_fst_le t
            unfold bndR at h
            split at h
            · cases h
            · split at h
              · cases h
              · rename_i x v hx
                have n2 := digs_fst_le v
                split at h
                · cases h; exact ⟨n1, (fun x e => by cases e; omega), fun e => by rw [hc.2] at e; cases e⟩
                · split at h
                  · split at h
                    · cases h
                    · split at h
                      · split at h
                        · cases h; exact ⟨n1, (fun x e => by cases e), fun e => by rw [hc.2] at e; cases e⟩
                        · split at h
                          · cases h
                          · cases h; exact ⟨n1, (fun x e => by cases e; omega), fun e => by rw [hc.2] at e; cases e⟩
                      · cases h
                  · cases h
          · cases h; exact ⟨by omega, (fun x e => by cases e; omega), fun _ => ⟨by omega, (fun x e => by cases e; omega)⟩⟩

theorem bnd_no {t : List Nat} (h : (digsL t).2.1 = 0) : bndR t = none := by unfold bndR; rw [if_pos h]
theorem bnd_one {t v : List Nat} (h : (digsL t).2.1 ≠ 0) (e : (digsL t).2.2 = 125 :: v) : bndR t = some ((digsL t).1, some (digsL t).1, v) := by unfold bndR; rw [if_neg h, e]; rfl
theorem bnd_bad {t : List Nat} (h : (digsL t).2.1 ≠ 0) (e1 : (digsL t).2.2.head? ≠ some 125) (e2 : (digsL t).2.2.head? ≠ some 44) : bndR t = none := by
  unfold bndR; rw [if_neg h]
  cases hr : (digsL t).2.2 with
  | nil => rfl
  | cons x v =>
    rw [hr] at e1 e2
    have a1 : ¬ x = 125 := fun e => e1 (by rw [e]; rfl)
    have a2 : ¬ x = 44 := fun e => e2 (by rw [e]; rfl)
    simp only; rw [if_neg a1, if_neg a2]
theorem bnd_open {t v z : List Nat} (h : (digsL t).2.1 ≠ 0) (e : (digsL t).2.2 = 44 :: v) (h2 : (digsL v).2.1 = 0) (e2 : (digsL v).2.2 = 125 :: z) : bndR t = some ((digsL t).1, none, z) := by
  unfold bndR; rw [if_neg h, e]; simp only
  rw [if_neg (by decide), if_pos trivial, e2]; simp only
  rw [if_pos trivial, if_pos h2]
theorem bnd_two {t v z : List Nat} (h : (digsL t).2.1 ≠ 0) (e : (digsL t).2.2 = 44 :: v) (h2 : (digsL v).2.1 ≠ 0) (e2 : (digsL v).2.2 = 125 :: z) (hl : (digsL t).1 ≤ (digsL v).1) : bndR t = some ((digsL t).1, some (digsL v).1, z) := by
  unfold bndR; rw [if_neg h, e]; simp only
  rw [if_neg (by decide), if_pos trivial, e2]; simp only
  rw [if_pos trivial, if_neg h2, if_neg (by omega)]
theorem bnd_less {t v : List Nat} (h : (digsL t).2.1 ≠ 0) (e : (digsL t).2.2 = 44 :: v) (h2 : (digsL v).2.1 ≠ 0) (hl : (digsL v).1 < (digsL t).1) : bndR t = none := by
  unfold bndR; rw [if_neg h, e]; simp only
  rw [if_neg (by decide), if_pos trivial]
  cases (digsL v).2.2 with
  | nil => rfl
  | cons y z =>
    simp [h2, hl]
theorem bnd_shut {t v : List Nat} (h : (digsL t).2.1 ≠ 0) (e : (digsL t).2.2 = 44 :: v) (e2 : (digsL v).2.2.head? ≠ some 125) : bndR t = none := by
  unfold bndR; rw [if_neg h, e]; simp only
  rw [if_neg (by decide), if_pos trivial]
  cases hr : (digsL v).2.2 with
  | nil => rfl
  | cons y z =>
    rw [hr] at e2
    have a1 : ¬ y = 125 := fun e => e2 (by rw [e]; rfl)
    simp only; rw [if_neg a1]
theorem oftenQ_le {g : Bool} {l : List Nat} {lo : Nat} {hi : Option Nat} {r : List Nat} (h : oftenQ g l = some (lo, hi, r)) : r.length ≤ l.length := by
  cases g with
  | false => rw [← often_set] at h; exact often_le h
  | true =>
    by_cases hb : l.head? = some 123
    · obtain ⟨v, rfl⟩ : ∃ v, l = 123 :: v := by
        cases l with
        | nil => cases hb
        | cons x v => simp at hb; exact ⟨v, by rw [hb]⟩
      rw [often_brace'] at h; cases h; exact Nat.le_refl _
    · rw [← often_grp hb] at h; exact often_le h

end Go.Proofs.YtncljgpcloanfaaDoor
namespace Go.Proofs.YtncljgpcloanfaaDoor

def pcost (a : Pat) (lo : Nat) (hi : Option Nat) : Nat := match hi with
  | none => 1 + (lo - 1 + 1) * (cost a + 1)
  | some h => lo * (cost a + 1) + (h - lo) * (cost a + 2)
theorem cost_piece (a : Pat) (lo : Nat) (hi : Option Nat) (rest : Pat) : cost (.piece a lo hi rest) = pcost a lo hi + cost rest := by
  cases hi <;> rfl
theorem cost_row (p : Pc) (ps : List Pc) : cost (rowP (p :: ps)) = pcost p.1 p.2.1 p.2.2 + cost (rowP ps) := cost_piece _ _ _ _
theorem cost_alts : ∀ rs : List Pat, cost (altsP rs) = (rs.map cost).sum
  | [] => rfl
  | [r] => by simp [altsP]
  | r :: q :: rs => by
    have ih := cost_alts (q :: rs)
    show cost r + cost (altsP (q :: rs)) = _
    rw [ih]; simp
theorem often_okL {g : Bool} {l : List Nat} {lo : Nat} {hi : Option Nat} {r : List Nat} (h : oftenL g l = some (lo, hi, r)) : OftOk g lo hi := by
  cases g with
  | false => rw [often_set] at h; exact oftenQ_ok h
  | true =>
    by_cases hb : l.head? = some 123
    · obtain ⟨v, rfl⟩ : ∃ v, l = 123 :: v := by
        cases l with
        | nil => cases hb
        | cons x v => simp at hb; exact ⟨v, by rw [hb]⟩
      rw [often_brace] at h; cases h
    · rw [often_grp hb] at h; exact oftenQ_ok h
theorem pcost_set {a : Pat} {lo : Nat} {hi : Option Nat} (h0 : cost a = 0) (h : OftOk false lo hi) : pcost a lo hi ≤ 200 := by
  have h1 := h.low
  unfold pcost
  rw [h0]
  cases hi with
  | none => simp only; omega
  | some h2 =>
    have := h.high h2 rfl
    simp only; omega
theorem pcost_grp {a : Pat} {lo : Nat} {hi : Option Nat} (h : OftOk true lo hi) : pcost a lo hi ≤ cost a + 2 := by
  obtain ⟨h1, h2⟩ := h.grp rfl
  unfold pcost
  cases hi with
  | none =>
    simp only
    rcases (show lo = 0 ∨ lo = 1 by omega) with rfl | rfl <;> simp <;> omega
  | some x =>
    have := h2 x rfl
    have := (h.high x rfl).1
    simp only
    rcases (show (lo = 0 ∧ x = 0) ∨ (lo = 0 ∧ x = 1) ∨ (lo = 1 ∧ x = 1) by omega) with ⟨rfl, rfl⟩ | ⟨rfl, rfl⟩ | ⟨rfl, rfl⟩ <;> simp
def CostA (k : Nat) : Prop := ∀ c t p r, atomD k (c :: t) = some (p, r) → (c = 40 → cost p + 200 * r.length + 400 ≤ 200 * (c :: t).length) ∧ (¬ c = 40 → cost p = 0 ∧ r.length < (c :: t).length)
def CostR (k : Nat) : Prop := ∀ l p r, rowD k l = some (p, r) → cost p + 200 * r.length ≤ 200 * l.length
def CostS (k : Nat) : Prop := ∀ l p r, rowsD k l = some (p, r) → cost p + 200 * r.length ≤ 200 * l.length
theorem atomL_one {f : Option (List Nat → Rd)} {c : Nat} {t : List Nat} {p : Pat} {r : List Nat} (h : atomL f (c :: t) = some (p, r)) (hc : ¬ c = 40) : cost p = 0 := by
  unfold atomL at h
  simp only at h
  split at h
  · unfold clsAt at h
    split at h
    · cases h
    · split at h
      · rw [clsL_items] at h
        obtain ⟨y, _, e⟩ := Option.map_eq_some_iff.1 h
        cases e; rfl
      · rw [clsL_items] at h
        obtain ⟨y, _, e⟩ := Option.map_eq_some_iff.1 h
        cases e; rfl
  · try rw [if_neg hc] at h
    split at h
    · split at h
      · cases h
      · split at h
        · cases h; rfl
        · cases h
    · split at h
      · cases h
      · split at h
        · cases h; rfl
        · cases h; rfl
theorem costA_of (k : Nat) (hs : ∀ j, k = j + 1 → CostS j) : CostA k := by
  intro c t p r h
  have hl := (level_less k).1 _ _ _ h
  refine ⟨fun hc => ?_, fun hc => ⟨?_, hl⟩⟩
  · subst hc
    cases k with
    | zero => cases h
    | succ j =>
      have e : atomD (j + 1) (40 :: t) = match rowsD j t with
        | some (p, 41 :: v) => some (p, v)
        | _ => none := rfl
      rw [e] at h
      split at h
      · rename_i q v hq
        cases h
        have := hs j rfl _ _ _ hq
        simp at this ⊢; omega
      · cases h
  · cases k with
    | zero => exact atomL_one (f := none) h hc
    | succ j => exact atomL_one (f := some (rowsD j)) h hc
theorem costR_of (k : Nat) (ha : CostA k) : CostR k := by
  intro l
  induction hn : l.length using Nat.strongRecOn generalizing l with
  | ind n ih =>
    intro p r h
    cases l with
    | nil => rw [row_nil] at h; cases h; simp [cost]
    | cons c t =>
      cases hs : stopN c with
      | true => rw [row_stop k hs] at h; cases h; simp [cost] at hn ⊢; omega
      | false =>
        cases hat : atomD k (c :: t) with
        | none => rw [row_bad k hs hat] at h; cases h
        | some y =>
          obtain ⟨a, r1⟩ := y
          cases ho : oftenL (c == 40) r1 with
          | none => rw [row_often k hs hat ho] at h; cases h
          | some z =>
            obtain ⟨lo, hi, r2⟩ := z
            obtain ⟨e, hlt⟩ := row_next k hs hat ho
            rw [e] at h
            cases hr : rowD k r2 with
            | none => rw [hr] at h; cases h
            | some q =>
              obtain ⟨row, r3⟩ := q
              rw [hr] at h
              cases h
              have i1 := ih r2.length (by omega) r2 rfl row r hr
              have o1 := often_le ho
              have ok := often_okL ho
              rw [cost_piece]
              rw [← hn]
              by_cases hc : c = 40
              · have := (ha c t a r1 hat).1 hc
                rw [show (c == 40) = true by simpa using hc] at ok
                have := pcost_grp (a := a) ok
                omega
              · obtain ⟨c0, c1⟩ := (ha c t a r1 hat).2 hc
                rw [show (c == 40) = false by simpa using hc] at ok
                have := pcost_set c0 ok
                omega
theorem costS_of (k : Nat) (hr : CostR k) : CostS k := by
  intro l
  induction hn : l.length using Nat.strongRecOn generalizing l with
  | ind n ih =>
    intro p r h
    cases hrow : rowD k l with
    | none => rw [rows_none k hrow] at h; cases h
    | some y =>
      obtain ⟨q, rest⟩ := y
      have c1 := hr l q rest hrow
      by_cases hb : rest.head? = some 124
      · obtain ⟨v, rfl⟩ : ∃ v, rest = 124 :: v := by
          cases rest with
          | nil => cases hb
          | cons x v => simp at hb; exact ⟨v, by rw [hb]⟩
        rw [rows_bar k hrow] at h
        cases hv : rowsD k v with
        | none => rw [hv] at h; cases h
        | some z =>
          obtain ⟨rs, r2⟩ := z
          rw [hv] at h
          cases h
          rw [List.length_cons] at c1
          have := (level_less k).2.1 _ _ _ hrow
          rw [List.length_cons] at this
          have i1 := ih v.length (by omega) v rfl rs r hv
          show cost q + cost rs + _ ≤ _
          omega
      · rw [rows_one k hrow hb] at h
        cases h
        omega
theorem cost_all : ∀ k, CostS k
  | 0 => costS_of 0 (costR_of 0 (costA_of 0 (fun j e => by omega)))
  | k + 1 => costS_of _ (costR_of _ (costA_of _ (fun j e => by
    obtain rfl : k = j := by omega
    exact cost_all k)))

end Go.Proofs.YtncljgpcloanfaaDoor
namespace Go.Proofs.YtncljgpcloanfaaDoor

/-- By state: the last round in which it was live; L: those that are live now. -/
structure SeenOk (n r : Nat) (L sn : List Nat) : Prop where
  len : sn.length = n
  nodup : L.Nodup
  lt : ∀ q ∈ L, q < n
  seen : ∀ q, q < n → (sn[q]? = some r ↔ q ∈ L)
  le : ∀ x ∈ sn, x ≤ r
theorem nodup_len {n : Nat} {L : List Nat} (hd : L.Nodup) (hl : ∀ q ∈ L, q < n) : L.length ≤ n := by
  have := List.Nodup.length_le_of_subset hd (l₂ := List.range n) (fun q hq => List.mem_range.2 (hl q hq))
  rw [List.length_range] at this
  exact this
theorem SeenOk.few {n r : Nat} {L sn : List Nat} (h : SeenOk n r L sn) : L.length ≤ n := nodup_len h.nodup h.lt
theorem SeenOk.next {n r : Nat} {L sn : List Nat} (h : SeenOk n r L sn) : SeenOk n (r + 1) [] sn :=
  ⟨h.len, List.nodup_nil, (fun _ e => by cases e), fun q hq => ⟨fun e => by
    have := h.le _ (List.mem_of_getElem? e)
    omega, (fun e => by cases e)⟩, fun x hx => by have := h.le x hx; omega⟩
theorem seen_next {n r : Nat} {sn : List Nat} (hl : sn.length = n) (hle : ∀ x ∈ sn, x ≤ r) : SeenOk n (r + 1) [] sn :=
  ⟨hl, List.nodup_nil, (fun _ e => by cases e), fun q hq => ⟨fun e => by
    have := hle _ (List.mem_of_getElem? e)
    omega, (fun e => by cases e)⟩, fun x hx => by have := hle x hx; omega⟩
/-- One that isn't live yet. -/
theorem SeenOk.put {n r : Nat} {L sn : List Nat} (h : SeenOk n r L sn) {a : Nat} (ha : a < n) (hs : sn[a]? ≠ some r) : SeenOk n r (L ++ [a]) (sn.set a r) := by
  have hn : ¬ a ∈ L := fun e => hs ((h.seen a ha).2 e)
  have hl : a < sn.length := by rw [h.len]; exact ha
  refine ⟨by rw [List.length_set]; exact h.len, ?_, fun q hq => ?_, fun q hq => ?_, fun x hx => ?_⟩
  · rw [List.nodup_append]
    exact ⟨h.nodup, by simp, fun x hx y hy e => by simp at hy; subst hy; subst e; exact hn hx⟩
  · rcases List.mem_append.1 hq with e | e
    · exact h.lt q e
    · simp at e; subst e; exact ha
  · by_cases e : a = q
    · subst e
      rw [List.getElem?_set_self hl]
      simp
    · rw [List.getElem?_set_ne e, h.seen q hq]
      have : ¬ q = a := fun x => e x.symm
      simp [this]
  · rcases List.mem_or_eq_of_mem_set hx with e | e
    · exact h.le x e
    · omega
/-- Those of a list were put. -/
structure PutR (n r : Nat) (L sn l L' sn' : List Nat) : Prop where
  ok : SeenOk n r L' sn'
  mem : ∀ q, q ∈ L' ↔ q ∈ L ∨ q ∈ l
  pre : L <+: L'
theorem PutR.start {n r : Nat} {L sn : List Nat} (h : SeenOk n r L sn) : PutR n r L sn [] L sn := ⟨h, fun q => by simp, List.prefix_refl _⟩
theorem PutR.skip {n r : Nat} {L sn l L' sn' : List Nat} (h : PutR n r L sn l L' sn') {a : Nat} (ha : a < n) (hs : sn'[a]? = some r) : PutR n r L sn (l ++ [a]) L' sn' := by
  refine ⟨h.ok, fun q => ?_, h.pre⟩
  rw [h.mem, List.mem_append, List.mem_singleton]
  constructor
  · rintro (e | e)
    · exact .inl e
    · exact .inr (.inl e)
  · rintro (e | e | rfl)
    · exact .inl e
    · exact .inr e
    · exact (h.mem q).1 ((h.ok.seen q ha).1 hs)
theorem PutR.add {n r : Nat} {L sn l L' sn' : List Nat} (h : PutR n r L sn l L' sn') {a : Nat} (ha : a < n) (hs : sn'[a]? ≠ some r) : PutR n r L sn (l ++ [a]) (L' ++ [a]) (sn'.set a r) := by
  refine ⟨h.ok.put ha hs, fun q => ?_, h.pre.trans (List.prefix_append _ _)⟩
  rw [List.mem_append, List.mem_append, List.mem_singleton, h.mem, or_assoc]
/-- Gone through up to a place. -/
structure Clo (T : List St) (n r : Nat) (l L sn : List Nat) (i : Nat) : Prop where
  ok : SeenOk n r L sn
  base : ∀ q ∈ l, q ∈ L
  eps : ∀ q ∈ L, Eps T l q
  done : ∀ k q st, k < i → L[k]? = some q → T[q]? = some st → st.eats = false → ∀ q' ∈ st.next, q' ∈ L
theorem Clo.stop {T : List St} {n r : Nat} {l L sn : List Nat} {i : Nat} (h : Clo T n r l L sn i) (hi : L.length ≤ i) (q : Nat) : q ∈ L ↔ Eps T l q := by
  refine eps_closed h.base h.eps (fun q st hq e1 e2 q' e3 => ?_) q
  obtain ⟨k, hk⟩ := List.mem_iff_getElem?.1 hq
  have := (List.getElem?_eq_some_iff.1 hk).1
  exact h.done k q st (by omega) hk e1 e2 q' e3
theorem Clo.eat {T : List St} {n r : Nat} {l L sn : List Nat} {i : Nat} (h : Clo T n r l L sn i) {q : Nat} {st : St} (hq : L[i]? = some q) (e1 : T[q]? = some st) (e2 : st.eats = true) : Clo T n r l L sn (i + 1) := by
  refine ⟨h.ok, h.base, h.eps, fun k q' st' hk hk' e3 e4 => ?_⟩
  by_cases e : k = i
  · subst e
    rw [hq] at hk'; cases hk'
    rw [e1] at e3; cases e3
    rw [e2] at e4; cases e4
  · exact h.done k q' st' (by omega) hk' e3 e4
theorem Clo.more {T : List St} {n r : Nat} {l L sn L' sn' : List Nat} {i : Nat} (h : Clo T n r l L sn i) {q : Nat} {st : St} (hq : L[i]? = some q) (e1 : T[q]? = some st) (e2 : st.eats = false) (p : PutR n r L sn st.next L' sn') : Clo T n r l L' sn' (i + 1) := by
  obtain ⟨t, ht⟩ := p.pre
  have old : ∀ k x, L[k]? = some x → L'[k]? = some x := fun k x e => by
    rw [← ht, List.getElem?_append_left (List.getElem?_eq_some_iff.1 e).1]; exact e
  have qL : q ∈ L := List.mem_of_getElem? hq
  refine ⟨p.ok, fun x hx => (p.mem x).2 (.inl (h.base x hx)), fun x hx => ?_, fun k q' st' hk hk' e3 e4 x hx => ?_⟩
  · rcases (p.mem x).1 hx with g | g
    · exact h.eps x g
    · exact .step (h.eps q qL) e1 e2 g
  · have il := (List.getElem?_eq_some_iff.1 hq).1
    have hkL : L[k]? = some q' := by
      have e : k < L.length := by omega
      have := old k L[k] (List.getElem?_eq_getElem e)
      rw [hk'] at this
      cases this
      exact List.getElem?_eq_getElem e
    by_cases e : k = i
    · subst e
      rw [hq] at hkL; cases hkL
      rw [e1] at e3; cases e3
      exact (p.mem x).2 (.inr hx)
    · exact (p.mem x).2 (.inl (h.done k q' st' (by omega) hkL e3 e4 x hx))

end Go.Proofs.YtncljgpcloanfaaDoor
