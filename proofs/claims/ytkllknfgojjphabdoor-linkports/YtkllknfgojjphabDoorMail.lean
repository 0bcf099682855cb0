/- Addresses of mail as lists of bytes: texts between a sign, labels, addresses, lists, cleaning, there and again; plain facts of no program. No condition. -/
import Derived.Test.YtkllknfgojjphabDoorStrip
import Derived.Test.YtkllknfgojjphabDoorEnds
import Derived.Test.YtkllknfgojjphabDoorEsc
namespace Go.Proofs.YtkllknfgojjphabDoor
open Go.RowKit

/-- A text ahead of the first of a row of texts. -/
def prep (a : List UInt8) : List (List UInt8) → List (List UInt8)
  | [] => [a]
  | h :: t => (a ++ h) :: t
/-- The texts between a sign. -/
def splitL (c : UInt8) : List UInt8 → List (List UInt8)
  | [] => [[]]
  | x :: l => if x = c then [] :: splitL c l else prep [x] (splitL c l)
theorem split_ne (c : UInt8) : ∀ l : List UInt8, splitL c l ≠ []
  | [] => by simp [splitL]
  | x :: l => by
    unfold splitL
    split
    · simp
    · cases h : splitL c l with
      | nil => simp [prep]
      | cons => simp [prep]
theorem prep_nil {c : UInt8} (l : List UInt8) : prep [] (splitL c l) = splitL c l := by
  cases h : splitL c l with
  | nil => exact absurd h (split_ne c l)
  | cons => rfl
theorem prep_prep (a b : List UInt8) (m : List (List UInt8)) : prep a (prep b m) = prep (a ++ b) m := by
  cases m with
  | nil => rfl
  | cons h t => show (a ++ (b ++ h)) :: t = (a ++ b ++ h) :: t; rw [List.append_assoc]
theorem split_hit {c : UInt8} (l : List UInt8) : splitL c (c :: l) = [] :: splitL c l := if_pos rfl
theorem split_miss {c x : UInt8} (l : List UInt8) (h : ¬ x = c) : splitL c (x :: l) = prep [x] (splitL c l) := if_neg h
/-- No text between a sign holds the sign. -/
theorem split_free {c : UInt8} : ∀ (l : List UInt8), ∀ p ∈ splitL c l, c ∉ p
  | [], p, hp => by
    have : p = [] := by simpa [splitL] using hp
    subst this; simp
  | x :: l, p, hp => by
    have ih := split_free (c := c) l
    by_cases h : x = c
    · subst h
      rw [split_hit] at hp
      rcases List.mem_cons.1 hp with e | e
      · subst e; simp
      · exact ih p e
    · rw [split_miss l h] at hp
      cases hs : splitL c l with
      | nil => exact absurd hs (split_ne c l)
      | cons a t =>
        rw [hs] at hp ih
        rcases List.mem_cons.1 hp with e | e
        · subst e
          intro hc
          rcases List.mem_cons.1 hc with e2 | e2
          · exact h e2.symm
          · exact ih a (List.mem_cons_self ..) e2
        · exact ih p (List.mem_cons_of_mem _ e)
theorem split_alone {c : UInt8} : ∀ {l : List UInt8}, c ∉ l → splitL c l = [l]
  | [], _ => rfl
  | x :: l, h => by
    rw [split_miss l (fun e => h (by rw [e]; exact List.mem_cons_self ..)), split_alone (fun e => h (List.mem_cons_of_mem _ e))]
    rfl
theorem split_sign {c : UInt8} : ∀ {a : List UInt8} (l : List UInt8), c ∉ a → splitL c (a ++ c :: l) = a :: splitL c l
  | [], l, _ => split_hit l
  | x :: a, l, h => by
    rw [List.cons_append, split_miss _ (fun e => h (by rw [e]; exact List.mem_cons_self ..)), split_sign l (fun e => h (List.mem_cons_of_mem _ e))]
    rfl
/-- Texts with a sign between. -/
def joinL (c : UInt8) : List (List UInt8) → List UInt8
  | [] => []
  | [a] => a
  | a :: b :: t => a ++ c :: joinL c (b :: t)
theorem split_join {c : UInt8} : ∀ (ps : List (List UInt8)), ps ≠ [] → (∀ p ∈ ps, c ∉ p) → splitL c (joinL c ps) = ps
  | [], h, _ => absurd rfl h
  | [a], _, h => split_alone (h a (List.mem_cons_self ..))
  | a :: b :: t, _, h => by
    show splitL c (a ++ c :: joinL c (b :: t)) = _
    rw [split_sign _ (h a (List.mem_cons_self ..)), split_join (b :: t) (by simp) (fun p hp => h p (List.mem_cons_of_mem _ hp))]
theorem join_snoc (c : UInt8) : ∀ (ps : List (List UInt8)) (q : List UInt8), ps ≠ [] → joinL c (ps ++ [q]) = joinL c ps ++ c :: q
  | [], _, h => absurd rfl h
  | [a], q, _ => rfl
  | a :: b :: t, q, _ => by
    show a ++ c :: joinL c (b :: (t ++ [q])) = (a ++ c :: joinL c (b :: t)) ++ c :: q
    have := join_snoc c (b :: t) q (by simp)
    rw [List.cons_append] at this
    rw [this]; simp
theorem join_len (c : UInt8) : ∀ (ps : List (List UInt8)), (joinL c ps).length ≤ (ps.map List.length).sum + ps.length
  | [] => by simp [joinL]
  | [a] => by simp [joinL]
  | a :: b :: t => by
    have ih := join_len c (b :: t)
    show (a ++ c :: joinL c (b :: t)).length ≤ _
    simp only [List.length_append, List.length_cons, List.map_cons, List.sum_cons] at ih ⊢
    omega

/-- May the sign at a place of a label stand there? -/
def labAt (l : List UInt8) (k : Nat) : Bool := plainB (l.getD k 0) || (l.getD k 0 == 45 && decide (k ≠ 0) && decide (k + 1 ≠ l.length))
def labelL (l : List UInt8) : Bool := decide (1 ≤ l.length ∧ l.length ≤ 63) && (List.range l.length).all (labAt l)
theorem label_iff (l : List UInt8) : labelL l = true ↔ (1 ≤ l.length ∧ l.length ≤ 63) ∧ ∀ k, k < l.length → labAt l k = true := by
  unfold labelL
  rw [Bool.and_eq_true, decide_eq_true_eq, List.all_eq_true]
  constructor
  · rintro ⟨h1, h2⟩
    exact ⟨h1, fun k hk => h2 k (List.mem_range.2 hk)⟩
  · rintro ⟨h1, h2⟩
    exact ⟨h1, fun k hk => h2 k (List.mem_range.1 hk)⟩
def mailSg : List UInt8 := [46, 33, 35, 36, 37, 38, 39, 42, 43, 47, 61, 63, 94, 95, 123, 124, 125, 126, 45, 96]
def userC (c : UInt8) : Bool := plainB c || hasB mailSg c
def notAt (c : UInt8) : Bool := c != 64
/-- The texts between the points behind the @, if there is one. -/
def hostOf : List UInt8 → List (List UInt8)
  | [] => [[]]
  | _ :: h => splitL 46 h
def addrL (l : List UInt8) : Bool := !(l.takeWhile notAt).isEmpty && (l.takeWhile notAt).all userC && (hostOf (l.dropWhile notAt)).all labelL
def listL (l : List UInt8) : Bool := l.isEmpty || (splitL 44 l).all fun p => addrL (stripL p)
def noBrL (l : List UInt8) : List UInt8 := endsP [] 0 l
def trimM (l : List UInt8) : List UInt8 := stripL (noBrL l)
def cleanM (l : List UInt8) : List UInt8 := joinL 44 ((splitL 44 l).map stripL)
theorem label_nil : labelL [] = false := by decide
theorem userC_at : userC 64 = false := by decide
theorem strip_sub {p : List UInt8} {c : UInt8} (h : c ∈ stripL p) : c ∈ p := by
  have h2 : ∀ q : List UInt8, Lib.trimRightS q blanks <+: q := by
    intro q
    unfold Lib.trimRightS
    rw [← List.reverse_suffix, List.reverse_reverse]
    exact List.dropWhile_suffix _
  unfold stripL Lib.trimS at h
  first
  | exact (trimLeft_suffix p).subset ((h2 _).subset h)
  | exact (h2 p).subset ((trimLeft_suffix _).subset h)
theorem clean_split (l : List UInt8) : splitL 44 (cleanM l) = (splitL 44 l).map stripL := by
  unfold cleanM
  refine split_join _ (by simpa using split_ne 44 l) ?_
  intro p hp
  obtain ⟨q, hq, rfl⟩ := List.mem_map.1 hp
  exact fun h => split_free l q hq (strip_sub h)
/-- What was cleaned stays. -/
theorem cleanM_again (l : List UInt8) : cleanM (cleanM l) = cleanM l := by
  show joinL 44 ((splitL 44 (cleanM l)).map stripL) = _
  rw [clean_split, List.map_map]
  show joinL 44 _ = joinL 44 _
  congr 1
  exact List.map_congr_left fun p _ => stripL_stripL p
/-- A list stays one. -/
theorem cleanM_list {l : List UInt8} (h : cleanM l ≠ []) : listL (cleanM l) = listL l := by
  have hl : l ≠ [] := fun e => by subst e; exact h (by decide)
  unfold listL
  rw [clean_split, List.all_map]
  have e1 : (cleanM l).isEmpty = false := by cases hc : cleanM l with
    | nil => exact absurd hc h
    | cons => rfl
  have e2 : l.isEmpty = false := by cases l with
    | nil => exact absurd rfl hl
    | cons => rfl
  rw [e1, e2]
  congr 1
  congr 1
  funext p
  show addrL (stripL (stripL p)) = _
  rw [stripL_stripL]
theorem noBr_free : ∀ (l : List UInt8) (p : UInt8), ∀ c ∈ endsP [] p l, c ≠ 10 ∧ c ≠ 13
  | [], p, c, h => by cases h
  | x :: l, p, c, h => by
    have h : c ∈ piece [] p x ++ endsP [] x l := h
    rcases List.mem_append.1 h with h | h
    · unfold piece at h
      split at h
      · cases h
      · split at h
        · cases h
        · rename_i h1 h2
          have : c = x := by simpa using h
          subst this
          exact ⟨fun e => h2 (.inl e), fun e => h2 (.inr e)⟩
    · exact noBr_free l x c h
theorem noBr_same : ∀ {l : List UInt8} (p : UInt8), (∀ c ∈ l, c ≠ 10 ∧ c ≠ 13) → endsP [] p l = l
  | [], p, _ => rfl
  | x :: l, p, h => by
    have hx := h x (List.mem_cons_self ..)
    show piece [] p x ++ endsP [] x l = _
    rw [piece_byte hx.1 hx.2, noBr_same x (fun c hc => h c (List.mem_cons_of_mem _ hc))]
    rfl
/-- What was trimmed stays. -/
theorem trimM_again (l : List UInt8) : trimM (trimM l) = trimM l := by
  unfold trimM
  have : noBrL (stripL (noBrL l)) = stripL (noBrL l) := noBr_same 0 (fun c hc => noBr_free l 0 c (strip_sub hc))
  rw [this, stripL_stripL]
theorem take_at {u : List UInt8} (k : List UInt8) (h : (64 : UInt8) ∉ u) : (u ++ 64 :: k).takeWhile notAt = u ∧ (u ++ 64 :: k).dropWhile notAt = 64 :: k := by
  induction u with
  | nil => exact ⟨rfl, rfl⟩
  | cons x u ih =>
    have hx : notAt x = true := by
      unfold notAt
      simp only [bne_iff_ne, ne_eq]
      exact fun e => h (by rw [e]; exact List.mem_cons_self ..)
    have ⟨i1, i2⟩ := ih (fun e => h (List.mem_cons_of_mem _ e))
    rw [List.cons_append, List.takeWhile_cons, List.dropWhile_cons, hx, i1, i2]
    exact ⟨rfl, rfl⟩
def userOk (u : List UInt8) : Bool := !u.isEmpty && u.all userC
/-- An address by its parts. -/
theorem addr_at {u : List UInt8} (k : List UInt8) (h : (64 : UInt8) ∉ u) : addrL (u ++ 64 :: k) = (userOk u && (splitL 46 k).all labelL) := by
  have ⟨e1, e2⟩ := take_at k h
  unfold addrL
  rw [e1, e2]
  rfl
theorem addr_user {u : List UInt8} (h : (64 : UInt8) ∉ u) : addrL (u ++ [64, 97]) = userOk u := by
  rw [addr_at [97] h, show (splitL 46 [97]).all labelL = true by decide, Bool.and_true]
theorem addr_host {p : List UInt8} (h : (46 : UInt8) ∉ p) : addrL (97 :: 64 :: p) = labelL p := by
  have := addr_at (u := [97]) p (by decide)
  rw [show ([97] ++ 64 :: p : List UInt8) = 97 :: 64 :: p from rfl] at this
  rw [this, split_alone h, show userOk [97] = true by decide]
  simp
theorem addr_none {l : List UInt8} (h : (64 : UInt8) ∉ l) : addrL l = false := by
  have : l.dropWhile notAt = [] := by
    induction l with
    | nil => rfl
    | cons x l ih =>
      have hx : notAt x = true := by
        unfold notAt
        simp only [bne_iff_ne, ne_eq]
        exact fun e => h (by rw [e]; exact List.mem_cons_self ..)
      rw [List.dropWhile_cons, hx]
      exact ih (fun e => h (List.mem_cons_of_mem _ e))
  unfold addrL
  rw [this]
  have e : (hostOf []).all labelL = false := by decide
  rw [e, Bool.and_false]

end Go.Proofs.YtkllknfgojjphabDoor
