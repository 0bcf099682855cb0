/- Patterns as lists of numbers of signs: how one is read, piece by piece; plain facts of no program. No condition. -/
import Derived.Test.YtncljgpcloanfaaDoorDKit
namespace Go.Proofs.YtncljgpcloanfaaDoor

/-- An item of a class: one of \d, \w, \s, or all from one number to another. -/
structure Item where
  named : Bool
  a : Nat
  b : Nat
abbrev Item.kind (k : Nat) : Item := ⟨true, k, 0⟩
abbrev Item.span (a b : Nat) : Item := ⟨false, a, b⟩
/-- An atom that fits one sign: 0 a sign, 1 any, 2 a kind, else a class. -/
structure One where
  form : Nat
  c : Nat
  neg : Bool
  items : List Item
abbrev One.sign (c : Nat) : One := ⟨0, c, false, []⟩
abbrev One.any : One := ⟨1, 0, false, []⟩
abbrev One.kind (k : Nat) (neg : Bool) : One := ⟨2, k, neg, []⟩
abbrev One.cls (neg : Bool) (items : List Item) : One := ⟨3, 0, neg, items⟩
/-- A pattern: nothing; an atom, from so many to so many times, and what is behind it; one row or the others; an atom that fits one sign. -/
structure Pat where
  two : Bool
  o : Option One
  q : Option (Nat × Option Nat)
  sub : two = true → Bool → Pat
abbrev Pat.eps : Pat := ⟨false, none, none, fun h => absurd h (by decide)⟩
abbrev Pat.piece (a : Pat) (lo : Nat) (hi : Option Nat) (rest : Pat) : Pat := ⟨true, none, some (lo, hi), fun _ b => match b with | true => a | false => rest⟩
abbrev Pat.alt (r rs : Pat) : Pat := ⟨true, none, none, fun _ b => match b with | true => r | false => rs⟩
abbrev Pat.one (o : One) : Pat := ⟨false, some o, none, fun h => absurd h (by decide)⟩
theorem Pat.one_inj {o o' : One} (h : Pat.one o = Pat.one o') : o = o' := Option.some.inj (congrArg Pat.o h)

abbrev Rd := Option (Pat × List Nat)
def inN (l : List Nat) (c : Nat) : Bool := l.contains c
def dwsN : List Nat := [100, 119, 115]
def clsN : List Nat := [91, 93, 94, 45]
def escClsN : List Nat := [92, 91, 93, 94, 45, 47, 46, 100, 119, 115]
def escN : List Nat := [100, 68, 119, 87, 115, 83, 92, 94, 36, 46, 42, 43, 63, 40, 41, 91, 93, 123, 125, 124, 47, 45]
def badN : List Nat := [94, 36, 42, 43, 63, 41, 93, 123, 125, 124]

/-- A sign of an item: is it one of \d, \w, \s; its number; what is behind it. -/
def behindL : List Nat → Option (Bool × Nat × List Nat)
  | [] => none
  | c :: t => if inN clsN c then none else if c = 92 then (match t with
      | [] => none
      | d :: v => if inN escClsN d then some (inN dwsN d, d, v) else none) else some (false, c, t)
def itemL (l : List Nat) : Option (Item × List Nat) :=
  match behindL l with
  | none => none
  | some (k, a, 45 :: v) => (match behindL v with
      | none => none
      | some (k2, b, r) => if k || (k2 || decide (b < a)) then none else some (.span a b, r))
  | some (k, a, r) => some (if k then .kind a else .span a a, r)
/-- The items of a class behind the first one, up to the ]. -/
def itemsF : Nat → List Nat → Option (List Item × List Nat)
  | 0, _ => none
  | _ + 1, [] => none
  | n + 1, c :: t => if c = 93 then some ([], t) else match itemL (c :: t) with
      | none => none
      | some (i, r) => (match itemsF n r with
          | none => none
          | some (is, r2) => some (i :: is, r2))
def clsL (neg : Bool) (l : List Nat) : Rd :=
  match itemL l with
  | none => none
  | some (i, r) => match itemsF (r.length + 1) r with
      | none => none
      | some (is, r2) => some (.one (.cls neg (i :: is)), r2)
def escP (d : Nat) : One := if inN dwsN d then .kind d false else if inN dwsN (d + 32) then .kind (d + 32) true else .sign d
def clsAt : List Nat → Rd
  | [] => none
  | c :: t => if c = 94 then clsL true t else clsL false (c :: t)
/-- An atom; 'rows' reads what a group holds (none: no group may stand here). -/
def atomL (rows : Option (List Nat → Rd)) : List Nat → Rd
  | [] => none
  | c :: t => if c = 91 then clsAt t
    else if c = 40 then (match rows with
      | none => none
      | some f => match f t with
        | some (p, 41 :: v) => some (p, v)
        | _ => none)
    else if c = 92 then (match t with
      | [] => none
      | d :: v => if inN escN d then some (.one (escP d), v) else none)
    else if inN badN c then none
    else if c = 46 then some (.one .any, t) else some (.one (.sign c), t)
def isDN (c : Nat) : Bool := decide (48 ≤ c ∧ c ≤ 57)
/-- One or two digits: their number, how many they are, what is behind them. -/
def digsL : List Nat → Nat × Nat × List Nat
  | [] => (0, 0, [])
  | a :: t => if isDN a then (match t with
      | [] => (a - 48, 1, [])
      | b :: r => if isDN b then (10 * (a - 48) + (b - 48), 2, r) else (a - 48, 1, b :: r)) else (0, 0, a :: t)
/-- How often: from, to (none: any number), what is behind it. -/
def oftenL (g : Bool) : List Nat → Option (Nat × Option Nat × List Nat)
  | [] => some (1, some 1, [])
  | c :: t => if c = 42 then some (0, none, t) else if c = 43 then some (1, none, t) else if c = 63 then some (0, some 1, t)
    else if c = 123 then (if g then none else if (digsL t).2.1 = 0 then none else match (digsL t).2.2 with
      | [] => none
      | x :: v => if x = 125 then some ((digsL t).1, some (digsL t).1, v) else if x = 44 then (match (digsL v).2.2 with
          | [] => none
          | y :: z => if y = 125 then (if (digsL v).2.1 = 0 then some ((digsL t).1, none, z) else if (digsL v).1 < (digsL t).1 then none else some ((digsL t).1, some (digsL v).1, z)) else none) else none)
    else some (1, some 1, c :: t)
def stopN (c : Nat) : Bool := c == 124 || c == 41
/-- A row. -/
def rowF (atom : List Nat → Rd) : Nat → List Nat → Rd
  | 0, _ => none
  | _ + 1, [] => some (.eps, [])
  | n + 1, c :: t => if stopN c then some (.eps, c :: t) else match atom (c :: t) with
      | none => none
      | some (a, r1) => match oftenL (c == 40) r1 with
        | none => none
        | some (lo, hi, r2) => match rowF atom n r2 with
          | none => none
          | some (row, r3) => some (.piece a lo hi row, r3)
def rowL (atom : List Nat → Rd) (l : List Nat) : Rd := rowF atom (l.length + 1) l
/-- Rows with bars between. -/
def rowsF (row : List Nat → Rd) : Nat → List Nat → Rd
  | 0, _ => none
  | n + 1, l => match row l with
      | none => none
      | some (r, 124 :: v) => (match rowsF row n v with
          | none => none
          | some (rs, r2) => some (.alt r rs, r2))
      | some (r, rest) => some (r, rest)
def rowsL (row : List Nat → Rd) (l : List Nat) : Rd := rowsF row (l.length + 1) l
/-- A pattern with so many groups within one another at most. -/
def rowsD : Nat → List Nat → Rd
  | 0 => rowsL (rowL (atomL none))
  | k + 1 => rowsL (rowL (atomL (some (rowsD k))))
def atomD : Nat → List Nat → Rd
  | 0 => atomL none
  | k + 1 => atomL (some (rowsD k))
def rowD (k : Nat) : List Nat → Rd := rowL (atomD k)
theorem rowsD_is (k : Nat) : rowsD k = rowsL (rowD k) := by cases k <;> rfl

/-- What is behind is shorter. -/
def Less (f : List Nat → Rd) : Prop := ∀ l p r, f l = some (p, r) → r.length < l.length
def LessEq (f : List Nat → Rd) : Prop := ∀ l p r, f l = some (p, r) → r.length ≤ l.length
theorem behind_less {l : List Nat} {k : Bool} {a : Nat} {r : List Nat} (h : behindL l = some (k, a, r)) : r.length < l.length := by
  unfold behindL at h
  split at h
  · cases h
  · split at h
    · cases h
    · split at h
      · split at h
        · cases h
        · split at h
          · cases h; simp; omega
          · cases h
      · cases h; simp
theorem item_less {l : List Nat} {i : Item} {r : List Nat} (h : itemL l = some (i, r)) : r.length < l.length := by
  unfold itemL at h
  split at h
  · cases h
  · rename_i k a v hb
    have h1 := behind_less hb
    split at h
    · cases h
    · rename_i k2 b r2 hb2
      have h2 := behind_less hb2
      split at h
      · cases h
      · cases h
        simp at h1; omega
  · rename_i k a r2 hb
    cases h
    exact behind_less hb
theorem items_less : ∀ {n : Nat} {l : List Nat} {is : List Item} {r : List Nat}, itemsF n l = some (is, r) → r.length < l.length
  | 0, _, _, _, h => by cases h
  | _ + 1, [], _, _, h => by cases h
  | n + 1, c :: t, is, r, h => by
    unfold itemsF at h
    split at h
    · cases h; simp
    · split at h
      · cases h
      · rename_i i r1 hi
        have h1 := item_less hi
        split at h
        · cases h
        · rename_i is2 r2 h2
          have h3 := items_less h2
          cases h
          omega
theorem items_fuel : ∀ {n m : Nat} {l : List Nat}, l.length < n → l.length < m → itemsF n l = itemsF m l
  | 0, _, _, h, _ => by omega
  | _, 0, _, _, h => by omega
  | _ + 1, _ + 1, [], _, _ => rfl
  | n + 1, m + 1, c :: t, h1, h2 => by
    unfold itemsF
    split
    · rfl
    · cases hi : itemL (c :: t) with
      | none => rfl
      | some x =>
        obtain ⟨i, r⟩ := x
        have h3 := item_less hi
        rw [List.length_cons] at h1 h2 h3
        dsimp only
        rw [items_fuel (n := n) (m := m) (l := r) (by omega) (by omega)]
theorem cls_less {neg : Bool} {l : List Nat} {p : Pat} {r : List Nat} (h : clsL neg l = some (p, r)) : r.length < l.length := by
  unfold clsL at h
  split at h
  · cases h
  · rename_i i r1 hi
    have h1 := item_less hi
    split at h
    · cases h
    · rename_i is r2 h2
      have h3 := items_less h2
      cases h
      omega
theorem atom_less {f : Option (List Nat → Rd)} (hf : ∀ g, f = some g → LessEq g) : Less (atomL f) := by
  intro l p r h
  unfold atomL at h
  split at h
  · cases h
  · rename_i c t
    split at h
    · unfold clsAt at h
      split at h
      · cases h
      · split at h
        · have := cls_less h
          rw [List.length_cons, List.length_cons]; omega
        · have := cls_less h
          rw [List.length_cons]; omega
    · split at h
      · split at h
        · cases h
        · rename_i g
          split at h
          · rename_i p2 v hg
            have := hf g rfl _ _ _ hg
            cases h
            simp at this; simp; omega
          · cases h
      · split at h
        · split at h
          · cases h
          · split at h
            · cases h; simp; omega
            · cases h
        · split at h
          · cases h
          · split at h
            · cases h; simp
            · cases h; simp
theorem digs_le (l : List Nat) : (digsL l).2.2.length ≤ l.length := by
  unfold digsL
  split
  · exact Nat.le_refl _
  · split
    · split
      · simp
      · split
        · simp; omega
        · simp
    · exact Nat.le_refl _
theorem often_le {g : Bool} {l : List Nat} {lo : Nat} {hi : Option Nat} {r : List Nat} (h : oftenL g l = some (lo, hi, r)) : r.length ≤ l.length := by
  unfold oftenL at h
  split at h
  · cases h; exact Nat.le_refl _
  · rename_i c t
    have h1 := digs_le t
    split at h
    · cases h; simp
    · split at h
      · cases h; simp
      · split at h
        · cases h; simp
        · split at h
          · split at h
            · cases h
            · split at h
              · cases h
              · split at h
                · cases h
                · rename_i x v hx
                  have h2 := digs_le v
                  rw [hx] at h1
                  split at h
                  · cases h; simp at h1 ⊢; omega
                  · split at h
                    · split at h
                      · cases h
                      · rename_i y z hy
                        rw [hy] at h2
                        split at h
                        · split at h
                          · cases h; simp at h1 h2 ⊢; omega
                          · split at h
                            · cases h
                            · cases h; simp at h1 h2 ⊢; omega
                        · cases h
                    · cases h
          · cases h; exact Nat.le_refl _
theorem row_lessF {atom : List Nat → Rd} (ha : Less atom) : ∀ {n : Nat} {l : List Nat} {p : Pat} {r : List Nat}, rowF atom n l = some (p, r) → r.length ≤ l.length
  | 0, _, _, _, h => by cases h
  | _ + 1, [], _, _, h => by unfold rowF at h; cases h; exact Nat.le_refl _
  | n + 1, c :: t, p, r, h => by
    unfold rowF at h
    split at h
    · cases h; exact Nat.le_refl _
    · split at h
      · cases h
      · rename_i a r1 hat
        have h1 := ha _ _ _ hat
        split at h
        · cases h
        · rename_i lo hi r2 ho
          have h2 := often_le ho
          split at h
          · cases h
          · rename_i row r3 hr
            have h3 := row_lessF ha hr
            cases h
            omega
theorem row_less {atom : List Nat → Rd} (ha : Less atom) : LessEq (rowL atom) := fun _ _ _ h => row_lessF ha h
theorem row_fuel {atom : List Nat → Rd} (ha : Less atom) : ∀ {n m : Nat} {l : List Nat}, l.length < n → l.length < m → rowF atom n l = rowF atom m l
  | 0, _, _, h, _ => by omega
  | _, 0, _, _, h => by omega
  | _ + 1, _ + 1, [], _, _ => rfl
  | n + 1, m + 1, c :: t, h1, h2 => by
    unfold rowF
    split
    · rfl
    · cases hat : atom (c :: t) with
      | none => rfl
      | some x =>
        obtain ⟨a, r1⟩ := x
        have h3 := ha _ _ _ hat
        dsimp only
        cases ho : oftenL (c == 40) r1 with
        | none => rfl
        | some y =>
          obtain ⟨lo, hi, r2⟩ := y
          have h4 := often_le ho
          rw [List.length_cons] at h1 h2 h3
          dsimp only
          rw [row_fuel ha (n := n) (m := m) (l := r2) (by omega) (by omega)]
theorem rows_lessF {row : List Nat → Rd} (ha : LessEq row) : ∀ {n : Nat} {l : List Nat} {p : Pat} {r : List Nat}, rowsF row n l = some (p, r) → r.length ≤ l.length
  | 0, _, _, _, h => by cases h
  | n + 1, l, p, r, h => by
    unfold rowsF at h
    split at h
    · cases h
    · rename_i r1 v hr
      have h1 := ha _ _ _ hr
      split at h
      · cases h
      · rename_i rs r2 h2
        have h3 := rows_lessF ha h2
        cases h
        simp at h1; omega
    · rename_i r1 rest hn hr
      have h1 := ha _ _ _ hr
      cases h
      exact h1
theorem rows_less {row : List Nat → Rd} (ha : LessEq row) : LessEq (rowsL row) := fun _ _ _ h => rows_lessF ha h
theorem rows_fuel {row : List Nat → Rd} (ha : LessEq row) : ∀ {n m : Nat} {l : List Nat}, l.length < n → l.length < m → rowsF row n l = rowsF row m l
  | 0, _, _, h, _ => by omega
  | _, 0, _, _, h => by omega
  | n + 1, m + 1, l, h1, h2 => by
    unfold rowsF
    cases hr : row l with
    | none => rfl
    | some x =>
      obtain ⟨r, rest⟩ := x
      have h3 := ha _ _ _ hr
      cases rest with
      | nil => rfl
      | cons c v =>
        by_cases e : c = 124
        · subst e
          rw [List.length_cons] at h3
          simp only [rows_fuel ha (n := n) (m := m) (l := v) (by omega) (by omega)]
        · simp [e]
theorem level_less : ∀ k, Less (atomD k) ∧ LessEq (rowD k) ∧ LessEq (rowsD k)
  | 0 => by
    have h1 : Less (atomD 0) := atom_less (f := none) (fun g h => by cases h)
    have h2 : LessEq (rowD 0) := row_less h1
    exact ⟨h1, h2, by rw [rowsD_is]; exact rows_less h2⟩
  | k + 1 => by
    have ih := (level_less k).2.2
    have h1 : Less (atomD (k + 1)) := atom_less (f := some (rowsD k)) (fun g h => by cases h; exact ih)
    have h2 : LessEq (rowD (k + 1)) := row_less h1
    exact ⟨h1, h2, by rw [rowsD_is]; exact rows_less h2⟩

/-- A row, one piece at a time. -/
theorem row_nil (k : Nat) : rowD k [] = some (.eps, []) := rfl
theorem row_stop (k : Nat) {c : Nat} {t : List Nat} (h : stopN c = true) : rowD k (c :: t) = some (.eps, c :: t) := by
  show rowF _ ((c :: t).length + 1) (c :: t) = _
  rw [rowF, if_pos h]
theorem row_bad (k : Nat) {c : Nat} {t : List Nat} (h : stopN c = false) (ha : atomD k (c :: t) = none) : rowD k (c :: t) = none := by
  show rowF _ ((c :: t).length + 1) (c :: t) = _
  rw [rowF, if_neg (by rw [h]; simp), ha]
theorem row_often (k : Nat) {c : Nat} {t : List Nat} (h : stopN c = false) {a : Pat} {r1 : List Nat} (ha : atomD k (c :: t) = some (a, r1)) (ho : oftenL (c == 40) r1 = none) : rowD k (c :: t) = none := by
  show rowF _ ((c :: t).length + 1) (c :: t) = _
  rw [rowF, if_neg (by rw [h]; simp), ha]
  simp only [ho]
def consP (a : Pat) (lo : Nat) (hi : Option Nat) : Rd → Rd
  | none => none
  | some (row, r) => some (.piece a lo hi row, r)
theorem row_next (k : Nat) {c : Nat} {t : List Nat} (h : stopN c = false) {a : Pat} {r1 r2 : List Nat} {lo : Nat} {hi : Option Nat} (ha : atomD k (c :: t) = some (a, r1)) (ho : oftenL (c == 40) r1 = some (lo, hi, r2)) :
    rowD k (c :: t) = consP a lo hi (rowD k r2) ∧ r2.length < (c :: t).length := by
  have l1 := (level_less k).1 _ _ _ ha
  have l2 := often_le ho
  refine ⟨?_, by omega⟩
  show rowF _ ((c :: t).length + 1) (c :: t) = _
  rw [rowF, if_neg (by rw [h]; simp), ha]
  simp only [ho]
  rw [row_fuel (level_less k).1 (m := r2.length + 1) (by omega) (by omega)]
  show _ = consP a lo hi (rowF (atomD k) (r2.length + 1) r2)
  cases rowF (atomD k) (r2.length + 1) r2 with
  | none => rfl
  | some x => rfl
def altP (r : Pat) : Rd → Rd
  | none => none
  | some (rs, rest) => some (.alt r rs, rest)
theorem rows_none (k : Nat) {l : List Nat} (h : rowD k l = none) : rowsD k l = none := by
  rw [rowsD_is]
  show rowsF _ (l.length + 1) l = none
  rw [rowsF]
  simp only [h]
theorem rows_bar (k : Nat) {l v : List Nat} {r : Pat} (h : rowD k l = some (r, 124 :: v)) : rowsD k l = altP r (rowsD k v) := by
  have l1 := (level_less k).2.1 _ _ _ h
  rw [List.length_cons] at l1
  rw [rowsD_is]
  show rowsF _ (l.length + 1) l = altP r (rowsF _ (v.length + 1) v)
  rw [rowsF]
  simp only [h]
  rw [rows_fuel (level_less k).2.1 (m := v.length + 1) (by omega) (by omega)]
  cases rowsF (rowD k) (v.length + 1) v with
  | none => rfl
  | some x => rfl
theorem rows_one (k : Nat) {l rest : List Nat} {r : Pat} (h : rowD k l = some (r, rest)) (hn : rest.head? ≠ some 124) : rowsD k l = some (r, rest) := by
  rw [rowsD_is]
  show rowsF _ (l.length + 1) l = _
  rw [rowsF]
  simp only [h]
  cases rest with
  | nil => rfl
  | cons c v =>
    have : ¬ c = 124 := fun e => hn (by rw [e]; rfl)
    simp [this]

end Go.Proofs.YtncljgpcloanfaaDoor
