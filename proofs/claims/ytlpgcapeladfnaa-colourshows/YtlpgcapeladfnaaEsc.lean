/- Escapes of texts, as lists of bytes: what sets escape, there and back, blanks told by +; plain facts of no program. No condition. -/
import Derived.Test.YtlpgcapeladfnaaKit
import Derived.Lib.Replace
namespace Go.Proofs.Ytlpgcapeladfnaa
open Go.RowKit

def repA (old new s : List UInt8) : List UInt8 := Lib.replaceK old new (Lib.count s old) s
theorem repA_all {old new : List UInt8} (h : old ≠ new) (s : List UInt8) : Lib.replaceAll s old new = repA old new s := by
  unfold Lib.replaceAll Lib.replace
  rw [if_neg (by simpa using h)]
  unfold Lib.replaceNum
  rw [if_pos (.inl (by decide))]; rfl
theorem repA_nil {old new : List UInt8} (h : old ≠ []) : repA old new [] = [] := by
  have : Lib.index [] old = -1 := by
    unfold Lib.index; rw [if_neg (by simpa using h)]
  unfold repA; rw [Lib.count_miss this]; rfl
theorem repA_hit {old new : List UInt8} (h : old ≠ []) (r : List UInt8) : repA old new (old ++ r) = new ++ repA old new r := by
  have hi : Lib.index (old ++ r) old = (0 : Nat) := Lib.index_first (Nat.zero_le _) (by simp [Lib.occAt]) (fun _ h => absurd h (Nat.not_lt_zero _))
  unfold repA
  rw [Lib.count_hit h hi, Nat.add_comm 1, Lib.replaceK_hit _ _ _ _ 0 hi]
  simp
theorem repA_miss {old new : List UInt8} (h : old ≠ []) (c : UInt8) (l : List UInt8) (hp : old.isPrefixOf (c :: l) = false) : repA old new (c :: l) = c :: repA old new l := by
  have e : Lib.index (c :: l) old = if Lib.index l old == -1 then -1 else Lib.index l old + 1 := by
    show (if old.isPrefixOf (c :: l) = true then (0 : Int) else _) = _
    rw [if_neg (by rw [hp]; decide)]
  have ge := Lib.index_ge l old
  by_cases g : Lib.index l old = -1
  · have e1 : Lib.index (c :: l) old = -1 := by rw [e, g]; rfl
    unfold repA; rw [Lib.count_miss g, Lib.count_miss e1]; rfl
  · obtain ⟨i, hi⟩ : ∃ i : Nat, Lib.index l old = i := ⟨(Lib.index l old).toNat, by omega⟩
    have e1 : Lib.index (c :: l) old = ((i + 1 : Nat) : Int) := by
      rw [e, if_neg (by simpa using g), hi]; rfl
    unfold repA
    rw [Lib.count_hit h hi, Lib.count_hit h e1, Nat.add_comm 1, Nat.add_comm 1, Lib.replaceK_hit _ _ _ _ i hi, Lib.replaceK_hit _ _ _ _ (i + 1) e1]
    have e2 : i + 1 + old.length = (i + old.length) + 1 := by omega
    rw [e2]; simp

/-- Does the byte stand in the list? -/
def hasB (l : List UInt8) (c : UInt8) : Bool := l.contains c

def querySg : List UInt8 := [32, 34, 35, 60, 62]
def pathSg : List UInt8 := [32, 34, 35, 60, 62, 63, 94, 123, 125, 96]
def userSg : List UInt8 := [32, 34, 35, 60, 62, 63, 94, 123, 125, 96, 47, 58, 59, 61, 64, 91, 92, 93, 124]
def partSg : List UInt8 := [32, 34, 35, 60, 62, 63, 94, 123, 125, 96, 47, 58, 59, 61, 64, 91, 92, 93, 124, 36, 37, 38, 43, 44]
def formSg : List UInt8 := [42, 45, 46, 95]
def signsOf : Nat → List UInt8
  | 1 => [32, 34, 60, 62, 96]
  | 2 => [32, 34, 35, 60, 62]
  | 3 => [32, 34, 35, 60, 62, 39]
  | 4 => pathSg
  | 5 => userSg
  | 6 => partSg
  | _ => []
def plainB (c : UInt8) : Bool := decide (48 ≤ c.toNat ∧ c.toNat ≤ 57 ∨ 65 ≤ c.toNat ∧ c.toNat ≤ 90 ∨ 97 ≤ c.toNat ∧ c.toNat ≤ 122)
def stays (c : UInt8) : Bool := plainB c || hasB formSg c
def ctl (c : UInt8) : Bool := decide (c.toNat < 32 ∨ 126 < c.toNat)
/-- Does the set escape the byte? -/
def escB (set : Int) (c : UInt8) : Bool := decide (0 ≤ set ∧ set ≤ 7) && (ctl c || if set = 7 then !stays c else hasB (signsOf set.toNat) c)

theorem escB_no {set : Int} (c : UInt8) (h : ¬ (0 ≤ set ∧ set ≤ 7)) : escB set c = false := by
  unfold escB; rw [decide_eq_false h]; rfl
theorem escB_ctl {set : Int} {c : UInt8} (h : 0 ≤ set ∧ set ≤ 7) (hc : c.toNat < 32 ∨ 126 < c.toNat) : escB set c = true := by
  unfold escB ctl; rw [decide_eq_true h, decide_eq_true hc]; rfl
theorem escB_form {c : UInt8} (hc : ¬ (c.toNat < 32 ∨ 126 < c.toNat)) : escB 7 c = !stays c := by
  unfold escB ctl; rw [decide_eq_false hc]; rfl
theorem escB_sign {set : Int} {c : UInt8} (h : 0 ≤ set ∧ set ≤ 6) (hc : ¬ (c.toNat < 32 ∨ 126 < c.toNat)) : escB set c = hasB (signsOf set.toNat) c := by
  unfold escB ctl; rw [decide_eq_false hc, decide_eq_true (by omega), if_neg (by omega)]; rfl
theorem escB_form_all : ∀ c : UInt8, escB 7 c = (!plainB c && !hasB formSg c) := by
  intro c
  have : ∀ n : Fin 256, escB 7 (UInt8.ofNat n.val) = (!plainB (UInt8.ofNat n.val) && !hasB formSg (UInt8.ofNat n.val)) := by decide +kernel
  have h := this ⟨c.toNat, c.toNat_lt⟩
  simpa using h

def hexD (n : Nat) : UInt8 := if n < 10 then UInt8.ofNat (48 + n) else UInt8.ofNat (55 + n)
def hexV (c : UInt8) : Int := if 48 ≤ c.toNat ∧ c.toNat ≤ 57 then c.toNat - 48 else if 65 ≤ c.toNat ∧ c.toNat ≤ 70 then c.toNat - 55 else if 97 ≤ c.toNat ∧ c.toNat ≤ 102 then c.toNat - 87 else -1
theorem hexV_lt (c : UInt8) : hexV c < 16 := by unfold hexV; split; omega; split; omega; split; omega; decide
theorem hexV_ge (c : UInt8) : -1 ≤ hexV c := by unfold hexV; split; omega; split; omega; split; omega; decide
theorem hexV_hexD : ∀ n : Fin 16, hexV (hexD n.val) = n.val := by decide
theorem hexD_ne : ∀ n : Fin 16, hexD n.val ≠ 37 ∧ hexD n.val ≠ 43 := by decide
/-- The byte of two digits. -/
def two (a b : UInt8) : UInt8 := UInt8.ofNat (hexV a * 16 + hexV b).toNat
theorem two_digits (c : UInt8) : two (hexD (c.toNat / 16)) (hexD (c.toNat % 16)) = c := by
  have hc := c.toNat_lt
  have h1 := hexV_hexD ⟨c.toNat / 16, by omega⟩
  have h2 := hexV_hexD ⟨c.toNat % 16, by omega⟩
  unfold two
  simp only at h1 h2
  rw [h1, h2]
  have : (((c.toNat / 16 : Nat) : Int) * 16 + ((c.toNat % 16 : Nat) : Int)).toNat = c.toNat := by omega
  rw [this]; simp

def encB (set : Int) (c : UInt8) : List UInt8 := if escB set c then [37, hexD (c.toNat / 16), hexD (c.toNat % 16)] else [c]
def encL (set : Int) (l : List UInt8) : List UInt8 := l.flatMap (encB set)
def encS (set : Int) (s : ByteArray) : ByteArray := txt (encL set s.data.toList)
theorem encB_yes {set : Int} {c : UInt8} (h : escB set c = true) : encB set c = [37, hexD (c.toNat / 16), hexD (c.toNat % 16)] := by unfold encB; rw [if_pos h]
theorem encB_not {set : Int} {c : UInt8} (h : escB set c = false) : encB set c = [c] := by unfold encB; rw [if_neg (by rw [h]; decide)]
theorem encB_len (set : Int) (c : UInt8) : (encB set c).length ≤ 3 := by unfold encB; split <;> simp
theorem encL_cons (set : Int) (c : UInt8) (l : List UInt8) : encL set (c :: l) = encB set c ++ encL set l := rfl
theorem encL_append (set : Int) (a b : List UInt8) : encL set (a ++ b) = encL set a ++ encL set b := by unfold encL; exact List.flatMap_append
theorem encL_len (set : Int) : ∀ l : List UInt8, (encL set l).length ≤ 3 * l.length
  | [] => by simp [encL]
  | c :: l => by
    have := encL_len set l
    have := encB_len set c
    rw [encL_cons, List.length_append, List.length_cons]; omega

def headE : List UInt8 → Option UInt8
  | c :: a :: b :: _ => if c = 37 ∧ 0 ≤ hexV a ∧ 0 ≤ hexV b then some (two a b) else none
  | _ => none
def decL : List UInt8 → List UInt8
  | [] => []
  | [c] => [c]
  | [c, a] => [c, a]
  | c :: a :: b :: r => if c = 37 ∧ 0 ≤ hexV a ∧ 0 ≤ hexV b then two a b :: decL r else c :: decL (a :: b :: r)
def decS (s : ByteArray) : ByteArray := txt (decL s.data.toList)
theorem headE3 (c a b : UInt8) (r : List UInt8) : headE (c :: a :: b :: r) = if c = 37 ∧ 0 ≤ hexV a ∧ 0 ≤ hexV b then some (two a b) else none := rfl
theorem decL_some {l : List UInt8} {v : UInt8} (h : headE l = some v) : decL l = v :: decL (l.drop 3) ∧ 3 ≤ l.length := by
  match l, h with
  | c :: a :: b :: r, h =>
    rw [headE3] at h
    by_cases g : c = 37 ∧ 0 ≤ hexV a ∧ 0 ≤ hexV b
    · rw [if_pos g] at h
      refine ⟨?_, by simp⟩
      rw [decL, if_pos g]; cases h; rfl
    · rw [if_neg g] at h; cases h
theorem decL_none {c : UInt8} {r : List UInt8} (h : headE (c :: r) = none) : decL (c :: r) = c :: decL r := by
  match r, h with
  | [], _ => rfl
  | [a], _ => rfl
  | a :: b :: r, h =>
    rw [headE3] at h
    by_cases g : c = 37 ∧ 0 ≤ hexV a ∧ 0 ≤ hexV b
    · rw [if_pos g] at h; cases h
    · rw [decL, if_neg g]
theorem headE_ne {c : UInt8} (r : List UInt8) (h : c ≠ 37) : headE (c :: r) = none := by
  match r with
  | [] => rfl
  | [a] => rfl
  | a :: b :: r => rw [headE3, if_neg (fun g => h g.1)]
theorem headE_short {l : List UInt8} (h : l.length < 3) : headE l = none := by
  match l with
  | [] => rfl
  | [c] => rfl
  | [c, a] => rfl
  | c :: a :: b :: r => simp at h; omega
theorem headE_yes {a b : UInt8} (r : List UInt8) (ha : 0 ≤ hexV a) (hb : 0 ≤ hexV b) : headE (37 :: a :: b :: r) = some (two a b) := by
  rw [headE3, if_pos ⟨rfl, ha, hb⟩]
theorem headE_noA {c a b : UInt8} (r : List UInt8) (ha : ¬ 0 ≤ hexV a) : headE (c :: a :: b :: r) = none := by
  rw [headE3, if_neg (fun g => ha g.2.1)]
theorem headE_noB {c a b : UInt8} (r : List UInt8) (hb : ¬ 0 ≤ hexV b) : headE (c :: a :: b :: r) = none := by
  rw [headE3, if_neg (fun g => hb g.2.2)]
theorem decL_len_n : ∀ (n : Nat) (l : List UInt8), l.length ≤ n → (decL l).length ≤ l.length
  | 0, l, h => by
    have : l = [] := List.eq_nil_of_length_eq_zero (by omega)
    subst this; simp [decL]
  | n + 1, [], _ => by simp [decL]
  | n + 1, c :: r, h => by
    cases g : headE (c :: r) with
    | none =>
      have := decL_len_n n r (by simpa using h)
      rw [decL_none g]; simpa using this
    | some v =>
      have e := decL_some g
      have := decL_len_n n ((c :: r).drop 3) (by simp at h ⊢; omega)
      rw [e.1]; simp at this ⊢; omega
theorem decL_len (l : List UInt8) : (decL l).length ≤ l.length := decL_len_n _ l (Nat.le_refl _)

theorem dec_enc {set : Int} : ∀ l : List UInt8, ((37 : UInt8) ∈ l → escB set 37 = true) → decL (encL set l) = l
  | [], _ => rfl
  | c :: l, h => by
    have ih := dec_enc l (fun hm => h (List.mem_cons_of_mem _ hm))
    have hc := c.toNat_lt
    rw [encL_cons]
    cases g : escB set c with
    | true =>
      have h1 := hexV_hexD ⟨c.toNat / 16, by omega⟩
      have h2 := hexV_hexD ⟨c.toNat % 16, by omega⟩
      simp only at h1 h2
      rw [encB_yes g]
      show decL (37 :: hexD (c.toNat / 16) :: hexD (c.toNat % 16) :: encL set l) = _
      rw [(decL_some (headE_yes _ (by omega) (by omega))).1, two_digits]
      show c :: decL (encL set l) = _
      rw [ih]
    | false =>
      rw [encB_not g]
      show decL (c :: encL set l) = _
      have hne : c ≠ 37 := by
        intro e; subst e
        rw [h (List.mem_cons_self ..)] at g; cases g
      rw [decL_none (headE_ne _ hne), ih]
theorem escB_part : escB 6 37 = true := by decide
theorem escB_form37 : escB 7 37 = true := by decide

def formB (c : UInt8) : List UInt8 := if c = 32 then [43] else encB 7 c
def formL (l : List UInt8) : List UInt8 := l.flatMap formB
def formS (s : ByteArray) : ByteArray := txt (formL s.data.toList)
theorem formL_cons (c : UInt8) (l : List UInt8) : formL (c :: l) = formB c ++ formL l := rfl
theorem formL_append (a b : List UInt8) : formL (a ++ b) = formL a ++ formL b := by unfold formL; exact List.flatMap_append
def unplus (l : List UInt8) : List UInt8 := l.map fun c => if c = 43 then 32 else c
def unformS (s : ByteArray) : ByteArray := txt (decL (unplus s.data.toList))
theorem formB_len (c : UInt8) : (formB c).length ≤ 3 := by
  unfold formB; split; simp; exact encB_len _ _
theorem formL_len : ∀ l : List UInt8, (formL l).length ≤ 3 * l.length
  | [] => by simp [formL]
  | c :: l => by
    have := formL_len l
    have := formB_len c
    rw [formL_cons, List.length_append, List.length_cons]; omega

theorem digits_of_blank (c : UInt8) (h1 : hexD (c.toNat / 16) = 50) (h2 : hexD (c.toNat % 16) = 48) : c = 32 := by
  have hc := c.toNat_lt
  have k1 := hexV_hexD ⟨c.toNat / 16, by omega⟩
  have k2 := hexV_hexD ⟨c.toNat % 16, by omega⟩
  simp only at k1 k2
  rw [h1] at k1; rw [h2] at k2
  have e1 : hexV 50 = 2 := by decide
  have e2 : hexV 48 = 0 := by decide
  rw [e1] at k1; rw [e2] at k2
  have : c.toNat = (32 : UInt8).toNat := by show c.toNat = 32; omega
  exact UInt8.toNat_inj.1 this

theorem pre_ne {c : UInt8} (r : List UInt8) (h : c ≠ 37) : ([37, 50, 48] : List UInt8).isPrefixOf (c :: r) = false := by
  have : ((37 : UInt8) == c) = false := by simpa using fun e => h e.symm
  simp [List.isPrefixOf, this]
theorem rep_enc : ∀ l : List UInt8, repA [37, 50, 48] [43] (encL 7 l) = formL l
  | [] => repA_nil (by decide)
  | c :: l => by
    have ih := rep_enc l
    have hc := c.toNat_lt
    rw [encL_cons, formL_cons]
    by_cases e : c = 32
    · subst e
      have e1 : encB 7 32 = [37, 50, 48] := by decide
      rw [e1, repA_hit (by decide), ih]; rfl
    · have ef : formB c = encB 7 c := by unfold formB; rw [if_neg e]
      rw [ef]
      cases g : escB 7 c with
      | true =>
        have n1 := (hexD_ne ⟨c.toNat / 16, by omega⟩).1
        have n2 := (hexD_ne ⟨c.toNat % 16, by omega⟩).1
        have nd := fun h1 h2 => e (digits_of_blank c h1 h2)
        simp only at n1 n2
        rw [encB_yes g]
        generalize hexD (c.toNat / 16) = a at *
        generalize hexD (c.toNat % 16) = b at *
        show repA _ _ (37 :: a :: b :: encL 7 l) = 37 :: a :: b :: formL l
        have hp : ([37, 50, 48] : List UInt8).isPrefixOf (37 :: a :: b :: encL 7 l) = false := by
          by_cases ha : a = 50
          · have hb : ((48 : UInt8) == b) = false := by simpa using fun h => nd ha h.symm
            simp [List.isPrefixOf, hb]
          · have ha : ((50 : UInt8) == a) = false := by simpa using fun h => ha h.symm
            simp [List.isPrefixOf, ha]
        rw [repA_miss (by decide) _ _ hp, repA_miss (by decide) _ _ (pre_ne _ n1), repA_miss (by decide) _ _ (pre_ne _ n2), ih]
      | false =>
        rw [encB_not g]
        have hne : c ≠ 37 := by intro e; subst e; rw [escB_form37] at g; cases g
        show repA _ _ (c :: encL 7 l) = c :: formL l
        rw [repA_miss (by decide) _ _ (pre_ne _ hne), ih]
theorem rep_plus : ∀ l : List UInt8, repA [43] [32] l = unplus l
  | [] => repA_nil (by decide)
  | c :: l => by
    have ih := rep_plus l
    by_cases e : c = 43
    · subst e
      have := repA_hit (old := [43]) (new := [32]) (by decide) l
      rw [show (43 : UInt8) :: l = [43] ++ l from rfl, this, ih]; rfl
    · have hp : ([43] : List UInt8).isPrefixOf (c :: l) = false := by
        have : ((43 : UInt8) == c) = false := by simpa using fun h => e h.symm
        simp [List.isPrefixOf, this]
      rw [repA_miss (by decide) _ _ hp, ih]
      unfold unplus; rw [List.map_cons, if_neg e]

theorem unplus_append (a b : List UInt8) : unplus (a ++ b) = unplus a ++ unplus b := by simp [unplus]
theorem unform_form : ∀ l : List UInt8, decL (unplus (formL l)) = l
  | [] => rfl
  | c :: l => by
    have ih := unform_form l
    have hc := c.toNat_lt
    rw [formL_cons, unplus_append]
    by_cases e : c = 32
    · subst e
      show decL (32 :: unplus (formL l)) = _
      rw [decL_none (headE_ne _ (by decide)), ih]
    · have ef : formB c = encB 7 c := by unfold formB; rw [if_neg e]
      rw [ef]
      cases g : escB 7 c with
      | true =>
        have n1 := (hexD_ne ⟨c.toNat / 16, by omega⟩).2
        have n2 := (hexD_ne ⟨c.toNat % 16, by omega⟩).2
        have h1 := hexV_hexD ⟨c.toNat / 16, by omega⟩
        have h2 := hexV_hexD ⟨c.toNat % 16, by omega⟩
        simp only at n1 n2 h1 h2
        have et := two_digits c
        rw [encB_yes g]
        generalize hexD (c.toNat / 16) = a at *
        generalize hexD (c.toNat % 16) = b at *
        have : unplus [37, a, b] = [37, a, b] := by simp [unplus, n1, n2]
        rw [this]
        show decL (37 :: a :: b :: unplus (formL l)) = _
        rw [(decL_some (headE_yes _ (by omega) (by omega))).1, et]
        show c :: decL (unplus (formL l)) = _
        rw [ih]
      | false =>
        rw [encB_not g]
        have hne : c ≠ 37 := by intro e; subst e; rw [escB_form37] at g; cases g
        have hne2 : c ≠ 43 := by intro e; subst e; exact absurd g (by decide)
        have : unplus [c] = [c] := by simp [unplus, hne2]
        rw [this]
        show decL (c :: unplus (formL l)) = _
        rw [decL_none (headE_ne _ hne), ih]

end Go.Proofs.Ytlpgcapeladfnaa
