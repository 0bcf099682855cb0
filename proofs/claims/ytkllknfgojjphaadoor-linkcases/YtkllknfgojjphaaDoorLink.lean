/- Addresses that are absolute, as lists of bytes: places of a sign, schemes, fine texts, hosts, servers, what the laws say of them; plain facts of no program. No condition. -/
import Derived.Test.YtkllknfgojjphaaDoorMail
import Derived.Test.YtkllknfgojjphaaDoorNum
import Derived.Test.YtkllknfgojjphaaDoorJoined
namespace Go.Proofs.YtkllknfgojjphaaDoor
open Go.RowKit

/-- The first place of a sign; the length: there is none. -/
def firstL (c : UInt8) : List UInt8 → Nat
  | [] => 0
  | x :: l => if x = c then 0 else firstL c l + 1
/-- The last place of a sign; -1: there is none. -/
def lastL (c : UInt8) : List UInt8 → Int
  | [] => -1
  | x :: l => if 0 ≤ lastL c l then lastL c l + 1 else if x = c then 0 else -1
theorem first_no {c : UInt8} : ∀ {l : List UInt8}, c ∉ l → firstL c l = l.length
  | [], _ => rfl
  | x :: l, h => by
    have hx : ¬ x = c := fun e => h (by rw [e]; exact List.mem_cons_self ..)
    rw [firstL, if_neg hx, first_no (fun e => h (List.mem_cons_of_mem _ e))]; rfl
theorem first_app {c : UInt8} : ∀ {a : List UInt8} (b : List UInt8), c ∉ a → firstL c (a ++ c :: b) = a.length
  | [], b, _ => if_pos rfl
  | x :: a, b, h => by
    have hx : ¬ x = c := fun e => h (by rw [e]; exact List.mem_cons_self ..)
    rw [List.cons_append, firstL, if_neg hx, first_app b (fun e => h (List.mem_cons_of_mem _ e))]; rfl
theorem first_le (c : UInt8) : ∀ l : List UInt8, firstL c l ≤ l.length
  | [] => Nat.le_refl _
  | x :: l => by
    have := first_le c l
    rw [firstL]
    split
    · exact Nat.zero_le _
    · rw [List.length_cons]; omega
theorem first_free (c : UInt8) : ∀ l : List UInt8, c ∉ l.take (firstL c l)
  | [] => by simp
  | x :: l => by
    rw [firstL]
    split
    · simp
    · rename_i h
      rw [List.take_succ_cons]
      intro m
      rcases List.mem_cons.1 m with e | e
      · exact h e.symm
      · exact first_free c l e
theorem first_at {c : UInt8} : ∀ {l : List UInt8}, firstL c l < l.length → l = l.take (firstL c l) ++ c :: l.drop (firstL c l + 1)
  | [], h => by cases h
  | x :: l, h => by
    by_cases e : x = c
    · rw [firstL, if_pos e, List.take_zero, List.nil_append, Nat.zero_add, List.drop_succ_cons, List.drop_zero, e]
    · rw [firstL, if_neg e, List.length_cons] at h
      have ih := first_at (c := c) (l := l) (by omega)
      rw [firstL, if_neg e, List.take_succ_cons, List.drop_succ_cons, List.cons_append, ← ih]
theorem first_mem {c : UInt8} {l : List UInt8} (h : c ∈ l) : firstL c l < l.length := by
  rcases Nat.lt_or_ge (firstL c l) l.length with g | g
  · exact g
  · have := first_free c l
    rw [List.take_of_length_le g] at this
    exact absurd h this
theorem first_before {c : UInt8} {a : List UInt8} (b : List UInt8) (h : c ∈ a) : firstL c (a ++ b) = firstL c a := by
  have hl := first_mem h
  have e := first_at hl
  have hf := first_free c a
  have h1 : (a.take (firstL c a)).length = firstL c a := by rw [List.length_take]; omega
  conv => lhs; rw [e, List.append_assoc, List.cons_append]
  rw [first_app _ hf, h1]
theorem first_behind {c : UInt8} {a : List UInt8} (b : List UInt8) (h : c ∉ a) : firstL c (a ++ b) = a.length + firstL c b := by
  induction a with
  | nil => simp
  | cons x a ih =>
    have hx : ¬ x = c := fun e => h (by rw [e]; exact List.mem_cons_self ..)
    rw [List.cons_append, firstL, if_neg hx, ih (fun e => h (List.mem_cons_of_mem _ e)), List.length_cons]; omega
theorem last_no {c : UInt8} : ∀ {l : List UInt8}, c ∉ l → lastL c l = -1
  | [], _ => rfl
  | x :: l, h => by
    have hx : ¬ x = c := fun e => h (by rw [e]; exact List.mem_cons_self ..)
    rw [lastL, last_no (fun e => h (List.mem_cons_of_mem _ e)), if_neg (by omega), if_neg hx]
theorem last_app {c : UInt8} : ∀ (a : List UInt8) {b : List UInt8}, c ∉ b → lastL c (a ++ c :: b) = a.length
  | [], b, h => by rw [List.nil_append, lastL, last_no h, if_neg (by omega), if_pos rfl]; rfl
  | x :: a, b, h => by
    rw [List.cons_append, lastL, last_app a h, if_pos (by omega), List.length_cons]; omega
theorem last_ge (c : UInt8) : ∀ l : List UInt8, -1 ≤ lastL c l
  | [] => Int.le_refl _
  | x :: l => by
    rw [lastL]
    split
    · omega
    · split <;> omega
theorem last_lt (c : UInt8) : ∀ l : List UInt8, lastL c l < l.length
  | [] => by rw [lastL]; decide
  | x :: l => by
    have := last_lt c l
    rw [lastL, List.length_cons]
    split
    · omega
    · split <;> omega
theorem last_split {c : UInt8} : ∀ {l : List UInt8}, c ∈ l → ∃ a b, l = a ++ c :: b ∧ c ∉ b
  | [], h => by cases h
  | x :: l, h => by
    by_cases m : c ∈ l
    · obtain ⟨a, b, e, hb⟩ := last_split m
      exact ⟨x :: a, b, by rw [e]; rfl, hb⟩
    · rcases List.mem_cons.1 h with e | e
      · exact ⟨[], l, by rw [e]; rfl, m⟩
      · exact absurd e m
theorem last_neg {c : UInt8} {l : List UInt8} (h : lastL c l < 0) : c ∉ l := by
  intro m
  obtain ⟨a, b, e, hb⟩ := last_split m
  rw [e, last_app a hb] at h
  omega
theorem last_behind {c : UInt8} {a : List UInt8} {b : List UInt8} (h : c ∉ b) : lastL c (a ++ b) = lastL c a := by
  by_cases m : c ∈ a
  · obtain ⟨x, y, e, hy⟩ := last_split m
    have : c ∉ y ++ b := fun m2 => by
      rcases List.mem_append.1 m2 with g | g
      · exact hy g
      · exact h g
    rw [e, List.append_assoc, List.cons_append, last_app x this, last_app x hy]
  · rw [last_no m, last_no (fun m2 => by
      rcases List.mem_append.1 m2 with g | g
      · exact m g
      · exact h g)]

/-- Schemes. -/
def schSg : List UInt8 := [43, 45, 46]
def schC (c : UInt8) : Bool := plainB c || hasB schSg c
def alphaB (c : UInt8) : Bool := plainB c && !isDg c
def schOk (l : List UInt8) : Bool := decide (0 < firstL 58 l ∧ firstL 58 l < l.length) && (alphaB (l.getD 0 0) && (l.take (firstL 58 l)).all schC)
def schL (l : List UInt8) : List UInt8 := if schOk l then lowL (l.take (firstL 58 l)) else []
theorem schC_58 : schC 58 = false := by decide
theorem schC_35 : schC 35 = false := by decide
theorem schC_63 : schC 63 = false := by decide

/-- Fine texts. -/
def fineSg : List UInt8 := [33, 36, 38, 39, 40, 41, 42, 43, 44, 45, 46, 47, 58, 59, 61, 63, 64, 95, 126]
def signC (c : UInt8) : Bool := decide (128 ≤ c.toNat) || (plainB c || hasB fineSg c)
def hexOk (c : UInt8) : Bool := decide (0 ≤ hexV c)
def fineB : List UInt8 → Bool
  | [] => true
  | c :: l => if c = 37 then (match l with
      | a :: b :: t => hexOk a && hexOk b && fineB t
      | _ => false) else signC c && fineB l
def fineL (l : List UInt8) : Bool := Lib.validD l && fineB l
theorem fineB_sign {c : UInt8} (l : List UInt8) (h : ¬ c = 37) : fineB (c :: l) = (signC c && fineB l) := by
  rcases l with _ | ⟨a, _ | ⟨b, t⟩⟩ <;> simp [fineB, h]
theorem fineB_hex (a b : UInt8) (t : List UInt8) : fineB (37 :: a :: b :: t) = (hexOk a && hexOk b && fineB t) := by rw [fineB, if_pos rfl]
theorem fineB_short {l : List UInt8} (h : l.length < 2) : fineB (37 :: l) = false := by
  rcases l with _ | ⟨a, _ | ⟨b, t⟩⟩
  · simp [fineB]
  · simp [fineB]
  · simp at h; omega
theorem fineB_app (b : List UInt8) : ∀ (n : Nat) (a : List UInt8), a.length ≤ n → fineB a = true → fineB (a ++ b) = fineB b
  | _, [], _, _ => rfl
  | 0, x :: a, h, _ => by simp at h
  | n + 1, x :: a, h, hf => by
    by_cases e : x = 37
    · subst e
      match a, h, hf with
      | [], _, hf => rw [fineB_short (by simp)] at hf; cases hf
      | [_], _, hf => rw [fineB_short (by simp)] at hf; cases hf
      | p :: q :: t, h, hf =>
        rw [fineB_hex, Bool.and_eq_true] at hf
        show fineB (37 :: p :: q :: (t ++ b)) = _
        rw [fineB_hex, hf.1, Bool.true_and]
        exact fineB_app b n t (by simp at h; omega) hf.2
    · rw [fineB_sign _ e, Bool.and_eq_true] at hf
      rw [List.cons_append, fineB_sign _ e, hf.1, Bool.true_and]
      exact fineB_app b n a (by simp at h; omega) hf.2
/-- Two fine texts joined are fine. -/
theorem fine_app {a b : List UInt8} (ha : fineL a = true) (hb : fineL b = true) : fineL (a ++ b) = true := by
  unfold fineL at *
  rw [Bool.and_eq_true] at ha hb ⊢
  exact ⟨by rw [(joined_L b _ a (Nat.le_refl _) ha.1).2]; exact hb.1, by rw [fineB_app b _ a (Nat.le_refl _) ha.2]; exact hb.2⟩

/-- Digits and their number, held at a million. -/
def digitsL (l : List UInt8) : Bool := !l.isEmpty && l.all isDg
def valStep (n : Nat) (c : UInt8) : Nat := if n < 1000000 then 10 * n + (c.toNat - 48) else n
def valueL (l : List UInt8) : Nat := l.foldl valStep 0

/-- Groups of an address of six. -/
def groupOk (p : List UInt8) : Bool := decide (1 ≤ p.length ∧ p.length ≤ 4) && p.all hexOk
def groupsL (l : List UInt8) : Int := if l = [] then 0 else if (splitL 58 l).all groupOk then ((splitL 58 l).length : Int) else -1
/-- Cut at the first two colons. -/
def dblAt (l : List UInt8) (k : Nat) : Bool := l.getD k 0 == 58 && (l.getD (k + 1) 0 == 58 && decide (k + 1 < l.length))
def firstDbl : List UInt8 → Option Nat
  | [] => none
  | x :: l => if x = 58 ∧ l.head? = some 58 then some 0 else (firstDbl l).map (· + 1)
def sixL (l : List UInt8) : Bool :=
  match firstDbl l with
  | some k => decide (0 ≤ groupsL (l.take k)) && (decide (0 ≤ groupsL (l.drop (k + 2))) && decide (groupsL (l.take k) + groupsL (l.drop (k + 2)) < 8))
  | none => decide (groupsL l = 8)

/-- Names. -/
def nameC (c : UInt8) : Bool := decide (128 ≤ c.toNat) || (plainB c || (c == 45 || c == 95))
def labOk (p : List UInt8) : Bool := !p.isEmpty && p.all nameC
def octOk (p : List UInt8) : Bool := digitsL p && (decide (p.length ≤ 3) && decide (valueL p ≤ 255))
/-- How many labels count: not a last one that is empty, if another is ahead of it. -/
def labN (ps : List (List UInt8)) : Nat := if 1 < ps.length ∧ ps.getD (ps.length - 1) [] = [] then ps.length - 1 else ps.length
def nameP (ps : List (List UInt8)) : Bool := (ps.take (labN ps)).all labOk && (!digitsL (ps.getD (labN ps - 1) []) || (decide (labN ps = 4 ∧ ps.length = 4) && ps.all octOk))
def nameL (l : List UInt8) : Bool := Lib.validD l && nameP (splitL 46 l)
def hostL (l : List UInt8) : Bool := if l.getD 0 0 = 91 then decide (1 < l.length) && (l.getD (l.length - 1) 0 == 93 && sixL ((l.take (l.length - 1)).drop 1)) else nameL l

/-- What stands ahead of a host, a host, a port. -/
def portOk (p : List UInt8) : Bool := p.isEmpty || (digitsL p && decide (valueL p ≤ 65535))
def portL (l : List UInt8) : Bool := if lastL 93 l < lastL 58 l then portOk (l.drop ((lastL 58 l).toNat + 1)) && hostL (l.take (lastL 58 l).toNat) else hostL l
def serverL (l : List UInt8) : Bool := if 0 ≤ lastL 64 l then fineL (l.take (lastL 64 l).toNat) && (decide ((firstL 64 l : Int) = lastL 64 l) && portL (l.drop ((lastL 64 l).toNat + 1))) else portL l

/-- The whole. -/
def spec (c : List UInt8) : Bool := c == [102, 116, 112] || (c == [104, 116, 116, 112] || (c == [104, 116, 116, 112, 115] || (c == [119, 115] || c == [119, 115, 115])))
def locl (c : List UInt8) : Bool := c == [102, 105, 108, 101]
def tailOk (c : UInt8) (l : List UInt8) : Bool := decide (l.length ≤ firstL c l) || fineL (l.drop (firstL c l + 1))
def headL (c : UInt8) (l : List UInt8) : List UInt8 := l.take (firstL c l)
def twoB (p : List UInt8) : Bool := decide (1 < p.length) && (p.getD 0 0 == 47 && p.getD 1 0 == 47)
def nameOf (p : List UInt8) : List UInt8 := (p.drop 2).take (firstL 47 (p.drop 2))
def pathOf (p : List UInt8) : List UInt8 := (p.drop 2).drop (firstL 47 (p.drop 2))
def coreL (sc p : List UInt8) : Bool :=
  if twoB p then fineL (pathOf p) && (if spec sc then serverL (nameOf p) else if locl sc then (nameOf p).isEmpty || hostL (nameOf p) else (nameOf p).isEmpty || serverL (nameOf p))
  else fineL p && (if spec sc then false else if locl sc then !p.isEmpty && p.getD 0 0 == 47 else true)
def bodyL (sc r : List UInt8) : Bool := tailOk 35 r && (tailOk 63 (headL 35 r) && coreL sc (headL 63 (headL 35 r)))
def absL (l : List UInt8) : Bool := schOk l && bodyL (schL l) (l.drop (firstL 58 l + 1))

theorem head_none {c : UInt8} {l : List UInt8} (h : c ∉ l) : headL c l = l ∧ tailOk c l = true := by
  unfold headL tailOk
  rw [first_no h, List.take_length, decide_eq_true (Nat.le_refl _)]
  exact ⟨rfl, rfl⟩
theorem head_cut {c : UInt8} {a : List UInt8} (b : List UInt8) (h : c ∉ a) : headL c (a ++ c :: b) = a ∧ tailOk c (a ++ c :: b) = fineL b := by
  unfold headL tailOk
  rw [first_app b h, List.take_left' rfl, decide_eq_false (by simp), Bool.false_or]
  refine ⟨rfl, ?_⟩
  rw [show a ++ c :: b = (a ++ [c]) ++ b by simp, List.drop_left' (by simp)]

theorem alpha_low : ∀ c : UInt8, alphaB (lowB c) = alphaB c := by
  intro c
  have : ∀ n : Fin 256, alphaB (lowB (UInt8.ofNat n.val)) = alphaB (UInt8.ofNat n.val) := by decide +kernel
  have h := this ⟨c.toNat, c.toNat_lt⟩
  simpa using h
theorem schC_low : ∀ c : UInt8, schC (lowB c) = schC c := by
  intro c
  have : ∀ n : Fin 256, schC (lowB (UInt8.ofNat n.val)) = schC (UInt8.ofNat n.val) := by decide +kernel
  have h := this ⟨c.toNat, c.toNat_lt⟩
  simpa using h
theorem low_58 : ∀ c : UInt8, lowB c = 58 → c = 58 := by
  intro c
  have : ∀ n : Fin 256, lowB (UInt8.ofNat n.val) = 58 → UInt8.ofNat n.val = 58 := by decide +kernel
  have h := this ⟨c.toNat, c.toNat_lt⟩
  simpa using h
theorem low_free {l : List UInt8} (h : (58 : UInt8) ∉ l) : (58 : UInt8) ∉ lowL l := by
  intro m
  obtain ⟨c, hc, e⟩ := List.mem_map.1 m
  exact h (by rw [← low_58 c e]; exact hc)
/-- A scheme by what stands ahead of the colon. -/
theorem sch_cut {a : List UInt8} (b : List UInt8) (h : (58 : UInt8) ∉ a) : schOk (a ++ 58 :: b) = (!a.isEmpty && (alphaB (a.getD 0 0) && a.all schC)) ∧ firstL 58 (a ++ 58 :: b) = a.length ∧ (a ++ 58 :: b).take a.length = a ∧ (a ++ 58 :: b).drop (a.length + 1) = b ∧ (a ++ 58 :: b).drop a.length = 58 :: b := by
  refine ⟨?_, first_app b h, List.take_left' rfl, by rw [show a ++ 58 :: b = (a ++ [58]) ++ b by simp, List.drop_left' (by simp)], List.drop_left' rfl⟩
  unfold schOk
  rw [first_app b h, List.take_left' rfl]
  cases a with
  | nil => rfl
  | cons x a =>
    rw [decide_eq_true (by simp)]
    rfl
theorem sch_none {l : List UInt8} (h : (58 : UInt8) ∉ l) : schOk l = false := by
  unfold schOk
  rw [first_no h, decide_eq_false (by omega)]; rfl
theorem schL_cut {a : List UInt8} (b : List UInt8) (h : (58 : UInt8) ∉ a) (ok : schOk (a ++ 58 :: b) = true) : schL (a ++ 58 :: b) = lowL a := by
  unfold schL
  rw [if_pos ok, (sch_cut b h).2.1, (sch_cut b h).2.2.1]
theorem abs_cut {a : List UInt8} (b : List UInt8) (h : (58 : UInt8) ∉ a) : absL (a ++ 58 :: b) = ((!a.isEmpty && (alphaB (a.getD 0 0) && a.all schC)) && bodyL (lowL a) b) := by
  have ⟨h1, h2, h3, h4, h5⟩ := sch_cut b h
  unfold absL
  rw [h2, h4]
  cases ok : schOk (a ++ 58 :: b) with
  | false => rw [h1] at ok; rw [ok]; rfl
  | true =>
    rw [schL_cut b h ok]
    rw [h1] at ok
    rw [ok]
theorem lowL_all (a : List UInt8) : (lowL a).all schC = a.all schC := by
  unfold lowL
  rw [List.all_map]
  congr 1
  funext c
  exact schC_low c
theorem lowL_head (a : List UInt8) (h : a ≠ []) : alphaB ((lowL a).getD 0 0) = alphaB (a.getD 0 0) := by
  cases a with
  | nil => exact absurd rfl h
  | cons x a => exact alpha_low x
theorem first_cases (c : UInt8) (l : List UInt8) : c ∉ l ∨ ∃ a b, l = a ++ c :: b ∧ c ∉ a := by
  by_cases m : c ∈ l
  · exact .inr ⟨_, _, first_at (first_mem m), first_free c l⟩
  · exact .inl m
/-- Another case of the scheme's letters changes nothing. -/
theorem abs_cases {l : List UInt8} (h : schOk l = true) : absL (schL l ++ l.drop (schL l).length) = absL l := by
  rcases first_cases 58 l with m | ⟨a, b, rfl, ha⟩
  · rw [sch_none m] at h; cases h
  · rw [schL_cut b ha h, lowL_length, (sch_cut b ha).2.2.2.2, abs_cut b (low_free ha), abs_cut b ha, lowL_all, lowL_lowL]
    cases a with
    | nil => rfl
    | cons x a => rw [lowL_head _ (by simp)]; rfl
theorem abs_none {l : List UInt8} (h : schOk l = false) : absL l = false := by unfold absL; rw [h]; rfl
theorem all_not {a : List UInt8} {c : UInt8} (m : c ∈ a) (h : schC c = false) : a.all schC = false := by
  rw [List.all_eq_false]
  exact ⟨c, m, by rw [h]; simp⟩
/-- A text behind a new #. -/
theorem abs_hash {s : List UInt8} (more : List UInt8) (h : (35 : UInt8) ∉ s) : absL (s ++ 35 :: more) = (absL s && fineL more) := by
  rcases first_cases 58 s with m | ⟨a, b, rfl, ha⟩
  · rw [abs_none (sch_none m), Bool.false_and]
    rcases first_cases 58 more with m2 | ⟨a, b, rfl, ha⟩
    · refine abs_none (sch_none fun x => ?_)
      rcases List.mem_append.1 x with x | x
      · exact m x
      · rcases List.mem_cons.1 x with x | x
        · cases x
        · exact m2 x
    · have : (58 : UInt8) ∉ s ++ 35 :: a := fun x => by
        rcases List.mem_append.1 x with x | x
        · exact m x
        · rcases List.mem_cons.1 x with x | x
          · cases x
          · exact ha x
      rw [show s ++ 35 :: (a ++ 58 :: b) = (s ++ 35 :: a) ++ 58 :: b by simp, abs_cut b this, all_not (c := 35) (by simp) schC_35]
      simp
  · have hb : (35 : UInt8) ∉ b := fun x => h (List.mem_append.2 (.inr (List.mem_cons_of_mem _ x)))
    rw [show a ++ 58 :: b ++ 35 :: more = a ++ 58 :: (b ++ 35 :: more) by simp, abs_cut _ ha, abs_cut _ ha]
    have ⟨e1, e2⟩ := head_cut more hb
    have ⟨e3, e4⟩ := head_none hb
    unfold bodyL
    rw [e1, e2, e3, e4, Bool.true_and]
    ac_rfl
theorem abs_ask {s : List UInt8} {more : List UInt8} (h : (35 : UInt8) ∉ s) (h2 : (63 : UInt8) ∉ s) (h3 : (35 : UInt8) ∉ more) : absL (s ++ 63 :: more) = (absL s && fineL more) := by
  rcases first_cases 58 s with m | ⟨a, b, rfl, ha⟩
  · rw [abs_none (sch_none m), Bool.false_and]
    rcases first_cases 58 more with m2 | ⟨a, b, rfl, ha⟩
    · refine abs_none (sch_none fun x => ?_)
      rcases List.mem_append.1 x with x | x
      · exact m x
      · rcases List.mem_cons.1 x with x | x
        · cases x
        · exact m2 x
    · have : (58 : UInt8) ∉ s ++ 63 :: a := fun x => by
        rcases List.mem_append.1 x with x | x
        · exact m x
        · rcases List.mem_cons.1 x with x | x
          · cases x
          · exact ha x
      rw [show s ++ 63 :: (a ++ 58 :: b) = (s ++ 63 :: a) ++ 58 :: b by simp, abs_cut b this, all_not (c := 63) (by simp) schC_63]
      simp
  · have hb : (35 : UInt8) ∉ b := fun x => h (List.mem_append.2 (.inr (List.mem_cons_of_mem _ x)))
    have hq : (63 : UInt8) ∉ b := fun x => h2 (List.mem_append.2 (.inr (List.mem_cons_of_mem _ x)))
    have hbm : (35 : UInt8) ∉ b ++ 63 :: more := fun x => by
      rcases List.mem_append.1 x with x | x
      · exact hb x
      · rcases List.mem_cons.1 x with x | x
        · cases x
        · exact h3 x
    rw [show a ++ 58 :: b ++ 63 :: more = a ++ 58 :: (b ++ 63 :: more) by simp, abs_cut _ ha, abs_cut _ ha]
    have ⟨e1, e2⟩ := head_none hbm
    have ⟨e3, e4⟩ := head_none hb
    have ⟨e5, e6⟩ := head_cut more hq
    have ⟨e7, e8⟩ := head_none hq
    unfold bodyL
    rw [e1, e2, e3, e4, e5, e6, e7, e8, Bool.true_and, Bool.true_and, Bool.true_and]
    ac_rfl

/-- A host ahead of which nothing stands: no @, and no colon but within [ and ]. -/
structure Shut (l : List UInt8) : Prop where
  no64 : (64 : UInt8) ∉ l
  no47 : (47 : UInt8) ∉ l
  no63 : (63 : UInt8) ∉ l
  no35 : (35 : UInt8) ∉ l
  col : ∀ a b, l = a ++ 58 :: b → l.getD 0 0 = 91 ∧ (93 : UInt8) ∉ a
theorem host_open {l : List UInt8} (h0 : l.getD 0 0 = 91) (h : (93 : UInt8) ∉ l) : hostL l = false := by
  unfold hostL
  rw [if_pos h0]
  cases d : decide (1 < l.length) with
  | false => rfl
  | true =>
    have d := of_decide_eq_true d
    have : (l.getD (l.length - 1) 0 == 93) = false := by
      rw [beq_eq_false_iff_ne]
      intro e
      refine h ?_
      rw [← e, show l.getD (l.length - 1) 0 = l[l.length - 1]'(by omega) by simp [List.getD, show l.length - 1 < l.length by omega]]
      exact List.getElem_mem _
    rw [this]; rfl
theorem shut_port {l : List UInt8} (h : Shut l) : portL l = hostL l := by
  unfold portL
  split
  · rename_i g
    have g2 := last_ge 93 l
    have m : (58 : UInt8) ∈ l := by
      rcases first_cases 58 l with m | ⟨a, b, e, _⟩
      · rw [last_no m] at g; omega
      · rw [e]; simp
    obtain ⟨a, b, e, hb⟩ := last_split m
    have hc : lastL 58 l = a.length := by rw [e]; exact last_app a hb
    have ⟨h0, h93⟩ := h.col a b e
    have hb93 : (93 : UInt8) ∉ b := by
      intro mb
      obtain ⟨x, y, e2, hy⟩ := last_split mb
      have : lastL 93 l = ((a ++ 58 :: x).length : Nat) := by
        rw [e, e2, show a ++ 58 :: (x ++ 93 :: y) = (a ++ 58 :: x) ++ 93 :: y by simp]
        exact last_app _ hy
      rw [this, hc, List.length_append] at g
      omega
    have hl : (93 : UInt8) ∉ l := by
      rw [e]
      intro x
      rcases List.mem_append.1 x with x | x
      · exact h93 x
      · rcases List.mem_cons.1 x with x | x
        · cases x
        · exact hb93 x
    have h1 : hostL (l.take (lastL 58 l).toNat) = false := by
      refine host_open ?_ (fun x => hl (List.mem_of_mem_take x))
      rw [hc]
      rw [e] at h0 ⊢
      rw [show ((a.length : Int)).toNat = a.length by omega, List.take_left' rfl]
      cases a with
      | nil => cases h0
      | cons x a => exact h0
    rw [h1, Bool.and_false, host_open h0 hl]
  · rfl
theorem shut_server {l : List UInt8} (h : Shut l) : serverL l = hostL l := by
  unfold serverL
  rw [last_no h.no64, if_neg (by omega)]
  exact shut_port h
theorem shut_server_port {l d : List UInt8} (h : Shut l) (hd : portOk d = true) (h64 : (64 : UInt8) ∉ d) (h58 : (58 : UInt8) ∉ d) (h93 : (93 : UInt8) ∉ d) : serverL (l ++ 58 :: d) = hostL l := by
  have e64 : (64 : UInt8) ∉ l ++ 58 :: d := fun x => by
    rcases List.mem_append.1 x with x | x
    · exact h.no64 x
    · rcases List.mem_cons.1 x with x | x
      · cases x
      · exact h64 x
  have e93 : (93 : UInt8) ∉ 58 :: d := fun x => by
    rcases List.mem_cons.1 x with x | x
    · cases x
    · exact h93 x
  have l1 : lastL 58 (l ++ 58 :: d) = l.length := last_app l h58
  have l2 : lastL 93 (l ++ 58 :: d) = lastL 93 l := last_behind e93
  have l3 := last_lt 93 l
  unfold serverL
  rw [last_no e64, if_neg (by omega)]
  unfold portL
  rw [l1, l2, if_pos (by omega), show ((l.length : Int)).toNat = l.length by omega, List.take_left' rfl, show l ++ 58 :: d = (l ++ [58]) ++ d by simp, List.drop_left' (by simp), hd, Bool.true_and]
theorem fine_nil : fineL [] = true := by decide
theorem fine_slash : fineL [47] = true := by decide +kernel
theorem core_http {l p : List UInt8} (h : (47 : UInt8) ∉ l) (hp : p = [] ∨ ∃ q, p = 47 :: q) (hf : fineL p = true) : coreL [104, 116, 116, 112] (47 :: 47 :: (l ++ p)) = serverL l := by
  have hk : firstL 47 (l ++ p) = l.length := by
    rcases hp with rfl | ⟨q, rfl⟩
    · rw [List.append_nil]; exact first_no h
    · exact first_app q h
  have h2 : twoB (47 :: 47 :: (l ++ p)) = true := by
    unfold twoB
    rw [decide_eq_true (by simp)]
    rfl
  unfold coreL
  have e1 : nameOf (47 :: 47 :: (l ++ p)) = l := by
    show (l ++ p).take (firstL 47 (l ++ p)) = l
    rw [hk, List.take_left' rfl]
  have e2 : pathOf (47 :: 47 :: (l ++ p)) = p := by
    show (l ++ p).drop (firstL 47 (l ++ p)) = p
    rw [hk, List.drop_left' rfl]
  rw [if_pos h2, e1, e2, hf, Bool.true_and, if_pos (by decide)]
theorem abs_http (r : List UInt8) (h1 : (35 : UInt8) ∉ r) (h2 : (63 : UInt8) ∉ r) : absL ([104, 116, 116, 112] ++ 58 :: r) = coreL [104, 116, 116, 112] r := by
  rw [abs_cut r (by decide), show lowL [104, 116, 116, 112] = [104, 116, 116, 112] by decide]
  have ⟨e1, e2⟩ := head_none h1
  have ⟨e3, e4⟩ := head_none h2
  unfold bodyL
  rw [e1, e2, e3, e4]
  rw [show (!([104, 116, 116, 112] : List UInt8).isEmpty && (alphaB (([104, 116, 116, 112] : List UInt8).getD 0 0) && ([104, 116, 116, 112] : List UInt8).all schC)) = true by decide]
  simp
/-- Of a special scheme a host is an address just if it is a host. -/
theorem http_host {l : List UInt8} (h : Shut l) : absL (104 :: 116 :: 116 :: 112 :: 58 :: 47 :: 47 :: l) = hostL l := by
  have := abs_http (47 :: 47 :: l) (by
    intro x
    rcases List.mem_cons.1 x with x | x
    · cases x
    · rcases List.mem_cons.1 x with x | x
      · cases x
      · exact h.no35 x) (by
    intro x
    rcases List.mem_cons.1 x with x | x
    · cases x
    · rcases List.mem_cons.1 x with x | x
      · cases x
      · exact h.no63 x)
  have e := core_http (p := []) h.no47 (.inl rfl) fine_nil
  rw [List.append_nil] at e
  rw [e, shut_server h] at this
  exact this
theorem http_port {l d : List UInt8} (h : Shut l) (hd : portOk d = true) (hg : ∀ c ∈ d, isDg c = true) : absL (104 :: 116 :: 116 :: 112 :: 58 :: 47 :: 47 :: (l ++ 58 :: (d ++ [47]))) = hostL l := by
  have dn : ∀ c : UInt8, isDg c = false → c ∉ d := fun c hc m => by have := hg c m; rw [hc] at this; cases this
  have mem : ∀ c : UInt8, c ∉ l → isDg c = false → c ≠ 58 → c ∉ l ++ 58 :: d := fun c h1 h2 h3 x => by
    rcases List.mem_append.1 x with x | x
    · exact h1 x
    · rcases List.mem_cons.1 x with x | x
      · exact h3 x
      · exact dn c h2 x
  have mem2 : ∀ c : UInt8, c ∉ l → isDg c = false → c ≠ 58 → c ≠ 47 → c ∉ 47 :: 47 :: (l ++ 58 :: d ++ [47]) := fun c h1 h2 h3 h4 x => by
    rcases List.mem_cons.1 x with x | x
    · exact h4 x
    · rcases List.mem_cons.1 x with x | x
      · exact h4 x
      · rcases List.mem_append.1 x with x | x
        · exact mem c h1 h2 h3 x
        · exact h4 (by simpa using x)
  have := abs_http (47 :: 47 :: (l ++ 58 :: d ++ [47])) (mem2 35 h.no35 (by decide) (by decide) (by decide)) (mem2 63 h.no63 (by decide) (by decide) (by decide))
  rw [core_http (p := [47]) (mem 47 h.no47 (by decide) (by decide)) (.inr ⟨[], rfl⟩) fine_slash, shut_server_port h hd (dn 64 (by decide)) (dn 58 (by decide)) (dn 93 (by decide))] at this
  rw [show l ++ 58 :: (d ++ [47]) = l ++ 58 :: d ++ [47] by simp]
  exact this

end Go.Proofs.YtkllknfgojjphaaDoor
