/- The document's Attr, SameFiles, Same of layer 14. Escapes of texts, as lists of bytes. Entries told as parts, and parts read, as functions of lists. Parts made of entries and read again. Texts searched, cut, split and replaced, in the words of parts. A text that is read from the left, escapes as their bytes. -/
import Derived.Test.YtnojgejcmaajmaaGreatDoorJsb17

namespace Go.Proofs.YtnojgejcmaajmaaGreatDoor
open Go.RowKit
set_option maxRecDepth 100000
set_option maxHeartbeats 4000000 in
set_option maxRecDepth 100000 in
theorem refSameFiles_yes (a b : Value) (fs : List En) (w : World) (ha : FilesV w a fs) (hb : FilesV w b fs) (hl : fs.length ≤ 4398046511104) :
    Calls Tryz.prog 11 #[a, b] w fun e w' => e = .returned (.bool true) ∧ Below w.heap.size w w' := by
  obtain ⟨p, c, rfl, ha⟩ := ha
  obtain ⟨q, d, rfl, hb⟩ := hb
  have bl : ((fs.length : Int) != (fs.length : Int)) = false := by simp
  go_enter Tryz.func11, Tryz.ntmps11
  go_wp2_with fail
  go_loopw [5] (fun iv wr => ∃ k : Nat, k ≤ fs.length ∧ iv = .int .i64 k ∧ Hid (Below w.heap.size w wr)) (fun iv _ => fs.length - (intOf iv).toNat)
  case atStart => exact ⟨0, Nat.zero_le _, rfl, Below.refl _ _⟩
  case round =>
    rename World => wr
    obtain ⟨k, hk, rfl, BW⟩ := hrel
    by_cases h : k < fs.length
    · have i1 : (k : Int) < (fs.length : Int) := by omega
      have i0 : (0 : Int) ≤ (k : Int) := by omega
      rcases ha with ha | ⟨b1, o1, rfl, ha⟩
      · rw [ha] at h; simp at h
      rcases hb with hb | ⟨b2, o2, rfl, hb⟩
      · rw [hb] at h; simp at h
      have E1 := (ha k h).below BW.out
      have E2 := (hb k h).below BW.out
      obtain ⟨x0, x1, x2, x3, x4⟩ := E1
      obtain ⟨y0, y1, y2, y3, y4⟩ := E2
      generalize fs[k] = en at *
      obtain ⟨n0, n1, n2, n3, n4⟩ := en
      clear ha hb
      go_wp2_with fail
      go_quiet (fail)
      go_wp2_with fail
      go_roundw
      case rel => exact ⟨k + 1, by omega, by go_num, belR BW.out _⟩
      case measure => simp [intOf]; omega
    · obtain rfl : k = fs.length := by omega
      go_wp2_with fail
      go_ret
      exact ⟨rfl, BW.out⟩
end Go.Proofs.YtnojgejcmaajmaaGreatDoor

namespace Go.Proofs.YtnojgejcmaajmaaGreatDoor
open Go.RowKit
theorem hexV_lt (c : UInt8) : hexV c < 16 := by unfold hexV; split; omega; split; omega; split; omega; decide
/-- The byte of two digits. -/
def two (a b : UInt8) : UInt8 := UInt8.ofNat (hexV a * 16 + hexV b).toNat
theorem two_digits (c : UInt8) : two (hexD (c.toNat / 16)) (hexD (c.toNat % 16)) = c := by
  have hc := c.toNat_lt
  have h1 := hexV_hexD ⟨c.toNat / 16, by omega⟩
  have h2 := hexV_hexD ⟨c.toNat % 16, by omega⟩
  unfold two
  simp only at h1 h2
  rw [h1, h2]
  have : (((c.toNat / 16 : Nat) : Int) * 16 + ((c.toNat % 16 : Nat) : Int)).toNat = c.toNat := by omega
  rw [this]; simp
def headE : List UInt8 → Option UInt8
  | c :: a :: b :: _ => if c = 37 ∧ 0 ≤ hexV a ∧ 0 ≤ hexV b then some (two a b) else none
  | _ => none
def decL : List UInt8 → List UInt8
  | [] => []
  | [c] => [c]
  | [c, a] => [c, a]
  | c :: a :: b :: r => if c = 37 ∧ 0 ≤ hexV a ∧ 0 ≤ hexV b then two a b :: decL r else c :: decL (a :: b :: r)
def decS (s : ByteArray) : ByteArray := txt (decL s.data.toList)
theorem headE3 (c a b : UInt8) (r : List UInt8) : headE (c :: a :: b :: r) = if c = 37 ∧ 0 ≤ hexV a ∧ 0 ≤ hexV b then some (two a b) else none := rfl
theorem decL_some {l : List UInt8} {v : UInt8} (h : headE l = some v) : decL l = v :: decL (l.drop 3) ∧ 3 ≤ l.length := by
  match l, h with
  | c :: a :: b :: r, h =>
    rw [headE3] at h
    by_cases g : c = 37 ∧ 0 ≤ hexV a ∧ 0 ≤ hexV b
    · rw [if_pos g] at h
      refine ⟨?_, by simp⟩
      rw [decL, if_pos g]; cases h; rfl
    · rw [if_neg g] at h; cases h
theorem decL_none {c : UInt8} {r : List UInt8} (h : headE (c :: r) = none) : decL (c :: r) = c :: decL r := by
  match r, h with
  | [], _ => rfl
  | [a], _ => rfl
  | a :: b :: r, h =>
    rw [headE3] at h
    by_cases g : c = 37 ∧ 0 ≤ hexV a ∧ 0 ≤ hexV b
    · rw [if_pos g] at h; cases h
    · rw [decL, if_neg g]
theorem headE_ne {c : UInt8} (r : List UInt8) (h : c ≠ 37) : headE (c :: r) = none := by
  match r with
  | [] => rfl
  | [a] => rfl
  | a :: b :: r => rw [headE3, if_neg (fun g => h g.1)]
theorem headE_short {l : List UInt8} (h : l.length < 3) : headE l = none := by
  match l with
  | [] => rfl
  | [c] => rfl
  | [c, a] => rfl
  | c :: a :: b :: r => simp at h; omega
theorem headE_yes {a b : UInt8} (r : List UInt8) (ha : 0 ≤ hexV a) (hb : 0 ≤ hexV b) : headE (37 :: a :: b :: r) = some (two a b) := by
  rw [headE3, if_pos ⟨rfl, ha, hb⟩]
theorem headE_noA {c a b : UInt8} (r : List UInt8) (ha : ¬ 0 ≤ hexV a) : headE (c :: a :: b :: r) = none := by
  rw [headE3, if_neg (fun g => ha g.2.1)]
theorem headE_noB {c a b : UInt8} (r : List UInt8) (hb : ¬ 0 ≤ hexV b) : headE (c :: a :: b :: r) = none := by
  rw [headE3, if_neg (fun g => hb g.2.2)]
theorem decL_len_n : ∀ (n : Nat) (l : List UInt8), l.length ≤ n → (decL l).length ≤ l.length
  | 0, l, h => by
    have : l = [] := List.eq_nil_of_length_eq_zero (by omega)
    subst this; simp [decL]
  | n + 1, [], _ => by simp [decL]
  | n + 1, c :: r, h => by
    cases g : headE (c :: r) with
    | none =>
      have := decL_len_n n r (by simpa using h)
      rw [decL_none g]; simpa using this
    | some v =>
      have e := decL_some g
      have := decL_len_n n ((c :: r).drop 3) (by simp at h ⊢; omega)
      rw [e.1]; simp at this ⊢; omega
theorem decL_len (l : List UInt8) : (decL l).length ≤ l.length := decL_len_n _ l (Nat.le_refl _)
def unplus (l : List UInt8) : List UInt8 := l.map fun c => if c = 43 then 32 else c
def unformS (s : ByteArray) : ByteArray := txt (decL (unplus s.data.toList))
theorem rep_plus : ∀ l : List UInt8, repA [43] [32] l = unplus l
  | [] => repA_nil (by decide)
  | c :: l => by
    have ih := rep_plus l
    by_cases e : c = 43
    · subst e
      have := repA_hit (old := [43]) (new := [32]) (by decide) l
      rw [show (43 : UInt8) :: l = [43] ++ l from rfl, this, ih]; rfl
    · have hp : ([43] : List UInt8).isPrefixOf (c :: l) = false := by
        have : ((43 : UInt8) == c) = false := by simpa using fun h => e h.symm
        simp [List.isPrefixOf, this]
      rw [repA_miss (by decide) _ _ hp, ih]
      unfold unplus; rw [List.map_cons, if_neg e]
theorem unplus_append (a b : List UInt8) : unplus (a ++ b) = unplus a ++ unplus b := by simp [unplus]
theorem unform_form : ∀ l : List UInt8, decL (unplus (formL l)) = l
  | [] => rfl
  | c :: l => by
    have ih := unform_form l
    have hc := c.toNat_lt
    rw [formL_cons, unplus_append]
    by_cases e : c = 32
    · subst e
      show decL (32 :: unplus (formL l)) = _
      rw [decL_none (headE_ne _ (by decide)), ih]
    · have ef : formB c = encB 7 c := by unfold formB; rw [if_neg e]
      rw [ef]
      cases g : escB 7 c with
      | true =>
        have n1 := (hexD_ne ⟨c.toNat / 16, by omega⟩).2
        have n2 := (hexD_ne ⟨c.toNat % 16, by omega⟩).2
        have h1 := hexV_hexD ⟨c.toNat / 16, by omega⟩
        have h2 := hexV_hexD ⟨c.toNat % 16, by omega⟩
        simp only at n1 n2 h1 h2
        have et := two_digits c
        rw [encB_yes g]
        generalize hexD (c.toNat / 16) = a at *
        generalize hexD (c.toNat % 16) = b at *
        have : unplus [37, a, b] = [37, a, b] := by simp [unplus, n1, n2]
        rw [this]
        show decL (37 :: a :: b :: unplus (formL l)) = _
        rw [(decL_some (headE_yes _ (by omega) (by omega))).1, et]
        show c :: decL (unplus (formL l)) = _
        rw [ih]
      | false =>
        rw [encB_not g]
        have hne : c ≠ 37 := by intro e; subst e; rw [escB_form37] at g; cases g
        have hne2 : c ≠ 43 := by intro e; subst e; exact absurd g (by decide)
        have : unplus [c] = [c] := by simp [unplus, hne2]
        rw [this]
        show decL (c :: unplus (formL l)) = _
        rw [decL_none (headE_ne _ hne), ih]
end Go.Proofs.YtnojgejcmaajmaaGreatDoor

namespace Go.Proofs.YtnojgejcmaajmaaGreatDoor
open Go.RowKit
def escU (c a b : UInt8) : Option UInt8 := if c = 37 ∧ a = 48 ∧ b = 65 then some 10 else if c = 37 ∧ a = 48 ∧ b = 68 then some 13 else if c = 37 ∧ a = 50 ∧ b = 50 then some 34 else none
def headU : List UInt8 → Option UInt8
  | c :: a :: b :: _ => escU c a b
  | _ => none
def unF : Nat → List UInt8 → List UInt8
  | 0, _ => []
  | _ + 1, [] => []
  | n + 1, c :: r => match headU (c :: r) with
    | some v => v :: unF n (r.drop 2)
    | none => c :: unF n r
def unL (l : List UInt8) : List UInt8 := unF l.length l
theorem unF_more : ∀ {n m : Nat} {l : List UInt8}, l.length ≤ n → l.length ≤ m → unF n l = unF m l
  | 0, 0, _, _, _ => rfl
  | 0, m + 1, [], _, _ => rfl
  | n + 1, 0, [], _, _ => rfl
  | n + 1, m + 1, [], _, _ => rfl
  | 0, m + 1, c :: r, h, _ => by simp at h
  | n + 1, 0, c :: r, _, h => by simp at h
  | n + 1, m + 1, c :: r, h, g => by
    have h : r.length ≤ n := by simpa using h
    have g : r.length ≤ m := by simpa using g
    show (match headU (c :: r) with | some v => v :: unF n (r.drop 2) | none => c :: unF n r) = (match headU (c :: r) with | some v => v :: unF m (r.drop 2) | none => c :: unF m r)
    cases headU (c :: r) with
    | some v => show v :: unF n (r.drop 2) = v :: unF m (r.drop 2); rw [unF_more (n := n) (m := m) (l := r.drop 2) (by rw [List.length_drop]; omega) (by rw [List.length_drop]; omega)]
    | none => show c :: unF n r = c :: unF m r; rw [unF_more h g]
theorem unL_nil : unL [] = [] := rfl
theorem unL_some {c v : UInt8} {r : List UInt8} (h : headU (c :: r) = some v) : unL (c :: r) = v :: unL (r.drop 2) := by
  have e : unL (c :: r) = v :: unF r.length (r.drop 2) := by
    show (match headU (c :: r) with | some v => v :: unF r.length (r.drop 2) | none => c :: unF r.length r) = _
    rw [h]
  rw [e]
  unfold unL
  rw [unF_more (n := r.length) (m := (r.drop 2).length) (by rw [List.length_drop]; omega) (Nat.le_refl _)]
theorem unL_none {c : UInt8} {r : List UInt8} (h : headU (c :: r) = none) : unL (c :: r) = c :: unL r := by
  show (match headU (c :: r) with | some v => v :: unF r.length (r.drop 2) | none => c :: unF r.length r) = _
  rw [h]; rfl
theorem headU_short {c : UInt8} {r : List UInt8} (h : r.length < 2) : headU (c :: r) = none := by
  match r, h with
  | [], _ => rfl
  | [_], _ => rfl
theorem unL_len : ∀ (n : Nat) (l : List UInt8), (unF n l).length ≤ l.length
  | 0, _ => by simp [unF]
  | n + 1, [] => by simp [unF]
  | n + 1, c :: r => by
    show (match headU (c :: r) with | some v => v :: unF n (r.drop 2) | none => c :: unF n r).length ≤ _
    cases headU (c :: r) with
    | some v =>
      have := unL_len n (r.drop 2)
      rw [List.length_drop] at this
      show (unF n (r.drop 2)).length + 1 ≤ r.length + 1
      omega
    | none =>
      have := unL_len n r
      show (unF n r).length + 1 ≤ r.length + 1
      omega
theorem nameB_free : ∀ c : UInt8, ∀ x ∈ nameB c, x ≠ 10 ∧ x ≠ 13 ∧ x ≠ 34 := by
  intro c x hx
  unfold nameB at hx
  by_cases h1 : c = 10
  · rw [if_pos h1] at hx
    simp only [List.mem_cons, List.not_mem_nil, or_false] at hx
    rcases hx with rfl | rfl | rfl <;> decide
  · rw [if_neg h1] at hx
    by_cases h2 : c = 13
    · rw [if_pos h2] at hx
      simp only [List.mem_cons, List.not_mem_nil, or_false] at hx
      rcases hx with rfl | rfl | rfl <;> decide
    · rw [if_neg h2] at hx
      by_cases h3 : c = 34
      · rw [if_pos h3] at hx
        simp only [List.mem_cons, List.not_mem_nil, or_false] at hx
        rcases hx with rfl | rfl | rfl <;> decide
      · rw [if_neg h3] at hx
        rw [List.mem_singleton.1 hx]
        exact ⟨h1, h2, h3⟩
theorem name_free (l : List UInt8) : ∀ x ∈ nameL l, x ≠ 10 ∧ x ≠ 13 ∧ x ≠ 34 := by
  intro x hx
  obtain ⟨c, _, h⟩ := List.mem_flatMap.1 hx
  exact nameB_free c x h
theorem type_free (l : List UInt8) : ∀ x ∈ typeL l, x ≠ 10 ∧ x ≠ 13 := by
  intro x hx
  unfold typeL at hx
  by_cases h : l.any badT = true ∨ l = []
  · rw [if_pos h] at hx
    revert x
    decide
  · rw [if_neg h] at hx
    have : badT x = false := by
      cases e : badT x with
      | false => rfl
      | true => exact absurd (.inl (List.any_eq_true.2 ⟨x, hx, e⟩)) h
    unfold badT at this
    have this := of_decide_eq_false this
    constructor
    · rintro rfl; exact this (by decide)
    · rintro rfl; exact this (by decide)
theorem cut_skips {x : UInt8} {t : List UInt8} : ∀ {h : List UInt8} (s : List UInt8), (∀ c ∈ h, c ≠ x) → cutL (x :: t) (h ++ s) = (cutL (x :: t) s).map fun p => (h ++ p.1, p.2)
  | [], s, _ => by
    show cutL (x :: t) s = _
    cases cutL (x :: t) s <;> rfl
  | c :: h, s, hc => by
    have e : (x :: t).isPrefixOf (c :: (h ++ s)) = false := by
      have : (x == c) = false := by rw [beq_eq_false_iff_ne]; exact fun q => hc c List.mem_cons_self q.symm
      show (x == c && _) = false
      rw [this]; rfl
    show cutL (x :: t) (c :: (h ++ s)) = _
    rw [cut_miss e, cut_skips s (fun y hy => hc y (List.mem_cons_of_mem _ hy))]
    cases cutL (x :: t) s <;> rfl
/-- What stands nowhere in a text can't begin in it, if what is behind it begins with a sign that it has only at its own begin. -/
theorem cut_clear {x : UInt8} {t p : List UInt8} (r : List UInt8) (ht : x ∉ t) (hp : cutL (x :: t) p = none) : cutL (x :: t) (p ++ (x :: t) ++ r) = some (p, r) := by
  induction p with
  | nil =>
    show cutL (x :: t) (x :: t ++ r) = _
    rw [cut_hit (pre_app _ _)]
    simp
  | cons c p ih =>
    have e : (x :: t).isPrefixOf (c :: p) = false := by
      cases q : (x :: t).isPrefixOf (c :: p) with
      | false => rfl
      | true => rw [cut_hit q] at hp; cases hp
    rw [cut_miss e] at hp
    have hp' : cutL (x :: t) p = none := by
      cases q : cutL (x :: t) p with
      | none => rfl
      | some v => rw [q] at hp; cases hp
    have e2 : (x :: t).isPrefixOf (c :: (p ++ (x :: t) ++ r)) = false := by
      cases q : (x :: t).isPrefixOf (c :: (p ++ (x :: t) ++ r)) with
      | false => rfl
      | true =>
        exfalso
        rw [List.isPrefixOf_iff_prefix] at q
        obtain ⟨z, hz⟩ := q
        by_cases hl : t.length ≤ p.length
        · have : (x :: t) <+: c :: p := by
            refine List.prefix_of_prefix_length_le (l₃ := c :: (p ++ (x :: t) ++ r)) ⟨z, hz⟩ ⟨(x :: t) ++ r, by simp⟩ (by simpa using hl)
          rw [← List.isPrefixOf_iff_prefix] at this
          rw [this] at e; cases e
        · have h1 : (x :: t ++ z)[p.length + 1]? = (c :: (p ++ (x :: t) ++ r))[p.length + 1]? := by rw [hz]
          have h2 : (c :: (p ++ (x :: t) ++ r))[p.length + 1]? = some x := by
            rw [List.getElem?_cons_succ, List.append_assoc, List.getElem?_append_right (Nat.le_refl _), Nat.sub_self]; rfl
          have h3 : (x :: t ++ z)[p.length + 1]? = t[p.length]? := by
            show (x :: (t ++ z))[p.length + 1]? = _
            rw [List.getElem?_cons_succ, List.getElem?_append_left (by omega)]
          rw [h2, h3] at h1
          exact ht (List.mem_of_getElem? h1)
    show cutL (x :: t) (c :: (p ++ (x :: t) ++ r)) = _
    rw [cut_miss e2, ih hp']
    rfl
/-- A text that isn't in p isn't in it behind another sign. -/
theorem cut_sub {x : UInt8} {t b p : List UInt8} (hp : cutL b p = none) (hb : ∃ y, t = y ++ b) : cutL (x :: t) p = none := by
  obtain ⟨y, rfl⟩ := hb
  induction p with
  | nil => exact cut_end (by simp)
  | cons c p ih =>
    have q : b.isPrefixOf (c :: p) = false := by
      cases q : b.isPrefixOf (c :: p) with
      | false => rfl
      | true => rw [cut_hit q] at hp; cases hp
    rw [cut_miss q] at hp
    have hp' : cutL b p = none := by
      cases g : cutL b p with
      | none => rfl
      | some v => rw [g] at hp; cases hp
    have e : (x :: (y ++ b)).isPrefixOf (c :: p) = false := by
      cases g : (x :: (y ++ b)).isPrefixOf (c :: p) with
      | false => rfl
      | true =>
        exfalso
        rw [List.isPrefixOf_iff_prefix] at g
        obtain ⟨z, hz⟩ := g
        have : p = y ++ (b ++ z) := by
          have := (List.cons.inj hz).2
          rw [← this]; simp
        have nn : ∀ (y : List UInt8) (z : List UInt8), cutL b (y ++ (b ++ z)) ≠ none := by
          intro y z
          induction y with
          | nil => show cutL b (b ++ z) ≠ none; rw [cut_hit (pre_app _ _)]; simp
          | cons d y ih2 =>
            show cutL b (d :: (y ++ (b ++ z))) ≠ none
            cases w : b.isPrefixOf (d :: (y ++ (b ++ z))) with
            | true => rw [cut_hit w]; simp
            | false =>
              rw [cut_miss w]
              cases v : cutL b (y ++ (b ++ z)) with
              | none => exact absurd v ih2
              | some => simp
        rw [this] at hp'
        exact nn y z hp'
    rw [cut_miss e, ih hp']; rfl
end Go.Proofs.YtnojgejcmaajmaaGreatDoor

namespace Go.Proofs.YtnojgejcmaajmaaGreatDoor
open Go.RowKit
/-- What is told of an entry. -/
def toldE (e : En) : En := ⟨txt (unL (nameL (bL e.name))), txt (valP e), e.file, if e.file = true then txt (unL (nameL (bL e.fname))) else ⟨#[]⟩, if e.file = true then txt (typeL (bL e.typ)) else ⟨#[]⟩⟩
/-- What is in quotes. -/
def quoL : List UInt8 → Option (List UInt8 × List UInt8)
  | [] => none
  | c :: r => if c = 10 ∨ c = 13 then none else if c = 34 then some ([], r) else (quoL r).map fun p => (c :: p.1, p.2)
theorem quo_hit : ∀ {n : List UInt8} (r : List UInt8), (∀ x ∈ n, x ≠ 10 ∧ x ≠ 13 ∧ x ≠ 34) → quoL (n ++ 34 :: r) = some (n, r)
  | [], r, _ => rfl
  | c :: n, r, h => by
    have hc := h c List.mem_cons_self
    show (if c = 10 ∨ c = 13 then none else if c = 34 then some ([], n ++ 34 :: r) else (quoL (n ++ 34 :: r)).map fun p => (c :: p.1, p.2)) = _
    rw [if_neg (fun t => t.elim hc.1 hc.2.1), if_neg hc.2.2, quo_hit r (fun x hx => h x (List.mem_cons_of_mem _ hx))]; rfl
def brk (l : List UInt8) : Bool := l.any fun c => c == 13 || c == 10
/-- A part read. -/
def readH (n r v : List UInt8) : Option En :=
  if r = [] then some ⟨txt (unL n), txt v, false, ⟨#[]⟩, ⟨#[]⟩⟩
  else if c2L.isPrefixOf r = true then match quoL (r.drop 12) with
    | none => none
    | some (f, r2) => if c3L.isPrefixOf r2 = true ∧ brk (r2.drop 16) = false then some ⟨txt (unL n), txt v, true, txt (unL f), txt (r2.drop 16)⟩ else none
  else none
def readL (s : List UInt8) : Option En := match cutL c4L s with
  | none => none
  | some (h, v) => if c1L.isPrefixOf h = true then match quoL (h.drop 38) with
    | none => none
    | some (n, r) => readH n r v
    else none
/-- Parts read, one behind the other. -/
def btwL (b : List UInt8) : List UInt8 := 13 :: 10 :: 45 :: 45 :: b
def decF (b : List UInt8) : Nat → List UInt8 → Option (List En)
  | 0, _ => none
  | n + 1, s => match cutL (btwL b) s with
    | none => none
    | some (p, r) => match readL p with
      | none => none
      | some e => if r = endL then some [e] else if [13, 10].isPrefixOf r = true then (decF b n (r.drop 2)).map (e :: ·) else none
def decP (s b : List UInt8) : Option (List En) := if fitL b = true then (if s = 45 :: 45 :: (b ++ endL) then some [] else if (fstL b).isPrefixOf s = true then decF b s.length (s.drop (b.length + 4)) else none) else none
/-- What is behind the first boundary. -/
def resP (b : List UInt8) : En → List En → List UInt8
  | e, [] => partL e ++ btwL b ++ endL
  | e, f :: l => partL e ++ btwL b ++ (13 :: 10 :: resP b f l)
theorem enc_res (b : List UInt8) : ∀ (l : List En) (e : En), encP (e :: l) b = fstL b ++ resP b e l
  | [], e => by
    unfold encP resP btwL fstL endL
    simp
  | f :: l, e => by
    have ih := enc_res b l f
    show (fstL b ++ partL e ++ [13, 10] ++ (f :: l).flatMap (fun e => fstL b ++ partL e ++ [13, 10])) ++ 45 :: 45 :: (b ++ endL) = _
    rw [List.append_assoc]
    show fstL b ++ partL e ++ [13, 10] ++ encP (f :: l) b = _
    rw [ih]
    show fstL b ++ partL e ++ [13, 10] ++ (fstL b ++ resP b f l) = fstL b ++ (partL e ++ btwL b ++ (13 :: 10 :: resP b f l))
    generalize resP b f l = z
    unfold fstL btwL
    simp
theorem fit_btw {b : List UInt8} (h : fitL b = true) : (13 : UInt8) ∉ (10 :: 45 :: 45 :: b : List UInt8) := by
  unfold fitL at h
  rw [Bool.and_eq_true] at h
  intro t
  simp only [List.mem_cons] at t
  rcases t with t | t | t | t
  · cases t
  · cases t
  · cases t
  · have := List.all_eq_true.1 h.1 13 t
    revert this
    decide
theorem head_cut (e : En) : cutL c4L (partL e) = some (headP e, valP e) := by
  have n1 := name_free (bL e.name)
  have n2 := name_free (bL e.fname)
  have t1 := type_free (bL e.typ)
  have k1 : ∀ c ∈ c1L, c ≠ 13 := by decide
  have k2 : ∀ c ∈ c2L, c ≠ 13 := by decide
  have k3 : ∀ c ∈ c3T, c ≠ 13 := by decide
  have hit : ∀ v, cutL c4L (c4L ++ v) = some ([], v) := fun v => by rw [cut_hit (pre_app _ _)]; rfl
  have A : ∀ h v, (∀ c ∈ h, c ≠ 13) → cutL c4L (h ++ (c4L ++ v)) = some (h, v) := fun h v hh => by
    have := cut_skips (x := 13) (t := [10, 13, 10]) (c4L ++ v) hh
    show cutL (13 :: [10, 13, 10]) _ = _
    rw [this]
    have := hit v
    unfold c4L at this ⊢
    rw [this]
    simp
  unfold partL headP
  cases hf : e.file with
  | false =>
    simp only [Bool.false_eq_true, if_false, List.append_nil]
    rw [List.append_assoc]
    refine A _ _ ?_
    intro c hc
    simp only [List.mem_append, List.mem_singleton] at hc
    rcases hc with (hc | hc) | rfl
    · exact k1 c hc
    · exact (n1 c hc).2.1
    · decide
  | true =>
    simp only [if_true]
    have e1 : c1L ++ nameL (bL e.name) ++ [34] ++ (c2L ++ nameL (bL e.fname) ++ [34] ++ c3L ++ typeL (bL e.typ)) ++ c4L ++ valP e
        = (c1L ++ nameL (bL e.name) ++ [34] ++ (c2L ++ nameL (bL e.fname) ++ [34])) ++ (13 :: 10 :: ((c3T ++ typeL (bL e.typ)) ++ (c4L ++ valP e))) := by
      unfold c3L
      simp
    rw [e1]
    have s1 : ∀ c ∈ c1L ++ nameL (bL e.name) ++ [34] ++ (c2L ++ nameL (bL e.fname) ++ [34]), c ≠ 13 := by
      intro c hc
      simp only [List.mem_append, List.mem_singleton] at hc
      rcases hc with ((hc | hc) | rfl) | ((hc | hc) | rfl)
      · exact k1 c hc
      · exact (n1 c hc).2.1
      · decide
      · exact k2 c hc
      · exact (n2 c hc).2.1
      · decide
    have B := A (c3T ++ typeL (bL e.typ)) (valP e) (by
      intro c hc
      rcases List.mem_append.1 hc with hc | hc
      · exact k3 c hc
      · exact (t1 c hc).2)
    have C : cutL c4L (13 :: 10 :: ((c3T ++ typeL (bL e.typ)) ++ (c4L ++ valP e))) = some (13 :: 10 :: (c3T ++ typeL (bL e.typ)), valP e) := by
      have m1 : c4L.isPrefixOf (13 :: 10 :: ((c3T ++ typeL (bL e.typ)) ++ (c4L ++ valP e))) = false := by
        unfold c4L c3T
        rfl
      have m2 : c4L.isPrefixOf (10 :: ((c3T ++ typeL (bL e.typ)) ++ (c4L ++ valP e))) = false := by
        unfold c4L
        rfl
      rw [cut_miss m1, cut_miss m2, B]; rfl
    have := cut_skips (x := 13) (t := [10, 13, 10]) (13 :: 10 :: ((c3T ++ typeL (bL e.typ)) ++ (c4L ++ valP e))) s1
    show cutL (13 :: [10, 13, 10]) _ = _
    rw [this]
    have C' : cutL (13 :: [10, 13, 10]) (13 :: 10 :: ((c3T ++ typeL (bL e.typ)) ++ (c4L ++ valP e))) = some (13 :: 10 :: (c3T ++ typeL (bL e.typ)), valP e) := C
    rw [C']
    unfold c3L
    simp
theorem brk_type (l : List UInt8) : brk (typeL l) = false := by
  unfold brk
  rw [List.any_eq_false]
  intro c hc
  have := type_free l c hc
  have a : (c == 13) = false := by rw [beq_eq_false_iff_ne]; exact this.2
  have b : (c == 10) = false := by rw [beq_eq_false_iff_ne]; exact this.1
  rw [a, b]; decide
theorem read_part (e : En) : readL (partL e) = some (toldE e) := by
  unfold readL
  rw [head_cut e]
  show (if c1L.isPrefixOf (headP e) = true then match quoL ((headP e).drop 38) with | none => none | some (n, r) => readH n r (valP e) else none) = _
  have e1 : headP e = c1L ++ (nameL (bL e.name) ++ 34 :: (if e.file = true then c2L ++ nameL (bL e.fname) ++ [34] ++ c3L ++ typeL (bL e.typ) else [])) := by
    unfold headP; simp
  rw [e1, if_pos (pre_app _ _)]
  have e2 : (c1L ++ (nameL (bL e.name) ++ 34 :: (if e.file = true then c2L ++ nameL (bL e.fname) ++ [34] ++ c3L ++ typeL (bL e.typ) else []))).drop 38 = nameL (bL e.name) ++ 34 :: (if e.file = true then c2L ++ nameL (bL e.fname) ++ [34] ++ c3L ++ typeL (bL e.typ) else []) := List.drop_left' rfl
  rw [e2, quo_hit _ (name_free _)]
  show readH (nameL (bL e.name)) _ (valP e) = _
  unfold readH toldE
  cases hf : e.file with
  | false => simp
  | true =>
    simp only [if_true]
    have e3 : c2L ++ nameL (bL e.fname) ++ [34] ++ c3L ++ typeL (bL e.typ) = c2L ++ (nameL (bL e.fname) ++ 34 :: (c3L ++ typeL (bL e.typ))) := by simp
    rw [e3, if_neg (by unfold c2L; simp), if_pos (pre_app _ _)]
    have e4 : (c2L ++ (nameL (bL e.fname) ++ 34 :: (c3L ++ typeL (bL e.typ)))).drop 12 = nameL (bL e.fname) ++ 34 :: (c3L ++ typeL (bL e.typ)) := List.drop_left' rfl
    rw [e4, quo_hit _ (name_free _)]
    have e5 : (c3L ++ typeL (bL e.typ)).drop 16 = typeL (bL e.typ) := List.drop_left' rfl
    show (if c3L.isPrefixOf (c3L ++ typeL (bL e.typ)) = true ∧ brk ((c3L ++ typeL (bL e.typ)).drop 16) = false then _ else none) = _
    rw [e5, if_pos ⟨pre_app _ _, brk_type _⟩]
theorem dec_res {b : List UInt8} (hb : fitL b = true) : ∀ (l : List En) (e : En) (n : Nat), (∀ x ∈ e :: l, (cutL b (partL x)).isNone = true) → l.length + 1 ≤ n → decF b n (resP b e l) = some ((e :: l).map toldE)
  | l, e, 0, _, hn => by omega
  | [], e, n + 1, hc, _ => by
    have c0 : cutL b (partL e) = none := Option.isNone_iff_eq_none.1 (hc e List.mem_cons_self)
    show (match cutL (btwL b) (partL e ++ btwL b ++ endL) with | none => none | some (p, r) => _) = _
    have := cut_clear (x := 13) (t := 10 :: 45 :: 45 :: b) endL (fit_btw hb) (cut_sub c0 ⟨[10, 45, 45], rfl⟩)
    unfold btwL
    rw [this]
    show (match readL (partL e) with | none => none | some e => _) = _
    rw [read_part]
    show (if endL = endL then some [toldE e] else _) = _
    rw [if_pos rfl]; rfl
  | f :: l, e, n + 1, hc, hn => by
    have c0 : cutL b (partL e) = none := Option.isNone_iff_eq_none.1 (hc e List.mem_cons_self)
    have ih := dec_res hb l f n (fun x hx => hc x (List.mem_cons_of_mem _ hx)) (by simpa using hn)
    show (match cutL (btwL b) (partL e ++ btwL b ++ (13 :: 10 :: resP b f l)) with | none => none | some (p, r) => _) = _
    have := cut_clear (x := 13) (t := 10 :: 45 :: 45 :: b) (13 :: 10 :: resP b f l) (fit_btw hb) (cut_sub c0 ⟨[10, 45, 45], rfl⟩)
    unfold btwL
    rw [this]
    show (match readL (partL e) with | none => none | some e => _) = _
    rw [read_part]
    show (if 13 :: 10 :: resP b f l = endL then some [toldE e] else if [13, 10].isPrefixOf (13 :: 10 :: resP b f l) = true then (decF b n ((13 :: 10 :: resP b f l).drop 2)).map (toldE e :: ·) else none) = _
    rw [if_neg (by unfold endL; simp), if_pos (by simp)]
    show (decF b n (resP b f l)).map (toldE e :: ·) = _
    rw [ih]; rfl
theorem res_long (b : List UInt8) : ∀ (l : List En) (e : En), l.length + 1 ≤ (resP b e l).length
  | [], e => by
    show 0 + 1 ≤ (partL e ++ btwL b ++ endL).length
    simp only [List.length_append]
    have : endL.length = 4 := rfl
    omega
  | f :: l, e => by
    have := res_long b l f
    unfold resP
    simp only [List.length_append, List.length_cons]
    omega
/-- Parts of entries are read to what is told of them. -/
theorem back_p {l : List En} {b : List UInt8} (h : clrL l b = true) : decP (encP l b) b = some (l.map toldE) := by
  unfold clrL at h
  rw [Bool.and_eq_true] at h
  unfold decP
  rw [if_pos h.1]
  cases l with
  | nil => rw [if_pos (by rfl)]; rfl
  | cons e l =>
    rw [enc_res]
    have ne : ¬ fstL b ++ resP b e l = 45 :: 45 :: (b ++ endL) := by
      unfold fstL endL
      intro t
      have t : (b ++ [13, 10]) ++ resP b e l = b ++ [45, 45, 13, 10] := (List.cons.inj (List.cons.inj t).2).2
      rw [List.append_assoc] at t
      have := List.append_cancel_left t
      simp at this
    rw [if_neg ne, if_pos (pre_app _ _)]
    have e1 : (fstL b ++ resP b e l).drop (b.length + 4) = resP b e l := List.drop_left' (by unfold fstL; simp)
    rw [e1]
    refine dec_res h.1 l e _ (fun x hx => List.all_eq_true.1 h.2 x hx) ?_
    rw [List.length_append]
    have := res_long b l e
    omega
end Go.Proofs.YtnojgejcmaajmaaGreatDoor

namespace Go.Proofs.YtnojgejcmaajmaaGreatDoor
open Go.RowKit
/-- A text split at another one. -/
def splC (t : List UInt8) : Nat → List UInt8 → List (List UInt8)
  | 0, s => [s]
  | n + 1, s => match cutL t s with
    | none => [s]
    | some (p, r) => p :: splC t n r
theorem split_c (t : List UInt8) (ht : t ≠ []) : ∀ (n : Nat) (s : List UInt8), s.length ≤ n → Lib.split s t = splC t n s
  | 0, s, h => by
    have : s = [] := List.eq_nil_of_length_eq_zero (by omega)
    subst this
    unfold Lib.split
    rcases ix_cut t ht [] with ⟨_, h2⟩ | ⟨p, r, h1, _, _⟩
    · rw [Lib.count_miss h2]; rfl
    · rw [cut_end ht] at h1; cases h1
  | n + 1, s, h => by
    unfold Lib.split splC
    rcases ix_cut t ht s with ⟨h1, h2⟩ | ⟨p, r, h1, h2, h3⟩
    · rw [Lib.count_miss h2, h1]; rfl
    · have e2 : s.drop (p.length + t.length) = r := by rw [h3]; exact List.drop_left' (by simp)
      have e1 : s.take p.length = p := by rw [h3, List.append_assoc, List.take_left' rfl]
      rw [Lib.count_hit ht h2, h1, Nat.add_comm]
      show (if Lib.index s t == -1 then [s] else s.take ((Lib.index s t).toNat + 0) :: Lib.splitK t 0 _ (s.drop ((Lib.index s t).toNat + t.length))) = _
      have m : ¬ (Lib.index s t == -1) = true := by rw [h2, beq_iff_eq]; omega
      rw [if_neg m, h2]
      show s.take (p.length + 0) :: Lib.splitK t 0 _ (s.drop (p.length + t.length)) = _
      rw [Nat.add_zero, e1, e2]
      have := split_c t ht n r (by
        have := congrArg List.length h3
        simp only [List.length_append] at this
        have : 1 ≤ t.length := by cases t with
          | nil => exact absurd rfl ht
          | cons => simp
        omega)
      show p :: Lib.split r t = _
      rw [this]
theorem splC_more (t : List UInt8) (ht : t ≠ []) {n m : Nat} {s : List UInt8} (h : s.length ≤ n) (g : s.length ≤ m) : splC t n s = splC t m s := by
  rw [← split_c t ht n s h, split_c t ht m s g]
/-- What stands in a text is found. -/
theorem cut_in (t : List UInt8) : ∀ (y z : List UInt8), cutL t (y ++ (t ++ z)) ≠ none
  | [], z => by show cutL t (t ++ z) ≠ none; rw [cut_hit (pre_app _ _)]; simp
  | d :: y, z => by
    have ih := cut_in t y z
    show cutL t (d :: (y ++ (t ++ z))) ≠ none
    cases w : t.isPrefixOf (d :: (y ++ (t ++ z))) with
    | true => rw [cut_hit w]; simp
    | false =>
      rw [cut_miss w]
      cases v : cutL t (y ++ (t ++ z)) with
      | none => exact absurd v ih
      | some => simp
theorem cut_none {t s : List UInt8} (h : cutL t s = none) (y z : List UInt8) : s ≠ y ++ (t ++ z) := fun e => cut_in t y z (by rw [← e]; exact h)
/-- A part that has no line of the boundary in it, read. -/
def goodP (b p : List UInt8) : Option En := if (cutL (btwL b) p).isSome then none else readL p
def allP (b : List UInt8) : List (List UInt8) → Option (List En)
  | [] => some []
  | p :: l => match goodP b p with
    | none => none
    | some e => (allP b l).map (e :: ·)
/-- What is between two lines of the boundary. -/
def sepL (b : List UInt8) : List UInt8 := 13 :: 10 :: 45 :: 45 :: (b ++ [13, 10])
theorem sep_btw (b : List UInt8) : sepL b = btwL b ++ [13, 10] := by unfold sepL btwL; simp
theorem btw_ne (b : List UInt8) : btwL b ≠ [] := by unfold btwL; simp
theorem sep_ne (b : List UInt8) : sepL b ≠ [] := by unfold sepL; simp
/-- Where a boundary's line stands twice, the second begins behind the first. -/
theorem btw_apart {b : List UInt8} (hb : fitL b = true) {p y r z : List UInt8} (h : p ++ (btwL b ++ r) = y ++ (btwL b ++ z)) (hl : p.length < y.length) : ∃ t, y = p ++ (btwL b ++ t) ∧ r = t ++ (btwL b ++ z) := by
  have h13 := fit_btw hb
  have hB : btwL b = 13 :: (10 :: 45 :: 45 :: b) := rfl
  have LB : (btwL b).length = (10 :: 45 :: 45 :: b : List UInt8).length + 1 := by rw [hB]; rfl
  obtain ⟨q, rfl⟩ : ∃ q, y = p ++ q := by
    have : p <+: y := by
      have h1 : p <+: y ++ (btwL b ++ z) := ⟨btwL b ++ r, h⟩
      exact List.prefix_of_prefix_length_le h1 ⟨btwL b ++ z, rfl⟩ (by omega)
    obtain ⟨q, hq⟩ := this
    exact ⟨q, hq.symm⟩
  rw [List.append_assoc] at h
  have h := List.append_cancel_left h
  have hq : 0 < q.length := by rw [List.length_append] at hl; omega
  by_cases g : (btwL b).length ≤ q.length
  · obtain ⟨t, rfl⟩ : ∃ t, q = btwL b ++ t := by
      have : btwL b <+: q := List.prefix_of_prefix_length_le (l₃ := btwL b ++ r) ⟨r, rfl⟩ ⟨btwL b ++ z, h.symm⟩ g
      obtain ⟨t, ht⟩ := this
      exact ⟨t, ht.symm⟩
    refine ⟨t, by simp, ?_⟩
    rw [List.append_assoc] at h
    exact List.append_cancel_left h
  · exfalso
    have h1 : (btwL b ++ r)[q.length]? = (q ++ (btwL b ++ z))[q.length]? := by rw [h]
    rw [List.getElem?_append_right (Nat.le_refl _), Nat.sub_self] at h1
    have h2 : (btwL b ++ z)[0]? = some 13 := by rw [hB]; rfl
    rw [h2, List.getElem?_append_left (by omega)] at h1
    obtain ⟨k, hk⟩ : ∃ k, q.length = k + 1 := ⟨q.length - 1, by omega⟩
    rw [hk, hB, List.getElem?_cons_succ] at h1
    exact h13 (List.mem_of_getElem? h1)
def stepF (b : List UInt8) (n : Nat) (r : List UInt8) (e : En) : Option (List En) := if r = endL then some [e] else if [13, 10].isPrefixOf r = true then (decF b n (r.drop 2)).map (e :: ·) else none
theorem decF_at (b : List UInt8) (n : Nat) (s : List UInt8) : decF b (n + 1) s = match cutL (btwL b) s with
    | none => none
    | some (p, r) => match readL p with
      | none => none
      | some e => stepF b n r e := rfl
theorem step_end {b : List UInt8} {n : Nat} {r : List UInt8} (h : r = endL) : stepF b n r = fun e => some [e] := by funext e; exact if_pos h
theorem step_bad {b : List UInt8} {n : Nat} {r : List UInt8} (h : r ≠ endL) (g : ¬ [13, 10].isPrefixOf r = true) : stepF b n r = fun _ => none := by funext e; unfold stepF; rw [if_neg h, if_neg g]
theorem step_next {b : List UInt8} {n : Nat} {r r' : List UInt8} (h : r ≠ endL) (g : r = 13 :: 10 :: r') : stepF b n r = fun e => (decF b n r').map (e :: ·) := by
  funext e; unfold stepF; rw [if_neg h, g, if_pos (by simp)]; rfl
theorem pre2 {r : List UInt8} (h : [13, 10].isPrefixOf r = true) : ∃ r', r = 13 :: 10 :: r' := by
  obtain ⟨z, hz⟩ := List.isPrefixOf_iff_prefix.1 h
  exact ⟨z, hz.symm⟩
theorem good_clear {b p : List UInt8} (h : ∀ y z, p ≠ y ++ (btwL b ++ z)) : goodP b p = readL p := by
  unfold goodP
  cases c : cutL (btwL b) p with
  | none => rfl
  | some pr => obtain ⟨y, z⟩ := pr; exact absurd (cut_some (btw_ne b) c).1 (h y z)
theorem good_not {b p y z : List UInt8} (h : p = y ++ (btwL b ++ z)) : goodP b p = none := by
  unfold goodP
  cases c : cutL (btwL b) p with
  | none => exact absurd h (cut_none c y z)
  | some pr => rfl
theorem allP_not {b p : List UInt8} {l : List (List UInt8)} (h : goodP b p = none) : allP b (p :: l) = none := by
  unfold allP; rw [h]
theorem end_btw {b : List UInt8} (hb : fitL b = true) : cutL (btwL b) (45 :: 45 :: (b ++ endL)) = none := by
  cases c : cutL (btwL b) (45 :: 45 :: (b ++ endL)) with
  | none => rfl
  | some pr =>
    obtain ⟨y, z⟩ := pr
    exfalso
    have h := (cut_some (btw_ne b) c).1
    have h13 := fit_btw hb
    have h1 : (45 :: 45 :: (b ++ endL))[y.length]? = some 13 := by
      rw [h, List.getElem?_append_right (Nat.le_refl _), Nat.sub_self]; rfl
    have hl := congrArg List.length h
    have le : endL.length = 4 := rfl
    have lb : (btwL b).length = b.length + 4 := by unfold btwL; simp
    simp only [List.length_append, List.length_cons, le, lb] at hl
    have e : (45 :: 45 :: (b ++ endL) : List UInt8) = (45 :: 45 :: b) ++ endL := by simp
    have := (fit_pos hb).1
    rw [e, List.getElem?_append_left (by simp; omega)] at h1
    have := List.mem_of_getElem? h1
    exact h13 (List.mem_cons_of_mem _ this)
theorem decF_ends {b : List UInt8} : ∀ (n : Nat) (x : List UInt8) (l : List En), decF b n x = some l → ∃ y, x = y ++ (btwL b ++ endL)
  | 0, _, _, h => by cases h
  | n + 1, x, l, h => by
    rw [decF_at] at h
    cases c : cutL (btwL b) x with
    | none => rw [c] at h; cases h
    | some pr =>
      obtain ⟨p, r⟩ := pr
      rw [c] at h
      have ex := (cut_some (btw_ne b) c).1
      cases g : readL p with
      | none => simp only [g] at h; cases h
      | some e =>
        simp only [g] at h
        unfold stepF at h
        split at h
        · rename_i he
          exact ⟨p, by rw [ex, he]⟩
        · split at h
          · rename_i _ hp
            obtain ⟨r', rfl⟩ := pre2 hp
            cases q : decF b n r' with
            | none => rw [show (13 :: 10 :: r' : List UInt8).drop 2 = r' from rfl, q] at h; cases h
            | some m =>
              obtain ⟨y, hy⟩ := decF_ends n r' m q
              refine ⟨p ++ (btwL b ++ (13 :: 10 :: y)), ?_⟩
              rw [ex, hy]; simp
          · cases h
theorem sep_from {b : List UInt8} (hb : fitL b = true) {p t q z : List UInt8} (hp : ∀ y z', p ++ (btwL b ++ t) = y ++ (btwL b ++ z') → p.length ≤ y.length) (h : p ++ (btwL b ++ t) = q ++ (sepL b ++ z)) : (q = p ∧ t = 13 :: 10 :: z) ∨ ∃ u, q = p ++ (btwL b ++ u) := by
  have h' : p ++ (btwL b ++ t) = q ++ (btwL b ++ (13 :: 10 :: z)) := by rw [h, sep_btw]; simp
  have hl := hp q _ h'
  rcases Nat.lt_or_ge p.length q.length with g | g
  · obtain ⟨u, hu, _⟩ := btw_apart hb h' g
    exact .inr ⟨u, hu⟩
  · have e : q = p := by
      have := List.append_inj_left h'.symm (by omega)
      exact this
    subst e
    exact .inl ⟨rfl, List.append_cancel_left (List.append_cancel_left h')⟩
/-- Parts read one behind the other are those between the lines of the boundary. -/
theorem decF_split {b : List UInt8} (hb : fitL b = true) : ∀ (n : Nat) (y : List UInt8), y.length ≤ n → decF b (n + 1) (y ++ (btwL b ++ endL)) = allP b (splC (sepL b) n y) := by
  intro n
  induction n using Nat.strongRecOn with
  | _ n ih =>
    intro y hn
    have BN := btw_ne b
    have SN := sep_ne b
    have LB : (btwL b).length = b.length + 4 := by unfold btwL; simp
    rw [decF_at]
    cases c : cutL (btwL b) (y ++ (btwL b ++ endL)) with
    | none => exact absurd c (cut_in _ _ _)
    | some pr =>
      obtain ⟨p, r⟩ := pr
      obtain ⟨ex, mn⟩ := cut_some BN c
      have le := mn y endL rfl
      show (match readL p with | none => none | some e => stepF b n r e) = _
      rcases Nat.lt_or_ge p.length y.length with g | g
      · obtain ⟨t, rfl, rfl⟩ := btw_apart hb ex.symm g
        have mn' : ∀ y' z', p ++ (btwL b ++ t) = y' ++ (btwL b ++ z') → p.length ≤ y'.length := fun y' z' e => mn y' (z' ++ (btwL b ++ endL)) (by rw [e]; simp)
        have ne : t ++ (btwL b ++ endL) ≠ endL := fun e => by
          have := congrArg List.length e
          simp only [List.length_append, LB] at this
          omega
        have bad : ∀ u, goodP b (p ++ (btwL b ++ u)) = none := fun u => good_not rfl
        -- the first piece of the split
        have first : (∀ z, t ≠ 13 :: 10 :: z) → allP b (splC (sepL b) n (p ++ (btwL b ++ t))) = none := fun nz => by
          cases n with
          | zero => exact allP_not (bad t)
          | succ n =>
            unfold splC
            cases cs : cutL (sepL b) (p ++ (btwL b ++ t)) with
            | none => exact allP_not (bad t)
            | some qz =>
              obtain ⟨q, z⟩ := qz
              rcases sep_from hb mn' (cut_some SN cs).1 with ⟨_, e⟩ | ⟨u, rfl⟩
              · exact absurd e (nz z)
              · exact allP_not (bad u)
        by_cases hp : [13, 10].isPrefixOf (t ++ (btwL b ++ endL)) = true
        · obtain ⟨r', hr⟩ := pre2 hp
          rw [step_next ne hr]
          clear mn ex c le ne hp
          match t, hr with
          | [], hr =>
            have hr : 13 :: 10 :: (45 :: 45 :: (b ++ endL)) = 13 :: 10 :: r' := by rw [← hr]; unfold btwL; simp
            have : r' = 45 :: 45 :: (b ++ endL) := by
              have := (List.cons.inj (List.cons.inj hr).2).2
              exact this.symm
            rw [this, first (fun z => by simp)]
            have : decF b n (45 :: 45 :: (b ++ endL)) = none := by
              cases n with
              | zero => rfl
              | succ n => rw [decF_at, end_btw hb]
            rw [this]
            cases readL p <;> rfl
          | [c0], hr =>
            exfalso
            have hr : c0 :: 13 :: 10 :: 45 :: 45 :: (b ++ endL) = 13 :: 10 :: r' := by rw [← hr]; unfold btwL; simp
            have := (List.cons.inj (List.cons.inj hr).2).1
            revert this
            decide
          | c0 :: c1 :: t', hr =>
            have hr : c0 :: c1 :: (t' ++ (btwL b ++ endL)) = 13 :: 10 :: r' := by rw [← hr]; simp
            obtain ⟨e0, e1⟩ := List.cons.inj hr
            obtain ⟨e1, e2⟩ := List.cons.inj e1
            subst e0; subst e1; subst e2
            have hn' : t'.length + 1 ≤ n := by
              simp only [List.length_append, List.length_cons] at hn
              omega
            obtain ⟨n, rfl⟩ : ∃ k, n = k + 1 := ⟨n - 1, by omega⟩
            rw [ih n (Nat.lt_succ_self n) t' (by omega)]
            have cs : cutL (sepL b) (p ++ (btwL b ++ (13 :: 10 :: t'))) = some (p, t') := by
              have e : p ++ (btwL b ++ (13 :: 10 :: t')) = p ++ (sepL b ++ t') := by rw [sep_btw]; simp
              cases cs : cutL (sepL b) (p ++ (btwL b ++ (13 :: 10 :: t'))) with
              | none => exact absurd e (cut_none cs p t')
              | some qz =>
                obtain ⟨q, z⟩ := qz
                obtain ⟨h1, h2⟩ := cut_some SN cs
                have := h2 p t' e
                rcases sep_from hb mn' h1 with ⟨e8, e9⟩ | ⟨u, rfl⟩
                · cases e9; rw [e8]
                · simp only [List.length_append, LB] at this
                  omega
            have gp : goodP b p = readL p := good_clear (fun y' z' e => by
              have h1 := mn' y' (z' ++ (btwL b ++ (13 :: 10 :: t'))) (by rw [e]; simp)
              have := congrArg List.length e
              simp only [List.length_append, LB] at this
              omega)
            show _ = allP b (match cutL (sepL b) (p ++ (btwL b ++ (13 :: 10 :: t'))) with | none => [p ++ (btwL b ++ (13 :: 10 :: t'))] | some (p, r) => p :: splC (sepL b) n r)
            rw [cs]
            show _ = (match goodP b p with | none => none | some e => (allP b (splC (sepL b) n t')).map (e :: ·))
            rw [gp]
        · rw [step_bad ne hp, first (fun z e => hp (by rw [e]; simp))]
          cases readL p <;> rfl
      · have e : y = p := by
          have : y.length = p.length := by omega
          exact List.append_inj_left ex this
        subst e
        have re : r = endL := (List.append_cancel_left (List.append_cancel_left ex)).symm
        have none_in : ∀ y' z', y ≠ y' ++ (btwL b ++ z') := fun y' z' e => by
          have h1 := mn y' (z' ++ (btwL b ++ endL)) (by conv => lhs; rw [e]
                                                        simp)
          have := congrArg List.length e
          simp only [List.length_append, LB] at this
          omega
        have one : splC (sepL b) n y = [y] := by
          cases n with
          | zero => rfl
          | succ n =>
            unfold splC
            cases cs : cutL (sepL b) y with
            | none => rfl
            | some qz =>
              obtain ⟨q, z⟩ := qz
              exact absurd (by rw [(cut_some SN cs).1, sep_btw]; simp) (none_in q (13 :: 10 :: z))
        rw [step_end re, one]
        unfold allP
        rw [good_clear none_in]
        cases readL y <;> rfl
/-- What is read of a sign told in three. -/
theorem rep3_hit (a b v : UInt8) (r : List UInt8) : repA [37, a, b] [v] (37 :: a :: b :: r) = v :: repA [37, a, b] [v] r := by
  rw [show 37 :: a :: b :: r = [37, a, b] ++ r from rfl, repA_hit (by simp)]; rfl
theorem rep3_miss {a b v c : UInt8} {r : List UInt8} (h : [37, a, b].isPrefixOf (c :: r) = false) : repA [37, a, b] [v] (c :: r) = c :: repA [37, a, b] [v] r := repA_miss (by simp) c r h
theorem rep3_ne {a b v c : UInt8} (r : List UInt8) (h : c ≠ 37) : repA [37, a, b] [v] (c :: r) = c :: repA [37, a, b] [v] r := rep3_miss (by
  have : ((37 : UInt8) == c) = false := by rw [beq_eq_false_iff_ne]; exact fun t => h t.symm
  show ((37 : UInt8) == c && _) = false
  rw [this]; rfl)
/-- A sign that no reading makes stood there before. -/
theorem rep3_back {a b v x : UInt8} {l m : List UInt8} (h : repA [37, a, b] [v] l = x :: m) (hx : x ≠ v) : ∃ r, l = x :: r ∧ repA [37, a, b] [v] r = m := by
  cases l with
  | nil => rw [repA_nil (by simp)] at h; cases h
  | cons c r =>
    cases p : [37, a, b].isPrefixOf (c :: r) with
    | true =>
      obtain ⟨z, hz⟩ := List.isPrefixOf_iff_prefix.1 p
      rw [← hz] at h
      have h : repA [37, a, b] [v] (37 :: a :: b :: z) = x :: m := h
      rw [rep3_hit] at h
      exact absurd (List.cons.inj h).1.symm hx
    | false =>
      rw [rep3_miss p] at h
      obtain ⟨e1, e2⟩ := List.cons.inj h
      subst e1
      exact ⟨r, rfl, e2⟩
theorem pre3 {a b c : UInt8} {r : List UInt8} (h : [37, a, b].isPrefixOf (c :: r) = true) : ∃ z, c = 37 ∧ r = a :: b :: z := by
  obtain ⟨z, hz⟩ := List.isPrefixOf_iff_prefix.1 h
  have hz : 37 :: a :: b :: z = c :: r := hz
  obtain ⟨e1, e2⟩ := List.cons.inj hz
  exact ⟨z, e1.symm, e2.symm⟩
theorem rep3_keep {a b v p q : UInt8} {r : List UInt8} (hp : p ≠ v) (hq : q ≠ v) (h : ∀ z, r ≠ p :: q :: z) (z : List UInt8) : repA [37, a, b] [v] r ≠ p :: q :: z := fun e => by
  obtain ⟨r1, e1, e2⟩ := rep3_back e hp
  obtain ⟨r2, e3, _⟩ := rep3_back e2 hq
  exact h r2 (by rw [e1, e3])
theorem headU_no {c : UInt8} {r : List UInt8} (h : headU (c :: r) = none) : c ≠ 37 ∨ ((∀ z, r ≠ 48 :: 65 :: z) ∧ (∀ z, r ≠ 48 :: 68 :: z) ∧ ∀ z, r ≠ 50 :: 50 :: z) := by
  by_cases hc : c = 37
  · subst hc
    refine .inr ⟨fun z e => ?_, fun z e => ?_, fun z e => ?_⟩ <;> (subst e; cases h)
  · exact .inl hc
theorem headU_yes {c v : UInt8} {r : List UInt8} (h : headU (c :: r) = some v) : c = 37 ∧ ((v = 10 ∧ ∃ z, r = 48 :: 65 :: z) ∨ (v = 13 ∧ ∃ z, r = 48 :: 68 :: z) ∨ (v = 34 ∧ ∃ z, r = 50 :: 50 :: z)) := by
  match r with
  | [] => cases h
  | [_] => cases h
  | a :: b :: z =>
    have h : escU c a b = some v := h
    unfold escU at h
    split at h
    · rename_i g; cases h; obtain ⟨rfl, rfl, rfl⟩ := g; exact ⟨rfl, .inl ⟨rfl, z, rfl⟩⟩
    · split at h
      · rename_i _ g; cases h; obtain ⟨rfl, rfl, rfl⟩ := g; exact ⟨rfl, .inr (.inl ⟨rfl, z, rfl⟩)⟩
      · split at h
        · rename_i _ _ g; cases h; obtain ⟨rfl, rfl, rfl⟩ := g; exact ⟨rfl, .inr (.inr ⟨rfl, z, rfl⟩)⟩
        · cases h
theorem nopre {a b : UInt8} {r : List UInt8} (h : ∀ z, r ≠ a :: b :: z) (c : UInt8) : [37, a, b].isPrefixOf (c :: r) = false := by
  cases p : [37, a, b].isPrefixOf (c :: r) with
  | false => rfl
  | true => obtain ⟨z, _, e⟩ := pre3 p; exact absurd e (h z)
theorem rep_read : ∀ (n : Nat) (l : List UInt8), l.length ≤ n → R3 (R2 (R1 l)) = unL l
  | 0, l, h => by
    have : l = [] := List.eq_nil_of_length_eq_zero (by omega)
    subst this
    unfold R1 R2 R3
    rw [repA_nil (by simp), repA_nil (by simp), repA_nil (by simp)]; rfl
  | n + 1, [], _ => by
    unfold R1 R2 R3
    rw [repA_nil (by simp), repA_nil (by simp), repA_nil (by simp)]; rfl
  | n + 1, c :: r, h => by
    have h : r.length ≤ n := by simpa using h
    cases g : headU (c :: r) with
    | some v =>
      rw [unL_some g]
      obtain ⟨rfl, hv⟩ := headU_yes g
      rcases hv with ⟨rfl, z, rfl⟩ | ⟨rfl, z, rfl⟩ | ⟨rfl, z, rfl⟩
      all_goals
        have ih := rep_read n z (by simp only [List.length_cons] at h; omega)
        show _ = _ :: unL z
        rw [← ih]
        unfold R1 R2 R3
      · rw [rep3_hit, rep3_ne _ (by decide), rep3_ne _ (by decide)]
      · rw [rep3_miss (by rfl), rep3_ne (c := 48) _ (by decide), rep3_ne (c := 68) _ (by decide), rep3_hit, rep3_ne (c := 13) _ (by decide)]
      · rw [rep3_miss (by rfl), rep3_ne (c := 50) _ (by decide), rep3_ne (c := 50) _ (by decide), rep3_miss (by rfl), rep3_ne (c := 50) _ (by decide), rep3_ne (c := 50) _ (by decide), rep3_hit]
    | none =>
      rw [unL_none g, ← rep_read n r h]
      unfold R1 R2 R3
      rcases headU_no g with hc | ⟨n1, n2, n3⟩
      · rw [rep3_ne _ hc, rep3_ne _ hc, rep3_ne _ hc]
      · have m2 := fun z => rep3_keep (a := 48) (b := 65) (v := 10) (p := 48) (q := 68) (by decide) (by decide) n2 z
        have m3 := fun z => rep3_keep (a := 48) (b := 65) (v := 10) (p := 50) (q := 50) (by decide) (by decide) n3 z
        have m4 := fun z => rep3_keep (a := 48) (b := 68) (v := 13) (p := 50) (q := 50) (by decide) (by decide) m3 z
        rw [rep3_miss (nopre n1 c), rep3_miss (nopre m2 c), rep3_miss (nopre m4 c)]
theorem rep_un (l : List UInt8) : R3 (R2 (R1 l)) = unL l := rep_read l.length l (Nat.le_refl _)
/-- Ends of lines in a text. -/
theorem any_brk : ∀ l : List UInt8, Lib.containsAny l [13, 10] = brk l
  | [] => by rfl
  | c :: l => by
    have ih := any_brk l
    unfold Lib.containsAny at ih ⊢
    have g := Lib.indexAny_ge [13, 10] l
    show decide (0 ≤ (if [13, 10].contains c then 0 else if Lib.indexAny l [13, 10] == -1 then -1 else Lib.indexAny l [13, 10] + 1)) = ((c == 13 || c == 10) || brk l)
    have e : [13, 10].contains c = (c == 13 || c == 10) := by rw [Bool.eq_iff_iff]; simp
    rw [e]
    cases q : (c == 13 || c == 10) with
    | true => simp
    | false =>
      rw [← ih, if_neg (by decide)]
      by_cases m : Lib.indexAny l [13, 10] = -1
      · rw [m]; rfl
      · have : (Lib.indexAny l [13, 10] == -1) = false := by rw [beq_eq_false_iff_ne]; exact m
        rw [this, Bool.false_or]
        show decide (0 ≤ Lib.indexAny l [13, 10] + 1) = _
        rw [decide_eq_decide]
        omega
end Go.Proofs.YtnojgejcmaajmaaGreatDoor

namespace Go.Proofs.YtnojgejcmaajmaaGreatDoor
open Go.RowKit
/-- What the loop has behind k bytes, the next one to be read being n (or k): the bytes l are done. -/
def DecAt (s : ByteArray) (k n : Nat) (l : List UInt8) : Prop := n ≤ s.size ∧ l ++ decL (s.data.toList.drop (max k n)) = decL s.data.toList
theorem decAt_start (s : ByteArray) : DecAt s 0 0 [] := ⟨Nat.zero_le _, rfl⟩
theorem decAt_len {s : ByteArray} {k n : Nat} {l : List UInt8} (h : DecAt s k n l) : l.length ≤ s.size := by
  have h1 := congrArg List.length h.2
  have h2 := decL_len s.data.toList
  rw [List.length_append] at h1
  have : s.data.toList.length = s.size := by simp
  omega
theorem decAt_skip {s : ByteArray} {k n : Nat} {l : List UInt8} (h : DecAt s k n l) (hk : k < n) : DecAt s (k + 1) n l := by
  refine ⟨h.1, ?_⟩
  rw [show max (k + 1) n = max k n by omega]; exact h.2
theorem decAt_hit {s : ByteArray} {k n : Nat} {l : List UInt8} {v : UInt8} (h : DecAt s k n l) (hk : n ≤ k) (he : headE (s.data.toList.drop k) = some v) : DecAt s (k + 1) (k + 3) (l ++ [v]) := by
  have hd := decL_some he
  have hl : s.data.toList.length = s.size := by simp
  have h3 := hd.2
  rw [List.length_drop] at h3
  refine ⟨by omega, ?_⟩
  have h2 := h.2
  rw [show max k n = k by omega, hd.1, List.drop_drop] at h2
  rw [show max (k + 1) (k + 3) = k + 3 by omega, List.append_assoc]
  exact h2
theorem decAt_miss {s : ByteArray} {k n : Nat} {l : List UInt8} (h : DecAt s k n l) (hk : n ≤ k) (hlt : k < s.size) (he : headE (s.data.toList.drop k) = none) : DecAt s (k + 1) n (l ++ [s[k]]) := by
  refine ⟨h.1, ?_⟩
  have h2 := h.2
  have hdr : s.data.toList.drop k = s[k] :: s.data.toList.drop (k + 1) := by
    rw [List.drop_eq_getElem_cons (by simpa using hlt)]; rfl
  rw [hdr] at he
  rw [show max k n = k by omega, hdr, decL_none he] at h2
  rw [show max (k + 1) n = k + 1 by omega, List.append_assoc]
  exact h2
theorem decAt_end {s : ByteArray} {k n : Nat} {l : List UInt8} (h : DecAt s k n l) (hk : s.size ≤ k) : l = decL s.data.toList := by
  have h2 := h.2
  rw [List.drop_of_length_le (by simp; omega)] at h2
  simpa [decL] using h2
theorem tail_list (s : ByteArray) (k : Nat) : (s.extract k s.size).data.toList = s.data.toList.drop k := by
  simp
  exact List.take_of_length_le (by simp)
theorem drop3 (s : ByteArray) (k : Nat) (h : k + 2 < s.size) : s.data.toList.drop k = s[k] :: s[k + 1] :: s[k + 2] :: s.data.toList.drop (k + 3) := by
  rw [drop1 s k (by omega), drop1 s (k + 1) (by omega), drop1 s (k + 1 + 1) (by omega)]
theorem two_num {x y : UInt8} {a b : Nat} (ha : hexV x = a) (hb : hexV y = b) (ha16 : a < 16) (hb16 : b < 16) : ((two x y).toNat : Int) = (a : Int) * 16 + b := by
  unfold two; rw [ha, hb]
  have : ((a : Int) * 16 + b).toNat = a * 16 + b := by omega
  rw [this]; simp; omega

end Go.Proofs.YtnojgejcmaajmaaGreatDoor
