/- Escapes of texts, as lists of bytes. Parts made of entries and read again. Texts searched, cut, split and replaced, in the words of parts. What strings.Contains, Cut, Split, CutPrefix, CutSuffix, ReplaceAll answer. strings.ContainsAny of any text at the two ends of lines. The program's Fit, toldType, breaks, carried, quote, unquote of layer 20. The program's quoted and read of layer 20. -/
import Derived.Test.YtgibkbeakfaehaaDoorJpt22
import Derived.Test.YtgibkbeakfaehaaDoorJpt34

namespace Go.Proofs.YtgibkbeakfaehaaDoor
open Go.RowKit
def hexV (c : UInt8) : Int := if 48 ≤ c.toNat ∧ c.toNat ≤ 57 then c.toNat - 48 else if 65 ≤ c.toNat ∧ c.toNat ≤ 70 then c.toNat - 55 else if 97 ≤ c.toNat ∧ c.toNat ≤ 102 then c.toNat - 87 else -1
/-- The byte of two digits. -/
def two (a b : UInt8) : UInt8 := UInt8.ofNat (hexV a * 16 + hexV b).toNat
end Go.Proofs.YtgibkbeakfaehaaDoor

namespace Go.Proofs.YtgibkbeakfaehaaDoor
open Go.RowKit
/-- What is in quotes. -/
def quoL : List UInt8 → Option (List UInt8 × List UInt8)
  | [] => none
  | c :: r => if c = 10 ∨ c = 13 then none else if c = 34 then some ([], r) else (quoL r).map fun p => (c :: p.1, p.2)
def brk (l : List UInt8) : Bool := l.any fun c => c == 13 || c == 10
/-- A part read. -/
def readH (n r v : List UInt8) : Option En :=
  if r = [] then some ⟨txt (unL n), txt v, false, ⟨#[]⟩, ⟨#[]⟩⟩
  else if c2L.isPrefixOf r = true then match quoL (r.drop 12) with
    | none => none
    | some (f, r2) => if c3L.isPrefixOf r2 = true ∧ brk (r2.drop 16) = false then some ⟨txt (unL n), txt v, true, txt (unL f), txt (r2.drop 16)⟩ else none
  else none
def readL (s : List UInt8) : Option En := match cutL c4L s with
  | none => none
  | some (h, v) => if c1L.isPrefixOf h = true then match quoL (h.drop 38) with
    | none => none
    | some (n, r) => readH n r v
    else none
/-- Parts read, one behind the other. -/
def btwL (b : List UInt8) : List UInt8 := 13 :: 10 :: 45 :: 45 :: b
def decF (b : List UInt8) : Nat → List UInt8 → Option (List En)
  | 0, _ => none
  | n + 1, s => match cutL (btwL b) s with
    | none => none
    | some (p, r) => match readL p with
      | none => none
      | some e => if r = endL then some [e] else if [13, 10].isPrefixOf r = true then (decF b n (r.drop 2)).map (e :: ·) else none
def decP (s b : List UInt8) : Option (List En) := if fitL b = true then (if s = 45 :: 45 :: (b ++ endL) then some [] else if (fstL b).isPrefixOf s = true then decF b s.length (s.drop (b.length + 4)) else none) else none
theorem fit_btw {b : List UInt8} (h : fitL b = true) : (13 : UInt8) ∉ (10 :: 45 :: 45 :: b : List UInt8) := by
  unfold fitL at h
  rw [Bool.and_eq_true] at h
  intro t
  simp only [List.mem_cons] at t
  rcases t with t | t | t | t
  · cases t
  · cases t
  · cases t
  · have := List.all_eq_true.1 h.1 13 t
    revert this
    decide
end Go.Proofs.YtgibkbeakfaehaaDoor

namespace Go.Proofs.YtgibkbeakfaehaaDoor
open Go.RowKit
theorem cut_lib (t : List UInt8) (ht : t ≠ []) (l : List UInt8) : Lib.cut l t = match cutL t l with | none => (l, [], false) | some (p, r) => (p, r, true) := by
  unfold Lib.cut
  rcases ix_cut t ht l with ⟨h1, h2⟩ | ⟨p, r, h1, h2, h3⟩
  · rw [h1, h2]; rfl
  · rw [h1, h2, if_pos (by omega)]
    show (l.take p.length, l.drop (p.length + t.length), true) = (p, r, true)
    have e1 : l.take p.length = p := by rw [h3, List.append_assoc, List.take_left' rfl]
    have e2 : l.drop (p.length + t.length) = r := by rw [h3]; exact List.drop_left' (by simp)
    rw [e1, e2]
/-- A text split at another one. -/
def splC (t : List UInt8) : Nat → List UInt8 → List (List UInt8)
  | 0, s => [s]
  | n + 1, s => match cutL t s with
    | none => [s]
    | some (p, r) => p :: splC t n r
theorem split_c (t : List UInt8) (ht : t ≠ []) : ∀ (n : Nat) (s : List UInt8), s.length ≤ n → Lib.split s t = splC t n s
  | 0, s, h => by
    have : s = [] := List.eq_nil_of_length_eq_zero (by omega)
    subst this
    unfold Lib.split
    rcases ix_cut t ht [] with ⟨_, h2⟩ | ⟨p, r, h1, _, _⟩
    · rw [Lib.count_miss h2]; rfl
    · rw [cut_end ht] at h1; cases h1
  | n + 1, s, h => by
    unfold Lib.split splC
    rcases ix_cut t ht s with ⟨h1, h2⟩ | ⟨p, r, h1, h2, h3⟩
    · rw [Lib.count_miss h2, h1]; rfl
    · have e2 : s.drop (p.length + t.length) = r := by rw [h3]; exact List.drop_left' (by simp)
      have e1 : s.take p.length = p := by rw [h3, List.append_assoc, List.take_left' rfl]
      rw [Lib.count_hit ht h2, h1, Nat.add_comm]
      show (if Lib.index s t == -1 then [s] else s.take ((Lib.index s t).toNat + 0) :: Lib.splitK t 0 _ (s.drop ((Lib.index s t).toNat + t.length))) = _
      have m : ¬ (Lib.index s t == -1) = true := by rw [h2, beq_iff_eq]; omega
      rw [if_neg m, h2]
      show s.take (p.length + 0) :: Lib.splitK t 0 _ (s.drop (p.length + t.length)) = _
      rw [Nat.add_zero, e1, e2]
      have := split_c t ht n r (by
        have := congrArg List.length h3
        simp only [List.length_append] at this
        have : 1 ≤ t.length := by cases t with
          | nil => exact absurd rfl ht
          | cons => simp
        omega)
      show p :: Lib.split r t = _
      rw [this]
theorem splC_more (t : List UInt8) (ht : t ≠ []) {n m : Nat} {s : List UInt8} (h : s.length ≤ n) (g : s.length ≤ m) : splC t n s = splC t m s := by
  rw [← split_c t ht n s h, split_c t ht m s g]
/-- What stands in a text is found. -/
theorem cut_in (t : List UInt8) : ∀ (y z : List UInt8), cutL t (y ++ (t ++ z)) ≠ none
  | [], z => by show cutL t (t ++ z) ≠ none; rw [cut_hit (pre_app _ _)]; simp
  | d :: y, z => by
    have ih := cut_in t y z
    show cutL t (d :: (y ++ (t ++ z))) ≠ none
    cases w : t.isPrefixOf (d :: (y ++ (t ++ z))) with
    | true => rw [cut_hit w]; simp
    | false =>
      rw [cut_miss w]
      cases v : cutL t (y ++ (t ++ z)) with
      | none => exact absurd v ih
      | some => simp
/-- A text cut at its first place: what is ahead doesn't hold it, not even where it would reach beyond. -/
theorem cut_some {t : List UInt8} (ht : t ≠ []) : ∀ {s p r : List UInt8}, cutL t s = some (p, r) → s = p ++ (t ++ r) ∧ ∀ y z, s = y ++ (t ++ z) → p.length ≤ y.length
  | [], p, r, h => by rw [cut_end ht] at h; cases h
  | c :: s, p, r, h => by
    cases w : t.isPrefixOf (c :: s) with
    | true =>
      rw [cut_hit w] at h
      cases h
      obtain ⟨z, hz⟩ := List.isPrefixOf_iff_prefix.1 w
      exact ⟨by rw [← hz]; simp, fun _ _ _ => Nat.zero_le _⟩
    | false =>
      rw [cut_miss w] at h
      cases v : cutL t s with
      | none => rw [v] at h; cases h
      | some pr =>
        obtain ⟨p', r'⟩ := pr
        rw [v] at h
        cases h
        obtain ⟨i1, i2⟩ := cut_some ht v
        refine ⟨by rw [i1]; simp, fun y z e => ?_⟩
        cases y with
        | nil =>
          exfalso
          have : t.isPrefixOf (c :: s) = true := by rw [e]; exact pre_app _ _
          rw [w] at this; cases this
        | cons d y =>
          have := i2 y z (by rw [List.cons_append] at e; exact (List.cons.inj e).2)
          simp only [List.length_cons]
          omega
theorem cut_none {t s : List UInt8} (h : cutL t s = none) (y z : List UInt8) : s ≠ y ++ (t ++ z) := fun e => cut_in t y z (by rw [← e]; exact h)
/-- A part that has no line of the boundary in it, read. -/
def goodP (b p : List UInt8) : Option En := if (cutL (btwL b) p).isSome then none else readL p
def allP (b : List UInt8) : List (List UInt8) → Option (List En)
  | [] => some []
  | p :: l => match goodP b p with
    | none => none
    | some e => (allP b l).map (e :: ·)
/-- What is between two lines of the boundary. -/
def sepL (b : List UInt8) : List UInt8 := 13 :: 10 :: 45 :: 45 :: (b ++ [13, 10])
theorem sep_btw (b : List UInt8) : sepL b = btwL b ++ [13, 10] := by unfold sepL btwL; simp
theorem btw_ne (b : List UInt8) : btwL b ≠ [] := by unfold btwL; simp
theorem sep_ne (b : List UInt8) : sepL b ≠ [] := by unfold sepL; simp
/-- Where a boundary's line stands twice, the second begins behind the first. -/
theorem btw_apart {b : List UInt8} (hb : fitL b = true) {p y r z : List UInt8} (h : p ++ (btwL b ++ r) = y ++ (btwL b ++ z)) (hl : p.length < y.length) : ∃ t, y = p ++ (btwL b ++ t) ∧ r = t ++ (btwL b ++ z) := by
  have h13 := fit_btw hb
  have hB : btwL b = 13 :: (10 :: 45 :: 45 :: b) := rfl
  have LB : (btwL b).length = (10 :: 45 :: 45 :: b : List UInt8).length + 1 := by rw [hB]; rfl
  obtain ⟨q, rfl⟩ : ∃ q, y = p ++ q := by
    have : p <+: y := by
      have h1 : p <+: y ++ (btwL b ++ z) := ⟨btwL b ++ r, h⟩
      exact List.prefix_of_prefix_length_le h1 ⟨btwL b ++ z, rfl⟩ (by omega)
    obtain ⟨q, hq⟩ := this
    exact ⟨q, hq.symm⟩
  rw [List.append_assoc] at h
  have h := List.append_cancel_left h
  have hq : 0 < q.length := by rw [List.length_append] at hl; omega
  by_cases g : (btwL b).length ≤ q.length
  · obtain ⟨t, rfl⟩ : ∃ t, q = btwL b ++ t := by
      have : btwL b <+: q := List.prefix_of_prefix_length_le (l₃ := btwL b ++ r) ⟨r, rfl⟩ ⟨btwL b ++ z, h.symm⟩ g
      obtain ⟨t, ht⟩ := this
      exact ⟨t, ht.symm⟩
    refine ⟨t, by simp, ?_⟩
    rw [List.append_assoc] at h
    exact List.append_cancel_left h
  · exfalso
    have h1 : (btwL b ++ r)[q.length]? = (q ++ (btwL b ++ z))[q.length]? := by rw [h]
    rw [List.getElem?_append_right (Nat.le_refl _), Nat.sub_self] at h1
    have h2 : (btwL b ++ z)[0]? = some 13 := by rw [hB]; rfl
    rw [h2, List.getElem?_append_left (by omega)] at h1
    obtain ⟨k, hk⟩ : ∃ k, q.length = k + 1 := ⟨q.length - 1, by omega⟩
    rw [hk, hB, List.getElem?_cons_succ] at h1
    exact h13 (List.mem_of_getElem? h1)
def stepF (b : List UInt8) (n : Nat) (r : List UInt8) (e : En) : Option (List En) := if r = endL then some [e] else if [13, 10].isPrefixOf r = true then (decF b n (r.drop 2)).map (e :: ·) else none
theorem decF_at (b : List UInt8) (n : Nat) (s : List UInt8) : decF b (n + 1) s = match cutL (btwL b) s with
    | none => none
    | some (p, r) => match readL p with
      | none => none
      | some e => stepF b n r e := rfl
theorem step_end {b : List UInt8} {n : Nat} {r : List UInt8} (h : r = endL) : stepF b n r = fun e => some [e] := by funext e; exact if_pos h
theorem step_bad {b : List UInt8} {n : Nat} {r : List UInt8} (h : r ≠ endL) (g : ¬ [13, 10].isPrefixOf r = true) : stepF b n r = fun _ => none := by funext e; unfold stepF; rw [if_neg h, if_neg g]
theorem step_next {b : List UInt8} {n : Nat} {r r' : List UInt8} (h : r ≠ endL) (g : r = 13 :: 10 :: r') : stepF b n r = fun e => (decF b n r').map (e :: ·) := by
  funext e; unfold stepF; rw [if_neg h, g, if_pos (by simp)]; rfl
theorem pre2 {r : List UInt8} (h : [13, 10].isPrefixOf r = true) : ∃ r', r = 13 :: 10 :: r' := by
  obtain ⟨z, hz⟩ := List.isPrefixOf_iff_prefix.1 h
  exact ⟨z, hz.symm⟩
theorem good_clear {b p : List UInt8} (h : ∀ y z, p ≠ y ++ (btwL b ++ z)) : goodP b p = readL p := by
  unfold goodP
  cases c : cutL (btwL b) p with
  | none => rfl
  | some pr => obtain ⟨y, z⟩ := pr; exact absurd (cut_some (btw_ne b) c).1 (h y z)
theorem good_not {b p y z : List UInt8} (h : p = y ++ (btwL b ++ z)) : goodP b p = none := by
  unfold goodP
  cases c : cutL (btwL b) p with
  | none => exact absurd h (cut_none c y z)
  | some pr => rfl
theorem allP_not {b p : List UInt8} {l : List (List UInt8)} (h : goodP b p = none) : allP b (p :: l) = none := by
  unfold allP; rw [h]
theorem end_btw {b : List UInt8} (hb : fitL b = true) : cutL (btwL b) (45 :: 45 :: (b ++ endL)) = none := by
  cases c : cutL (btwL b) (45 :: 45 :: (b ++ endL)) with
  | none => rfl
  | some pr =>
    obtain ⟨y, z⟩ := pr
    exfalso
    have h := (cut_some (btw_ne b) c).1
    have h13 := fit_btw hb
    have h1 : (45 :: 45 :: (b ++ endL))[y.length]? = some 13 := by
      rw [h, List.getElem?_append_right (Nat.le_refl _), Nat.sub_self]; rfl
    have hl := congrArg List.length h
    have le : endL.length = 4 := rfl
    have lb : (btwL b).length = b.length + 4 := by unfold btwL; simp
    simp only [List.length_append, List.length_cons, le, lb] at hl
    have e : (45 :: 45 :: (b ++ endL) : List UInt8) = (45 :: 45 :: b) ++ endL := by simp
    have := (fit_pos hb).1
    rw [e, List.getElem?_append_left (by simp; omega)] at h1
    have := List.mem_of_getElem? h1
    exact h13 (List.mem_cons_of_mem _ this)
theorem decF_ends {b : List UInt8} : ∀ (n : Nat) (x : List UInt8) (l : List En), decF b n x = some l → ∃ y, x = y ++ (btwL b ++ endL)
  | 0, _, _, h => by cases h
  | n + 1, x, l, h => by
    rw [decF_at] at h
    cases c : cutL (btwL b) x with
    | none => rw [c] at h; cases h
    | some pr =>
      obtain ⟨p, r⟩ := pr
      rw [c] at h
      have ex := (cut_some (btw_ne b) c).1
      cases g : readL p with
      | none => simp only [g] at h; cases h
      | some e =>
        simp only [g] at h
        unfold stepF at h
        split at h
        · rename_i he
          exact ⟨p, by rw [ex, he]⟩
        · split at h
          · rename_i _ hp
            obtain ⟨r', rfl⟩ := pre2 hp
            cases q : decF b n r' with
            | none => rw [show (13 :: 10 :: r' : List UInt8).drop 2 = r' from rfl, q] at h; cases h
            | some m =>
              obtain ⟨y, hy⟩ := decF_ends n r' m q
              refine ⟨p ++ (btwL b ++ (13 :: 10 :: y)), ?_⟩
              rw [ex, hy]; simp
          · cases h
theorem sep_from {b : List UInt8} (hb : fitL b = true) {p t q z : List UInt8} (hp : ∀ y z', p ++ (btwL b ++ t) = y ++ (btwL b ++ z') → p.length ≤ y.length) (h : p ++ (btwL b ++ t) = q ++ (sepL b ++ z)) : (q = p ∧ t = 13 :: 10 :: z) ∨ ∃ u, q = p ++ (btwL b ++ u) := by
  have h' : p ++ (btwL b ++ t) = q ++ (btwL b ++ (13 :: 10 :: z)) := by rw [h, sep_btw]; simp
  have hl := hp q _ h'
  rcases Nat.lt_or_ge p.length q.length with g | g
  · obtain ⟨u, hu, _⟩ := btw_apart hb h' g
    exact .inr ⟨u, hu⟩
  · have e : q = p := by
      have := List.append_inj_left h'.symm (by omega)
      exact this
    subst e
    exact .inl ⟨rfl, List.append_cancel_left (List.append_cancel_left h')⟩
/-- Parts read one behind the other are those between the lines of the boundary. -/
theorem decF_split {b : List UInt8} (hb : fitL b = true) : ∀ (n : Nat) (y : List UInt8), y.length ≤ n → decF b (n + 1) (y ++ (btwL b ++ endL)) = allP b (splC (sepL b) n y) := by
  intro n
  induction n using Nat.strongRecOn with
  | _ n ih =>
    intro y hn
    have BN := btw_ne b
    have SN := sep_ne b
    have LB : (btwL b).length = b.length + 4 := by unfold btwL; simp
    rw [decF_at]
    cases c : cutL (btwL b) (y ++ (btwL b ++ endL)) with
    | none => exact absurd c (cut_in _ _ _)
    | some pr =>
      obtain ⟨p, r⟩ := pr
      obtain ⟨ex, mn⟩ := cut_some BN c
      have le := mn y endL rfl
      show (match readL p with | none => none | some e => stepF b n r e) = _
      rcases Nat.lt_or_ge p.length y.length with g | g
      · obtain ⟨t, rfl, rfl⟩ := btw_apart hb ex.symm g
        have mn' : ∀ y' z', p ++ (btwL b ++ t) = y' ++ (btwL b ++ z') → p.length ≤ y'.length := fun y' z' e => mn y' (z' ++ (btwL b ++ endL)) (by rw [e]; simp)
        have ne : t ++ (btwL b ++ endL) ≠ endL := fun e => by
          have := congrArg List.length e
          simp only [List.length_append, LB] at this
          omega
        have bad : ∀ u, goodP b (p ++ (btwL b ++ u)) = none := fun u => good_not rfl
        -- the first piece of the split
        have first : (∀ z, t ≠ 13 :: 10 :: z) → allP b (splC (sepL b) n (p ++ (btwL b ++ t))) = none := fun nz => by
          cases n with
          | zero => exact allP_not (bad t)
          | succ n =>
            unfold splC
            cases cs : cutL (sepL b) (p ++ (btwL b ++ t)) with
            | none => exact allP_not (bad t)
            | some qz =>
              obtain ⟨q, z⟩ := qz
              rcases sep_from hb mn' (cut_some SN cs).1 with ⟨_, e⟩ | ⟨u, rfl⟩
              · exact absurd e (nz z)
              · exact allP_not (bad u)
        by_cases hp : [13, 10].isPrefixOf (t ++ (btwL b ++ endL)) = true
        · obtain ⟨r', hr⟩ := pre2 hp
          rw [step_next ne hr]
          clear mn ex c le ne hp
          match t, hr with
          | [], hr =>
            have hr : 13 :: 10 :: (45 :: 45 :: (b ++ endL)) = 13 :: 10 :: r' := by rw [← hr]; unfold btwL; simp
            have : r' = 45 :: 45 :: (b ++ endL) := by
              have := (List.cons.inj (List.cons.inj hr).2).2
              exact this.symm
            rw [this, first (fun z => by simp)]
            have : decF b n (45 :: 45 :: (b ++ endL)) = none := by
              cases n with
              | zero => rfl
              | succ n => rw [decF_at, end_btw hb]
            rw [this]
            cases readL p <;> rfl
          | [c0], hr =>
            exfalso
            have hr : c0 :: 13 :: 10 :: 45 :: 45 :: (b ++ endL) = 13 :: 10 :: r' := by rw [← hr]; unfold btwL; simp
            have := (List.cons.inj (List.cons.inj hr).2).1
            revert this
            decide
          | c0 :: c1 :: t', hr =>
            have hr : c0 :: c1 :: (t' ++ (btwL b ++ endL)) = 13 :: 10 :: r' := by rw [← hr]; simp
            obtain ⟨e0, e1⟩ := List.cons.inj hr
            obtain ⟨e1, e2⟩ := List.cons.inj e1
            subst e0; subst e1; subst e2
            have hn' : t'.length + 1 ≤ n := by
              simp only [List.length_append, List.length_cons] at hn
              omega
            obtain ⟨n, rfl⟩ : ∃ k, n = k + 1 := ⟨n - 1, by omega⟩
            rw [ih n (Nat.lt_succ_self n) t' (by omega)]
            have cs : cutL (sepL b) (p ++ (btwL b ++ (13 :: 10 :: t'))) = some (p, t') := by
              have e : p ++ (btwL b ++ (13 :: 10 :: t')) = p ++ (sepL b ++ t') := by rw [sep_btw]; simp
              cases cs : cutL (sepL b) (p ++ (btwL b ++ (13 :: 10 :: t'))) with
              | none => exact absurd e (cut_none cs p t')
              | some qz =>
                obtain ⟨q, z⟩ := qz
                obtain ⟨h1, h2⟩ := cut_some SN cs
                have := h2 p t' e
                rcases sep_from hb mn' h1 with ⟨e8, e9⟩ | ⟨u, rfl⟩
                · cases e9; rw [e8]
                · simp only [List.length_append, LB] at this
                  omega
            have gp : goodP b p = readL p := good_clear (fun y' z' e => by
              have h1 := mn' y' (z' ++ (btwL b ++ (13 :: 10 :: t'))) (by rw [e]; simp)
              have := congrArg List.length e
              simp only [List.length_append, LB] at this
              omega)
            show _ = allP b (match cutL (sepL b) (p ++ (btwL b ++ (13 :: 10 :: t'))) with | none => [p ++ (btwL b ++ (13 :: 10 :: t'))] | some (p, r) => p :: splC (sepL b) n r)
            rw [cs]
            show _ = (match goodP b p with | none => none | some e => (allP b (splC (sepL b) n t')).map (e :: ·))
            rw [gp]
        · rw [step_bad ne hp, first (fun z e => hp (by rw [e]; simp))]
          cases readL p <;> rfl
      · have e : y = p := by
          have : y.length = p.length := by omega
          exact List.append_inj_left ex this
        subst e
        have re : r = endL := (List.append_cancel_left (List.append_cancel_left ex)).symm
        have none_in : ∀ y' z', y ≠ y' ++ (btwL b ++ z') := fun y' z' e => by
          have h1 := mn y' (z' ++ (btwL b ++ endL)) (by conv => lhs; rw [e]
                                                        simp)
          have := congrArg List.length e
          simp only [List.length_append, LB] at this
          omega
        have one : splC (sepL b) n y = [y] := by
          cases n with
          | zero => rfl
          | succ n =>
            unfold splC
            cases cs : cutL (sepL b) y with
            | none => rfl
            | some qz =>
              obtain ⟨q, z⟩ := qz
              exact absurd (by rw [(cut_some SN cs).1, sep_btw]; simp) (none_in q (13 :: 10 :: z))
        rw [step_end re, one]
        unfold allP
        rw [good_clear none_in]
        cases readL y <;> rfl
/-- Ends of lines in a text. -/
theorem any_brk : ∀ l : List UInt8, Lib.containsAny l [13, 10] = brk l
  | [] => by rfl
  | c :: l => by
    have ih := any_brk l
    unfold Lib.containsAny at ih ⊢
    have g := Lib.indexAny_ge [13, 10] l
    show decide (0 ≤ (if [13, 10].contains c then 0 else if Lib.indexAny l [13, 10] == -1 then -1 else Lib.indexAny l [13, 10] + 1)) = ((c == 13 || c == 10) || brk l)
    have e : [13, 10].contains c = (c == 13 || c == 10) := by rw [Bool.eq_iff_iff]; simp
    rw [e]
    cases q : (c == 13 || c == 10) with
    | true => simp
    | false =>
      rw [← ih, if_neg (by decide)]
      by_cases m : Lib.indexAny l [13, 10] = -1
      · rw [m]; rfl
      · have : (Lib.indexAny l [13, 10] == -1) = false := by rw [beq_eq_false_iff_ne]; exact m
        rw [this, Bool.false_or]
        show decide (0 ≤ Lib.indexAny l [13, 10] + 1) = _
        rw [decide_eq_decide]
        omega
end Go.Proofs.YtgibkbeakfaehaaDoor

namespace Go.Proofs.YtgibkbeakfaehaaDoor
open Go.Shelf Go.RowKit
set_option maxRecDepth 100000
def cutT (t l : List UInt8) : List UInt8 × List UInt8 × Bool := match cutL t l with | none => (l, [], false) | some (p, r) => (p, r, true)
theorem cut_anyT (t l : List UInt8) (w : World) (hs : l.length ≤ 1073741824) (ht : t ≠ []) (hm : SomeMax w) :
    Calls Tryd.prog 59 #[.string (txt l), .string (txt t)] w fun e w' => e = .returned (.tuple #[.string (txt (cutT t l).1), .string (txt (cutT t l).2.1), .bool (cutT t l).2.2]) ∧ Below w.heap.size w w' := by
  obtain ⟨m, hm⟩ := hm
  have := Any.strings_Cut lays145 (txt l) (txt t) m w (by show l.length < _; omega) hm
  have e1 : Lib.cut (txt l).data.toList (txt t).data.toList = cutT t l := cut_lib t ht l
  rw [e1] at this
  refine this.mono ?_
  rintro e w' ⟨rfl, n, rfl⟩
  exact ⟨rfl, ⟨rfl, rfl, rfl, Nat.le_refl _, fun _ _ => rfl⟩⟩
theorem cutT_len (t l : List UInt8) : (cutT t l).1.length ≤ l.length ∧ (cutT t l).2.1.length ≤ l.length := by
  unfold cutT
  cases c : cutL t l with
  | none => exact ⟨Nat.le_refl _, Nat.zero_le _⟩
  | some pr =>
    obtain ⟨p, r⟩ := pr
    by_cases ht : t = []
    · subst ht
      cases l with
      | nil => cases c; exact ⟨Nat.le_refl _, Nat.le_refl _⟩
      | cons x l =>
        rw [cut_hit (by rfl)] at c
        cases c
        exact ⟨Nat.zero_le _, Nat.le_refl _⟩
    · have := congrArg List.length (cut_some ht c).1
      simp only [List.length_append] at this
      show p.length ≤ _ ∧ r.length ≤ _
      omega
theorem split_list (s t : ByteArray) (ht : 0 < t.size) : (Lib.splitB t 0 (Lib.countB s t) s).map (·.data.toList) = splC (bL t) s.size (bL s) := by
  rw [Lib.splitB_data]
  have : bL t ≠ [] := bL_ne ht
  have h := split_c (bL t) this s.size (bL s) (by rw [Lib.size_eq]; exact Nat.le_refl _)
  exact h
theorem splitP_any (s t : ByteArray) (w : World) (hs : s.size ≤ 1073741824) (ht : 0 < t.size) (hm : SomeMax w) :
    Calls Tryd.prog 45 #[.string s, .string t] w fun e w' => ∃ g, e = .returned (.slice (some ⟨g, 0, none⟩) (splC (bL t) s.size (bL s)).length (splC (bL t) s.size (bL s)).length) ∧ w.heap.size ≤ g ∧ PcsAt w' g (splC (bL t) s.size (bL s)) ∧ Below w.heap.size w w' := by
  obtain ⟨m, hm⟩ := hm
  have := Any.strings_Split lays146 (by kernel_rfl) s t m w (by omega) hm ht
  have SL := split_list s t ht
  have LN : (splC (bL t) s.size (bL s)).length = Lib.countB s t + 1 := by
    rw [← SL, List.length_map]
    exact Lib.splitB_all t ht 0 _ s rfl
  rw [← LN] at this
  refine this.mono ?_
  rintro e w' ⟨rfl, rfl⟩
  refine ⟨w.heap.size, rfl, Nat.le_refl _, fun i hi => ?_, (Below.refl _ w).alloc (Nat.le_refl _) _⟩
  refine Lib.pieces_cell_at w _ _ i _ ?_
  have h2 := congrArg (fun l => l[i]?) SL
  simp only [List.getElem?_map] at h2
  rw [List.getElem?_eq_getElem hi] at h2
  cases q : (Lib.splitB t 0 (Lib.countB s t) s)[i]? with
  | none => rw [q] at h2; cases h2
  | some x =>
    rw [q] at h2
    have h2 : some x.data.toList = some (splC (bL t) s.size (bL s))[i] := h2
    rw [← Option.some.inj h2]
    simp [txt]
theorem cutPreP_any (l p : List UInt8) (w : World) :
    Calls Tryd.prog 42 #[.string (txt l), .string (txt p)] w fun e w' => e = .returned (.tuple #[.string (txt (if p.isPrefixOf l then l.drop p.length else l)), .bool (p.isPrefixOf l)]) ∧ w' = w :=
  Any.strings_CutPrefix lays103 (txt l) (txt p) w
theorem cutSufP_any (l p : List UInt8) (w : World) (hs : l.length ≤ 9223372036854775807) :
    Calls Tryd.prog 43 #[.string (txt l), .string (txt p)] w fun e w' => e = .returned (.tuple #[.string (txt (if p.isSuffixOf l then l.take (l.length - p.length) else l)), .bool (p.isSuffixOf l)]) ∧ w' = w :=
  Any.strings_CutSuffix lays104 (txt l) (txt p) w hs
end Go.Proofs.YtgibkbeakfaehaaDoor

namespace Go.Proofs.YtgibkbeakfaehaaDoor
open Go.Shelf Go.RowKit
def acren : Go.Shelf.Ren := ⟨fun | 119 => 93 | 137 => 92 | 152 => 87 | 153 => 82 | 217 => 73 | 224 => 75 | 225 => 74 | 226 => 88 | 227 => 89 | 228 => 90 | 266 => 83 | n => n, fun | 0 => 0 | 3 => 3 | 4 => 4 | 5 => 5 | 9 => 9 | 21 => 21 | 46 => 84 | 72 => 54 | 116 => 96 | 117 => 97 | 124 => 105 | n => n, fun  | n => n⟩
theorem lays152 : Go.Proofs.Lays.n152 Tryd.prog acren := {
  mixed := by kernel_rfl
  f119 := Tryd.func93.trans (congrArg some (by kernel_rfl))
  f137 := Tryd.func92.trans (congrArg some (by kernel_rfl))
  f152 := Tryd.func87.trans (congrArg some (by kernel_rfl))
  f217 := Tryd.func73.trans (congrArg some (by kernel_rfl))
  f224 := Tryd.func75.trans (congrArg some (by kernel_rfl))
  f225 := Tryd.func74.trans (congrArg some (by kernel_rfl))
  f266 := Tryd.func83.trans (congrArg some (by kernel_rfl))
  t0 := Tryd.underlying0
  a0 := Tryd.isAgg0
  z0 := Tryd.sizeOf0
  v0 := Tryd.zeroValue0
  t3 := Tryd.underlying3
  a3 := Tryd.isAgg3
  z3 := Tryd.sizeOf3
  v3 := Tryd.zeroValue3
  t4 := Tryd.underlying4
  a4 := Tryd.isAgg4
  z4 := Tryd.sizeOf4
  v4 := Tryd.zeroValue4
  t5 := Tryd.underlying5
  a5 := Tryd.isAgg5
  z5 := Tryd.sizeOf5
  v5 := Tryd.zeroValue5
  t9 := Tryd.underlying9
  a9 := Tryd.isAgg9
  z9 := Tryd.sizeOf9
  v9 := Tryd.zeroValue9
  t21 := Tryd.underlying21
  a21 := Tryd.isAgg21
  z21 := Tryd.sizeOf21
  v21 := Tryd.zeroValue21
  t46 := Tryd.underlying84
  a46 := Tryd.isAgg84
  z46 := Tryd.sizeOf84
  v46 := Tryd.zeroValue84 }
theorem lays153 : Go.Proofs.Lays.n153 Tryd.prog acren := {
  mixed := by kernel_rfl
  f119 := Tryd.func93.trans (congrArg some (by kernel_rfl))
  f137 := Tryd.func92.trans (congrArg some (by kernel_rfl))
  f152 := Tryd.func87.trans (congrArg some (by kernel_rfl))
  f153 := Tryd.func82.trans (congrArg some (by kernel_rfl))
  f217 := Tryd.func73.trans (congrArg some (by kernel_rfl))
  f224 := Tryd.func75.trans (congrArg some (by kernel_rfl))
  f225 := Tryd.func74.trans (congrArg some (by kernel_rfl))
  f226 := Tryd.func88.trans (congrArg some (by kernel_rfl))
  f227 := Tryd.func89.trans (congrArg some (by kernel_rfl))
  f228 := Tryd.func90.trans (congrArg some (by kernel_rfl))
  f266 := Tryd.func83.trans (congrArg some (by kernel_rfl))
  t0 := Tryd.underlying0
  a0 := Tryd.isAgg0
  z0 := Tryd.sizeOf0
  v0 := Tryd.zeroValue0
  t3 := Tryd.underlying3
  a3 := Tryd.isAgg3
  z3 := Tryd.sizeOf3
  v3 := Tryd.zeroValue3
  t4 := Tryd.underlying4
  a4 := Tryd.isAgg4
  z4 := Tryd.sizeOf4
  v4 := Tryd.zeroValue4
  t5 := Tryd.underlying5
  a5 := Tryd.isAgg5
  z5 := Tryd.sizeOf5
  v5 := Tryd.zeroValue5
  t9 := Tryd.underlying9
  a9 := Tryd.isAgg9
  z9 := Tryd.sizeOf9
  v9 := Tryd.zeroValue9
  t21 := Tryd.underlying21
  a21 := Tryd.isAgg21
  z21 := Tryd.sizeOf21
  v21 := Tryd.zeroValue21
  t46 := Tryd.underlying84
  a46 := Tryd.isAgg84
  z46 := Tryd.sizeOf84
  v46 := Tryd.zeroValue84
  t116 := Tryd.underlying96
  a116 := Tryd.isAgg96
  z116 := Tryd.sizeOf96
  t117 := Tryd.underlying97
  a117 := Tryd.isAgg97
  z117 := Tryd.sizeOf97
  v117 := Tryd.zeroValue97
  t124 := Tryd.underlying105
  a124 := Tryd.isAgg105
  z124 := Tryd.sizeOf105
  v124 := Tryd.zeroValue105 }
theorem lays226 : Go.Proofs.Lays.n226 Tryd.prog acren := {
  mixed := by kernel_rfl
  f226 := Tryd.func88.trans (congrArg some (by kernel_rfl))
  t3 := Tryd.underlying3
  a3 := Tryd.isAgg3
  z3 := Tryd.sizeOf3
  v3 := Tryd.zeroValue3
  t4 := Tryd.underlying4
  a4 := Tryd.isAgg4
  z4 := Tryd.sizeOf4
  v4 := Tryd.zeroValue4 }
theorem lays137 : Go.Proofs.Lays.n137 Tryd.prog acren := {
  mixed := by kernel_rfl
  f137 := Tryd.func92.trans (congrArg some (by kernel_rfl))
  f217 := Tryd.func73.trans (congrArg some (by kernel_rfl))
  f266 := Tryd.func83.trans (congrArg some (by kernel_rfl))
  t3 := Tryd.underlying3
  a3 := Tryd.isAgg3
  z3 := Tryd.sizeOf3
  v3 := Tryd.zeroValue3
  t5 := Tryd.underlying5
  a5 := Tryd.isAgg5
  z5 := Tryd.sizeOf5
  v5 := Tryd.zeroValue5
  t9 := Tryd.underlying9
  a9 := Tryd.isAgg9
  z9 := Tryd.sizeOf9
  v9 := Tryd.zeroValue9 }
/-- A short text of ASCII. -/
structure AscW (s : ByteArray) : Prop where
  hi : s.size ≤ 100
  low : ∀ b ∈ s.data.toList, b.toNat < 128
theorem indexByte_geW (c : UInt8) : ∀ l : List UInt8, -1 ≤ Lib.indexByte l c
  | [] => Int.le_refl _
  | x :: t => by
    have := indexByte_geW c t
    unfold Lib.indexByte
    split
    · omega
    · split
      · omega
      · omega
theorem indexByte_atW (c : UInt8) : ∀ l : List UInt8, 0 ≤ Lib.indexByte l c ↔ c ∈ l
  | [] => by constructor <;> intro h <;> cases h
  | x :: t => by
    have ih := indexByte_atW c t
    have hg := indexByte_geW c t
    unfold Lib.indexByte
    by_cases h : x = c
    · simp [h]
    · have hc : ¬ c = x := fun e => h e.symm
      have hb : ¬ (x == c) = true := by simpa using h
      rw [if_neg hb, List.mem_cons, ← ih]
      by_cases g : Lib.indexByte t c = -1
      · simp [g, hc]
      · have gb : ¬ (Lib.indexByte t c == -1) = true := by simpa using g
        rw [if_neg gb]
        constructor
        · intro _; right; omega
        · intro _; omega
theorem indexByte_noneW (s : ByteArray) (c : UInt8) (w : World) (h : ¬ c ∈ s.data.toList) :
    Calls Tryd.prog 92 #[.string s, .int .u8 (c.toNat : Int)] w fun e w' => e = .returned (.int .i64 (-1)) ∧ w' = w := by
  have := Any.strings_IndexByte lays137 s (c.toNat : Int) w
  rw [show ((c.toNat : Int)).toNat.toUInt8 = c by simp] at this
  refine this.mono ?_
  rintro e w1 ⟨rfl, rfl⟩
  refine ⟨ret_int ?_, rfl⟩
  have e := indexByte_atW c s.data.toList
  have := indexByte_geW c s.data.toList
  have : ¬ 0 ≤ Lib.indexByte s.data.toList c := fun g => h (e.1 g)
  omega
def runeW (r : Int) : Bool := decide ((0 ≤ r ∧ r < 55296) ∨ (57343 < r ∧ r ≤ 1114111))
theorem runeW_yes {r : Int} (h : (0 ≤ r ∧ r < 55296) ∨ (57343 < r ∧ r ≤ 1114111)) : runeW r = true := decide_eq_true h
theorem runeW_no {r : Int} (h : ¬ ((0 ≤ r ∧ r < 55296) ∨ (57343 < r ∧ r ≤ 1114111))) : runeW r = false := decide_eq_false h
set_option maxHeartbeats 1000000 in
theorem validRuneW (r : Int) (w : World) :
    Calls Tryd.prog 93 #[.int .i32 r] w fun e w' => e = .returned (.bool (runeW r)) ∧ w' = w := by
  by_cases h1 : 0 ≤ r
  · by_cases h2 : r < 55296
    · go_enter Tryd.func93, Tryd.ntmps93
      go_wp2_with fail
      go_ret
      exact ⟨ret_bool (runeW_yes (by omega)).symm, rfl⟩
    · by_cases h3 : 57343 < r
      · by_cases h4 : r ≤ 1114111
        · go_enter Tryd.func93, Tryd.ntmps93
          go_wp2_with fail
          go_ret
          exact ⟨ret_bool (runeW_yes (by omega)).symm, rfl⟩
        · go_enter Tryd.func93, Tryd.ntmps93
          go_wp2_with fail
          go_ret
          exact ⟨ret_bool (runeW_no (by omega)).symm, rfl⟩
      · go_enter Tryd.func93, Tryd.ntmps93
        go_wp2_with fail
        go_ret
        exact ⟨ret_bool (runeW_no (by omega)).symm, rfl⟩
  · have h3 : ¬ 57343 < r := by omega
    go_enter Tryd.func93, Tryd.ntmps93
    go_wp2_with fail
    go_ret
    exact ⟨ret_bool (runeW_no (by omega)).symm, rfl⟩
/-- The last byte of a rune's text that is none of ASCII. -/
theorem enc_lastW {r : Int} (h : (128 ≤ r ∧ r < 55296) ∨ (57343 < r ∧ r ≤ 1114111)) : 2 ≤ (Utf8.encode r).size ∧ (Utf8.encode r).size ≤ 4 ∧ ∃ (hl : (Utf8.encode r).size - 1 < (Utf8.encode r).size), 128 ≤ ((Utf8.encode r)[(Utf8.encode r).size - 1]).toNat := by
  have hv : Utf8.valid r = true := by unfold Utf8.valid; simp; omega
  obtain ⟨n, rfl⟩ : ∃ n : Nat, r = (n : Int) := ⟨r.toNat, by omega⟩
  have h128 : ¬ n < 128 := by omega
  have hn : n ≤ 1114111 := by omega
  have hm : n % 64 < 64 := Nat.mod_lt _ (by decide)
  have E : Utf8.encode (n : Int) = if n < 2048 then ⟨#[UInt8.ofNat (192 + n / 64), UInt8.ofNat (128 + n % 64)]⟩ else if n < 65536 then ⟨#[UInt8.ofNat (224 + n / 4096), UInt8.ofNat (128 + n / 64 % 64), UInt8.ofNat (128 + n % 64)]⟩ else ⟨#[UInt8.ofNat (240 + n / 262144), UInt8.ofNat (128 + n / 4096 % 64), UInt8.ofNat (128 + n / 64 % 64), UInt8.ofNat (128 + n % 64)]⟩ := by
    unfold Utf8.encode
    rw [if_pos hv]
    simp only [Int.toNat_natCast]
    rw [if_neg h128]
  have B : (UInt8.ofNat (128 + n % 64)).toNat = 128 + n % 64 := by
    rw [UInt8.toNat_ofNat']; omega
  generalize Utf8.encode (n : Int) = t at E ⊢
  split at E
  · subst E
    refine ⟨by show 2 ≤ 2; omega, by show 2 ≤ 4; omega, by show 2 - 1 < 2; omega, ?_⟩
    show 128 ≤ (UInt8.ofNat (128 + n % 64)).toNat
    omega
  · split at E
    · subst E
      refine ⟨by show 2 ≤ 3; omega, by show 3 ≤ 4; omega, by show 3 - 1 < 3; omega, ?_⟩
      show 128 ≤ (UInt8.ofNat (128 + n % 64)).toNat
      omega
    · subst E
      refine ⟨by show 2 ≤ 4; omega, by show 4 ≤ 4; omega, by show 4 - 1 < 4; omega, ?_⟩
      show 128 ≤ (UInt8.ofNat (128 + n % 64)).toNat
      omega
theorem index_anyW (s : ByteArray) (i : Int) (j : Nat) (h : i = j) (hj : j < s.size) (w : World) : (Instr.index 9 (.string s) (.int .i64 i)).run Tryd.prog w = .ok (.int .u8 (s[j].toNat : Int)) w := by
  subst h
  rw [run_index_string _ _ _ _ _ Tryd.underlying9, dif_pos ⟨by omega, by omega⟩]
  rfl
theorem wrap_idW (z : Int) (h0 : -9223372036854775808 ≤ z) (h1 : z ≤ 9223372036854775807) : IntKind.i64.wrap z = z := by
  rw [IntKind.wrap_i64]; omega
theorem exit_in_blockW {n : Nat} {Q : Exit → Act → World → Prop} {a : Act} {w : World} (h : Q .ret a w) : Exit.inBlock n Q .ret a w := h
theorem not_highW {s : ByteArray} (h : AscW s) {c : UInt8} (hc : 128 ≤ c.toNat) (k n : Nat) : ¬ c ∈ (s.extract k n).data.toList := by
  intro hm
  have : c ∈ s.data.toList := by
    have e : (s.extract k n).data.toList = (s.data.toList.drop k).take (n - k) := by simp [List.take_drop]
    rw [e] at hm
    exact List.mem_of_mem_drop (List.mem_of_mem_take hm)
  have := h.low c this
  omega
theorem low_atW {s : ByteArray} (h : AscW s) (k : Nat) (hk : k < s.size) : s[k].toNat < 128 := h.low _ (by
  have : s[k] = s.data.toList[k]'(by simpa using hk) := by simp; rfl
  rw [this]; exact List.getElem_mem _)
set_option maxHeartbeats 4000000 in
set_option maxRecDepth 1000000 in
theorem indexRune_oddW (s : ByteArray) (r : Int) (w : World) (hr : 128 ≤ r) (hv : ¬ ((0 ≤ r ∧ r < 55296) ∨ (57343 < r ∧ r ≤ 1114111))) :
    Calls Tryd.prog 87 #[.string s, .int .i32 r] w fun e w' => e = .returned (.int .i64 (-1)) ∧ Below w.heap.size w w' := by
  have e1 : 0 ≤ r := by omega
  have e3 : ¬ r < 128 := by omega
  have e2 : (r == 65533) = false := by rw [beq_eq_false_iff_ne]; omega
  have HV := hide (validRuneW r w)
  rw [runeW_no hv] at HV
  clear hv
  go_enter Tryd.func87, Tryd.ntmps87
  go_wp2_with fail
  refine HV.out.mono ?_
  rintro e w1 ⟨rfl, rfl⟩
  go_wp2_with fail
  go_ret
  exact ⟨rfl, Below.refl _ _⟩
set_option maxHeartbeats 4000000 in
set_option maxRecDepth 1000000 in
theorem indexRune_highW (s : ByteArray) (r : Int) (w : World) (hs : AscW s) (hr : 128 ≤ r) (hv : (0 ≤ r ∧ r < 55296) ∨ (57343 < r ∧ r ≤ 1114111)) (h5 : r ≠ 65533) :
    Calls Tryd.prog 87 #[.string s, .int .i32 r] w fun e w' => e = .returned (.int .i64 (-1)) ∧ Below w.heap.size w w' := by
  have e1 : 0 ≤ r := by omega
  have e3 : ¬ r < 128 := by omega
  have e2 : (r == 65533) = false := by rw [beq_eq_false_iff_ne]; omega
  have HV := hide (validRuneW r w)
  rw [runeW_yes hv] at HV
  have hi := hs.hi
  have i4 : (s.size : Int) ≤ 100 := by omega
  obtain ⟨s2, s4, hl, hbe⟩ := enc_lastW (r := r) (by omega)
  obtain ⟨n, hn⟩ : ∃ n : Nat, n = (Utf8.encode r).size := ⟨_, rfl⟩
  have j1 : (2 : Int) ≤ (n : Int) := by omega
  have j2 : (n : Int) ≤ 4 := by omega
  by_cases sh : s.size ≤ n - 1
  · obtain ⟨z, hz⟩ : ∃ z : Int, z = (n : Int) := ⟨_, rfl⟩
    rw [← hz] at j1 j2
    have wz : IntKind.i64.wrap z = z := wrap_idW z (by omega) (by omega)
    have z1 : ¬ z - 1 < (s.size : Int) := by omega
    have hsz : ((Utf8.encode r).size : Int) = z := by rw [hz, hn]
    clear hv hs hbe hl s2 s4 hz sh hn
    go_enter Tryd.func87, Tryd.ntmps87
    go_wp2_with fail
    refine HV.out.mono ?_
    rintro e w1 ⟨rfl, rfl⟩
    clear HV
    go_wp2_with fail
    go_step3
    go_wp2_with fail
    go_loop [9, 10] (fun i _ => i = .int .i64 (z - 1)) (fun _ _ => 0)
    case atStart => rfl
    case round =>
      subst hrel
      go_wp2_with fail
      go_ret
      exact ⟨rfl, Below.refl _ _⟩
  have hlo : n ≤ s.size := by omega
  have K : ∃ (sb : Nat) (tb : UInt8), sb < 128 ∧ 128 ≤ tb.toNat ∧ (∀ w, (Instr.index 9 (.string s) (.int .i64 ((n : Int) - 1))).run Tryd.prog w = .ok (.int .u8 (sb : Int)) w) ∧ (∀ w, (Instr.index 9 (.string (Utf8.encode r)) (.int .i64 ((n : Int) - 1))).run Tryd.prog w = .ok (.int .u8 (tb.toNat : Int)) w) :=
    ⟨_, _, low_atW hs ((Utf8.encode r).size - 1) (by omega), hbe, fun w => index_anyW s _ _ (by omega) (by omega) w, fun w => index_anyW _ _ _ (by omega) hl w⟩
  obtain ⟨sb, tb, lk, hb, x1, x2⟩ := K
  have NE : ((sb : Int) != (tb.toNat : Int)) = true := by rw [bne_iff_ne]; omega
  have HI := hide (fun k w => indexByte_noneW (s.extract k s.size) tb w (not_highW hs hb _ _))
  have hsz : (Utf8.encode r).size = n := hn.symm
  have n2 := s2
  have n4 := s4
  clear hv hs hb lk n2 n4 s2 s4 hbe hl sh hn
  obtain ⟨z, hz⟩ : ∃ z : Int, z = (n : Int) := ⟨_, rfl⟩
  rw [← hz] at x1 x2 j1 j2
  have wz : IntKind.i64.wrap z = z := wrap_idW z (by omega) (by omega)
  have z0 : 0 ≤ z := by omega
  have z1 : z ≤ (s.size : Int) := by omega
  replace hsz : ((Utf8.encode r).size : Int) = z := by rw [hsz, hz]
  clear hz
  go_enter Tryd.func87, Tryd.ntmps87
  go_wp2_with fail
  refine HV.out.mono ?_
  rintro e w1 ⟨rfl, rfl⟩
  clear HV
  go_wp2_with fail
  go_step3
  go_wp2_with fail
  go_loop [9, 10] (fun i _ => i = .int .i64 (z - 1)) (fun _ _ => 0)
  case atStart => rfl
  case round =>
    subst hrel
    go_wp2_with fail
    go_step3
    go_wp2_with fail
    go_quiet (fail)
    have HB := hide (below_drewN (Below.refl w1.heap.size w1) nq)
    generalize w1.drewN nq = wr at *
    go_wp2_with fail
    go_quiet ((go_at_call 92; exact Calls.quiet_of_same (HI.out _ _)))
    go_wp2_with fail
    rw [Exit.noGoto_ret]
    refine exit_in_blockW ?_
    refine (?_ : bodyPost Tryd.prog Tryd.f87 (fun e w' => e = .returned (.int .i64 (-1)) ∧ Below w1.heap.size w1 w') Exit.ret _ _)
    go_ret
    exact ⟨rfl, below_drewN HB.out _⟩
set_option maxHeartbeats 4000000 in
set_option maxRecDepth 1000000 in
theorem indexRune_fffdW (s : ByteArray) (w : World) (hs : AscW s) :
    Calls Tryd.prog 87 #[.string s, .int .i32 65533] w fun e w' => e = .returned (.int .i64 (-1)) ∧ Below w.heap.size w w' := by
  have hi := hs.hi
  go_enter Tryd.func87, Tryd.ntmps87
  go_wp2_with fail
  go_loopw [] (fun w' => ∃ pos : Nat, w' = w.iter s pos ∧ pos ≤ s.size) (fun w' => s.size - w'.iterPos w.heap.size)
  case atStart => exact ⟨0, rfl, Nat.zero_le _⟩
  case round =>
    obtain ⟨pos, rfl, hps⟩ := hrel
    by_cases hp : pos < s.size
    · have hnx : ∀ ty, (Instr.next (.pointer (some ⟨w.heap.size, 0, none⟩)) true ty).run Tryd.prog (w.iter s pos) = _ := fun ty => run_next_any w s pos ty hp
      have lo := low_atW hs pos hp
      rw [decode_ascii s pos hp lo] at hnx
      have ne : (((s[pos]'hp).toNat : Int) == 65533) = false := by rw [beq_eq_false_iff_ne]; omega
      clear hs lo
      generalize (s[pos]'hp).toNat = x at *
      go_wp2_with fail
      go_roundw
      case rel => exact ⟨pos + 1, rfl, hp⟩
      case measure => simp; omega
    · have hnx : ∀ ty, (Instr.next (.pointer (some ⟨w.heap.size, 0, none⟩)) true ty).run Tryd.prog (w.iter s pos) = _ := fun ty => run_next_end w s pos ty hp
      go_wp2_with fail
      go_ret
      exact ⟨rfl, (Below.refl _ w).alloc (Nat.le_refl _) _⟩
def posW (w : World) (k : Nat) : Nat := match w.heap[k]? with | some (.stringIter _ p) => p | _ => 0
theorem asc_crlf : AscW ⟨#[13, 10]⟩ := ⟨by decide, by decide⟩
/-- A rune beyond ASCII isn't an end of a line. -/
theorem runeCr (r : Int) (w : World) (h0 : 128 ≤ r) :
    Calls Tryd.prog 87 #[.string ⟨#[13, 10]⟩, .int .i32 r] w fun e w' => e = .returned (.int .i64 (-1)) ∧ Below w.heap.size w w' := by
  by_cases h2 : r = 65533
  · subst h2; exact indexRune_fffdW _ w asc_crlf
  · by_cases h3 : (0 ≤ r ∧ r < 55296) ∨ (57343 < r ∧ r ≤ 1114111)
    · exact indexRune_highW _ r w asc_crlf (by omega) h3 h2
    · exact indexRune_oddW _ r w (by omega) h3
theorem get_hi {s : ByteArray} {k : Nat} (h : k < s.size) : (s.get! k).toNat = (s[k]'h).toNat := by
  have := get_at s k h
  rw [Nat.add_zero] at this
  rw [this]
/-- What a rune beyond ASCII is told by is none of ASCII. -/
theorem dec_skips {s : ByteArray} {pos : Nat} (h : pos < s.size) (ha : 128 ≤ (s[pos]'h).toNat) : ∀ k, k < (Utf8.decode s pos).2 → ∃ g : pos + k < s.size, 128 ≤ (s[pos + k]'g).toNat := by
  have hn : ¬ (s[pos]'h).toNat < 128 := by omega
  have z : ∃ g : pos + 0 < s.size, 128 ≤ (s[pos + 0]'g).toNat := ⟨h, ha⟩
  have C : ∀ k, (decide (pos + k < s.size) && (s.get! (pos + k)).toNat / 64 == 2) = true → ∃ g : pos + k < s.size, 128 ≤ (s[pos + k]'g).toNat := by
    intro k hk
    rw [Bool.and_eq_true, decide_eq_true_eq, beq_iff_eq] at hk
    refine ⟨hk.1, ?_⟩
    rw [get_hi hk.1] at hk
    omega
  have one : ∀ k, k < 1 → ∃ g : pos + k < s.size, 128 ≤ (s[pos + k]'g).toNat := fun k hk => by
    obtain rfl : k = 0 := by omega
    exact z
  unfold Utf8.decode
  simp only [get_at s pos h, hn, if_false]
  generalize hc1 : (decide (pos + 1 < s.size) && (s.get! (pos + 1)).toNat / 64 == 2) = q1
  generalize hc2 : (decide (pos + 2 < s.size) && (s.get! (pos + 2)).toNat / 64 == 2) = q2
  generalize hc3 : (decide (pos + 3 < s.size) && (s.get! (pos + 3)).toNat / 64 == 2) = q3
  split
  · rename_i hh
    rw [Bool.and_eq_true] at hh
    split
    · intro k hk
      have hk : k < 2 := hk
      rcases (by omega : k = 0 ∨ k = 1) with rfl | rfl
      · exact z
      · exact C 1 (hc1.trans hh.2)
    · exact one
  · split
    · rename_i _ hh
      simp only [Bool.and_eq_true] at hh
      split
      · intro k hk
        have hk : k < 3 := hk
        rcases (by omega : k = 0 ∨ k = 1 ∨ k = 2) with rfl | rfl | rfl
        · exact z
        · exact C 1 (hc1.trans hh.1.2)
        · exact C 2 (hc2.trans hh.2)
      · exact one
    · split
      · rename_i _ _ hh
        simp only [Bool.and_eq_true] at hh
        split
        · intro k hk
          have hk : k < 4 := hk
          rcases (by omega : k = 0 ∨ k = 1 ∨ k = 2 ∨ k = 3) with rfl | rfl | rfl | rfl
          · exact z
          · exact C 1 (hc1.trans hh.1.1.2)
          · exact C 2 (hc2.trans hh.1.2)
          · exact C 3 (hc3.trans hh.2)
        · exact one
      · exact one
theorem dec_room {s : ByteArray} {pos : Nat} (h : pos < s.size) (ha : 128 ≤ (s[pos]'h).toNat) : pos + (Utf8.decode s pos).2 ≤ s.size := by
  have w1 := Lib.decode_width_pos s pos h
  obtain ⟨g, _⟩ := dec_skips h ha ((Utf8.decode s pos).2 - 1) (by omega)
  omega
theorem brk_take (l : List UInt8) {k : Nat} (h : k < l.length) : brk (l.take (k + 1)) = (brk (l.take k) || (l[k] == 13 || l[k] == 10)) := by
  unfold brk
  rw [List.take_succ_eq_append_getElem h, List.any_append]; simp
theorem brk_hit {l : List UInt8} {k : Nat} (h : k < l.length) (hk : (l[k] == 13 || l[k] == 10) = true) : brk l = true := by
  unfold brk
  exact List.any_eq_true.2 ⟨l[k], List.getElem_mem h, hk⟩
theorem brk_skip (l : List UInt8) (p : Nat) (hp : brk (l.take p) = false) : ∀ n, (∀ k, k < n → ∃ g : p + k < l.length, 128 ≤ (l[p + k]'g).toNat) → brk (l.take (p + n)) = false
  | 0, _ => hp
  | n + 1, h => by
    have ih := brk_skip l p hp n (fun k hk => h k (by omega))
    obtain ⟨g, hg⟩ := h n (by omega)
    rw [← Nat.add_assoc, brk_take l g, ih, Bool.false_or]
    have a : (l[p + n] == 13) = false := by rw [beq_eq_false_iff_ne]; intro e; rw [e] at hg; revert hg; decide
    have b : (l[p + n] == 10) = false := by rw [beq_eq_false_iff_ne]; intro e; rw [e] at hg; revert hg; decide
    rw [a, b]; rfl
theorem ib_crlf (x : UInt8) : decide (0 ≤ Lib.indexByte [13, 10] x) = (x == 13 || x == 10) := by
  have e : decide (0 ≤ Lib.indexByte [13, 10] x) = decide (x ∈ ([13, 10] : List UInt8)) := by rw [decide_eq_decide]; exact indexByte_atW x [13, 10]
  rw [e, Bool.eq_iff_iff]
  simp
theorem at_bW {s : ByteArray} {k : Nat} (h : k < s.size) : (bL s)[k]'(by simpa using h) = s[k] := by
  show s.data.toList[k]'(by simpa using h) = s[k]
  simp; rfl
set_option maxHeartbeats 8000000 in
set_option maxRecDepth 1000000 in
theorem indexAnyW (s : ByteArray) (w : World) (hs : s.size ≤ 8) :
    Calls Tryd.prog 82 #[.string s, .string ⟨#[13, 10]⟩] w fun e w' => (∃ i : Int, e = .returned (.int .i64 i) ∧ decide (0 ≤ i) = brk (bL s)) ∧ Below w.heap.size w w' := by
  have h8z : decide ((8 : Int) < (s.size : Int)) = false := decide_eq_false (by omega)
  have LB : (bL s).length = s.size := by simp
  have HA := hide (fun W => Any.strings_shouldUseASCIISet lays226 (s.size : Int) W)
  rw [h8z] at HA
  have hemp : (⟨#[13, 10]⟩ : ByteArray).toList.isEmpty = false := by rw [Lib.toList_data]; rfl
  have hs2 := hide hs
  go_enter Tryd.func82, Tryd.ntmps82
  go_wp2_with fail
  refine (HA.out _).mono ?_
  rintro e w1 ⟨rfl, hu⟩
  obtain rfl : w = w1 := hu.symm
  clear HA
  go_wp2_with fail
  have IT0 := hide (World.iter_heap w s 0)
  have BL0 : Hid (Below w.heap.size w (w.iter s 0)) := (Below.refl _ w).alloc (Nat.le_refl _) _
  generalize w.iter s 0 = wi at *
  go_loopw [] (fun wr => ∃ pos : Nat, wr.heap[w.heap.size]? = some (.stringIter s pos) ∧ Hid (Below w.heap.size w wr) ∧ pos ≤ s.size ∧ Hid (brk ((bL s).take pos) = false)) (fun wr => s.size - posW wr w.heap.size)
  case atStart => exact ⟨0, IT0.out, BL0, Nat.zero_le _, rfl⟩
  case round =>
    rename World => wr
    obtain ⟨pos, hit, BW, hps, HB⟩ := hrel
    clear IT0 BL0
    have pos1 : posW wr w.heap.size = pos := by unfold posW; rw [hit]
    by_cases hp : pos < s.size
    · have hnx : ∀ ty, (Instr.next (.pointer (some ⟨w.heap.size, 0, none⟩)) true ty).run Tryd.prog wr = _ := fun ty => Lib.run_next_any_at wr w.heap.size s pos ty hit hp
      have IT := hide (Lib.iterAt_heap wr w.heap.size s pos (pos + (Utf8.decode s pos).2) hit)
      have BL := hide (Lib.below_iterAt BW.out (Nat.le_refl _) s (pos + (Utf8.decode s pos).2))
      have hl : pos < (bL s).length := by rw [LB]; exact hp
      clear hit
      by_cases lo : (s[pos]'hp).toNat < 128
      · rw [decode_ascii s pos hp lo] at hnx IT BL
        have TK := hide (brk_take (bL s) hl)
        have HT := hide (fun t => brk_hit (l := bL s) hl t)
        have EI := hide (ib_crlf (s[pos]'hp))
        rw [at_bW hp, HB.out, Bool.false_or] at TK
        rw [at_bW hp] at HT
        have HC := hide (fun W => Any.strings_IndexRune_ascii lays152 ⟨#[13, 10]⟩ ((s[pos]'hp).toNat : Int) W (by omega) (by omega))
        have hback : (((s[pos]'hp).toNat : Int)).toNat.toUInt8 = s[pos]'hp := by simp
        rw [hback, show (⟨#[13, 10]⟩ : ByteArray).data.toList = [13, 10] from rfl] at HC
        clear hback
        cases q : ((s[pos]'hp) == 13 || (s[pos]'hp) == 10) with
        | true =>
          rw [q] at EI
          have ge := of_decide_eq_true EI.out
          have RES := hide (HT.out q)
          clear TK HT EI q LB hl lo
          generalize Lib.indexByte [13, 10] (s[pos]'hp) = ib at *
          generalize (s[pos]'hp).toNat = x at *
          dsimp only at *
          generalize wr.iterAt w.heap.size s (pos + 1) = w3 at *
          go_wp2_with fail
          refine (HC.out _).mono ?_
          rintro e w2 ⟨rfl, hu⟩
          obtain rfl := hu.symm
          go_wp2_with fail
          go_ret
          exact ⟨⟨_, rfl, by rw [RES.out]; exact decide_eq_true (by omega)⟩, BL.out⟩
        | false =>
          rw [q] at EI TK
          have ge := of_decide_eq_false EI.out
          clear HT EI q LB hl lo
          generalize Lib.indexByte [13, 10] (s[pos]'hp) = ib at *
          generalize (s[pos]'hp).toNat = x at *
          dsimp only at *
          generalize wr.iterAt w.heap.size s (pos + 1) = w3 at *
          go_wp2_with fail
          refine (HC.out _).mono ?_
          rintro e w2 ⟨rfl, hu⟩
          obtain rfl := hu.symm
          go_wp2_with fail
          go_roundw
          case rel => exact ⟨pos + 1, IT.out, BL, hp, TK⟩
          case measure => rw [pos1]; have : posW w3 w.heap.size = pos + 1 := (by unfold posW; rw [IT.out]); omega
      · have hi128 : 128 ≤ (s[pos]'hp).toNat := by omega
        obtain ⟨d1, d2⟩ := decode_high s pos hp hi128
        have rm := dec_room hp hi128
        have TK := hide (brk_skip (bL s) pos HB.out (Utf8.decode s pos).2 (fun k hk => by
          obtain ⟨g, h⟩ := dec_skips hp hi128 k hk
          exact ⟨by rw [LB]; exact g, by rw [at_bW g]; exact h⟩))
        have HC := hide (fun W => runeCr ((Utf8.decode s pos).1 : Int) W (by omega))
        clear HB lo hi128 LB hl
        generalize (Utf8.decode s pos).2 = wd at *
        generalize (Utf8.decode s pos).1 = ch at *
        generalize wr.iterAt w.heap.size s (pos + wd) = w3 at *
        go_wp2_with fail
        refine (HC.out _).mono ?_
        rintro e w2 ⟨rfl, b2⟩
        have IT2 : w2.heap[w.heap.size]? = some (.stringIter s (pos + wd)) := (b2.block _ (Array.getElem?_eq_some_iff.1 IT.out).1).trans IT.out
        have IT3 := hide IT2
        have BL2 := hide (chain BL.out b2)
        clear IT2 b2 IT BL
        go_wp2_with fail
        go_roundw
        case rel => exact ⟨pos + wd, IT3.out, BL2, rm, TK⟩
        case measure => rw [pos1]; have : posW w2 w.heap.size = pos + wd := (by unfold posW; rw [IT3.out]); omega
    · have hnx : ∀ ty, (Instr.next (.pointer (some ⟨w.heap.size, 0, none⟩)) true ty).run Tryd.prog wr = _ := fun ty => Lib.run_next_end_at wr w.heap.size s pos ty hit hp
      have RES : Hid (brk (bL s) = false) := by
        show _ = _
        rw [← HB.out, List.take_of_length_le (by rw [LB]; omega)]
      clear HB LB hit pos1
      go_wp2_with fail
      go_ret
      exact ⟨⟨_, rfl, by rw [RES.out]; rfl⟩, BW.out⟩
theorem inf256 : (Tryd.prog.info? (acren.t 116)).map (fun i => (i.zero, i.size)) = some (some (.agg (Array.replicate 256 (.bool false))), 256) := by kernel_rfl
set_option maxHeartbeats 8000000 in
theorem containsAnyW (s : ByteArray) (w : World) (hs : s.size ≤ 1073741824) :
    Calls Tryd.prog 72 #[.string s, .string ⟨#[13, 10]⟩] w fun e w' => e = .returned (.bool (brk (bL s))) ∧ Below w.heap.size w w' := by
  have HC : Hid (Calls Tryd.prog 82 #[.string s, .string ⟨#[13, 10]⟩] w fun e w' => (∃ i : Int, e = .returned (.int .i64 i) ∧ decide (0 ≤ i) = brk (bL s)) ∧ Below w.heap.size w w') := by
    by_cases h8 : s.size ≤ 8
    · exact indexAnyW s w h8
    · refine (Any.strings_IndexAny_long lays153 (zero_of_info inf256).1 (zero_of_info inf256).2 s ⟨#[13, 10]⟩ w (by decide) (by omega) (by omega) (by decide) (fun j b hj => ?_)).mono ?_
      · exact asc_crlf.low b (List.mem_of_getElem? hj)
      · rintro e w' ⟨rfl, rfl⟩
        refine ⟨⟨_, rfl, any_brk _⟩, ((Below.refl _ _).alloc (Nat.le_refl _) _).alloc (by simp) _⟩
  go_enter Tryd.func72, Tryd.ntmps72
  go_wp2_with fail
  refine HC.out.mono ?_
  rintro e w1 ⟨⟨i, rfl, hi⟩, b1⟩
  have EI := hide hi
  have B1 := hide b1
  clear hi b1 HC
  go_wp2_with fail
  go_ret
  exact ⟨ret_bool EI.out, B1.out⟩
end Go.Proofs.YtgibkbeakfaehaaDoor

namespace Go.Proofs.YtgibkbeakfaehaaDoor
open Go.RowKit
set_option maxRecDepth 100000
set_option maxHeartbeats 8000000 in
theorem breaks_any (s : ByteArray) (w : World) (hs : s.size ≤ 1073741824) :
    Calls Tryd.prog 61 #[.string s] w fun e w' => e = .returned (.bool (brk (bL s))) ∧ Below w.heap.size w w' := by
  have HC := hide (containsAnyW s w hs)
  generalize brk (bL s) = R at *
  go_enter Tryd.func61, Tryd.ntmps61
  go_wp2_with fail
  refine HC.out.mono ?_
  rintro e w1 ⟨rfl, b1⟩
  go_wp2_with fail
  go_ret
  exact ⟨rfl, b1⟩
end Go.Proofs.YtgibkbeakfaehaaDoor

namespace Go.Proofs.YtgibkbeakfaehaaDoor
open Go.RowKit
set_option maxRecDepth 100000
theorem quo_cut : ∀ l : List UInt8, quoL l = match cutL [34] l with | none => none | some (n, r) => if brk n = true then none else some (n, r)
  | [] => rfl
  | c :: l => by
    have ih := quo_cut l
    show (if c = 10 ∨ c = 13 then none else if c = 34 then some ([], l) else (quoL l).map fun p => (c :: p.1, p.2)) = _
    by_cases h1 : c = 10 ∨ c = 13
    · have ne : [34].isPrefixOf (c :: l) = false := by
        have : ((34 : UInt8) == c) = false := by rw [beq_eq_false_iff_ne]; rintro rfl; revert h1; decide
        show ((34 : UInt8) == c && _) = false
        rw [this]; rfl
      rw [if_pos h1, cut_miss ne]
      cases cutL [34] l with
      | none => rfl
      | some pr =>
        have : brk (c :: pr.1) = true := by
          unfold brk
          rw [List.any_cons]
          rcases h1 with rfl | rfl <;> simp
        show none = if brk (c :: pr.1) = true then none else some (c :: pr.1, pr.2)
        rw [if_pos this]
    · rw [if_neg h1]
      by_cases h2 : c = 34
      · subst h2
        rw [if_pos rfl, cut_hit (by simp)]
        rfl
      · have ne : [34].isPrefixOf (c :: l) = false := by
          have : ((34 : UInt8) == c) = false := by rw [beq_eq_false_iff_ne]; exact fun t => h2 t.symm
          show ((34 : UInt8) == c && _) = false
          rw [this]; rfl
        rw [if_neg h2, cut_miss ne, ih]
        cases cutL [34] l with
        | none => rfl
        | some pr =>
          have : brk (c :: pr.1) = brk pr.1 := by
            unfold brk
            rw [List.any_cons]
            have a : (c == 13) = false := by rw [beq_eq_false_iff_ne]; exact fun t => h1 (.inr t)
            have b : (c == 10) = false := by rw [beq_eq_false_iff_ne]; exact fun t => h1 (.inl t)
            rw [a, b]; rfl
          show (if brk pr.1 = true then none else some (pr.1, pr.2)).map (fun p : List UInt8 × List UInt8 => (c :: p.1, p.2)) = if brk (c :: pr.1) = true then none else some (c :: pr.1, pr.2)
          rw [this]
          cases brk pr.1 <;> rfl
def quoP (a l : List UInt8) : Option (List UInt8 × List UInt8) := if a.isPrefixOf l = true then quoL (l.drop a.length) else none
def quoV : Option (List UInt8 × List UInt8) → Value
  | none => .tuple #[.string ⟨#[]⟩, .string ⟨#[]⟩, .bool false]
  | some (n, r) => .tuple #[.string (txt (unL n)), .string (txt r), .bool true]
theorem quoP_len {a l n r : List UInt8} (h : quoP a l = some (n, r)) : n.length ≤ l.length ∧ r.length ≤ l.length := by
  unfold quoP at h
  split at h
  · rw [quo_cut] at h
    cases c : cutL [34] (l.drop a.length) with
    | none => rw [c] at h; cases h
    | some pr =>
      obtain ⟨n', r'⟩ := pr
      rw [c] at h
      have h : (if brk n' = true then none else some (n', r')) = some (n, r) := h
      split at h
      · cases h
      · cases h
        have := congrArg List.length (cut_some (by simp) c).1
        rw [List.length_drop] at this
        simp only [List.length_append, List.length_cons, List.length_nil] at this
        omega
  · cases h
set_option maxHeartbeats 8000000 in
theorem quoted_any (a l : List UInt8) (w : World) (hs : l.length ≤ 1073741824) (hT : PtTabs w) :
    Calls Tryd.prog 60 #[.string (txt l), .string (txt a)] w fun e w' => e = .returned (quoV (quoP a l)) ∧ Below w.heap.size w w' := by
  have HP := hide (fun W => cutPreP_any l a W)
  have HT := hide hT
  cases pr : a.isPrefixOf l with
  | false =>
    have E : Hid (quoV (quoP a l) = .tuple #[.string ⟨#[]⟩, .string ⟨#[]⟩, .bool false]) := by
      show _ = _
      unfold quoP
      rw [pr]; rfl
    have e1 : (if a.isPrefixOf l = true then l.drop a.length else l) = l := by rw [pr]; rfl
    rw [e1, pr] at HP
    have HC := hide (fun W (h : Below w.heap.size w W) => cut_anyT [34] l W hs (by simp) (hT.below h).mx)
    clear pr e1 hT HT
    generalize cutT [34] l = ct at *
    obtain ⟨t1, t2, t3⟩ := ct
    rw [E.out]
    clear E
    go_enter Tryd.func60, Tryd.ntmps60
    go_wp2_with fail
    refine (HP.out _).mono ?_
    rintro e w1 ⟨rfl, hu⟩
    obtain rfl := hu.symm
    go_wp2_with fail
    refine (HC.out _ (Below.refl _ _)).mono ?_
    rintro e w2 ⟨rfl, b2⟩
    go_wp2_with fail
    go_ret3
    exact ⟨rfl, b2⟩
  | true =>
    have e1 : (if a.isPrefixOf l = true then l.drop a.length else l) = l.drop a.length := by rw [pr]; rfl
    rw [e1, pr] at HP
    have E0 : quoP a l = quoL (l.drop a.length) := by unfold quoP; rw [pr]; rfl
    have dl : (l.drop a.length).length ≤ 1073741824 := by rw [List.length_drop]; omega
    rw [E0, quo_cut]
    clear E0 e1 pr hs
    generalize l.drop a.length = d at *
    have HC := hide (fun W (h : Below w.heap.size w W) => cut_anyT [34] d W dl (by simp) (hT.below h).mx)
    have EC : cutT [34] d = match cutL [34] d with | none => (d, [], false) | some (p, r) => (p, r, true) := rfl
    have LC := cutT_len [34] d
    rw [EC] at HC LC
    clear EC
    cases cq : cutL [34] d with
    | none =>
      rw [cq] at HC
      clear cq LC hT HT
      show Calls _ _ _ _ fun e w' => e = .returned (.tuple #[.string ⟨#[]⟩, .string ⟨#[]⟩, .bool false]) ∧ Below w.heap.size w w'
      go_enter Tryd.func60, Tryd.ntmps60
      go_wp2_with fail
      refine (HP.out _).mono ?_
      rintro e w1 ⟨rfl, hu⟩
      obtain rfl := hu.symm
      go_wp2_with fail
      refine (HC.out _ (Below.refl _ _)).mono ?_
      rintro e w2 ⟨rfl, b2⟩
      go_wp2_with fail
      go_ret3
      exact ⟨rfl, b2⟩
    | some nr =>
      obtain ⟨n, r⟩ := nr
      rw [cq] at HC LC
      clear cq
      have ln : n.length ≤ 1073741824 := by have : n.length ≤ d.length := LC.1; omega
      have HB := hide (fun W => breaks_any (txt n) W ln)
      have HU := hide (fun W (h : Below w.heap.size w W) => unquote_any (txt n) W ln (hT.below h))
      have EB : Hid (bL (txt n) = n) := rfl
      rw [EB.out] at HB HU
      clear EB LC hT HT ln dl
      cases bk : brk n with
      | true =>
        rw [bk] at HB
        have E : Hid ((match some (n, r) with | none => none | some (n, r) => if brk n = true then none else some (n, r)) = none) := by
          show (if brk n = true then none else some (n, r)) = none
          rw [bk]; rfl
        rw [E.out]
        clear E bk HU
        show Calls _ _ _ _ fun e w' => e = .returned (.tuple #[.string ⟨#[]⟩, .string ⟨#[]⟩, .bool false]) ∧ Below w.heap.size w w'
        go_enter Tryd.func60, Tryd.ntmps60
        go_wp2_with fail
        refine (HP.out _).mono ?_
        rintro e w1 ⟨rfl, hu⟩
        obtain rfl := hu.symm
        go_wp2_with fail
        refine (HC.out _ (Below.refl _ _)).mono ?_
        rintro e w2 ⟨rfl, b2⟩
        go_wp2_with fail
        refine (HB.out _).mono ?_
        rintro e w3 ⟨rfl, b3⟩
        have B3 := hide (chain b2 b3)
        clear b2 b3
        go_wp2_with fail
        go_ret3
        exact ⟨rfl, B3.out⟩
      | false =>
        rw [bk] at HB
        have E : Hid ((match some (n, r) with | none => none | some (n, r) => if brk n = true then none else some (n, r)) = some (n, r)) := by
          show (if brk n = true then none else some (n, r)) = some (n, r)
          rw [bk]; rfl
        rw [E.out]
        clear E bk
        show Calls _ _ _ _ fun e w' => e = .returned (.tuple #[.string (txt (unL n)), .string (txt r), .bool true]) ∧ Below w.heap.size w w'
        generalize txt (unL n) = un at *
        go_enter Tryd.func60, Tryd.ntmps60
        go_wp2_with fail
        refine (HP.out _).mono ?_
        rintro e w1 ⟨rfl, hu⟩
        obtain rfl := hu.symm
        go_wp2_with fail
        refine (HC.out _ (Below.refl _ _)).mono ?_
        rintro e w2 ⟨rfl, b2⟩
        go_wp2_with fail
        refine (HB.out _).mono ?_
        rintro e w3 ⟨rfl, b3⟩
        have B3 := hide (chain b2 b3)
        clear b2 b3
        go_wp2_with fail
        refine (HU.out _ B3.out).mono ?_
        rintro e w4 ⟨rfl, b4⟩
        have B4 := hide (chain B3.out b4)
        clear b4 B3
        go_wp2_with fail
        go_ret3
        exact ⟨rfl, B4.out⟩

end Go.Proofs.YtgibkbeakfaehaaDoor
