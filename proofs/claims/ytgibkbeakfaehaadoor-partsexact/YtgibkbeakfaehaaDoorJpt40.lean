/- Entries told as parts, and parts read, as functions of lists. Parts made of entries and read again. -/
import Derived.Test.YtgibkbeakfaehaaDoorJpt32
import Derived.Test.YtgibkbeakfaehaaDoorJpt33

namespace Go.Proofs.YtgibkbeakfaehaaDoor
open Go.RowKit
theorem nameB_free : ∀ c : UInt8, ∀ x ∈ nameB c, x ≠ 10 ∧ x ≠ 13 ∧ x ≠ 34 := by
  intro c x hx
  unfold nameB at hx
  by_cases h1 : c = 10
  · rw [if_pos h1] at hx
    simp only [List.mem_cons, List.not_mem_nil, or_false] at hx
    rcases hx with rfl | rfl | rfl <;> decide
  · rw [if_neg h1] at hx
    by_cases h2 : c = 13
    · rw [if_pos h2] at hx
      simp only [List.mem_cons, List.not_mem_nil, or_false] at hx
      rcases hx with rfl | rfl | rfl <;> decide
    · rw [if_neg h2] at hx
      by_cases h3 : c = 34
      · rw [if_pos h3] at hx
        simp only [List.mem_cons, List.not_mem_nil, or_false] at hx
        rcases hx with rfl | rfl | rfl <;> decide
      · rw [if_neg h3] at hx
        rw [List.mem_singleton.1 hx]
        exact ⟨h1, h2, h3⟩
theorem name_free (l : List UInt8) : ∀ x ∈ nameL l, x ≠ 10 ∧ x ≠ 13 ∧ x ≠ 34 := by
  intro x hx
  obtain ⟨c, _, h⟩ := List.mem_flatMap.1 hx
  exact nameB_free c x h
theorem type_free (l : List UInt8) : ∀ x ∈ typeL l, x ≠ 10 ∧ x ≠ 13 := by
  intro x hx
  unfold typeL at hx
  by_cases h : l.any badT = true ∨ l = []
  · rw [if_pos h] at hx
    revert x
    decide
  · rw [if_neg h] at hx
    have : badT x = false := by
      cases e : badT x with
      | false => rfl
      | true => exact absurd (.inl (List.any_eq_true.2 ⟨x, hx, e⟩)) h
    unfold badT at this
    have this := of_decide_eq_false this
    constructor
    · rintro rfl; exact this (by decide)
    · rintro rfl; exact this (by decide)
theorem cut_skips {x : UInt8} {t : List UInt8} : ∀ {h : List UInt8} (s : List UInt8), (∀ c ∈ h, c ≠ x) → cutL (x :: t) (h ++ s) = (cutL (x :: t) s).map fun p => (h ++ p.1, p.2)
  | [], s, _ => by
    show cutL (x :: t) s = _
    cases cutL (x :: t) s <;> rfl
  | c :: h, s, hc => by
    have e : (x :: t).isPrefixOf (c :: (h ++ s)) = false := by
      have : (x == c) = false := by rw [beq_eq_false_iff_ne]; exact fun q => hc c List.mem_cons_self q.symm
      show (x == c && _) = false
      rw [this]; rfl
    show cutL (x :: t) (c :: (h ++ s)) = _
    rw [cut_miss e, cut_skips s (fun y hy => hc y (List.mem_cons_of_mem _ hy))]
    cases cutL (x :: t) s <;> rfl
/-- What stands nowhere in a text can't begin in it, if what is behind it begins with a sign that it has only at its own begin. -/
theorem cut_clear {x : UInt8} {t p : List UInt8} (r : List UInt8) (ht : x ∉ t) (hp : cutL (x :: t) p = none) : cutL (x :: t) (p ++ (x :: t) ++ r) = some (p, r) := by
  induction p with
  | nil =>
    show cutL (x :: t) (x :: t ++ r) = _
    rw [cut_hit (pre_app _ _)]
    simp
  | cons c p ih =>
    have e : (x :: t).isPrefixOf (c :: p) = false := by
      cases q : (x :: t).isPrefixOf (c :: p) with
      | false => rfl
      | true => rw [cut_hit q] at hp; cases hp
    rw [cut_miss e] at hp
    have hp' : cutL (x :: t) p = none := by
      cases q : cutL (x :: t) p with
      | none => rfl
      | some v => rw [q] at hp; cases hp
    have e2 : (x :: t).isPrefixOf (c :: (p ++ (x :: t) ++ r)) = false := by
      cases q : (x :: t).isPrefixOf (c :: (p ++ (x :: t) ++ r)) with
      | false => rfl
      | true =>
        exfalso
        rw [List.isPrefixOf_iff_prefix] at q
        obtain ⟨z, hz⟩ := q
        by_cases hl : t.length ≤ p.length
        · have : (x :: t) <+: c :: p := by
            refine List.prefix_of_prefix_length_le (l₃ := c :: (p ++ (x :: t) ++ r)) ⟨z, hz⟩ ⟨(x :: t) ++ r, by simp⟩ (by simpa using hl)
          rw [← List.isPrefixOf_iff_prefix] at this
          rw [this] at e; cases e
        · have h1 : (x :: t ++ z)[p.length + 1]? = (c :: (p ++ (x :: t) ++ r))[p.length + 1]? := by rw [hz]
          have h2 : (c :: (p ++ (x :: t) ++ r))[p.length + 1]? = some x := by
            rw [List.getElem?_cons_succ, List.append_assoc, List.getElem?_append_right (Nat.le_refl _), Nat.sub_self]; rfl
          have h3 : (x :: t ++ z)[p.length + 1]? = t[p.length]? := by
            show (x :: (t ++ z))[p.length + 1]? = _
            rw [List.getElem?_cons_succ, List.getElem?_append_left (by omega)]
          rw [h2, h3] at h1
          exact ht (List.mem_of_getElem? h1)
    show cutL (x :: t) (c :: (p ++ (x :: t) ++ r)) = _
    rw [cut_miss e2, ih hp']
    rfl
/-- A text that isn't in p isn't in it behind another sign. -/
theorem cut_sub {x : UInt8} {t b p : List UInt8} (hp : cutL b p = none) (hb : ∃ y, t = y ++ b) : cutL (x :: t) p = none := by
  obtain ⟨y, rfl⟩ := hb
  induction p with
  | nil => exact cut_end (by simp)
  | cons c p ih =>
    have q : b.isPrefixOf (c :: p) = false := by
      cases q : b.isPrefixOf (c :: p) with
      | false => rfl
      | true => rw [cut_hit q] at hp; cases hp
    rw [cut_miss q] at hp
    have hp' : cutL b p = none := by
      cases g : cutL b p with
      | none => rfl
      | some v => rw [g] at hp; cases hp
    have e : (x :: (y ++ b)).isPrefixOf (c :: p) = false := by
      cases g : (x :: (y ++ b)).isPrefixOf (c :: p) with
      | false => rfl
      | true =>
        exfalso
        rw [List.isPrefixOf_iff_prefix] at g
        obtain ⟨z, hz⟩ := g
        have : p = y ++ (b ++ z) := by
          have := (List.cons.inj hz).2
          rw [← this]; simp
        have nn : ∀ (y : List UInt8) (z : List UInt8), cutL b (y ++ (b ++ z)) ≠ none := by
          intro y z
          induction y with
          | nil => show cutL b (b ++ z) ≠ none; rw [cut_hit (pre_app _ _)]; simp
          | cons d y ih2 =>
            show cutL b (d :: (y ++ (b ++ z))) ≠ none
            cases w : b.isPrefixOf (d :: (y ++ (b ++ z))) with
            | true => rw [cut_hit w]; simp
            | false =>
              rw [cut_miss w]
              cases v : cutL b (y ++ (b ++ z)) with
              | none => exact absurd v ih2
              | some => simp
        rw [this] at hp'
        exact nn y z hp'
    rw [cut_miss e, ih hp']; rfl
end Go.Proofs.YtgibkbeakfaehaaDoor

namespace Go.Proofs.YtgibkbeakfaehaaDoor
open Go.RowKit
theorem quo_hit : ∀ {n : List UInt8} (r : List UInt8), (∀ x ∈ n, x ≠ 10 ∧ x ≠ 13 ∧ x ≠ 34) → quoL (n ++ 34 :: r) = some (n, r)
  | [], r, _ => rfl
  | c :: n, r, h => by
    have hc := h c List.mem_cons_self
    show (if c = 10 ∨ c = 13 then none else if c = 34 then some ([], n ++ 34 :: r) else (quoL (n ++ 34 :: r)).map fun p => (c :: p.1, p.2)) = _
    rw [if_neg (fun t => t.elim hc.1 hc.2.1), if_neg hc.2.2, quo_hit r (fun x hx => h x (List.mem_cons_of_mem _ hx))]; rfl
/-- What is behind the first boundary. -/
def resP (b : List UInt8) : En → List En → List UInt8
  | e, [] => partL e ++ btwL b ++ endL
  | e, f :: l => partL e ++ btwL b ++ (13 :: 10 :: resP b f l)
theorem enc_res (b : List UInt8) : ∀ (l : List En) (e : En), encP (e :: l) b = fstL b ++ resP b e l
  | [], e => by
    unfold encP resP btwL fstL endL
    simp
  | f :: l, e => by
    have ih := enc_res b l f
    show (fstL b ++ partL e ++ [13, 10] ++ (f :: l).flatMap (fun e => fstL b ++ partL e ++ [13, 10])) ++ 45 :: 45 :: (b ++ endL) = _
    rw [List.append_assoc]
    show fstL b ++ partL e ++ [13, 10] ++ encP (f :: l) b = _
    rw [ih]
    show fstL b ++ partL e ++ [13, 10] ++ (fstL b ++ resP b f l) = fstL b ++ (partL e ++ btwL b ++ (13 :: 10 :: resP b f l))
    generalize resP b f l = z
    unfold fstL btwL
    simp
theorem head_cut (e : En) : cutL c4L (partL e) = some (headP e, valP e) := by
  have n1 := name_free (bL e.name)
  have n2 := name_free (bL e.fname)
  have t1 := type_free (bL e.typ)
  have k1 : ∀ c ∈ c1L, c ≠ 13 := by decide
  have k2 : ∀ c ∈ c2L, c ≠ 13 := by decide
  have k3 : ∀ c ∈ c3T, c ≠ 13 := by decide
  have hit : ∀ v, cutL c4L (c4L ++ v) = some ([], v) := fun v => by rw [cut_hit (pre_app _ _)]; rfl
  have A : ∀ h v, (∀ c ∈ h, c ≠ 13) → cutL c4L (h ++ (c4L ++ v)) = some (h, v) := fun h v hh => by
    have := cut_skips (x := 13) (t := [10, 13, 10]) (c4L ++ v) hh
    show cutL (13 :: [10, 13, 10]) _ = _
    rw [this]
    have := hit v
    unfold c4L at this ⊢
    rw [this]
    simp
  unfold partL headP
  cases hf : e.file with
  | false =>
    simp only [Bool.false_eq_true, if_false, List.append_nil]
    rw [List.append_assoc]
    refine A _ _ ?_
    intro c hc
    simp only [List.mem_append, List.mem_singleton] at hc
    rcases hc with (hc | hc) | rfl
    · exact k1 c hc
    · exact (n1 c hc).2.1
    · decide
  | true =>
    simp only [if_true]
    have e1 : c1L ++ nameL (bL e.name) ++ [34] ++ (c2L ++ nameL (bL e.fname) ++ [34] ++ c3L ++ typeL (bL e.typ)) ++ c4L ++ valP e
        = (c1L ++ nameL (bL e.name) ++ [34] ++ (c2L ++ nameL (bL e.fname) ++ [34])) ++ (13 :: 10 :: ((c3T ++ typeL (bL e.typ)) ++ (c4L ++ valP e))) := by
      unfold c3L
      simp
    rw [e1]
    have s1 : ∀ c ∈ c1L ++ nameL (bL e.name) ++ [34] ++ (c2L ++ nameL (bL e.fname) ++ [34]), c ≠ 13 := by
      intro c hc
      simp only [List.mem_append, List.mem_singleton] at hc
      rcases hc with ((hc | hc) | rfl) | ((hc | hc) | rfl)
      · exact k1 c hc
      · exact (n1 c hc).2.1
      · decide
      · exact k2 c hc
      · exact (n2 c hc).2.1
      · decide
    have B := A (c3T ++ typeL (bL e.typ)) (valP e) (by
      intro c hc
      rcases List.mem_append.1 hc with hc | hc
      · exact k3 c hc
      · exact (t1 c hc).2)
    have C : cutL c4L (13 :: 10 :: ((c3T ++ typeL (bL e.typ)) ++ (c4L ++ valP e))) = some (13 :: 10 :: (c3T ++ typeL (bL e.typ)), valP e) := by
      have m1 : c4L.isPrefixOf (13 :: 10 :: ((c3T ++ typeL (bL e.typ)) ++ (c4L ++ valP e))) = false := by
        unfold c4L c3T
        rfl
      have m2 : c4L.isPrefixOf (10 :: ((c3T ++ typeL (bL e.typ)) ++ (c4L ++ valP e))) = false := by
        unfold c4L
        rfl
      rw [cut_miss m1, cut_miss m2, B]; rfl
    have := cut_skips (x := 13) (t := [10, 13, 10]) (13 :: 10 :: ((c3T ++ typeL (bL e.typ)) ++ (c4L ++ valP e))) s1
    show cutL (13 :: [10, 13, 10]) _ = _
    rw [this]
    have C' : cutL (13 :: [10, 13, 10]) (13 :: 10 :: ((c3T ++ typeL (bL e.typ)) ++ (c4L ++ valP e))) = some (13 :: 10 :: (c3T ++ typeL (bL e.typ)), valP e) := C
    rw [C']
    unfold c3L
    simp
theorem brk_type (l : List UInt8) : brk (typeL l) = false := by
  unfold brk
  rw [List.any_eq_false]
  intro c hc
  have := type_free l c hc
  have a : (c == 13) = false := by rw [beq_eq_false_iff_ne]; exact this.2
  have b : (c == 10) = false := by rw [beq_eq_false_iff_ne]; exact this.1
  rw [a, b]; decide
theorem read_part (e : En) : readL (partL e) = some (toldE e) := by
  unfold readL
  rw [head_cut e]
  show (if c1L.isPrefixOf (headP e) = true then match quoL ((headP e).drop 38) with | none => none | some (n, r) => readH n r (valP e) else none) = _
  have e1 : headP e = c1L ++ (nameL (bL e.name) ++ 34 :: (if e.file = true then c2L ++ nameL (bL e.fname) ++ [34] ++ c3L ++ typeL (bL e.typ) else [])) := by
    unfold headP; simp
  rw [e1, if_pos (pre_app _ _)]
  have e2 : (c1L ++ (nameL (bL e.name) ++ 34 :: (if e.file = true then c2L ++ nameL (bL e.fname) ++ [34] ++ c3L ++ typeL (bL e.typ) else []))).drop 38 = nameL (bL e.name) ++ 34 :: (if e.file = true then c2L ++ nameL (bL e.fname) ++ [34] ++ c3L ++ typeL (bL e.typ) else []) := List.drop_left' rfl
  rw [e2, quo_hit _ (name_free _)]
  show readH (nameL (bL e.name)) _ (valP e) = _
  unfold readH toldE
  cases hf : e.file with
  | false => simp
  | true =>
    simp only [if_true]
    have e3 : c2L ++ nameL (bL e.fname) ++ [34] ++ c3L ++ typeL (bL e.typ) = c2L ++ (nameL (bL e.fname) ++ 34 :: (c3L ++ typeL (bL e.typ))) := by simp
    rw [e3, if_neg (by unfold c2L; simp), if_pos (pre_app _ _)]
    have e4 : (c2L ++ (nameL (bL e.fname) ++ 34 :: (c3L ++ typeL (bL e.typ)))).drop 12 = nameL (bL e.fname) ++ 34 :: (c3L ++ typeL (bL e.typ)) := List.drop_left' rfl
    rw [e4, quo_hit _ (name_free _)]
    have e5 : (c3L ++ typeL (bL e.typ)).drop 16 = typeL (bL e.typ) := List.drop_left' rfl
    show (if c3L.isPrefixOf (c3L ++ typeL (bL e.typ)) = true ∧ brk ((c3L ++ typeL (bL e.typ)).drop 16) = false then _ else none) = _
    rw [e5, if_pos ⟨pre_app _ _, brk_type _⟩]
theorem dec_res {b : List UInt8} (hb : fitL b = true) : ∀ (l : List En) (e : En) (n : Nat), (∀ x ∈ e :: l, (cutL b (partL x)).isNone = true) → l.length + 1 ≤ n → decF b n (resP b e l) = some ((e :: l).map toldE)
  | l, e, 0, _, hn => by omega
  | [], e, n + 1, hc, _ => by
    have c0 : cutL b (partL e) = none := Option.isNone_iff_eq_none.1 (hc e List.mem_cons_self)
    show (match cutL (btwL b) (partL e ++ btwL b ++ endL) with | none => none | some (p, r) => _) = _
    have := cut_clear (x := 13) (t := 10 :: 45 :: 45 :: b) endL (fit_btw hb) (cut_sub c0 ⟨[10, 45, 45], rfl⟩)
    unfold btwL
    rw [this]
    show (match readL (partL e) with | none => none | some e => _) = _
    rw [read_part]
    show (if endL = endL then some [toldE e] else _) = _
    rw [if_pos rfl]; rfl
  | f :: l, e, n + 1, hc, hn => by
    have c0 : cutL b (partL e) = none := Option.isNone_iff_eq_none.1 (hc e List.mem_cons_self)
    have ih := dec_res hb l f n (fun x hx => hc x (List.mem_cons_of_mem _ hx)) (by simpa using hn)
    show (match cutL (btwL b) (partL e ++ btwL b ++ (13 :: 10 :: resP b f l)) with | none => none | some (p, r) => _) = _
    have := cut_clear (x := 13) (t := 10 :: 45 :: 45 :: b) (13 :: 10 :: resP b f l) (fit_btw hb) (cut_sub c0 ⟨[10, 45, 45], rfl⟩)
    unfold btwL
    rw [this]
    show (match readL (partL e) with | none => none | some e => _) = _
    rw [read_part]
    show (if 13 :: 10 :: resP b f l = endL then some [toldE e] else if [13, 10].isPrefixOf (13 :: 10 :: resP b f l) = true then (decF b n ((13 :: 10 :: resP b f l).drop 2)).map (toldE e :: ·) else none) = _
    rw [if_neg (by unfold endL; simp), if_pos (by simp)]
    show (decF b n (resP b f l)).map (toldE e :: ·) = _
    rw [ih]; rfl
theorem res_long (b : List UInt8) : ∀ (l : List En) (e : En), l.length + 1 ≤ (resP b e l).length
  | [], e => by
    show 0 + 1 ≤ (partL e ++ btwL b ++ endL).length
    simp only [List.length_append]
    have : endL.length = 4 := rfl
    omega
  | f :: l, e => by
    have := res_long b l f
    unfold resP
    simp only [List.length_append, List.length_cons]
    omega
/-- Parts of entries are read to what is told of them. -/
theorem back_p {l : List En} {b : List UInt8} (h : clrL l b = true) : decP (encP l b) b = some (l.map toldE) := by
  unfold clrL at h
  rw [Bool.and_eq_true] at h
  unfold decP
  rw [if_pos h.1]
  cases l with
  | nil => rw [if_pos (by rfl)]; rfl
  | cons e l =>
    rw [enc_res]
    have ne : ¬ fstL b ++ resP b e l = 45 :: 45 :: (b ++ endL) := by
      unfold fstL endL
      intro t
      have t : (b ++ [13, 10]) ++ resP b e l = b ++ [45, 45, 13, 10] := (List.cons.inj (List.cons.inj t).2).2
      rw [List.append_assoc] at t
      have := List.append_cancel_left t
      simp at this
    rw [if_neg ne, if_pos (pre_app _ _)]
    have e1 : (fstL b ++ resP b e l).drop (b.length + 4) = resP b e l := List.drop_left' (by unfold fstL; simp)
    rw [e1]
    refine dec_res h.1 l e _ (fun x hx => List.all_eq_true.1 h.2 x hx) ?_
    rw [List.length_append]
    have := res_long b l e
    omega

end Go.Proofs.YtgibkbeakfaehaaDoor
