/- A select's options by way of its children. The program's way of asking for forms, elements, labels and what is disabled, told by the document's functions. -/
import Derived.Test.YtdbabciafifnaaaGreatDoorJvb3
import Derived.Test.YtdbabciafifnaaaGreatDoorJvb9
import Derived.Test.YtdbabciafifnaaaGreatDoorJvb12

namespace Go.Proofs.YtdbabciafifnaaaGreatDoor
open Go.RowKit
theorem seekR_in {t : ByteArray} {f l : Nat} : ∀ {n k x : Nat}, seekR t f l n k = some x → f ≤ x ∧ x ≤ l
  | 0, k, x, h => by cases h
  | n + 1, k, x, h => by
    unfold seekR at h
    split at h
    · rename_i q
      rw [Bool.and_eq_true, Bool.and_eq_true, Nat.ble_eq, Nat.ble_eq] at q
      cases h
      exact ⟨q.1, q.2.1⟩
    · exact seekR_in h
theorem kInt_in {r : Option Nat} {f l : Nat} {z : Int} (hz : (f : Int) ≤ z ∧ z ≤ (l : Int)) (h : ∀ x, r = some x → f ≤ x ∧ x ≤ l) : (f : Int) ≤ kInt r z ∧ kInt r z ≤ (l : Int) := by
  cases r with
  | none => exact hz
  | some x =>
    have := h x rfl
    show (f : Int) ≤ (x : Int) ∧ (x : Int) ≤ (l : Int)
    omega
theorem byT_in {o : Option ByteArray} {f l : Nat} {z : Int} (hz : (f : Int) ≤ z ∧ z ≤ (l : Int)) : (f : Int) ≤ byT o f l z ∧ byT o f l z ≤ (l : Int) := by
  cases o with
  | none => exact hz
  | some t => exact kInt_in hz (fun x e => seekR_in e)
theorem seekL_in {t : ByteArray} : ∀ {n k x : Nat}, seekL t n k = some x → lastN x = t
  | 0, k, x, h => by cases h
  | n + 1, k, x, h => by
    unfold seekL at h
    split at h
    · rename_i q; cases h; exact q
    · exact seekL_in h
/-- Which names are selects, options, groups. -/
theorem kOf_sel {name : ByteArray} {o : Option ByteArray} : kOf name o = 23 ↔ name = oSel := by
  constructor
  · intro h
    unfold kOf at h
    split at h
    · have := byT_in (o := o) (f := 1) (l := 22) (z := 2) (by decide)
      omega
    · split at h
      · assumption
      · split at h
        · omega
        · split at h
          · have := byT_in (o := o) (f := 25) (l := 27) (z := 25) (by decide)
            omega
          · split at h
            · omega
            · omega
  · intro h; subst h; rfl
theorem kOf_last {name : ByteArray} {o : Option ByteArray} {i : Nat} (h : kOf name o = 28 + (i : Int)) : lastN i = name := by
  unfold kOf at h
  split at h
  · have := byT_in (o := o) (f := 1) (l := 22) (z := 2) (by decide)
    omega
  · split at h
    · omega
    · split at h
      · omega
      · split at h
        · have := byT_in (o := o) (f := 25) (l := 27) (z := 25) (by decide)
          omega
        · split at h
          · omega
          · rename_i j e
            obtain rfl : j = i := by omega
            exact seekL_in e
theorem kOf_opt {name : ByteArray} {o : Option ByteArray} : kOf name o = 32 ↔ name = oOpt := by
  constructor
  · intro h
    have := kOf_last (i := 4) (o := o) (name := name) (by rw [h]; rfl)
    rw [← this]; rfl
  · intro h; subst h; rfl
theorem kOf_grp {name : ByteArray} {o : Option ByteArray} : kOf name o = 33 ↔ name = oGrp := by
  constructor
  · intro h
    have := kOf_last (i := 5) (o := o) (name := name) (by rw [h]; rfl)
    rw [← this]; rfl
  · intro h; subst h; rfl
/-- A select's options by way of its children. -/
def optsC (l : List Nd) (c : Int) : List Int := if nmI l c = oOpt then [c] else if nmI l c = oGrp then (kidsI l c).filter (fun d => decide (nmI l d = oOpt)) else []
def optsP (l : List Nd) (sel : Int) : List Int := (kidsI l sel).flatMap (optsC l)
theorem Dep.ne {l : List Nd} {d e : Nat} {k j : Int} (h : Dep l d k) (g : Dep l e j) (hn : d ≠ e) : k ≠ j := fun q => hn (by rw [q] at h; exact h.one g)
theorem up_is {l : List Nd} {sel x : Int} (h0 : 0 ≤ sel) (h : ownP l x = sel) : upI l x = sel := by
  unfold ownP at h
  split at h
  · omega
  · exact h
/-- An option is a child, or a child's child. -/
theorem opt_dep {l : List Nd} {sel x : Int} {a d : Nat} (hs : Dep l a sel) (hx : Dep l d x) (h : optB l sel x = true) : d = a + 1 ∨ d = a + 2 := by
  unfold optB at h
  rw [Bool.and_eq_true, decide_eq_true_eq, decide_eq_true_eq] at h
  have s0 := hs.rng.1
  have u := up_is s0 h.2
  unfold upI at u
  split at u
  · rename_i g
    match d, hx with
    | 0, hx =>
      have e : parI l x = -1 := hx.2
      rw [e] at g
      cases g
    | 1, hx =>
      have e : parI l (parI l x) = -1 := hx.2.2
      omega
    | d + 2, hx =>
      have q : Dep l d (parI l (parI l x)) := hx.2.2
      rw [u] at q
      have := q.one hs
      omega
  · match d, hx with
    | 0, hx =>
      have e : parI l x = -1 := hx.2
      omega
    | d + 1, hx =>
      have q : Dep l d (parI l x) := hx.2
      rw [u] at q
      have := q.one hs
      omega
theorem down_none {l : List Nd} (hL : Linked l) {sel k : Int} {a d f : Nat} (hs : Dep l a sel) (hk : Dep l d k) (hd : a + 2 < d) : (downF l f k).filter (optB l sel) = [] := by
  rw [List.filter_eq_nil_iff]
  intro x hx q
  obtain ⟨e, he, _⟩ := down_dep hL hk hx
  have := opt_dep hs he q
  omega
theorem dep_kid {l : List Nd} (hL : Linked l) {k c : Int} {d : Nat} (hk : Dep l d k) (hc : c ∈ kidsI l k) : Dep l (d + 1) c := by
  have := hL.kidI hk.rng hc
  exact ⟨this.1, by rw [this.2]; exact hk⟩
theorem filter_flat {f : Int → List Int} {p : Int → Bool} : ∀ (L : List Int), (L.flatMap f).filter p = L.flatMap (fun x => (f x).filter p)
  | [] => rfl
  | x :: L => by
    rw [List.flatMap_cons, List.filter_append, filter_flat L, List.flatMap_cons]
theorem flat_nil {f : Int → List Int} : ∀ {L : List Int}, (∀ x ∈ L, f x = []) → L.flatMap f = []
  | [], _ => rfl
  | x :: L, h => by rw [List.flatMap_cons, h x List.mem_cons_self, flat_nil (fun y hy => h y (List.mem_cons_of_mem _ hy))]; rfl
theorem flat_filter {p q : Int → Bool} {f : Int → List Int} : ∀ {L : List Int}, (∀ x ∈ L, f x = if p x = true then [x] else []) → L.flatMap f = L.filter p
  | [], _ => rfl
  | x :: L, h => by
    rw [List.flatMap_cons, h x List.mem_cons_self, flat_filter (q := q) (fun y hy => h y (List.mem_cons_of_mem _ hy)), List.filter_cons]
    split <;> rfl
/-- A child's child. -/
theorem down_low {l : List Nd} (hL : Linked l) {sel k : Int} {a f : Nat} (hs : Dep l a sel) (hk : Dep l (a + 2) k) (hf : Sub l f k) : (downF l f k).filter (optB l sel) = if optB l sel k = true then [k] else [] := by
  match f, hf with
  | f + 1, hf =>
    show (k :: (kidsI l k).flatMap (downF l f)).filter (optB l sel) = _
    have e : ((kidsI l k).flatMap (downF l f)).filter (optB l sel) = [] := by
      rw [filter_flat]
      exact flat_nil (fun c hc => down_none hL hs (dep_kid hL hk hc) (by omega))
    rw [List.filter_cons, e]
theorem sel_name {l : List Nd} {sel : Int} (h : isK l sel 23 = true) : nmI l sel = oSel := by
  unfold isK kN at h
  rw [Bool.and_eq_true, decide_eq_true_eq] at h
  exact kOf_sel.1 h.2
theorem kid_opt {l : List Nd} (hL : Linked l) {sel c : Int} (hn : nmI l sel = oSel) (hr : inR l sel) (hc : c ∈ kidsI l sel) : optB l sel c = decide (nmI l c = oOpt) := by
  have pc := (hL.kidI hr hc).2
  have u : upI l c = sel := by
    unfold upI grpI
    rw [pc, hn, if_neg]
    rw [Bool.and_eq_true]
    rintro ⟨_, q⟩
    exact absurd (of_decide_eq_true q) (by decide)
  have w : ownP l c = sel := by
    unfold ownP
    rw [u, if_neg]
    rintro (q | q)
    · have := hr.1; omega
    · exact q hn
  unfold optB
  rw [w, decide_eq_true rfl, Bool.and_true]
theorem low_opt {l : List Nd} (hL : Linked l) {sel c d : Int} {a : Nat} (hn : nmI l sel = oSel) (hs : Dep l a sel) (hc : c ∈ kidsI l sel) (hd : d ∈ kidsI l c) : optB l sel d = (decide (nmI l d = oOpt) && decide (nmI l c = oGrp)) := by
  have dc := dep_kid hL hs hc
  have pc := (hL.kidI hs.rng hc).2
  have pd := (hL.kidI dc.rng hd).2
  have c0 := dc.rng.1
  by_cases g : nmI l c = oGrp
  · have gi : grpI l (parI l d) = true := by
      unfold grpI
      rw [pd, Bool.and_eq_true]
      exact ⟨decide_eq_true c0, decide_eq_true g⟩
    have u : upI l d = sel := by
      unfold upI
      rw [if_pos gi, pd, pc]
    have w : ownP l d = sel := by
      unfold ownP
      rw [u, if_neg]
      rintro (q | q)
      · have := hs.rng.1; omega
      · exact q hn
    unfold optB
    rw [w, decide_eq_true rfl, decide_eq_true g]
  · have u : upI l d = c := by
      unfold upI
      rw [if_neg, pd]
      unfold grpI
      rw [pd, Bool.and_eq_true]
      rintro ⟨_, q⟩
      exact g (of_decide_eq_true q)
    have w : ¬ ownP l d = sel := fun q => by
      have := up_is hs.rng.1 q
      rw [u] at this
      exact dc.ne hs (by omega) this
    unfold optB
    rw [decide_eq_false w, decide_eq_false g, Bool.and_false]
theorem kid_row {l : List Nd} (hL : Linked l) {sel c : Int} {a f : Nat} (hn : nmI l sel = oSel) (hs : Dep l a sel) (hc : c ∈ kidsI l sel) (hf : Sub l f c) : (downF l f c).filter (optB l sel) = optsC l c := by
  match f, hf with
  | f + 1, hf =>
    show (c :: (kidsI l c).flatMap (downF l f)).filter (optB l sel) = _
    rw [List.filter_cons, kid_opt hL hn hs.rng hc, filter_flat]
    have dc := dep_kid hL hs hc
    have e : (kidsI l c).flatMap (fun x => (downF l f x).filter (optB l sel)) = (kidsI l c).filter (fun d => decide (nmI l d = oOpt) && decide (nmI l c = oGrp)) :=
      flat_filter (q := fun _ => true) (fun d hd => by rw [down_low hL hs (dep_kid hL dc hd) (hf.2 d hd), low_opt hL hn hs hc hd])
    rw [e]
    unfold optsC
    by_cases q : nmI l c = oOpt
    · have ng : ¬ nmI l c = oGrp := fun r => by rw [q] at r; exact absurd r (by decide)
      rw [if_pos (decide_eq_true q), if_pos q, List.filter_eq_nil_iff.2 (fun d _ r => by rw [decide_eq_false ng, Bool.and_false] at r; cases r)]
    · rw [if_neg (fun r => q (of_decide_eq_true r)), if_neg q]
      by_cases g : nmI l c = oGrp
      · rw [if_pos g]
        exact List.filter_congr (fun d _ => by rw [decide_eq_true g, Bool.and_true])
      · rw [if_neg g, List.filter_eq_nil_iff.2 (fun d _ r => by rw [decide_eq_false g, Bool.and_false] at r; cases r)]
theorem list_opts {l : List Nd} {sel : Int} (h : isK l sel 23 = true) : listP l sel = optsP l sel := by
  have hn := sel_name h
  have hh : hasN l sel = true := by unfold isK at h; rw [Bool.and_eq_true] at h; exact h.1
  unfold hasN at hh
  rw [Bool.and_eq_true, decide_eq_true_eq] at hh
  have hR := right_is.1 hh.2
  have hr : inR l sel := ⟨hh.1.1, hh.1.2⟩
  have hL := right_linked hR
  obtain ⟨a, hs⟩ := right_dep hR hr
  have hf := right_sub hR hr
  unfold listP
  rw [if_pos h, order_down hR hr]
  match hl : l.length, hf with
  | 0, hf => cases hf
  | f + 1, hf =>
    show (sel :: (kidsI l sel).flatMap (downF l f)).filter (optB l sel) = _
    have ns : optB l sel sel = false := by
      unfold optB
      rw [hn]
      rfl
    rw [List.filter_cons, ns, filter_flat]
    exact flat_congr (fun c hc => kid_row hL hn hs hc (hf.2 c hc))
end Go.Proofs.YtdbabciafifnaaaGreatDoor

namespace Go.Proofs.YtdbabciafifnaaaGreatDoor
open Go.RowKit
theorem kOf_set {name : ByteArray} {o : Option ByteArray} : kOf name o = 29 ↔ name = oSet :=
  ⟨fun h => by have := kOf_last (i := 1) (o := o) (name := name) (by rw [h]; rfl); rw [← this]; rfl, fun h => by subst h; rfl⟩
theorem kOf_leg {name : ByteArray} {o : Option ByteArray} : kOf name o = 34 ↔ name = oLeg :=
  ⟨fun h => by have := kOf_last (i := 6) (o := o) (name := name) (by rw [h]; rfl); rw [← this]; rfl, fun h => by subst h; rfl⟩
/-- Is there a node of that number, of a kind that q takes? -/
def okB (l : List Nd) (q : Int → Bool) (id : Int) : Bool := decide (0 ≤ id ∧ id < (l.length : Int)) && q (kI l id)
theorem ok_out {l : List Nd} {q : Int → Bool} {id : Int} (h : ¬ (0 ≤ id ∧ id < (l.length : Int))) : okB l q id = false := by unfold okB; rw [decide_eq_false h]; rfl
theorem ok_at {l : List Nd} {q : Int → Bool} {m : Nat} (h : m < l.length) : okB l q (m : Int) = q (kN l[m]) := by
  unfold okB kI; rw [decide_eq_true (by omega), Int.toNat_natCast, nd_at h, Bool.true_and]
theorem ok_in {l : List Nd} {q : Int → Bool} {id : Int} (h : 0 ≤ id ∧ id < (l.length : Int)) : okB l q id = q (kI l id) := by unfold okB; rw [decide_eq_true h, Bool.true_and]
def is29 (k : Int) : Bool := k == 29
def is34 (k : Int) : Bool := k == 34
def disK (k : Int) : Bool := subB k || k == 29
def firB (l : List Nd) (q : Int → Bool) (xs : List Int) : Int := (xs.find? (okB l q)).getD (-1)
theorem dec_beq (a b : Int) : decide (a = b) = (a == b) := by
  cases h : (a == b) with
  | true => exact decide_eq_true (by simpa using h)
  | false => exact decide_eq_false (by simpa using h)
/-- What is above a node, of such a kind, and holds the child that leads to it. -/
def abvP (l : List Nd) (q : Int → Bool) (h : Int → Int → Bool) (k : Int) : Int := (((anc l k).find? (fun x => okB l q (parI l x) && h (parI l x) x)).map (parI l)).getD (-1)
theorem abv_hit {l : List Nd} {q : Int → Bool} {h : Int → Int → Bool} {k : Int} (hE : Ends l k) (hk : ¬ k < 0) (g : okB l q (parI l k) = true) (g2 : h (parI l k) k = true) : abvP l q h k = parI l k := by
  unfold abvP
  rw [anc_up hE hk, List.find?_cons_of_pos (by rw [g, g2]; rfl)]; rfl
theorem abv_top {l : List Nd} {q : Int → Bool} {h : Int → Int → Bool} {k : Int} (hE : Ends l k) (hk : ¬ k < 0) (g : parI l k < 0) : abvP l q h k = -1 := by
  unfold abvP
  rw [anc_up hE hk, List.find?_cons_of_neg (by rw [ok_out (by omega)]; simp), anc_neg g]; rfl
theorem abv_up {l : List Nd} {q : Int → Bool} {h : Int → Int → Bool} {k : Int} (hE : Ends l k) (hk : ¬ k < 0) (g : (okB l q (parI l k) && h (parI l k) k) = false) : abvP l q h (parI l k) = abvP l q h k := by
  unfold abvP
  rw [anc_up hE hk, List.find?_cons_of_neg (by rw [g]; simp)]
theorem find_same {α : Type} {p q : α → Bool} : ∀ {xs : List α}, (∀ x ∈ xs, p x = q x) → xs.find? p = xs.find? q
  | [], _ => rfl
  | x :: xs, h => by
    have ih := find_same (p := p) (q := q) (xs := xs) (fun y hy => h y (List.mem_cons_of_mem _ hy))
    have e := h x List.mem_cons_self
    by_cases g : p x = true
    · rw [List.find?_cons_of_pos g, List.find?_cons_of_pos (by rw [← e]; exact g)]
    · rw [List.find?_cons_of_neg g, List.find?_cons_of_neg (by rw [← e]; exact g), ih]
/-- In a node's way up each height is met once. -/
theorem anc_once {l : List Nd} (hR : Right l) : ∀ (d : Nat) {k a b : Int}, 0 ≤ k → k < (l.length : Int) → hgt l k ≤ d → a ∈ anc l k → b ∈ anc l k → hgt l a = hgt l b → a = b
  | 0, k, a, b, h0, hk, hd, _, _, _ => by
    have := hgt_up (hR.ende hk) (by omega)
    omega
  | d + 1, k, a, b, h0, hk, hd, ha, hb, e => by
    have hE := hR.ende hk
    have hh := hgt_up hE (by omega)
    have pr := hR.up (by omega) hk
    rw [anc_up hE (by omega), List.mem_cons] at ha hb
    have low : ∀ x, x ∈ anc l (parI l k) → hgt l x < hgt l k := by
      intro x hx
      have := anc_hgt hR _ pr.2 (Nat.le_refl _) hx
      omega
    rcases ha with rfl | ha
    · rcases hb with rfl | hb
      · rfl
      · have := low b hb; omega
    · rcases hb with rfl | hb
      · have := low a ha; omega
      · by_cases q : parI l k < 0
        · rw [anc_neg q] at ha; cases ha
        · exact anc_once hR d (by omega) pr.2 (by omega) ha hb e
theorem anc_par {l : List Nd} (hR : Right l) : ∀ (d : Nat) {k : Int}, 0 ≤ k → k < (l.length : Int) → hgt l k ≤ d → ∀ f : Int, 0 ≤ f → (f ∈ anc l (parI l k) ↔ ∃ x ∈ anc l k, parI l x = f)
  | 0, k, h0, hk, hd => by
    have := hgt_up (hR.ende hk) (by omega)
    omega
  | d + 1, k, h0, hk, hd => fun f hf => by
    have hE := hR.ende hk
    have hh := hgt_up hE (by omega)
    have pr := hR.up (by omega) hk
    rw [anc_up hE (by omega)]
    by_cases q : parI l k < 0
    · rw [anc_neg q]
      constructor
      · intro t; cases t
      · rintro ⟨x, hx, e⟩
        rw [List.mem_singleton] at hx
        subst hx; omega
    · have ih := anc_par hR d (k := parI l k) (by omega) pr.2 (by omega) f hf
      rw [anc_up (hR.ende pr.2) q, List.mem_cons, ih, ← anc_up (hR.ende pr.2) q]
      constructor
      · rintro (t | ⟨x, hx, e⟩)
        · exact ⟨k, List.mem_cons_self, t.symm⟩
        · exact ⟨x, List.mem_cons_of_mem _ hx, e⟩
      · rintro ⟨x, hx, e⟩
        rcases List.mem_cons.1 hx with rfl | hx
        · exact .inl e.symm
        · exact .inr ⟨x, hx, e⟩
/-- Whether a fieldset holds a child to be disabled. -/
def hldB (l : List Nd) (set b : Int) : Bool := hasA (nd l set.toNat) oDis && (b != firB l is34 (nd l set.toNat).kids)
theorem leg_is {l : List Nd} (hR : Right l) {f : Int} (h0 : 0 ≤ f) (hf : f < (l.length : Int)) : firB l is34 (nd l f.toNat).kids = (legP l f).getD (-1) := by
  unfold firB legP
  rw [find_same]
  intro x hx
  have := hR.kid f.toNat (by omega) x hx
  rw [ok_in ⟨this.1, this.2.1⟩]
  unfold is34 kI kN nmI
  rw [← dec_beq, Bool.eq_iff_iff, decide_eq_true_iff, decide_eq_true_iff]
  exact kOf_leg
theorem abv_some {l : List Nd} {q : Int → Bool} {h : Int → Int → Bool} {k : Int} : (abvP l q h k != -1) = (anc l k).any (fun x => okB l q (parI l x) && h (parI l x) x) := by
  unfold abvP
  cases e : (anc l k).find? (fun x => okB l q (parI l x) && h (parI l x) x) with
  | none =>
    have := List.find?_eq_none.1 e
    symm
    rw [List.any_eq_false.2 this]; rfl
  | some x =>
    have h1 := List.find?_some e
    have h2 := List.mem_of_find?_eq_some e
    rw [List.any_eq_true.2 ⟨x, h2, h1⟩]
    show (parI l x != -1) = true
    rw [Bool.and_eq_true] at h1
    have : 0 ≤ parI l x := by
      apply Classical.byContradiction
      intro t
      rw [ok_out (fun s => t s.1)] at h1
      cases h1.1
    rw [bne_iff_ne]; omega
def disQ (l : List Nd) (i : Int) : Bool := hasA (nd l i.toNat) oDis || (abvP l is29 (hldB l) i != -1)
theorem disabled_is {l : List Nd} {i : Int} : disabledP l i = (okB l disK i && rightB l && disQ l i) := by
  unfold disabledP
  by_cases hN : hasN l i = true
  · have hN2 := hN
    unfold hasN at hN2
    rw [Bool.and_eq_true, decide_eq_true_eq] at hN2
    have hR := right_is.1 hN2.2
    have h0 := hN2.1.1
    have hi := hN2.1.2
    rw [hN, ok_in hN2.1, hN2.2, Bool.true_and, Bool.and_true]
    have e1 : (subB (kI l i) || decide (kI l i = 29)) = disK (kI l i) := by unfold disK; rw [dec_beq]
    rw [e1]
    congr 1
    unfold disQ
    congr 1
    rw [abv_some, Bool.eq_iff_iff, List.any_eq_true, List.any_eq_true]
    constructor
    · rintro ⟨f, hf, hb⟩
      have hf : f < l.length := List.mem_range.1 hf
      unfold barsB at hb
      rw [Bool.and_eq_true, Bool.and_eq_true, Bool.and_eq_true, decide_eq_true_eq] at hb
      obtain ⟨b1, b2, b3, b4⟩ := hb
      unfold withinB at b3
      rw [List.contains_iff_mem] at b3
      obtain ⟨x, hx, ex⟩ := (anc_par hR _ h0 hi (Nat.le_refl _) (f : Int) (by omega)).1 b3
      refine ⟨x, hx, ?_⟩
      rw [ex, Bool.and_eq_true]
      refine ⟨?_, ?_⟩
      · rw [ok_in ⟨by omega, by omega⟩]
        unfold is29 kI kN
        rw [← dec_beq, decide_eq_true_iff, Int.toNat_natCast]
        exact kOf_set.2 b1
      · unfold hldB
        rw [Int.toNat_natCast, b2, Bool.true_and]
        have lg := leg_is hR (f := (f : Int)) (by omega) (by omega)
        rw [Int.toNat_natCast] at lg
        rw [lg, bne_iff_ne]
        have xr : 0 ≤ x ∧ x < (l.length : Int) := anc_range l (fun i hi => (hR.par i hi).2) _ _ hi x hx
        cases el : legP l (f : Int) with
        | none => show x ≠ -1; omega
        | some k =>
          show x ≠ k
          intro t
          subst t
          unfold spareP at b4
          rw [el] at b4
          have : (decide (x = i) || withinB l i x) = true := by
            rw [anc_up (hR.ende hi) (by omega), List.mem_cons] at hx
            rw [Bool.or_eq_true, decide_eq_true_eq]
            unfold withinB
            rw [List.contains_iff_mem]
            exact hx
          have b4 : (!(decide (x = i) || withinB l i x)) = true := b4
          rw [this] at b4; cases b4
    · rintro ⟨x, hx, hb⟩
      rw [Bool.and_eq_true] at hb
      have xr : 0 ≤ x ∧ x < (l.length : Int) := anc_range l (fun i hi => (hR.par i hi).2) _ _ hi x hx
      have fr : 0 ≤ parI l x ∧ parI l x < (l.length : Int) := by
        apply Classical.byContradiction
        intro t
        rw [ok_out t] at hb
        cases hb.1
      obtain ⟨f, ef⟩ : ∃ f : Nat, parI l x = (f : Int) := ⟨(parI l x).toNat, by omega⟩
      rw [ef] at hb fr
      have hf : f < l.length := by omega
      refine ⟨f, List.mem_range.2 hf, ?_⟩
      obtain ⟨b1, b2⟩ := hb
      rw [ok_in fr] at b1
      unfold is29 kI kN at b1
      rw [← dec_beq, decide_eq_true_iff, Int.toNat_natCast] at b1
      unfold hldB at b2
      rw [Bool.and_eq_true] at b2
      obtain ⟨b2, b3⟩ := b2
      have lg := leg_is hR (f := (f : Int)) (by omega) (by omega)
      rw [lg, bne_iff_ne] at b3
      rw [Int.toNat_natCast] at b2
      unfold barsB
      rw [Bool.and_eq_true, Bool.and_eq_true, Bool.and_eq_true, decide_eq_true_eq]
      refine ⟨kOf_set.1 b1, b2, ?_, ?_⟩
      · unfold withinB
        rw [List.contains_iff_mem]
        exact (anc_par hR _ h0 hi (Nat.le_refl _) (f : Int) (by omega)).2 ⟨x, hx, ef⟩
      · unfold spareP
        cases el : legP l (f : Int) with
        | none => rfl
        | some k =>
          rw [el] at b3
          have b3 : x ≠ k := b3
          show (!(decide (k = i) || withinB l i k)) = true
          have : ¬ ((decide (k = i) || withinB l i k) = true) := by
            rw [Bool.or_eq_true, decide_eq_true_eq]
            intro t
            have ki : k ∈ anc l i := by
              rw [anc_up (hR.ende hi) (by omega), List.mem_cons]
              unfold withinB at t
              rw [List.contains_iff_mem] at t
              exact t
            have kk := List.mem_of_find?_eq_some (by unfold legP at el; exact el)
            rw [Int.toNat_natCast] at kk
            have kp := hR.kid f hf k kk
            have kr : 0 ≤ k ∧ k < (l.length : Int) := ⟨kp.1, kp.2.1⟩
            have e1 := hgt_up (hR.ende kr.2) (by omega)
            have e2 := hgt_up (hR.ende xr.2) (by omega)
            have kp3 : parI l k = (f : Int) := kp.2.2
            rw [kp3] at e1
            rw [ef] at e2
            exact b3 (anc_once hR _ h0 hi (Nat.le_refl _) hx ki (by omega))
          cases g : (decide (k = i) || withinB l i k) with
          | true => exact absurd g this
          | false => rfl
  · have : (okB l disK i && rightB l) = false := by
      unfold hasN at hN
      unfold okB
      revert hN
      cases decide (0 ≤ i ∧ i < (l.length : Int)) <;> cases rightB l <;> simp
    rw [this]
    have hF : hasN l i = false := by revert hN; cases hasN l i <;> simp
    rw [hF]; rfl

end Go.Proofs.YtdbabciafifnaaaGreatDoor
