/- A select's options by way of its children. The program's way of asking for forms, elements, labels and what is disabled, told by the document's functions. What is above a node, of a kind, as the program asks. The program's areLinked of layer 10. The program's areReached, Right, isThere of layer 10. The program's isThere, Order, upwards of layer 10. -/
import Derived.Test.YtlppocdhfeejkaaGreatDoorJvv23
import Derived.Test.YtlppocdhfeejkaaGreatDoorJvv32
import Derived.Test.YtlppocdhfeejkaaGreatDoorJvv34
import Derived.Laws.MakeOwn

namespace Go.Proofs.YtlppocdhfeejkaaGreatDoor
open Go.RowKit
theorem seekR_in {t : ByteArray} {f l : Nat} : ∀ {n k x : Nat}, seekR t f l n k = some x → f ≤ x ∧ x ≤ l
  | 0, k, x, h => by cases h
  | n + 1, k, x, h => by
    unfold seekR at h
    split at h
    · rename_i q
      rw [Bool.and_eq_true, Bool.and_eq_true, Nat.ble_eq, Nat.ble_eq] at q
      cases h
      exact ⟨q.1, q.2.1⟩
    · exact seekR_in h
theorem kInt_in {r : Option Nat} {f l : Nat} {z : Int} (hz : (f : Int) ≤ z ∧ z ≤ (l : Int)) (h : ∀ x, r = some x → f ≤ x ∧ x ≤ l) : (f : Int) ≤ kInt r z ∧ kInt r z ≤ (l : Int) := by
  cases r with
  | none => exact hz
  | some x =>
    have := h x rfl
    show (f : Int) ≤ (x : Int) ∧ (x : Int) ≤ (l : Int)
    omega
theorem byT_in {o : Option ByteArray} {f l : Nat} {z : Int} (hz : (f : Int) ≤ z ∧ z ≤ (l : Int)) : (f : Int) ≤ byT o f l z ∧ byT o f l z ≤ (l : Int) := by
  cases o with
  | none => exact hz
  | some t => exact kInt_in hz (fun x e => seekR_in e)
theorem seekL_in {t : ByteArray} : ∀ {n k x : Nat}, seekL t n k = some x → lastN x = t
  | 0, k, x, h => by cases h
  | n + 1, k, x, h => by
    unfold seekL at h
    split at h
    · rename_i q; cases h; exact q
    · exact seekL_in h
/-- Which names are selects, options, groups. -/
theorem kOf_sel {name : ByteArray} {o : Option ByteArray} : kOf name o = 23 ↔ name = oSel := by
  constructor
  · intro h
    unfold kOf at h
    split at h
    · have := byT_in (o := o) (f := 1) (l := 22) (z := 2) (by decide)
      omega
    · split at h
      · assumption
      · split at h
        · omega
        · split at h
          · have := byT_in (o := o) (f := 25) (l := 27) (z := 25) (by decide)
            omega
          · split at h
            · omega
            · omega
  · intro h; subst h; rfl
theorem kOf_last {name : ByteArray} {o : Option ByteArray} {i : Nat} (h : kOf name o = 28 + (i : Int)) : lastN i = name := by
  unfold kOf at h
  split at h
  · have := byT_in (o := o) (f := 1) (l := 22) (z := 2) (by decide)
    omega
  · split at h
    · omega
    · split at h
      · omega
      · split at h
        · have := byT_in (o := o) (f := 25) (l := 27) (z := 25) (by decide)
          omega
        · split at h
          · omega
          · rename_i j e
            obtain rfl : j = i := by omega
            exact seekL_in e
theorem kOf_opt {name : ByteArray} {o : Option ByteArray} : kOf name o = 32 ↔ name = oOpt := by
  constructor
  · intro h
    have := kOf_last (i := 4) (o := o) (name := name) (by rw [h]; rfl)
    rw [← this]; rfl
  · intro h; subst h; rfl
theorem kOf_grp {name : ByteArray} {o : Option ByteArray} : kOf name o = 33 ↔ name = oGrp := by
  constructor
  · intro h
    have := kOf_last (i := 5) (o := o) (name := name) (by rw [h]; rfl)
    rw [← this]; rfl
  · intro h; subst h; rfl
/-- A select's options by way of its children. -/
def optsC (l : List Nd) (c : Int) : List Int := if nmI l c = oOpt then [c] else if nmI l c = oGrp then (kidsI l c).filter (fun d => decide (nmI l d = oOpt)) else []
def optsP (l : List Nd) (sel : Int) : List Int := (kidsI l sel).flatMap (optsC l)
theorem Dep.ne {l : List Nd} {d e : Nat} {k j : Int} (h : Dep l d k) (g : Dep l e j) (hn : d ≠ e) : k ≠ j := fun q => hn (by rw [q] at h; exact h.one g)
theorem up_is {l : List Nd} {sel x : Int} (h0 : 0 ≤ sel) (h : ownP l x = sel) : upI l x = sel := by
  unfold ownP at h
  split at h
  · omega
  · exact h
/-- An option is a child, or a child's child. -/
theorem opt_dep {l : List Nd} {sel x : Int} {a d : Nat} (hs : Dep l a sel) (hx : Dep l d x) (h : optB l sel x = true) : d = a + 1 ∨ d = a + 2 := by
  unfold optB at h
  rw [Bool.and_eq_true, decide_eq_true_eq, decide_eq_true_eq] at h
  have s0 := hs.rng.1
  have u := up_is s0 h.2
  unfold upI at u
  split at u
  · rename_i g
    match d, hx with
    | 0, hx =>
      have e : parI l x = -1 := hx.2
      rw [e] at g
      cases g
    | 1, hx =>
      have e : parI l (parI l x) = -1 := hx.2.2
      omega
    | d + 2, hx =>
      have q : Dep l d (parI l (parI l x)) := hx.2.2
      rw [u] at q
      have := q.one hs
      omega
  · match d, hx with
    | 0, hx =>
      have e : parI l x = -1 := hx.2
      omega
    | d + 1, hx =>
      have q : Dep l d (parI l x) := hx.2
      rw [u] at q
      have := q.one hs
      omega
theorem down_none {l : List Nd} (hL : Linked l) {sel k : Int} {a d f : Nat} (hs : Dep l a sel) (hk : Dep l d k) (hd : a + 2 < d) : (downF l f k).filter (optB l sel) = [] := by
  rw [List.filter_eq_nil_iff]
  intro x hx q
  obtain ⟨e, he, _⟩ := down_dep hL hk hx
  have := opt_dep hs he q
  omega
theorem dep_kid {l : List Nd} (hL : Linked l) {k c : Int} {d : Nat} (hk : Dep l d k) (hc : c ∈ kidsI l k) : Dep l (d + 1) c := by
  have := hL.kidI hk.rng hc
  exact ⟨this.1, by rw [this.2]; exact hk⟩
theorem filter_flat {f : Int → List Int} {p : Int → Bool} : ∀ (L : List Int), (L.flatMap f).filter p = L.flatMap (fun x => (f x).filter p)
  | [] => rfl
  | x :: L => by
    rw [List.flatMap_cons, List.filter_append, filter_flat L, List.flatMap_cons]
theorem flat_nil {f : Int → List Int} : ∀ {L : List Int}, (∀ x ∈ L, f x = []) → L.flatMap f = []
  | [], _ => rfl
  | x :: L, h => by rw [List.flatMap_cons, h x List.mem_cons_self, flat_nil (fun y hy => h y (List.mem_cons_of_mem _ hy))]; rfl
theorem flat_filter {p q : Int → Bool} {f : Int → List Int} : ∀ {L : List Int}, (∀ x ∈ L, f x = if p x = true then [x] else []) → L.flatMap f = L.filter p
  | [], _ => rfl
  | x :: L, h => by
    rw [List.flatMap_cons, h x List.mem_cons_self, flat_filter (q := q) (fun y hy => h y (List.mem_cons_of_mem _ hy)), List.filter_cons]
    split <;> rfl
/-- A child's child. -/
theorem down_low {l : List Nd} (hL : Linked l) {sel k : Int} {a f : Nat} (hs : Dep l a sel) (hk : Dep l (a + 2) k) (hf : Sub l f k) : (downF l f k).filter (optB l sel) = if optB l sel k = true then [k] else [] := by
  match f, hf with
  | f + 1, hf =>
    show (k :: (kidsI l k).flatMap (downF l f)).filter (optB l sel) = _
    have e : ((kidsI l k).flatMap (downF l f)).filter (optB l sel) = [] := by
      rw [filter_flat]
      exact flat_nil (fun c hc => down_none hL hs (dep_kid hL hk hc) (by omega))
    rw [List.filter_cons, e]
theorem sel_name {l : List Nd} {sel : Int} (h : isK l sel 23 = true) : nmI l sel = oSel := by
  unfold isK kN at h
  rw [Bool.and_eq_true, decide_eq_true_eq] at h
  exact kOf_sel.1 h.2
theorem kid_opt {l : List Nd} (hL : Linked l) {sel c : Int} (hn : nmI l sel = oSel) (hr : inR l sel) (hc : c ∈ kidsI l sel) : optB l sel c = decide (nmI l c = oOpt) := by
  have pc := (hL.kidI hr hc).2
  have u : upI l c = sel := by
    unfold upI grpI
    rw [pc, hn, if_neg]
    rw [Bool.and_eq_true]
    rintro ⟨_, q⟩
    exact absurd (of_decide_eq_true q) (by decide)
  have w : ownP l c = sel := by
    unfold ownP
    rw [u, if_neg]
    rintro (q | q)
    · have := hr.1; omega
    · exact q hn
  unfold optB
  rw [w, decide_eq_true rfl, Bool.and_true]
theorem low_opt {l : List Nd} (hL : Linked l) {sel c d : Int} {a : Nat} (hn : nmI l sel = oSel) (hs : Dep l a sel) (hc : c ∈ kidsI l sel) (hd : d ∈ kidsI l c) : optB l sel d = (decide (nmI l d = oOpt) && decide (nmI l c = oGrp)) := by
  have dc := dep_kid hL hs hc
  have pc := (hL.kidI hs.rng hc).2
  have pd := (hL.kidI dc.rng hd).2
  have c0 := dc.rng.1
  by_cases g : nmI l c = oGrp
  · have gi : grpI l (parI l d) = true := by
      unfold grpI
      rw [pd, Bool.and_eq_true]
      exact ⟨decide_eq_true c0, decide_eq_true g⟩
    have u : upI l d = sel := by
      unfold upI
      rw [if_pos gi, pd, pc]
    have w : ownP l d = sel := by
      unfold ownP
      rw [u, if_neg]
      rintro (q | q)
      · have := hs.rng.1; omega
      · exact q hn
    unfold optB
    rw [w, decide_eq_true rfl, decide_eq_true g]
  · have u : upI l d = c := by
      unfold upI
      rw [if_neg, pd]
      unfold grpI
      rw [pd, Bool.and_eq_true]
      rintro ⟨_, q⟩
      exact g (of_decide_eq_true q)
    have w : ¬ ownP l d = sel := fun q => by
      have := up_is hs.rng.1 q
      rw [u] at this
      exact dc.ne hs (by omega) this
    unfold optB
    rw [decide_eq_false w, decide_eq_false g, Bool.and_false]
theorem kid_row {l : List Nd} (hL : Linked l) {sel c : Int} {a f : Nat} (hn : nmI l sel = oSel) (hs : Dep l a sel) (hc : c ∈ kidsI l sel) (hf : Sub l f c) : (downF l f c).filter (optB l sel) = optsC l c := by
  match f, hf with
  | f + 1, hf =>
    show (c :: (kidsI l c).flatMap (downF l f)).filter (optB l sel) = _
    rw [List.filter_cons, kid_opt hL hn hs.rng hc, filter_flat]
    have dc := dep_kid hL hs hc
    have e : (kidsI l c).flatMap (fun x => (downF l f x).filter (optB l sel)) = (kidsI l c).filter (fun d => decide (nmI l d = oOpt) && decide (nmI l c = oGrp)) :=
      flat_filter (q := fun _ => true) (fun d hd => by rw [down_low hL hs (dep_kid hL dc hd) (hf.2 d hd), low_opt hL hn hs hc hd])
    rw [e]
    unfold optsC
    by_cases q : nmI l c = oOpt
    · have ng : ¬ nmI l c = oGrp := fun r => by rw [q] at r; exact absurd r (by decide)
      rw [if_pos (decide_eq_true q), if_pos q, List.filter_eq_nil_iff.2 (fun d _ r => by rw [decide_eq_false ng, Bool.and_false] at r; cases r)]
    · rw [if_neg (fun r => q (of_decide_eq_true r)), if_neg q]
      by_cases g : nmI l c = oGrp
      · rw [if_pos g]
        exact List.filter_congr (fun d _ => by rw [decide_eq_true g, Bool.and_true])
      · rw [if_neg g, List.filter_eq_nil_iff.2 (fun d _ r => by rw [decide_eq_false g, Bool.and_false] at r; cases r)]
theorem list_opts {l : List Nd} {sel : Int} (h : isK l sel 23 = true) : listP l sel = optsP l sel := by
  have hn := sel_name h
  have hh : hasN l sel = true := by unfold isK at h; rw [Bool.and_eq_true] at h; exact h.1
  unfold hasN at hh
  rw [Bool.and_eq_true, decide_eq_true_eq] at hh
  have hR := right_is.1 hh.2
  have hr : inR l sel := ⟨hh.1.1, hh.1.2⟩
  have hL := right_linked hR
  obtain ⟨a, hs⟩ := right_dep hR hr
  have hf := right_sub hR hr
  unfold listP
  rw [if_pos h, order_down hR hr]
  match hl : l.length, hf with
  | 0, hf => cases hf
  | f + 1, hf =>
    show (sel :: (kidsI l sel).flatMap (downF l f)).filter (optB l sel) = _
    have ns : optB l sel sel = false := by
      unfold optB
      rw [hn]
      rfl
    rw [List.filter_cons, ns, filter_flat]
    exact flat_congr (fun c hc => kid_row hL hn hs hc (hf.2 c hc))
end Go.Proofs.YtlppocdhfeejkaaGreatDoor

namespace Go.Proofs.YtlppocdhfeejkaaGreatDoor
open Go.RowKit
theorem kOf_set {name : ByteArray} {o : Option ByteArray} : kOf name o = 29 ↔ name = oSet :=
  ⟨fun h => by have := kOf_last (i := 1) (o := o) (name := name) (by rw [h]; rfl); rw [← this]; rfl, fun h => by subst h; rfl⟩
theorem kOf_leg {name : ByteArray} {o : Option ByteArray} : kOf name o = 34 ↔ name = oLeg :=
  ⟨fun h => by have := kOf_last (i := 6) (o := o) (name := name) (by rw [h]; rfl); rw [← this]; rfl, fun h => by subst h; rfl⟩
/-- Is there a node of that number, of a kind that q takes? -/
def okB (l : List Nd) (q : Int → Bool) (id : Int) : Bool := decide (0 ≤ id ∧ id < (l.length : Int)) && q (kI l id)
theorem ok_out {l : List Nd} {q : Int → Bool} {id : Int} (h : ¬ (0 ≤ id ∧ id < (l.length : Int))) : okB l q id = false := by unfold okB; rw [decide_eq_false h]; rfl
theorem ok_at {l : List Nd} {q : Int → Bool} {m : Nat} (h : m < l.length) : okB l q (m : Int) = q (kN l[m]) := by
  unfold okB kI; rw [decide_eq_true (by omega), Int.toNat_natCast, nd_at h, Bool.true_and]
theorem ok_in {l : List Nd} {q : Int → Bool} {id : Int} (h : 0 ≤ id ∧ id < (l.length : Int)) : okB l q id = q (kI l id) := by unfold okB; rw [decide_eq_true h, Bool.true_and]
def is29 (k : Int) : Bool := k == 29
def is34 (k : Int) : Bool := k == 34
def disK (k : Int) : Bool := subB k || k == 29
def firB (l : List Nd) (q : Int → Bool) (xs : List Int) : Int := (xs.find? (okB l q)).getD (-1)
theorem dec_beq (a b : Int) : decide (a = b) = (a == b) := by
  cases h : (a == b) with
  | true => exact decide_eq_true (by simpa using h)
  | false => exact decide_eq_false (by simpa using h)
/-- What is above a node, of such a kind, and holds the child that leads to it. -/
def abvP (l : List Nd) (q : Int → Bool) (h : Int → Int → Bool) (k : Int) : Int := (((anc l k).find? (fun x => okB l q (parI l x) && h (parI l x) x)).map (parI l)).getD (-1)
theorem abv_hit {l : List Nd} {q : Int → Bool} {h : Int → Int → Bool} {k : Int} (hE : Ends l k) (hk : ¬ k < 0) (g : okB l q (parI l k) = true) (g2 : h (parI l k) k = true) : abvP l q h k = parI l k := by
  unfold abvP
  rw [anc_up hE hk, List.find?_cons_of_pos (by rw [g, g2]; rfl)]; rfl
theorem abv_top {l : List Nd} {q : Int → Bool} {h : Int → Int → Bool} {k : Int} (hE : Ends l k) (hk : ¬ k < 0) (g : parI l k < 0) : abvP l q h k = -1 := by
  unfold abvP
  rw [anc_up hE hk, List.find?_cons_of_neg (by rw [ok_out (by omega)]; simp), anc_neg g]; rfl
theorem abv_up {l : List Nd} {q : Int → Bool} {h : Int → Int → Bool} {k : Int} (hE : Ends l k) (hk : ¬ k < 0) (g : (okB l q (parI l k) && h (parI l k) k) = false) : abvP l q h (parI l k) = abvP l q h k := by
  unfold abvP
  rw [anc_up hE hk, List.find?_cons_of_neg (by rw [g]; simp)]
theorem find_same {α : Type} {p q : α → Bool} : ∀ {xs : List α}, (∀ x ∈ xs, p x = q x) → xs.find? p = xs.find? q
  | [], _ => rfl
  | x :: xs, h => by
    have ih := find_same (p := p) (q := q) (xs := xs) (fun y hy => h y (List.mem_cons_of_mem _ hy))
    have e := h x List.mem_cons_self
    by_cases g : p x = true
    · rw [List.find?_cons_of_pos g, List.find?_cons_of_pos (by rw [← e]; exact g)]
    · rw [List.find?_cons_of_neg g, List.find?_cons_of_neg (by rw [← e]; exact g), ih]
/-- In a node's way up each height is met once. -/
theorem anc_once {l : List Nd} (hR : Right l) : ∀ (d : Nat) {k a b : Int}, 0 ≤ k → k < (l.length : Int) → hgt l k ≤ d → a ∈ anc l k → b ∈ anc l k → hgt l a = hgt l b → a = b
  | 0, k, a, b, h0, hk, hd, _, _, _ => by
    have := hgt_up (hR.ende hk) (by omega)
    omega
  | d + 1, k, a, b, h0, hk, hd, ha, hb, e => by
    have hE := hR.ende hk
    have hh := hgt_up hE (by omega)
    have pr := hR.up (by omega) hk
    rw [anc_up hE (by omega), List.mem_cons] at ha hb
    have low : ∀ x, x ∈ anc l (parI l k) → hgt l x < hgt l k := by
      intro x hx
      have := anc_hgt hR _ pr.2 (Nat.le_refl _) hx
      omega
    rcases ha with rfl | ha
    · rcases hb with rfl | hb
      · rfl
      · have := low b hb; omega
    · rcases hb with rfl | hb
      · have := low a ha; omega
      · by_cases q : parI l k < 0
        · rw [anc_neg q] at ha; cases ha
        · exact anc_once hR d (by omega) pr.2 (by omega) ha hb e
theorem anc_par {l : List Nd} (hR : Right l) : ∀ (d : Nat) {k : Int}, 0 ≤ k → k < (l.length : Int) → hgt l k ≤ d → ∀ f : Int, 0 ≤ f → (f ∈ anc l (parI l k) ↔ ∃ x ∈ anc l k, parI l x = f)
  | 0, k, h0, hk, hd => by
    have := hgt_up (hR.ende hk) (by omega)
    omega
  | d + 1, k, h0, hk, hd => fun f hf => by
    have hE := hR.ende hk
    have hh := hgt_up hE (by omega)
    have pr := hR.up (by omega) hk
    rw [anc_up hE (by omega)]
    by_cases q : parI l k < 0
    · rw [anc_neg q]
      constructor
      · intro t; cases t
      · rintro ⟨x, hx, e⟩
        rw [List.mem_singleton] at hx
        subst hx; omega
    · have ih := anc_par hR d (k := parI l k) (by omega) pr.2 (by omega) f hf
      rw [anc_up (hR.ende pr.2) q, List.mem_cons, ih, ← anc_up (hR.ende pr.2) q]
      constructor
      · rintro (t | ⟨x, hx, e⟩)
        · exact ⟨k, List.mem_cons_self, t.symm⟩
        · exact ⟨x, List.mem_cons_of_mem _ hx, e⟩
      · rintro ⟨x, hx, e⟩
        rcases List.mem_cons.1 hx with rfl | hx
        · exact .inl e.symm
        · exact .inr ⟨x, hx, e⟩
/-- Whether a fieldset holds a child to be disabled. -/
def hldB (l : List Nd) (set b : Int) : Bool := hasA (nd l set.toNat) oDis && (b != firB l is34 (nd l set.toNat).kids)
theorem leg_is {l : List Nd} (hR : Right l) {f : Int} (h0 : 0 ≤ f) (hf : f < (l.length : Int)) : firB l is34 (nd l f.toNat).kids = (legP l f).getD (-1) := by
  unfold firB legP
  rw [find_same]
  intro x hx
  have := hR.kid f.toNat (by omega) x hx
  rw [ok_in ⟨this.1, this.2.1⟩]
  unfold is34 kI kN nmI
  rw [← dec_beq, Bool.eq_iff_iff, decide_eq_true_iff, decide_eq_true_iff]
  exact kOf_leg
theorem abv_some {l : List Nd} {q : Int → Bool} {h : Int → Int → Bool} {k : Int} : (abvP l q h k != -1) = (anc l k).any (fun x => okB l q (parI l x) && h (parI l x) x) := by
  unfold abvP
  cases e : (anc l k).find? (fun x => okB l q (parI l x) && h (parI l x) x) with
  | none =>
    have := List.find?_eq_none.1 e
    symm
    rw [List.any_eq_false.2 this]; rfl
  | some x =>
    have h1 := List.find?_some e
    have h2 := List.mem_of_find?_eq_some e
    rw [List.any_eq_true.2 ⟨x, h2, h1⟩]
    show (parI l x != -1) = true
    rw [Bool.and_eq_true] at h1
    have : 0 ≤ parI l x := by
      apply Classical.byContradiction
      intro t
      rw [ok_out (fun s => t s.1)] at h1
      cases h1.1
    rw [bne_iff_ne]; omega
def disQ (l : List Nd) (i : Int) : Bool := hasA (nd l i.toNat) oDis || (abvP l is29 (hldB l) i != -1)
theorem disabled_is {l : List Nd} {i : Int} : disabledP l i = (okB l disK i && rightB l && disQ l i) := by
  unfold disabledP
  by_cases hN : hasN l i = true
  · have hN2 := hN
    unfold hasN at hN2
    rw [Bool.and_eq_true, decide_eq_true_eq] at hN2
    have hR := right_is.1 hN2.2
    have h0 := hN2.1.1
    have hi := hN2.1.2
    rw [hN, ok_in hN2.1, hN2.2, Bool.true_and, Bool.and_true]
    have e1 : (subB (kI l i) || decide (kI l i = 29)) = disK (kI l i) := by unfold disK; rw [dec_beq]
    rw [e1]
    congr 1
    unfold disQ
    congr 1
    rw [abv_some, Bool.eq_iff_iff, List.any_eq_true, List.any_eq_true]
    constructor
    · rintro ⟨f, hf, hb⟩
      have hf : f < l.length := List.mem_range.1 hf
      unfold barsB at hb
      rw [Bool.and_eq_true, Bool.and_eq_true, Bool.and_eq_true, decide_eq_true_eq] at hb
      obtain ⟨b1, b2, b3, b4⟩ := hb
      unfold withinB at b3
      rw [List.contains_iff_mem] at b3
      obtain ⟨x, hx, ex⟩ := (anc_par hR _ h0 hi (Nat.le_refl _) (f : Int) (by omega)).1 b3
      refine ⟨x, hx, ?_⟩
      rw [ex, Bool.and_eq_true]
      refine ⟨?_, ?_⟩
      · rw [ok_in ⟨by omega, by omega⟩]
        unfold is29 kI kN
        rw [← dec_beq, decide_eq_true_iff, Int.toNat_natCast]
        exact kOf_set.2 b1
      · unfold hldB
        rw [Int.toNat_natCast, b2, Bool.true_and]
        have lg := leg_is hR (f := (f : Int)) (by omega) (by omega)
        rw [Int.toNat_natCast] at lg
        rw [lg, bne_iff_ne]
        have xr : 0 ≤ x ∧ x < (l.length : Int) := anc_range l (fun i hi => (hR.par i hi).2) _ _ hi x hx
        cases el : legP l (f : Int) with
        | none => show x ≠ -1; omega
        | some k =>
          show x ≠ k
          intro t
          subst t
          unfold spareP at b4
          rw [el] at b4
          have : (decide (x = i) || withinB l i x) = true := by
            rw [anc_up (hR.ende hi) (by omega), List.mem_cons] at hx
            rw [Bool.or_eq_true, decide_eq_true_eq]
            unfold withinB
            rw [List.contains_iff_mem]
            exact hx
          have b4 : (!(decide (x = i) || withinB l i x)) = true := b4
          rw [this] at b4; cases b4
    · rintro ⟨x, hx, hb⟩
      rw [Bool.and_eq_true] at hb
      have xr : 0 ≤ x ∧ x < (l.length : Int) := anc_range l (fun i hi => (hR.par i hi).2) _ _ hi x hx
      have fr : 0 ≤ parI l x ∧ parI l x < (l.length : Int) := by
        apply Classical.byContradiction
        intro t
        rw [ok_out t] at hb
        cases hb.1
      obtain ⟨f, ef⟩ : ∃ f : Nat, parI l x = (f : Int) := ⟨(parI l x).toNat, by omega⟩
      rw [ef] at hb fr
      have hf : f < l.length := by omega
      refine ⟨f, List.mem_range.2 hf, ?_⟩
      obtain ⟨b1, b2⟩ := hb
      rw [ok_in fr] at b1
      unfold is29 kI kN at b1
      rw [← dec_beq, decide_eq_true_iff, Int.toNat_natCast] at b1
      unfold hldB at b2
      rw [Bool.and_eq_true] at b2
      obtain ⟨b2, b3⟩ := b2
      have lg := leg_is hR (f := (f : Int)) (by omega) (by omega)
      rw [lg, bne_iff_ne] at b3
      rw [Int.toNat_natCast] at b2
      unfold barsB
      rw [Bool.and_eq_true, Bool.and_eq_true, Bool.and_eq_true, decide_eq_true_eq]
      refine ⟨kOf_set.1 b1, b2, ?_, ?_⟩
      · unfold withinB
        rw [List.contains_iff_mem]
        exact (anc_par hR _ h0 hi (Nat.le_refl _) (f : Int) (by omega)).2 ⟨x, hx, ef⟩
      · unfold spareP
        cases el : legP l (f : Int) with
        | none => rfl
        | some k =>
          rw [el] at b3
          have b3 : x ≠ k := b3
          show (!(decide (k = i) || withinB l i k)) = true
          have : ¬ ((decide (k = i) || withinB l i k) = true) := by
            rw [Bool.or_eq_true, decide_eq_true_eq]
            intro t
            have ki : k ∈ anc l i := by
              rw [anc_up (hR.ende hi) (by omega), List.mem_cons]
              unfold withinB at t
              rw [List.contains_iff_mem] at t
              exact t
            have kk := List.mem_of_find?_eq_some (by unfold legP at el; exact el)
            rw [Int.toNat_natCast] at kk
            have kp := hR.kid f hf k kk
            have kr : 0 ≤ k ∧ k < (l.length : Int) := ⟨kp.1, kp.2.1⟩
            have e1 := hgt_up (hR.ende kr.2) (by omega)
            have e2 := hgt_up (hR.ende xr.2) (by omega)
            have kp3 : parI l k = (f : Int) := kp.2.2
            rw [kp3] at e1
            rw [ef] at e2
            exact b3 (anc_once hR _ h0 hi (Nat.le_refl _) hx ki (by omega))
          cases g : (decide (k = i) || withinB l i k) with
          | true => exact absurd g this
          | false => rfl
  · have : (okB l disK i && rightB l) = false := by
      unfold hasN at hN
      unfold okB
      revert hN
      cases decide (0 ≤ i ∧ i < (l.length : Int)) <;> cases rightB l <;> simp
    rw [this]
    have hF : hasN l i = false := by revert hN; cases hasN l i <;> simp
    rw [hF]; rfl
end Go.Proofs.YtlppocdhfeejkaaGreatDoor

namespace Go.Proofs.YtlppocdhfeejkaaGreatDoor
open Go.RowKit
def winB (l : List Nd) (k i : Int) : Bool := (anc l (parI l i)).any (fun x => kI l x == k)
theorem kOf_data {name : ByteArray} {o : Option ByteArray} : kOf name o = 35 ↔ name = oData :=
  ⟨fun h => by have := kOf_last (i := 7) (o := o) (name := name) (by rw [h]; rfl); rw [← this]; rfl, fun h => by subst h; rfl⟩
theorem win_up {l : List Nd} (hR : Right l) {i : Int} (h0 : 0 ≤ i) (hi : i < (l.length : Int)) : winB l 35 i = decide (0 ≤ upP l i oData) := by
  have hp : ∀ x ∈ anc l (parI l i), 0 ≤ x := fun x hx => (anc_rng hR _ (hR.up (by omega) hi).2 (Nat.le_refl _) hx).1
  have hf : (fun x => kI l x == 35) = (fun k : Int => decide ((nd l k.toNat).name = oData)) := funext fun x => by
    unfold kI kN
    rw [← dec_beq, Bool.eq_iff_iff, decide_eq_true_iff, decide_eq_true_iff]
    exact kOf_data
  unfold winB upP
  rw [hf]
  generalize anc l (parI l i) = xs at *
  cases h : xs.find? (fun k : Int => decide ((nd l k.toNat).name = oData)) with
  | none =>
    have h := List.find?_eq_none.1 h
    rw [show (decide (0 ≤ (none : Option Int).getD (-1))) = false from rfl, List.any_eq_false]
    exact h
  | some x =>
    have hm := List.mem_of_find?_eq_some h
    rw [show (decide (0 ≤ (some x).getD (-1))) = true from decide_eq_true (hp x hm), List.any_eq_true]
    have hs := List.find?_some (p := fun k : Int => decide ((nd l k.toNat).name = oData)) h
    exact ⟨x, hm, hs⟩
/-- Barred, of a right document's control that is submitted. -/
def isBar (l : List Nd) (i : Int) : Bool := ((kI l i == 1) || ((kI l i == 21) || ((kI l i == 22) || ((kI l i == 26) || (kI l i == 27))))) || (fixB l i || winB l 35 i)
theorem barP_is {l : List Nd} {i : Int} : barP l i = (!okB l subB i || (!rightB l || isBar l i)) := by
  unfold barP barC hasN okB mutB isBar
  cases hr : rightB l with
  | false => cases decide (0 ≤ i ∧ i < (l.length : Int)) <;> cases subB (kI l i) <;> rfl
  | true =>
    by_cases h : 0 ≤ i ∧ i < (l.length : Int)
    · rw [win_up (right_is.1 hr) h.1 h.2, decide_eq_true h]
      cases subB (kI l i) <;> rfl
    · rw [decide_eq_false h]; rfl
end Go.Proofs.YtlppocdhfeejkaaGreatDoor

namespace Go.Proofs.YtlppocdhfeejkaaGreatDoor
open Go.RowKit
/-- A bool is answered, of which P holds. -/
def AnsB (P : Bool → Prop) (e : Ending) : Prop := ∃ r : Bool, e = .returned (.bool r) ∧ P r
/-- A row of marks in a block of the call's own. -/
structure Lst (w : World) (n : Nat) (L : Nat → Bool) : Prop where
  cell : ∀ x, x < 400 → w.cell? ⟨n, x, none⟩ = some (.bool (L x))
  free : ∀ x, w.frozen? ⟨n, x, none⟩ = false
theorem marks_zero : Tryz.zeroCells94 = Array.replicate 400 (.bool false) := by kernel_rfl
theorem Lst.new (w : World) : Lst (w.alloc (.cells Tryz.zeroCells94 94)) w.heap.size (fun _ => false) := by
  refine ⟨fun x hx => ?_, fun x => ?_⟩
  · rw [cell_of_row _ _ _ _ _ _ (heap_alloc_new w _), marks_zero]
    simp [hx]
  · simp only [World.frozen?]
    rw [heap_alloc_new]
    simp
theorem Lst.set {w : World} {n : Nat} {L : Nat → Bool} (h : Lst w n L) {y : Nat} (hy : y < 400) : Lst (w.setCell ⟨n, y, none⟩ (.bool true)) n (fun x => if x = y then true else L x) := by
  refine ⟨fun x hx => ?_, fun x => ?_⟩
  · by_cases e : x = y
    · subst e
      rw [if_pos rfl]
      exact World.cell?_setCell_same _ _ _ (by rw [h.cell x hx])
    · rw [if_neg e, World.cell?_setCell_other _ _ _ _ (fun q => e (by cases q; rfl))]
      exact h.cell x hx
  · have := h.free x
    rw [← this]
    exact World.frozen?_setCell ..
theorem parI_nat {l : List Nd} {m : Nat} (h : m < l.length) : parI l (m : Int) = l[m].parent := by unfold parI; rw [Int.toNat_natCast, nd_at h]
/-- So far all is linked. -/
structure LinkTo (l : List Nd) (i : Nat) : Prop where
  kid : ∀ i', i' < i → ∀ c ∈ (nd l i').kids, inR l c ∧ parI l c = (i' : Int)
  once : ∀ i', i' < i → (nd l i').kids.Nodup
theorem link_more {l : List Nd} {i : Nat} (h : LinkTo l i) (h1 : ∀ c ∈ (nd l i).kids, inR l c ∧ parI l c = (i : Int)) (h2 : (nd l i).kids.Nodup) : LinkTo l (i + 1) := by
  refine ⟨fun i' hi => ?_, fun i' hi => ?_⟩
  · rcases Nat.lt_or_ge i' i with q | q
    · exact h.kid i' q
    · obtain rfl : i' = i := by omega
      exact h1
  · rcases Nat.lt_or_ge i' i with q | q
    · exact h.once i' q
    · obtain rfl : i' = i := by omega
      exact h2
def seenB (l : List Nd) (i : Nat) (x : Int) : Prop := ∃ i', i' < i ∧ x ∈ (nd l i').kids
theorem seen_more {l : List Nd} {i : Nat} {x : Int} : seenB l (i + 1) x ↔ seenB l i x ∨ x ∈ (nd l i).kids := by
  constructor
  · rintro ⟨i', h1, h2⟩
    rcases Nat.lt_or_ge i' i with q | q
    · exact .inl ⟨i', q, h2⟩
    · obtain rfl : i' = i := by omega
      exact .inr h2
  · rintro (⟨i', h1, h2⟩ | h)
    · exact ⟨i', by omega, h2⟩
    · exact ⟨i, by omega, h⟩
set_option maxHeartbeats 4000000 in
set_option maxRecDepth 100000 in
theorem areLinked_any (v : Value) (l : List Nd) (w : World) (hv : NodesV w v l) (hz : DocSz l) (h4 : l.length ≤ 400) :
    Calls Tryz.prog 50 #[v] w fun e w' => AnsB (fun r => r = true ↔ Linked l) e ∧ Below w.heap.size w w' := by
  obtain ⟨p, c, rfl, hv⟩ := hv
  have HV := hide hv
  have HZ := hide hz
  have zm := Tryz.zeroValue94
  clear hv hz
  go_enter Tryz.func50, Tryz.ntmps50
  go_wp2_with fail
  generalize hw1 : w.alloc (.cells Tryz.zeroCells94 94) = w1
  have L1 : Hid (Lst w1 w.heap.size (fun _ => false)) := by rw [← hw1]; exact Lst.new w
  have B1 : Hid (Below w.heap.size w w1) := by rw [← hw1]; exact (Below.refl _ w).alloc (Nat.le_refl _) _
  have S1 : Hid (w.heap.size < w1.heap.size) := by rw [← hw1]; show _ < _; simp
  clear hw1 zm
  go_loopw [9] (fun iv wr => ∃ (i : Nat) (L : Nat → Bool), i ≤ l.length ∧ iv = .int .i64 i ∧ Hid (Lst wr w.heap.size L) ∧ Hid (∀ x : Nat, L x = true ↔ seenB l i (x : Int)) ∧ Hid (LinkTo l i) ∧ Hid (Below w.heap.size w wr)) (fun iv _ => l.length - (intOf iv).toNat)
  case atStart => exact ⟨0, _, Nat.zero_le _, rfl, L1, (fun x => ⟨(fun q => by cases q), fun ⟨i', q, _⟩ => by omega⟩), ⟨fun i' q => by omega, fun i' q => by omega⟩, B1⟩
  case round =>
    rename World => wr
    obtain ⟨i, L, hi, rfl, HL, HS, LT, BW⟩ := hrel
    clear L1 B1 S1
    by_cases h : i < l.length
    · have i1 : (i : Int) < (l.length : Int) := by omega
      have i0 : (0 : Int) ≤ (i : Int) := by omega
      obtain ⟨b, o, rfl, hcell⟩ : ∃ b o, p = some ⟨b, o, none⟩ ∧ ∀ i (h : i < l.length), ∃ va vk, NodeAt w b (o + i * 5) l[i] va vk := by
        rcases HV.out with q | q
        · rw [q] at h; simp at h
        · exact q
      have HC := hide hcell
      obtain ⟨va, vk, N0⟩ := hcell i h
      have a4 := (N0.below BW.out).kids
      obtain ⟨pk, ck, rfl, hk⟩ := N0.ks
      have HK := hide hk
      have kz := (HZ.out.nds l[i] (List.getElem_mem _)).kids
      have KN : Hid ((nd l i).kids = l[i].kids) := by show _ = _; rw [nd_at h]
      clear hk N0 hcell
      go_wp2_with fail
      go_loopw [18] (fun jv wq => ∃ (j : Nat) (L : Nat → Bool), j ≤ l[i].kids.length ∧ jv = .int .i64 j ∧ Hid (Lst wq w.heap.size L) ∧ Hid (∀ x : Nat, L x = true ↔ seenB l i (x : Int) ∨ (x : Int) ∈ l[i].kids.take j) ∧ Hid (∀ c ∈ l[i].kids.take j, inR l c ∧ parI l c = (i : Int)) ∧ Hid ((l[i].kids.take j).Nodup) ∧ Hid (Below w.heap.size w wq)) (fun jv _ => l[i].kids.length - (intOf jv).toNat)
      case atStart => exact ⟨0, L, Nat.zero_le _, rfl, HL, (fun x => by rw [List.take_zero]; simpa using HS.out x), (fun c q => by rw [List.take_zero] at q; cases q), by show List.Nodup _; rw [List.take_zero]; exact List.nodup_nil, BW⟩
      case round =>
        rename World => wq
        obtain ⟨j, L2, hj, rfl, HL2, HS2, HK2, HD2, BW2⟩ := hrel
        clear HL HS BW a4
        by_cases hjj : j < l[i].kids.length
        · have j1 : (j : Int) < (l[i].kids.length : Int) := by omega
          have j0 : (0 : Int) ≤ (j : Int) := by omega
          obtain ⟨bk, ok, rfl, hk⟩ : ∃ bk ok, pk = some ⟨bk, ok, none⟩ ∧ ∀ t (h : t < l[i].kids.length), w.cell? ⟨bk, ok + t, none⟩ = some (.int .i64 l[i].kids[t]) := by
            rcases HK.out with q | q
            · rw [q] at hjj; simp at hjj
            · exact q
          have a5 := cell_below (hk j hjj) BW2.out
          have NO : Hid (¬ (inR l l[i].kids[j] ∧ parI l l[i].kids[j] = (i : Int)) → (false = true ↔ Linked l)) := fun q => ⟨(fun r => by cases r), fun r => absurd (r.kid i h l[i].kids[j] (by rw [KN.out]; exact List.getElem_mem _)) q⟩
          have e2 : l[i].kids.take (j + 1) = l[i].kids.take j ++ [l[i].kids[j]] := List.take_succ_eq_append_getElem hjj
          have TW : Hid (l[i].kids[j] ∈ l[i].kids.take j → (false = true ↔ Linked l)) := fun q => ⟨(fun r => by cases r), fun r => by
            have := r.once i h
            rw [KN.out, ← List.take_append_drop (j + 1) l[i].kids, e2, List.append_assoc, List.nodup_append] at this
            exact absurd rfl (this.2.2 _ q _ (List.mem_append_left _ (List.mem_singleton.2 rfl)))⟩
          have E2 := hide e2
          clear hk e2
          generalize l[i].kids[j] = kc at *
          by_cases q1 : kc < 0
          · have E := hide (NO.out (fun r => by have := r.1.1; omega))
            clear NO TW E2
            go_wp2_with fail
            go_ret
            exact ⟨⟨false, rfl, E.out⟩, BW2.out⟩
          · by_cases q2 : (l.length : Int) ≤ kc
            · have E := hide (NO.out (fun r => by have := r.1.2; omega))
              have d1 : decide (kc < 0) = false := decide_eq_false q1
              clear NO TW E2
              go_wp2_with fail
              go_ret
              exact ⟨⟨false, rfl, E.out⟩, BW2.out⟩
            · obtain ⟨m, rfl⟩ : ∃ m : Nat, kc = (m : Int) := ⟨kc.toNat, by omega⟩
              have hm : m < l.length := by omega
              have d2 : decide ((l.length : Int) ≤ (m : Int)) = false := decide_eq_false q2
              obtain ⟨vm, km, NM⟩ := HC.out m hm
              have a6 := (NM.below BW2.out).parent
              have m0 : (0 : Int) ≤ (m : Int) := by omega
              have m1 : (m : Int) < (l.length : Int) := by omega
              have m4 : (m : Int) < 400 := by omega
              have PM := hide (parI_nat hm)
              have a7 := HL2.out.cell m (by omega)
              have a8 := HL2.out.free m
              have HM2 := hide (HS2.out m)
              clear NM
              by_cases q3 : l[m].parent = (i : Int)
              · have f1 : (l[m].parent != (i : Int)) = false := by rw [q3]; simp
                have f2 : (l[m].parent == (i : Int)) = true := by rw [q3]; simp
                have PE : Hid (inR l (m : Int) ∧ parI l (m : Int) = (i : Int)) := ⟨⟨m0, m1⟩, by rw [PM.out, q3]⟩
                clear q3
                generalize l[m].parent = pm at *
                cases q4 : L2 m with
                | true =>
                  rw [q4] at a7
                  have E : Hid (false = true ↔ Linked l) := by
                    rcases HM2.out.1 q4 with ⟨i', r1, r2⟩ | r
                    · have := (LT.out.kid i' r1 _ r2).2
                      rw [PE.out.2] at this
                      omega
                    · exact TW.out r
                  clear NO TW E2 HM2 PM q4
                  go_wp2_with fail
                  go_ret
                  exact ⟨⟨false, rfl, E.out⟩, BW2.out⟩
                | false =>
                  rw [q4] at a7
                  have NM : Hid (¬ (m : Int) ∈ l[i].kids.take j) := fun r => by
                    have := HM2.out.2 (.inr r)
                    rw [q4] at this; cases this
                  clear NO TW HM2 PM q4
                  go_wp2_with fail
                  go_roundw
                  case rel =>
                    refine ⟨j + 1, _, by omega, by go_num, HL2.out.set (y := m) (by omega), (fun x => ?_), (fun c hc => ?_), ?_, BW2.out.setCell (Nat.le_refl _) _⟩
                    · rw [E2.out, List.mem_append, List.mem_singleton]
                      by_cases e : x = m
                      · subst e; rw [if_pos rfl]; exact ⟨fun _ => .inr (.inr rfl), fun _ => rfl⟩
                      · rw [if_neg e, HS2.out x]
                        constructor
                        · rintro (r | r)
                          · exact .inl r
                          · exact .inr (.inl r)
                        · rintro (r | r | r)
                          · exact .inl r
                          · exact .inr r
                          · omega
                    · rw [E2.out] at hc
                      rcases List.mem_append.1 hc with r | r
                      · exact HK2.out c r
                      · rw [List.mem_singleton.1 r]; exact PE.out
                    · show List.Nodup _
                      rw [E2.out, List.nodup_append]
                      exact ⟨HD2.out, by simp, fun a ha b hb e => by rw [List.mem_singleton.1 hb] at e; rw [e] at ha; exact NM.out ha⟩
                  case measure => simp [intOf]; omega
              · have f1 : (l[m].parent != (i : Int)) = true := by rw [bne_iff_ne]; exact q3
                have f2 : (l[m].parent == (i : Int)) = false := by rw [beq_eq_false_iff_ne]; exact q3
                have E := hide (NO.out (fun r => q3 (by rw [← PM.out]; exact r.2)))
                clear NO TW E2 PM q3 HM2
                generalize l[m].parent = pm at *
                go_wp2_with fail
                go_ret
                exact ⟨⟨false, rfl, E.out⟩, BW2.out⟩
        · obtain rfl : j = l[i].kids.length := by omega
          have F1 := HS2.out
          have F2 := HK2.out
          have F3 := HD2.out
          rw [List.take_length, ← KN.out] at F1 F2 F3
          have G1 : Hid (∀ x : Nat, L2 x = true ↔ seenB l (i + 1) (x : Int)) := fun x => by rw [seen_more]; exact F1 x
          have G2 : Hid (LinkTo l (i + 1)) := link_more LT.out F2 F3
          clear F1 F2 F3 hjj
          go_wp2_with fail
          go_roundw
          case rel => exact ⟨i + 1, L2, by omega, by go_num, HL2, G1, G2, BW2⟩
          case measure => simp [intOf]; omega
    · obtain rfl : i = l.length := by omega
      clear h
      go_wp2_with fail
      go_ret
      exact ⟨⟨true, rfl, ⟨fun _ => ⟨LT.out.kid, LT.out.once⟩, fun _ => rfl⟩⟩, BW.out⟩
end Go.Proofs.YtlppocdhfeejkaaGreatDoor

namespace Go.Proofs.YtlppocdhfeejkaaGreatDoor
open Go.RowKit
def rootsTo (l : List Nd) (i : Nat) : List Int := ((List.range i).filter fun i => (nd l i).parent == -1).map fun i : Nat => (i : Int)
theorem rootsTo_succ (l : List Nd) (i : Nat) : rootsTo l (i + 1) = rootsTo l i ++ (if (nd l i).parent = -1 then [(i : Int)] else []) := by
  unfold rootsTo
  rw [List.range_succ, List.filter_append, List.map_append]
  congr 1
  by_cases h : (nd l i).parent = -1
  · rw [if_pos h, List.filter_cons, if_pos (by rw [h]; rfl)]; rfl
  · rw [if_neg h, List.filter_cons, if_neg (by rw [beq_iff_eq]; exact h)]; rfl
theorem rootsTo_sub {l : List Nd} {i : Nat} (h : i ≤ l.length) : ((rootsTo l i).flatMap (downF l l.length)).length ≤ (allL l).length := by
  obtain ⟨k, hk⟩ : ∃ k, l.length = i + k := ⟨l.length - i, by omega⟩
  unfold allL rootsL rootsTo
  rw [show List.range l.length = List.range (i + k) by rw [hk], List.range_add, List.filter_append, List.map_append, List.flatMap_append, List.length_append]
  omega
theorem all_len {l : List Nd} (h : Linked l) : (allL l).length ≤ l.length := nodup_len _ _ (all_nodup h) fun _ hx => all_range h hx
set_option maxHeartbeats 4000000 in
set_option maxRecDepth 100000 in
theorem areReached_any (v : Value) (l : List Nd) (w : World) (hv : NodesV w v l) (h4 : l.length ≤ 400) (hl : Linked l) :
    Calls Tryz.prog 51 #[v] w fun e w' => e = .returned (.bool (decide ((allL l).length = l.length))) ∧ Below w.heap.size w w' := by
  have HV := hide hv
  obtain ⟨p, c, rfl, hv⟩ := hv
  have HP := hide hv
  obtain ⟨iI, hI0, hI1, hI2, hI3⟩ := info_parts infoI
  have MK := hide (fun w => run_make (P := Tryz.prog) w 41 3 iI (.int .i64 0) Tryz.underlying41 hI0 hI1 .i64 .i64 (0 : Int) (l.length : Int) (by omega) (by omega) (by rw [hI3]; omega) (by omega))
  rw [hI2] at MK
  have HLk := hide hl
  have HD := hide (fun (k : Int) (xs : List Int) (lv : Value) (W : World) => down_any w _ l HV.out l.length k xs lv W)
  have mk := fun w => MK.out w
  clear hv hl hI0 hI1 hI2 hI3
  go_enter Tryz.func51, Tryz.ntmps51
  go_wp2_with fail
  generalize hw1 : w.alloc (.cells (madeCells #[Value.int .i64 0] l.length) 3) = w1
  have K1 : Hid (KidsO w.heap.size w1 (.slice (some ⟨w.heap.size, 0, none⟩) 0 l.length) []) := by
    rw [← hw1]
    exact World.ownsRow_made w _ _ (Nat.le_refl _) (by unfold maxLen; omega) (by rw [size_madeCells]; simp)
  have B1 : Hid (Below w.heap.size w w1) := by rw [← hw1]; exact (Below.refl _ w).alloc (Nat.le_refl _) _
  clear hw1 mk MK
  go_loopw [3, 10] (fun sv iv wr => ∃ i : Nat, i ≤ l.length ∧ iv = .int .i64 i ∧ Hid (KidsO w.heap.size wr sv ((rootsTo l i).flatMap (downF l l.length))) ∧ Hid (Below w.heap.size w wr)) (fun _ iv _ => l.length - (intOf iv).toNat)
  case atStart => exact ⟨0, Nat.zero_le _, rfl, K1, B1⟩
  case round =>
    rename World => wr
    obtain ⟨i, hi, rfl, KO, BW⟩ := hrel
    clear K1 B1
    by_cases h : i < l.length
    · have i1 : (i : Int) < (l.length : Int) := by omega
      have i0 : (0 : Int) ≤ (i : Int) := by omega
      obtain ⟨b, o, rfl, hcell⟩ : ∃ b o, p = some ⟨b, o, none⟩ ∧ ∀ i (h : i < l.length), ∃ va vk, NodeAt w b (o + i * 5) l[i] va vk := by
        rcases HP.out with q | q
        · rw [q] at h; simp at h
        · exact q
      obtain ⟨va, vk, N0⟩ := hcell i h
      have a3 := (N0.below BW.out).parent
      have E := rootsTo_succ l i
      rw [nd_at h] at E
      have PI := hide (parI_nat h)
      have ER := hide E
      clear N0 hcell E
      by_cases q : l[i].parent = -1
      · have f1 : (l[i].parent == -1) = true := by rw [q]; rfl
        have f2 : (l[i].parent != -1) = false := by rw [q]; rfl
        have e1 : rootsTo l (i + 1) = rootsTo l i ++ [(i : Int)] := by rw [ER.out, if_pos q]
        have hs : Sub l l.length (i : Int) := root_sub HLk.out (mem_roots.2 ⟨⟨i0, i1⟩, by rw [PI.out, q]⟩)
        have e2 : (rootsTo l (i + 1)).flatMap (downF l l.length) = (rootsTo l i).flatMap (downF l l.length) ++ downF l l.length (i : Int) := by rw [e1, List.flatMap_append, List.flatMap_singleton]
        have L1 := rootsTo_sub (l := l) (i := i + 1) (by omega)
        have L2 := all_len HLk.out
        have HC := hide (HD.out (i : Int) _ _ wr BW.out KO.out hs (by rw [e2, List.length_append] at L1; omega))
        rw [← e2] at HC
        clear q e1 hs e2 L1 L2 ER PI KO HD
        generalize l[i].parent = pm at *
        go_wp2_with fail
        refine HC.out.mono ?_
        rintro e w2 ⟨v2, rfl, k2, b2⟩
        go_wp2_with fail
        go_roundw
        case rel => exact ⟨i + 1, by omega, by go_num, k2, b2⟩
        case measure => simp [intOf]; omega
      · have f1 : (l[i].parent == -1) = false := by rw [beq_eq_false_iff_ne]; exact q
        have f2 : (l[i].parent != -1) = true := by rw [bne_iff_ne]; exact q
        have e1 : rootsTo l (i + 1) = rootsTo l i := by rw [ER.out, if_neg q, List.append_nil]
        have KO' := hide KO.out
        rw [← e1] at KO'
        clear q e1 ER PI KO HD
        generalize l[i].parent = pm at *
        go_wp2_with fail
        go_roundw
        case rel => exact ⟨i + 1, by omega, by go_num, KO', BW⟩
        case measure => simp [intOf]; omega
    · obtain rfl : i = l.length := by omega
      have KF := KO.out
      have e1 : (rootsTo l l.length).flatMap (downF l l.length) = allL l := rfl
      rw [e1] at KF
      obtain ⟨pp, cc, ev, _⟩ := KF.ints
      have E : Hid ((((allL l).length : Int) == (l.length : Int)) = decide ((allL l).length = l.length)) := by
        show _ = _
        by_cases t : (allL l).length = l.length
        · rw [decide_eq_true t, t]; simp
        · rw [decide_eq_false t, beq_eq_false_iff_ne]; omega
      clear KF e1 KO h HD
      subst ev
      go_wp2_with fail
      go_ret
      exact ⟨ret_bool E.out, BW.out⟩
theorem not_right {l : List Nd} (h : ¬ Right l) : rightB l = false := by
  cases q : rightB l with
  | false => rfl
  | true => exact absurd (right_is.1 q) h
set_option maxHeartbeats 4000000 in
set_option maxRecDepth 100000 in
theorem right_any (v : Value) (l : List Nd) (w : World) (hv : NodesV w v l) (hz : DocSz l) :
    Calls Tryz.prog 25 #[v] w fun e w' => e = .returned (.bool (rightB l)) ∧ Below w.heap.size w w' := by
  have HV := hide hv
  obtain ⟨p, c, rfl, hv⟩ := hv
  have HP := hide hv
  have hlen := hz.len
  have HZ := hide hz
  clear hv hz
  by_cases h1 : l.length < 1
  · have E := hide (not_right (l := l) (fun r => by have := r.len; omega))
    have i1 : (l.length : Int) < 1 := by omega
    clear h1
    go_enter Tryz.func25, Tryz.ntmps25
    go_wp2_with fail
    go_ret
    exact ⟨ret_bool E.out.symm, Below.refl _ _⟩
  by_cases h2 : 400 < l.length
  · have E := hide (not_right (l := l) (fun r => by have := r.len; omega))
    have i1 : ¬ (l.length : Int) < 1 := by omega
    have i2 : (400 : Int) < (l.length : Int) := by omega
    clear h1 h2
    go_enter Tryz.func25, Tryz.ntmps25
    go_wp2_with fail
    go_ret
    exact ⟨ret_bool E.out.symm, Below.refl _ _⟩
  have i1 : ¬ (l.length : Int) < 1 := by omega
  have i2 : ¬ (400 : Int) < (l.length : Int) := by omega
  have i3 : decide ((400 : Int) < (l.length : Int)) = false := decide_eq_false i2
  have n4 : l.length ≤ 400 := by omega
  have p0 : 0 < l.length := by omega
  have i4 : (0 : Int) < (l.length : Int) := by omega
  obtain ⟨b, o, rfl, hcell⟩ : ∃ b o, p = some ⟨b, o, none⟩ ∧ ∀ i (h : i < l.length), ∃ va vk, NodeAt w b (o + i * 5) l[i] va vk := by
    rcases HP.out with q | q
    · rw [q] at p0; simp at p0
    · exact q
  have HC := hide hcell
  obtain ⟨va, vk, N0⟩ := hcell 0 p0
  rw [Nat.zero_mul, Nat.add_zero] at N0
  have a0 := N0.name
  have a1 := N0.text
  have a2 := N0.attrs
  have a3 := N0.parent
  have a4 := N0.kids
  have NW : Hid (∀ W, Below w.heap.size w W → NodeAt W b o l[0] va vk) := fun W hb => N0.below hb
  have HT := hide (fun W => isText_any l[0].name l[0].text va l[0].parent vk W)
  have e0 : nd l 0 = l[0] := nd_at p0
  clear hcell N0 HP h1 h2
  cases q1 : noName l[0].name with
  | true =>
    have E := hide (not_right (l := l) (fun r => r.head (by rw [e0]; unfold noName at q1; exact beq_iff_eq.1 q1)))
    rw [q1] at HT
    clear q1 e0
    go_enter Tryz.func25, Tryz.ntmps25
    go_wp2_with fail
    refine (HT.out _).mono ?_
    rintro e w1 ⟨rfl, b1⟩
    go_wp2_with fail
    go_ret
    exact ⟨ret_bool E.out.symm, b1⟩
  | false =>
    rw [q1] at HT
    have NH : Hid (¬ (nd l 0).name.size = 0) := by rw [e0]; intro t; unfold noName at q1; rw [t] at q1; cases q1
    clear q1
    by_cases q2 : l[0].parent = -1
    rotate_left
    · have E := hide (not_right (l := l) (fun r => q2 (by rw [← e0]; exact r.root)))
      have f1 : (l[0].parent != -1) = true := by rw [bne_iff_ne]; exact q2
      have f2 : (l[0].parent == -1) = false := by rw [beq_eq_false_iff_ne]; exact q2
      clear q2 e0
      go_enter Tryz.func25, Tryz.ntmps25
      go_wp2_with fail
      refine (HT.out _).mono ?_
      rintro e w1 ⟨rfl, b1⟩
      have d3 := (NW.out w1 b1).parent
      go_wp2_with fail
      go_ret
      exact ⟨ret_bool E.out.symm, b1⟩
    have f1 : (l[0].parent != -1) = false := by rw [q2]; rfl
    have f2 : (l[0].parent == -1) = true := by rw [q2]; rfl
    have RT : Hid ((nd l 0).parent = -1) := by rw [e0]; exact q2
    clear e0 q2
    go_enter Tryz.func25, Tryz.ntmps25
    go_wp2_with fail
    refine (HT.out _).mono ?_
    rintro e w1 ⟨rfl, b1⟩
    have d3 := (NW.out w1 b1).parent
    go_wp2_with fail
    have B1 := hide b1
    clear b1 d3 a0 a1 a2 a3 a4 NW HT f1 f2
    go_loopw [27] (fun iv wr => ∃ i : Nat, i ≤ l.length ∧ iv = .int .i64 i ∧ Hid (∀ j, j < i → aloneB (nd l j) = true) ∧ Hid (Below w.heap.size w wr)) (fun iv _ => l.length - (intOf iv).toNat)
    case atStart => exact ⟨0, Nat.zero_le _, rfl, fun j q => by omega, B1⟩
    case round =>
      rename World => wr
      obtain ⟨i, hi, rfl, AL, BW⟩ := hrel
      clear B1
      by_cases h : i < l.length
      · have j1 : (i : Int) < (l.length : Int) := by omega
        have j0 : (0 : Int) ≤ (i : Int) := by omega
        obtain ⟨va, vk, N0⟩ := HC.out i h
        have HF := hide (isFormed_any b (o + i * 5) l[i] va vk wr (N0.below BW.out) (HZ.out.nds l[i] (List.getElem_mem _)))
        have e0 : nd l i = l[i] := nd_at h
        clear N0
        cases q : aloneB l[i] with
        | false =>
          have E := hide (not_right (l := l) (fun r => by have := r.alone i h; rw [e0, q] at this; cases this))
          rw [q] at HF
          clear q e0
          go_wp2_with fail
          refine HF.out.mono ?_
          rintro e w2 ⟨rfl, b2⟩
          go_wp2_with fail
          go_ret
          exact ⟨ret_bool E.out.symm, chain BW.out b2⟩
        | true =>
          have E : Hid (∀ j, j < i + 1 → aloneB (nd l j) = true) := fun j hj => by
            rcases Nat.lt_or_ge j i with t | t
            · exact AL.out j t
            · obtain rfl : j = i := by omega
              rw [e0]; exact q
          rw [q] at HF
          clear q e0 AL
          go_wp2_with fail
          refine HF.out.mono ?_
          rintro e w2 ⟨rfl, b2⟩
          go_wp2_with fail
          go_roundw
          case rel => exact ⟨i + 1, by omega, by go_num, E, chain BW.out b2⟩
          case measure => simp [intOf]; omega
      · obtain rfl : i = l.length := by omega
        have HL := hide (areLinked_any _ l wr (HV.out.below BW.out) HZ.out n4)
        have HR := hide (fun (hl : Linked l) W (hb : Below w.heap.size w W) => areReached_any _ l W (HV.out.below hb) n4 hl)
        clear h
        go_wp2_with fail
        refine HL.out.mono ?_
        rintro e w2 ⟨⟨r, rfl, hr⟩, b2⟩
        have HR2 := hide hr
        clear hr
        cases r with
        | false =>
          have E := hide (not_right (l := l) (fun r => by have := HR2.out.2 (right_linked r); cases this))
          clear HL HR HR2
          go_wp2_with fail
          go_ret
          exact ⟨ret_bool E.out.symm, chain BW.out b2⟩
        | true =>
          have LK := HR2.out.1 rfl
          have HR' := hide (HR.out LK w2 (chain BW.out b2))
          by_cases t : (allL l).length = l.length
          · have E := hide (right_is.2 (right_of (l := l) ⟨p0, n4⟩ NH.out RT.out (fun i hi => AL.out i hi) LK t))
            rw [decide_eq_true t] at HR'
            clear HL HR HR2 t LK
            go_wp2_with fail
            refine HR'.out.mono ?_
            rintro e w3 ⟨rfl, b3⟩
            go_wp2_with fail
            go_ret
            exact ⟨ret_bool E.out.symm, chain (chain BW.out b2) b3⟩
          · have E := hide (not_right (l := l) (fun r => t (right_reached r)))
            rw [decide_eq_false t] at HR'
            clear HL HR HR2 t LK
            go_wp2_with fail
            refine HR'.out.mono ?_
            rintro e w3 ⟨rfl, b3⟩
            go_wp2_with fail
            go_ret
            exact ⟨ret_bool E.out.symm, chain (chain BW.out b2) b3⟩
end Go.Proofs.YtlppocdhfeejkaaGreatDoor

namespace Go.Proofs.YtlppocdhfeejkaaGreatDoor
open Go.RowKit
set_option maxHeartbeats 1000000 in
theorem isThere_any (v : Value) (l : List Nd) (id : Int) (w : World) (hv : NodesV w v l) (hz : DocSz l) :
    Calls Tryz.prog 157 #[v, .int .i64 id] w fun e w' => e = .returned (.bool (hasN l id)) ∧ Below w.heap.size w w' := by
  have HR := hide (right_any v l w hv hz)
  obtain ⟨p, c, rfl, hv⟩ := hv
  have hlen := hz.len
  clear hv hz
  unfold hasN
  by_cases h1 : 0 ≤ id
  · by_cases h2 : id < (l.length : Int)
    · rw [decide_eq_true ⟨h1, h2⟩, Bool.true_and]
      generalize rightB l = r at *
      go_enter Tryz.func157, Tryz.ntmps157
      go_wp2_with fail
      refine HR.out.mono ?_
      rintro e w1 ⟨rfl, b1⟩
      go_wp2_with fail
      go_ret
      exact ⟨rfl, b1⟩
    · rw [decide_eq_false (fun q => h2 q.2), Bool.false_and]
      have d : decide (id < (l.length : Int)) = false := decide_eq_false h2
      go_enter Tryz.func157, Tryz.ntmps157
      go_wp2_with fail
      go_ret
      exact ⟨rfl, Below.refl _ _⟩
  · rw [decide_eq_false (fun q => h1 q.1), Bool.false_and]
    go_enter Tryz.func157, Tryz.ntmps157
    go_wp2_with fail
    go_ret
    exact ⟨rfl, Below.refl _ _⟩
theorem has_is {l : List Nd} {id : Int} (h : hasN l id = true) : Right l ∧ inR l id := by
  unfold hasN at h
  rw [Bool.and_eq_true, decide_eq_true_eq] at h
  exact ⟨right_is.1 h.2, h.1⟩

end Go.Proofs.YtlppocdhfeejkaaGreatDoor
