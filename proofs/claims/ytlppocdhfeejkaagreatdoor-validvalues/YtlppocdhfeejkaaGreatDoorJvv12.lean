/- A name that is none. The way down in a document. -/
import Derived.Test.YtlppocdhfeejkaaGreatDoorJvv5

namespace Go.Proofs.YtlppocdhfeejkaaGreatDoor
open Go.RowKit
def noName (n : ByteArray) : Bool := n.size == 0
end Go.Proofs.YtlppocdhfeejkaaGreatDoor

namespace Go.Proofs.YtlppocdhfeejkaaGreatDoor
open Go.RowKit
def inR (l : List Nd) (k : Int) : Prop := 0 ≤ k ∧ k < (l.length : Int)
def kidsI (l : List Nd) (k : Int) : List Int := (nd l k.toNat).kids
/-- A node and what is within it. -/
def downF (l : List Nd) : Nat → Int → List Int
  | 0, _ => []
  | n + 1, k => k :: (kidsI l k).flatMap (downF l n)
/-- So much fuel is enough. -/
def Sub (l : List Nd) : Nat → Int → Prop
  | 0, _ => False
  | n + 1, k => inR l k ∧ ∀ c ∈ kidsI l k, Sub l n c
/-- So many steps below a node without a parent. -/
def Dep (l : List Nd) : Nat → Int → Prop
  | 0, k => inR l k ∧ parI l k = -1
  | n + 1, k => inR l k ∧ Dep l n (parI l k)
theorem Dep.rng {l : List Nd} : ∀ {d : Nat} {k : Int}, Dep l d k → inR l k
  | 0, _, h => h.1
  | _ + 1, _, h => h.1
theorem Dep.one {l : List Nd} : ∀ {d e : Nat} {k : Int}, Dep l d k → Dep l e k → d = e
  | 0, 0, _, _, _ => rfl
  | 0, e + 1, k, h, g => by have := g.2.rng; rw [h.2] at this; exact absurd this.1 (by omega)
  | d + 1, 0, k, h, g => by have := h.2.rng; rw [g.2] at this; exact absurd this.1 (by omega)
  | d + 1, e + 1, k, h, g => by rw [Dep.one h.2 g.2]
/-- The nodes on the way up. -/
def upL (l : List Nd) : Nat → Int → List Int
  | 0, k => [k]
  | n + 1, k => k :: upL l n (parI l k)
theorem upL_len (l : List Nd) : ∀ (d : Nat) (k : Int), (upL l d k).length = d + 1
  | 0, _ => rfl
  | d + 1, k => by show (upL l d (parI l k)).length + 1 = _; rw [upL_len l d]
theorem upL_dep {l : List Nd} : ∀ {d : Nat} {k x : Int}, Dep l d k → x ∈ upL l d k → ∃ e, e ≤ d ∧ Dep l e x
  | 0, k, x, h, hx => by
    have : x = k := by simpa [upL] using hx
    rw [this]; exact ⟨0, Nat.le_refl _, h⟩
  | d + 1, k, x, h, hx => by
    rcases List.mem_cons.1 hx with q | q
    · rw [q]; exact ⟨d + 1, Nat.le_refl _, h⟩
    · obtain ⟨e, h1, h2⟩ := upL_dep h.2 q
      exact ⟨e, by omega, h2⟩
theorem upL_nodup {l : List Nd} : ∀ {d : Nat} {k : Int}, Dep l d k → (upL l d k).Nodup
  | 0, k, _ => by simp [upL]
  | d + 1, k, h => by
    refine List.nodup_cons.2 ⟨fun q => ?_, upL_nodup h.2⟩
    obtain ⟨e, h1, h2⟩ := upL_dep h.2 q
    have := Dep.one h2 h
    omega
theorem Dep.lt {l : List Nd} {d : Nat} {k : Int} (h : Dep l d k) : d < l.length := by
  have := nodup_len l.length (upL l d k) (upL_nodup h) (fun x hx => by
    obtain ⟨e, _, h2⟩ := upL_dep h hx
    exact h2.rng)
  rw [upL_len] at this
  omega
/-- Each child is there, tells its parent, and stands once. -/
structure Linked (l : List Nd) : Prop where
  kid : ∀ i, i < l.length → ∀ c ∈ (nd l i).kids, inR l c ∧ parI l c = (i : Int)
  once : ∀ i, i < l.length → (nd l i).kids.Nodup
theorem Linked.kidI {l : List Nd} (h : Linked l) {k c : Int} (hk : inR l k) (hc : c ∈ kidsI l k) : inR l c ∧ parI l c = k := by
  have := h.kid k.toNat (by have := hk.1; have := hk.2; omega) c hc
  rw [Int.toNat_of_nonneg hk.1] at this
  exact this
theorem Linked.onceI {l : List Nd} (h : Linked l) {k : Int} (hk : inR l k) : (kidsI l k).Nodup := h.once k.toNat (by have := hk.1; have := hk.2; omega)
theorem dep_sub {l : List Nd} (h : Linked l) : ∀ (f : Nat) {d : Nat} {k : Int}, Dep l d k → l.length ≤ d + f → Sub l f k
  | 0, d, k, hd, hf => by have := hd.lt; omega
  | f + 1, d, k, hd, hf => ⟨hd.rng, fun c hc => by
    have q := h.kidI hd.rng hc
    exact dep_sub h f (d := d + 1) (show inR l c ∧ Dep l d (parI l c) from ⟨q.1, by rw [q.2]; exact hd⟩) (by omega)⟩
theorem Sub.rng {l : List Nd} : ∀ {f : Nat} {k : Int}, Sub l f k → inR l k
  | 0, _, h => h.elim
  | _ + 1, _, h => h.1
theorem Sub.mono {l : List Nd} : ∀ {f : Nat} {k : Int}, Sub l f k → Sub l (f + 1) k
  | 0, _, h => h.elim
  | _ + 1, _, h => ⟨h.1, fun c hc => (h.2 c hc).mono⟩
theorem flat_congr {α β : Type} {g g' : α → List β} : ∀ {L : List α}, (∀ x ∈ L, g x = g' x) → L.flatMap g = L.flatMap g'
  | [], _ => rfl
  | a :: L, h => by rw [List.flatMap_cons, List.flatMap_cons, h a (List.mem_cons_self ..), flat_congr fun x hx => h x (List.mem_cons_of_mem _ hx)]
theorem down_range {l : List Nd} : ∀ {f : Nat} {k x : Int}, Sub l f k → x ∈ downF l f k → inR l x
  | 0, _, _, h, _ => h.elim
  | f + 1, k, x, h, hx => by
    rcases List.mem_cons.1 hx with q | q
    · rw [q]; exact h.1
    · obtain ⟨c, h1, h2⟩ := List.mem_flatMap.1 q
      exact down_range (h.2 c h1) h2
theorem down_self {l : List Nd} {f : Nat} {k : Int} (h : Sub l f k) : k ∈ downF l f k := by
  cases f with
  | zero => exact h.elim
  | succ f => exact List.mem_cons_self ..
/-- Who is gone to is the first, or a child of one that is gone to. -/
theorem down_from {l : List Nd} : ∀ {f : Nat} {k x : Int}, Sub l f k → x ∈ downF l f k → x = k ∨ ∃ p, inR l p ∧ x ∈ kidsI l p
  | 0, _, _, h, _ => h.elim
  | f + 1, k, x, h, hx => by
    rcases List.mem_cons.1 hx with q | q
    · exact .inl q
    · obtain ⟨c, h1, h2⟩ := List.mem_flatMap.1 q
      rcases down_from (h.2 c h1) h2 with r | r
      · rw [r]; exact .inr ⟨k, h.1, h1⟩
      · exact .inr r
theorem down_kids {l : List Nd} : ∀ {f : Nat} {k p c : Int}, Sub l f k → p ∈ downF l f k → c ∈ kidsI l p → c ∈ downF l f k
  | 0, _, _, _, h, _, _ => h.elim
  | f + 1, k, p, c, h, hp, hc => by
    rcases List.mem_cons.1 hp with q | q
    · rw [q] at hc
      exact List.mem_cons_of_mem _ (List.mem_flatMap.2 ⟨c, hc, down_self (h.2 c hc)⟩)
    · obtain ⟨d, h1, h2⟩ := List.mem_flatMap.1 q
      exact List.mem_cons_of_mem _ (List.mem_flatMap.2 ⟨d, h1, down_kids (h.2 d h1) h2 hc⟩)
/-- So many steps up. -/
def upN (l : List Nd) : Nat → Int → Int
  | 0, k => k
  | n + 1, k => upN l n (parI l k)
theorem upN_succ (l : List Nd) : ∀ (n : Nat) (k : Int), upN l (n + 1) k = parI l (upN l n k)
  | 0, _ => rfl
  | n + 1, k => by show upN l (n + 1) (parI l k) = _; rw [upN_succ l n]; rfl
theorem down_dep {l : List Nd} (h : Linked l) : ∀ {f d : Nat} {k x : Int}, Dep l d k → x ∈ downF l f k → ∃ e, Dep l (d + e) x ∧ upN l e x = k
  | 0, _, _, _, _, hx => by cases hx
  | f + 1, d, k, x, hd, hx => by
    rcases List.mem_cons.1 hx with q | q
    · rw [q]; exact ⟨0, hd, rfl⟩
    · obtain ⟨c, h1, h2⟩ := List.mem_flatMap.1 q
      have r := h.kidI hd.rng h1
      obtain ⟨e, g1, g2⟩ := down_dep h (d := d + 1) (show inR l c ∧ Dep l d (parI l c) from ⟨r.1, by rw [r.2]; exact hd⟩) h2
      refine ⟨e + 1, by rw [show d + (e + 1) = d + 1 + e by omega]; exact g1, ?_⟩
      rw [upN_succ, g2, r.2]
theorem nodup_flat {α β : Type} {g : α → List β} : ∀ {L : List α}, L.Nodup → (∀ x ∈ L, (g x).Nodup) → (∀ x ∈ L, ∀ y ∈ L, ∀ z, z ∈ g x → z ∈ g y → x = y) → (L.flatMap g).Nodup
  | [], _, _, _ => by simp
  | a :: L, hn, h1, h2 => by
    have hn := List.nodup_cons.1 hn
    rw [List.flatMap_cons, List.nodup_append]
    refine ⟨h1 a (List.mem_cons_self ..), nodup_flat hn.2 (fun x hx => h1 x (List.mem_cons_of_mem _ hx)) (fun x hx y hy => h2 x (List.mem_cons_of_mem _ hx) y (List.mem_cons_of_mem _ hy)), fun x hx y hy e => ?_⟩
    obtain ⟨b, h3, h4⟩ := List.mem_flatMap.1 hy
    rw [← e] at h4
    have := h2 a (List.mem_cons_self ..) b (List.mem_cons_of_mem _ h3) x hx h4
    rw [this] at hn
    exact hn.1 h3
theorem down_nodup {l : List Nd} (h : Linked l) : ∀ {f d : Nat} {k : Int}, Dep l d k → (downF l f k).Nodup
  | 0, _, _, _ => by simp [downF]
  | f + 1, d, k, hd => by
    have D : ∀ c ∈ kidsI l k, Dep l (d + 1) c := fun c hc => by
      have r := h.kidI hd.rng hc
      exact show inR l c ∧ Dep l d (parI l c) from ⟨r.1, by rw [r.2]; exact hd⟩
    refine List.nodup_cons.2 ⟨fun q => ?_, nodup_flat (h.onceI hd.rng) (fun c hc => down_nodup h (D c hc)) (fun x hx y hy z h1 h2 => ?_)⟩
    · obtain ⟨c, h1, h2⟩ := List.mem_flatMap.1 q
      obtain ⟨e, g1, _⟩ := down_dep h (D c h1) h2
      have := Dep.one g1 hd
      omega
    · obtain ⟨e1, g1, g2⟩ := down_dep h (D x hx) h1
      obtain ⟨e2, g3, g4⟩ := down_dep h (D y hy) h2
      have := Dep.one g1 g3
      obtain rfl : e1 = e2 := by omega
      rw [← g2, ← g4]
/-- The nodes without a parent, in order of their numbers; all that they lead to. -/
def rootsL (l : List Nd) : List Int := ((List.range l.length).filter fun i => (nd l i).parent == -1).map fun i : Nat => (i : Int)
theorem mem_roots {l : List Nd} {r : Int} : r ∈ rootsL l ↔ inR l r ∧ parI l r = -1 := by
  unfold rootsL
  rw [List.mem_map]
  constructor
  · rintro ⟨i, hi, rfl⟩
    rw [List.mem_filter, List.mem_range, beq_iff_eq] at hi
    exact ⟨⟨by omega, by omega⟩, by unfold parI; rw [Int.toNat_natCast]; exact hi.2⟩
  · rintro ⟨⟨h1, h2⟩, h3⟩
    refine ⟨r.toNat, ?_, Int.toNat_of_nonneg h1⟩
    rw [List.mem_filter, List.mem_range, beq_iff_eq]
    exact ⟨by omega, h3⟩
theorem nodup_cast {L : List Nat} (h : L.Nodup) : (L.map fun i : Nat => (i : Int)).Nodup := List.pairwise_map.2 (h.imp fun {a b} hab e => hab (by omega))
theorem count_one {L : List Int} {x : Int} (h : L.Nodup) (hx : x ∈ L) : List.count x L = 1 := by
  have h1 := List.nodup_iff_count.1 h x
  have h2 := List.count_pos_iff.2 hx
  omega
theorem roots_nodup (l : List Nd) : (rootsL l).Nodup := by
  unfold rootsL
  refine nodup_cast ?_
  exact List.nodup_range.filter _
def allL (l : List Nd) : List Int := (rootsL l).flatMap (downF l l.length)
theorem root_dep {l : List Nd} {r : Int} (h : r ∈ rootsL l) : Dep l 0 r := mem_roots.1 h
theorem root_sub {l : List Nd} (h : Linked l) {r : Int} (hr : r ∈ rootsL l) : Sub l l.length r := dep_sub h _ (root_dep hr) (by omega)
theorem all_nodup {l : List Nd} (h : Linked l) : (allL l).Nodup := by
  refine nodup_flat (roots_nodup l) (fun r hr => down_nodup h (root_dep hr)) (fun x hx y hy z h1 h2 => ?_)
  obtain ⟨e1, g1, g2⟩ := down_dep h (root_dep hx) h1
  obtain ⟨e2, g3, g4⟩ := down_dep h (root_dep hy) h2
  have := Dep.one g1 g3
  obtain rfl : e1 = e2 := by omega
  rw [← g2, ← g4]
theorem all_range {l : List Nd} (h : Linked l) {x : Int} (hx : x ∈ allL l) : inR l x := by
  obtain ⟨r, h1, h2⟩ := List.mem_flatMap.1 hx
  exact down_range (root_sub h h1) h2
theorem all_full {l : List Nd} (h : Linked l) (hl : (allL l).length = l.length) {x : Int} (hx : inR l x) : x ∈ allL l := by
  by_cases q : x ∈ allL l
  · exact q
  · have := nodup_len l.length (x :: allL l) (List.nodup_cons.2 ⟨q, all_nodup h⟩) (fun y hy => by
      rcases List.mem_cons.1 hy with r | r
      · rw [r]; exact hx
      · exact all_range h r)
    rw [List.length_cons, hl] at this
    omega
theorem dep_climb {l : List Nd} : ∀ {d : Nat} {k : Int}, Dep l d k → climb l (d + 1) k < 0
  | 0, k, h => by
    show (if k < 0 then k else parI l k) < 0
    rw [if_neg (by have := h.1.1; omega), h.2]; omega
  | d + 1, k, h => by
    show (if k < 0 then k else climb l (d + 1) (parI l k)) < 0
    rw [if_neg (by have := h.1.1; omega)]
    exact dep_climb h.2
/-- What the program asks is what the document asks. -/
theorem right_of {l : List Nd} (h1 : 1 ≤ l.length ∧ l.length ≤ 400) (h2 : ¬ (nd l 0).name.size = 0) (h3 : (nd l 0).parent = -1) (h4 : ∀ i, i < l.length → aloneB (nd l i) = true) (h5 : Linked l) (h6 : (allL l).length = l.length) : Right l := by
  have A : ∀ i : Nat, i < l.length → ∃ d, Dep l d (i : Int) ∧ (parI l (i : Int) = -1 ∨ ∃ p, inR l p ∧ (i : Int) ∈ kidsI l p) := by
    intro i hi
    have := all_full h5 h6 (x := (i : Int)) ⟨by omega, by omega⟩
    obtain ⟨r, g1, g2⟩ := List.mem_flatMap.1 this
    obtain ⟨e, g3, _⟩ := down_dep h5 (root_dep g1) g2
    refine ⟨_, g3, ?_⟩
    rcases down_from (root_sub h5 g1) g2 with q | q
    · rw [q]; exact .inl (root_dep g1).2
    · exact .inr q
  have PI : ∀ i : Nat, parI l (i : Int) = (nd l i).parent := fun i => by unfold parI; rw [Int.toNat_natCast]
  have hp : ∀ i, i < l.length → -1 ≤ (nd l i).parent ∧ (nd l i).parent < l.length := by
    intro i hi
    obtain ⟨d, g1, g2⟩ := A i hi
    rw [← PI i]
    rcases g2 with q | ⟨p, q1, q2⟩
    · rw [q]; omega
    · rw [(h5.kidI q1 q2).2]
      have := q1.1; have := q1.2; omega
  refine ⟨h1, h2, h3, h4, hp, fun i hi q => ?_, fun i hi c hc => ?_, fun i hi => ?_⟩
  · obtain ⟨d, g1, g2⟩ := A i hi
    rcases g2 with r | ⟨p, q1, q2⟩
    · rw [PI i] at r; omega
    · have e := (h5.kidI q1 q2).2
      rw [PI i] at e
      rw [e]
      exact count_one (h5.onceI q1) q2
  · have := h5.kid i hi c hc
    exact ⟨this.1.1, this.1.2, this.2⟩
  · obtain ⟨d, g1, g2⟩ := A i hi
    exact ends_of (fun i hi => (hp i hi).2) (by omega) (dep_climb g1)
theorem right_linked {l : List Nd} (h : Right l) : Linked l := ⟨fun i hi c hc => by have := h.kid i hi c hc; exact ⟨⟨this.1, this.2.1⟩, this.2.2⟩, fun i hi => kids_nodup h hi⟩
theorem right_all {l : List Nd} (h : Right l) : ∀ (d : Nat) {k : Int}, inR l k → hgt l k ≤ d → k ∈ allL l
  | 0, k, hk, hd => by
    have := hgt_up (h.ende hk.2) (by have := hk.1; omega); omega
  | d + 1, k, hk, hd => by
    have n0 : ¬ k < 0 := by have := hk.1; omega
    have e := hgt_up (h.ende hk.2) n0
    have u := h.up n0 hk.2
    by_cases q : parI l k < 0
    · have r : k ∈ rootsL l := mem_roots.2 ⟨hk, by omega⟩
      exact List.mem_flatMap.2 ⟨k, r, down_self (root_sub (right_linked h) r)⟩
    · have ih := right_all h d (k := parI l k) ⟨by omega, u.2⟩ (by omega)
      obtain ⟨r, g1, g2⟩ := List.mem_flatMap.1 ih
      refine List.mem_flatMap.2 ⟨r, g1, down_kids (root_sub (right_linked h) g1) g2 ?_⟩
      have hk0 : k.toNat < l.length := by have := hk.2; omega
      have c := h.cnt k.toNat hk0 q
      rw [Int.toNat_of_nonneg hk.1] at c
      exact List.count_pos_iff.1 (by have c : List.count k (kidsI l (parI l k)) = 1 := c; omega)
theorem nodup_sub : ∀ {A B : List Int}, A.Nodup → (∀ x ∈ A, x ∈ B) → A.length ≤ B.length
  | [], _, _, _ => Nat.zero_le _
  | a :: A, B, hn, h => by
    have hn := List.nodup_cons.1 hn
    have ha := h a (List.mem_cons_self ..)
    have := nodup_sub (A := A) (B := B.erase a) hn.2 (fun x hx => by
      have := h x (List.mem_cons_of_mem _ hx)
      exact (List.mem_erase_of_ne (fun e => hn.1 (by rw [← e]; exact hx))).2 this)
    rw [List.length_erase_of_mem ha] at this
    have := List.length_pos_of_mem ha
    rw [List.length_cons]
    omega
theorem right_reached {l : List Nd} (h : Right l) : (allL l).length = l.length := by
  have h1 := nodup_len l.length (allL l) (all_nodup (right_linked h)) (fun x hx => all_range (right_linked h) hx)
  have h2 := nodup_sub (A := (List.range l.length).map fun i : Nat => (i : Int)) (B := allL l) (nodup_cast List.nodup_range) (fun x hx => by
    obtain ⟨i, g1, rfl⟩ := List.mem_map.1 hx
    have := List.mem_range.1 g1
    exact right_all h _ ⟨by omega, by omega⟩ (Nat.le_refl _))
  rw [List.length_map, List.length_range] at h2
  omega
/-- A node of a right document is so many steps below one without a parent. -/
theorem right_dep {l : List Nd} (h : Right l) {k : Int} (hk : inR l k) : ∃ d, Dep l d k := by
  obtain ⟨r, g1, g2⟩ := List.mem_flatMap.1 (right_all h _ hk (Nat.le_refl _))
  obtain ⟨e, g3, _⟩ := down_dep (right_linked h) (root_dep g1) g2
  exact ⟨_, g3⟩
theorem right_sub {l : List Nd} (h : Right l) {k : Int} (hk : inR l k) : Sub l l.length k := by
  obtain ⟨d, g⟩ := right_dep h hk
  exact dep_sub (right_linked h) _ g (by omega)
/-- The way by a list of those that are to be gone to is the same. -/
theorem order_row {l : List Nd} : ∀ (f : Nat) (ks : List Int) (N : Nat) (st : List Int), (∀ c ∈ ks, Sub l f c) → (ks.flatMap (downF l f)).length ≤ N → orderF l N (ks ++ st) = ks.flatMap (downF l f) ++ orderF l (N - (ks.flatMap (downF l f)).length) st := by
  intro f
  induction f with
  | zero =>
    intro ks N st h _
    cases ks with
    | nil => simp
    | cons c ks => exact (h c (List.mem_cons_self ..)).elim
  | succ f ihf =>
    intro ks
    induction ks with
    | nil => intro N st _ _; simp
    | cons c ks ihk =>
      intro N st h hN
      have hc := h c (List.mem_cons_self ..)
      have hf : (c :: ks).flatMap (downF l (f + 1)) = c :: ((kidsI l c).flatMap (downF l f) ++ ks.flatMap (downF l (f + 1))) := by
        rw [List.flatMap_cons]; rfl
      rw [hf] at hN ⊢
      rw [List.length_cons, List.length_append] at hN
      obtain ⟨M, rfl⟩ : ∃ M, N = M + 1 := ⟨N - 1, by omega⟩
      have e1 : orderF l (M + 1) (c :: ks ++ st) = c :: orderF l M (kidsI l c ++ (ks ++ st)) := rfl
      rw [e1, ihf (kidsI l c) M (ks ++ st) hc.2 (by omega), ihk _ st (fun x hx => h x (List.mem_cons_of_mem _ hx)) (by omega)]
      rw [List.cons_append, List.append_assoc, List.length_cons, List.length_append]
      congr 3
      congr 1
      omega
theorem order_down {l : List Nd} (h : Right l) {k : Int} (hk : inR l k) : orderP l k = downF l l.length k := by
  obtain ⟨d, g⟩ := right_dep h hk
  have hs := right_sub h hk
  have hn := nodup_len l.length (downF l l.length k) (down_nodup (right_linked h) g) (fun x hx => down_range hs hx)
  have := order_row (l := l) l.length [k] (l.length + 1) [] (fun c hc => by rw [List.mem_singleton.1 hc]; exact hs) (by simpa using (by omega : (downF l l.length k).length ≤ l.length + 1))
  rw [List.append_nil, List.flatMap_singleton] at this
  unfold orderP
  rw [this]
  have e : orderF l (l.length + 1 - (downF l l.length k).length) [] = [] := by
    cases l.length + 1 - (downF l l.length k).length <;> rfl
  rw [e, List.append_nil]

end Go.Proofs.YtlppocdhfeejkaaGreatDoor
