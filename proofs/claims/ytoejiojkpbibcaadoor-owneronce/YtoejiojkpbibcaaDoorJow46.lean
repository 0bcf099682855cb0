/- A node and what is within it, in order. Each control that is listed and has a form is an element of just that one. Stage 16's law OwnerOnce, walked. -/
import Derived.Test.YtoejiojkpbibcaaDoorJow22
import Derived.Test.YtoejiojkpbibcaaDoorJow29
import Derived.Test.YtoejiojkpbibcaaDoorJow30
import Derived.Test.YtoejiojkpbibcaaDoorJow34

namespace Go.Proofs.YtoejiojkpbibcaaDoor
open Go.RowKit
/-- The one node without a parent on the way up. -/
theorem root_one {l : List Nd} (h : Right l) : ∀ (d : Nat) {k a b : Int}, k < l.length → hgt l k ≤ d → a ∈ anc l k → b ∈ anc l k → parI l a < 0 → parI l b < 0 → a = b
  | 0, k, a, b, hk, hd, ha, _, _, _ => by
    by_cases e : k < 0
    · rw [anc_neg e] at ha; cases ha
    · have := hgt_up (h.ende hk) e; omega
  | d + 1, k, a, b, hk, hd, ha, hb, pa, pb => by
    by_cases e : k < 0
    · rw [anc_neg e] at ha; cases ha
    · have hu := hgt_up (h.ende hk) e
      rw [anc_up (h.ende hk) e] at ha hb
      rcases List.mem_cons.1 ha with q | q
      · rcases List.mem_cons.1 hb with r | r
        · rw [q, r]
        · rw [q] at pa; rw [anc_neg pa] at r; cases r
      · rcases List.mem_cons.1 hb with r | r
        · rw [r] at pb; rw [anc_neg pb] at q; cases q
        · exact root_one h d (h.up e hk).2 (by omega) q r pa pb
end Go.Proofs.YtoejiojkpbibcaaDoor

namespace Go.Proofs.YtoejiojkpbibcaaDoor
open Go.RowKit
theorem top_same {l : List Nd} (h : Right l) {k f : Int} (h0 : 0 ≤ k) (hk : k < (l.length : Int)) (f0 : 0 ≤ f) (hf : f < (l.length : Int)) : topP l f ∈ anc l k ↔ topP l k = topP l f := by
  have a := top_root h _ h0 hk (Nat.le_refl _)
  have b := top_root h _ f0 hf (Nat.le_refl _)
  constructor
  · intro q
    exact root_one h _ hk (Nat.le_refl _) a.1 q a.2 b.2
  · intro q
    rw [← q]; exact a.1
theorem kOf_form {o : Option ByteArray} : kOf oForm o = 30 := rfl
theorem isK_form {l : List Nd} (h : Right l) {f : Int} (f0 : 0 ≤ f) (hf : f < (l.length : Int)) (hn : nmI l f = oForm) : isK l f 30 = true := by
  unfold isK hasN kN
  rw [decide_eq_true (⟨f0, hf⟩ : 0 ≤ f ∧ f < (l.length : Int)), right_is.2 h, Bool.true_and, Bool.true_and]
  have e : (nd l f.toNat).name = oForm := hn
  rw [e]
  exact decide_eq_true kOf_form
/-- What is a control's form is a form. -/
theorem form_in {l : List Nd} (h : Right l) {k : Int} (hf : 0 ≤ formP l k) : formP l k < (l.length : Int) ∧ isK l (formP l k) 30 = true := by
  unfold formP at hf ⊢
  by_cases q : hasN l k = true ∧ belongs l k = true
  · rw [if_pos q] at hf ⊢
    have hk : 0 ≤ k ∧ k < (l.length : Int) := by
      have := q.1
      unfold hasN at this
      rw [Bool.and_eq_true, decide_eq_true_eq] at this
      exact this.1
    unfold formC at hf ⊢
    by_cases g : hasA (nd l k.toNat) oForm = true ∧ topP l k = 0
    · rw [if_pos g] at hf ⊢
      unfold saidF at hf ⊢
      by_cases t : 0 ≤ namedP l (fndS (nd l k.toNat).attrs oForm) ∧ nmI l (namedP l (fndS (nd l k.toNat).attrs oForm)) = oForm
      · rw [if_pos t]
        have r : namedP l (fndS (nd l k.toNat).attrs oForm) < (l.length : Int) := by
          have t0 := t.1
          unfold namedP at t0 ⊢
          split at t0
          · omega
          · rename_i e
            rw [if_neg e]
            cases e2 : (orderP l 0).find? (hasId l (fndS (nd l k.toNat).attrs oForm)) with
            | none => rw [e2] at t0; simp at t0
            | some x =>
              have := (order_mem h (by omega) (by have := h.len.1; omega) x).1 (List.mem_of_find?_eq_some e2)
              exact this.2.1
        exact ⟨r, isK_form h t.1 r t.2⟩
      · rw [if_neg t] at hf
        omega
    · rw [if_neg g] at hf ⊢
      unfold upP at hf ⊢
      cases e2 : (anc l (parI l k)).find? (fun k => decide ((nd l k.toNat).name = oForm)) with
      | none => rw [e2] at hf; simp at hf
      | some x =>
        have m := List.mem_of_find?_eq_some e2
        have n := List.find?_some e2
        have pr := h.up (k := k) (by omega) hk.2
        have r := anc_range l (fun i hi => (h.par i hi).2) _ _ pr.2 x m
        exact ⟨r.2, isK_form h r.1 r.2 (of_decide_eq_true n)⟩
  · rw [if_neg q] at hf
    omega
theorem mem_el {l : List Nd} (h : Right l) {f k : Int} : k ∈ elementsP l f ↔ isK l f 30 = true ∧ (0 ≤ k ∧ k < (l.length : Int)) ∧ topP l k = topP l f ∧ listB (kI l k) = true ∧ formP l k = f := by
  unfold elementsP
  by_cases q : isK l f 30 = true
  · rw [if_pos q, List.mem_filter]
    have hf : 0 ≤ f ∧ f < (l.length : Int) := by
      unfold isK hasN at q
      rw [Bool.and_eq_true, Bool.and_eq_true, decide_eq_true_eq] at q
      exact q.1.1
    have ht := top_rng h hf.1 hf.2
    rw [order_mem h ht.1 ht.2]
    unfold elB
    rw [Bool.and_eq_true, decide_eq_true_eq]
    constructor
    · rintro ⟨⟨a, b, c⟩, d, e⟩
      exact ⟨q, ⟨a, b⟩, (top_same h a b hf.1 hf.2).1 c, d, e⟩
    · rintro ⟨_, ⟨a, b⟩, c, d, e⟩
      exact ⟨⟨a, b, (top_same h a b hf.1 hf.2).2 c⟩, d, e⟩
  · rw [if_neg q]
    constructor
    · intro t; cases t
    · intro t; exact absurd t.1 q
theorem el_nodup {l : List Nd} (h : Right l) {f : Int} : (elementsP l f).Nodup := by
  unfold elementsP
  split
  · rename_i q
    have hf : 0 ≤ f ∧ f < (l.length : Int) := by
      unfold isK hasN at q
      rw [Bool.and_eq_true, Bool.and_eq_true, decide_eq_true_eq] at q
      exact q.1.1
    have ht := top_rng h hf.1 hf.2
    exact (order_nodup h ht.1 ht.2).filter _
  · exact List.nodup_nil
/-- How often a node is an element of one of the first nodes; how often it should be one of any. -/
def cntE (l : List Nd) (k : Int) : Nat → Nat
  | 0 => 0
  | i + 1 => cntE l k i + (if k ∈ elementsP l (i : Int) then 1 else 0)
def wantE (l : List Nd) (k : Int) : Bool := decide (0 ≤ formP l k) && (listB (kI l k) && decide (topP l k = topP l (formP l k)))
theorem cnt_not {l : List Nd} {k : Int} : ∀ (n : Nat), (∀ i, i < n → k ∉ elementsP l (i : Int)) → cntE l k n = 0
  | 0, _ => rfl
  | n + 1, hn => by
    show cntE l k n + _ = 0
    rw [if_neg (hn n (by omega)), cnt_not n (fun i hi => hn i (by omega))]
theorem cnt_one {l : List Nd} (h : Right l) {k : Int} {f : Nat} (hf : k ∈ elementsP l (f : Int)) : ∀ (n : Nat), cntE l k n = if f < n then 1 else 0
  | 0 => rfl
  | n + 1 => by
    show cntE l k n + _ = _
    rw [cnt_one h hf n]
    by_cases e : f = n
    · subst e
      rw [if_neg (by omega), if_pos hf, if_pos (by omega)]
    · have : k ∉ elementsP l (n : Int) := fun t => by
        have a := ((mem_el h).1 t).2.2.2.2
        have b := ((mem_el h).1 hf).2.2.2.2
        rw [a] at b
        omega
      rw [if_neg this]
      by_cases g : f < n
      · rw [if_pos g, if_pos (by omega)]
      · rw [if_neg g, if_neg (by omega)]
theorem cnt_all {l : List Nd} (h : Right l) {k : Nat} (hk : k < l.length) : cntE l (k : Int) l.length = if wantE l (k : Int) = true then 1 else 0 := by
  unfold wantE
  by_cases q : 0 ≤ formP l (k : Int) ∧ listB (kI l (k : Int)) = true ∧ topP l (k : Int) = topP l (formP l (k : Int))
  · obtain ⟨q0, q1, q2⟩ := q
    rw [decide_eq_true q0, q1, decide_eq_true q2, if_pos (show (true && (true && true)) = true from rfl)]
    have r := form_in h q0
    obtain ⟨f, ef⟩ : ∃ f : Nat, formP l (k : Int) = (f : Int) := ⟨(formP l (k : Int)).toNat, by omega⟩
    have m : (k : Int) ∈ elementsP l (f : Int) := (mem_el h).2 ⟨by rw [← ef]; exact r.2, ⟨by omega, by omega⟩, by rw [← ef]; exact q2, q1, ef⟩
    rw [cnt_one h m, if_pos (by have := r.1; omega)]
  · rw [if_neg, cnt_not]
    · intro i hi t
      have m := (mem_el h).1 t
      refine q ⟨by rw [m.2.2.2.2]; omega, m.2.2.2.1, ?_⟩
      rw [m.2.2.2.2]; exact m.2.2.1
    · rw [Bool.and_eq_true, Bool.and_eq_true, decide_eq_true_eq, decide_eq_true_eq]
      exact q
end Go.Proofs.YtoejiojkpbibcaaDoor

namespace Go.Proofs.YtoejiojkpbibcaaDoor
open Go.RowKit
set_option maxRecDepth 100000
/-- A row of numbers in a block of the call's own. -/
structure SeenAt (w : World) (B n : Nat) (f : Nat → Nat) : Prop where
  lt : B < w.heap.size
  cells : ∀ j, j < n → w.cell? ⟨B, j, none⟩ = some (.int .i64 (f j : Int))
  free : ∀ j, w.frozen? ⟨B, j, none⟩ = false
theorem SeenAt.below {w w' : World} {B n : Nat} {f : Nat → Nat} (h : SeenAt w B n f) (hb : Below w.heap.size w w') : SeenAt w' B n f :=
  ⟨Nat.lt_of_lt_of_le h.lt hb.size, fun j hj => cell_below (h.cells j hj) hb, fun j => (hb.frozen (p := ⟨B, j, none⟩) h.lt).trans (h.free j)⟩
theorem SeenAt.set {w : World} {B n : Nat} {f g : Nat → Nat} (h : SeenAt w B n f) {k : Nat} (hk : k < n) {z : Int} (hz : z = (g k : Int)) (hg : ∀ j, j ≠ k → g j = f j) : SeenAt (w.setCell ⟨B, k, none⟩ (.int .i64 z)) B n g := by
  refine ⟨by rw [World.size_setCell]; exact h.lt, fun j hj => ?_, fun j => by rw [World.frozen?_setCell]; exact h.free j⟩
  by_cases e : j = k
  · subst e
    rw [World.cell?_setCell_same _ _ _ (by rw [h.cells j hj]), hz]
  · rw [World.cell?_setCell_other _ _ _ _ (fun t => e (congrArg Addr.off t).symm), h.cells j hj, hg j e]
theorem info_intO : (Tryd.prog.info? 3).map (fun i => (i.zero, i.size, i.bytes)) = some (some (.int .i64 0), 1, 8) := by kernel_rfl
theorem make_ints (n : Nat) (hn : n ≤ 1048576) (w : World) : (Instr.makeSlice 28 (.int .i64 (n : Int)) (.int .i64 (n : Int))).run Tryd.prog w = .ok (.slice (some ⟨w.heap.size, 0, none⟩) n n) (w.alloc (.cells (Array.replicate n (Value.int .i64 0)) 3)) := by
  obtain ⟨i, hi, hz0, hz1, hz2⟩ := info_parts info_intO
  have := run_make (P := Tryd.prog) w 28 3 i (.int .i64 0) Tryd.underlying28 hi hz0 .i64 .i64 (n : Int) (n : Int) (by omega) (by omega) (by rw [hz2]; omega) (by omega)
  rw [this, hz1, Int.toNat_natCast, Nat.mul_one]
  have e : madeCells (Value.int .i64 0).cells n = Array.replicate n (Value.int .i64 0) := by
    apply Array.ext'
    rw [Array.toList_replicate]
    exact toList_madeCells_one (.int .i64 0) n
  rw [e]
theorem seen_new (w : World) (n : Nat) : SeenAt (w.alloc (.cells (Array.replicate n (Value.int .i64 0)) 3)) w.heap.size n (fun _ => 0) := by
  refine ⟨by simp, fun j hj => ?_, fun j => World.frozen?_alloc_new w _ _ j⟩
  rw [World.cell?_alloc_at _ _ _ _ rfl, Array.getElem?_replicate, if_pos hj]
  rfl
/-- Within a form's elements. -/
def cntJ (l : List Nd) (i j : Nat) (k : Nat) : Nat := cntE l (k : Int) i + (if (k : Int) ∈ (elementsP l (i : Int)).take j then 1 else 0)
theorem cntJ_zero {l : List Nd} {i : Nat} : cntJ l i 0 = fun k : Nat => cntE l (k : Int) i := by
  funext k
  unfold cntJ
  rw [List.take_zero, if_neg (by simp)]; rfl
theorem cntJ_end {l : List Nd} {i : Nat} : cntJ l i (elementsP l (i : Int)).length = fun k : Nat => cntE l (k : Int) (i + 1) := by
  funext k
  unfold cntJ
  rw [List.take_length]
  rfl
theorem cntJ_hit {l : List Nd} (h : Right l) {i j q : Nat} (hj : j < (elementsP l (i : Int)).length) (eq : (elementsP l (i : Int))[j] = (q : Int)) : ((cntJ l i j q : Nat) : Int) + 1 = (cntJ l i (j + 1) q : Nat) := by
  unfold cntJ
  rw [List.take_succ_eq_append_getElem hj, eq, if_neg, if_pos (by simp)]
  · omega
  · intro t
    obtain ⟨m, hm, e⟩ := List.getElem_of_mem t
    have hm' : m < j := by have := hm; rw [List.length_take] at this; omega
    rw [List.getElem_take] at e
    exact (List.pairwise_iff_getElem.1 (el_nodup h)) m j (by omega) hj hm' (e.trans eq.symm)
theorem cntJ_far {l : List Nd} {i j q : Nat} (hj : j < (elementsP l (i : Int)).length) (eq : (elementsP l (i : Int))[j] = (q : Int)) (k : Nat) (hk : k ≠ q) : cntJ l i (j + 1) k = cntJ l i j k := by
  unfold cntJ
  have : (k : Int) ∈ (elementsP l (i : Int)).take (j + 1) ↔ (k : Int) ∈ (elementsP l (i : Int)).take j := by
    rw [List.take_succ_eq_append_getElem hj, eq, List.mem_append, List.mem_singleton]
    constructor
    · rintro (t | t)
      · exact t
      · omega
    · exact .inl
  simp only [this]
theorem cntJ_le {l : List Nd} (h : Right l) {i j q : Nat} (hi : i ≤ 400) : cntJ l i j q ≤ 401 := by
  have key : ∀ n, cntE l (q : Int) n ≤ n := fun n => by
    induction n with
    | zero => exact Nat.le_refl _
    | succ n ih =>
      show cntE l (q : Int) n + _ ≤ _
      split <;> omega
  have := key i
  unfold cntJ
  have hl := h.len.2
  split <;> omega
set_option maxHeartbeats 8000000 in
theorem ownerOnce_walk (v : Value) (l : List Nd) (w : World) (hv : NodesV w v l) (hz : DocSz l) (hT : OwTabs w) :
    Calls Tryd.prog 7 #[v] w fun e w' => e = .returned (.bool true) ∧ Below w.heap.size w w' := by
  have HV := hide hv
  have HW := hide (owWakes_any w hT)
  have HRt := hide (fun W (hb : Below w.heap.size w W) => refDocRight_any v l W (HV.out.below hb) hz)
  obtain ⟨p, k, rfl, hv'⟩ := hv
  cases hR : rightB l with
  | false =>
    rw [hR] at HRt
    clear hv' hz hT HV
    go_enter Tryd.func7, Tryd.ntmps7
    go_wp2_with fail
    refine HW.out.mono ?_
    rintro e w1 ⟨rfl, b1⟩
    go_wp2_with fail
    refine (HRt.out _ b1).mono ?_
    rintro e w2 ⟨rfl, b2⟩
    go_wp2_with fail
    go_ret
    exact ⟨rfl, chain b1 b2⟩
  | true =>
    have R := right_is.1 hR
    have hlen := R.len
    rw [hR] at HRt
    have RT := hide R
    have HZ := hide hz
    have HT := hide hT
    have HC := hide (fun W (hb : Below w.heap.size w W) => refCopied_any (.slice p l.length k) l W (HV.out.below hb) hz)
    have HE := hide (fun u i W (hb : Below w.heap.size w W) (hu : NodesV W u l) => owElementsK_any u l i W hu hz (hT.below hb))
    have HF := hide (fun u i W (hb : Below w.heap.size w W) (hu : NodesV W u l) => owForm_any u l i W hu hz (hT.below hb))
    obtain ⟨b, o, rfl, hn⟩ : ∃ b o, p = some ⟨b, o, none⟩ ∧ ∀ i (h : i < l.length), ∃ va vk, NodeAt w b (o + i * 5) l[i] va vk := by
      rcases hv' with t | t
      · rw [t] at hlen; simp at hlen
      · exact t
    have HN := hide hn
    have MK := fun w => make_ints l.length (by omega) w
    clear hv' hz hT hR R hn
    go_enter Tryd.func7, Tryd.ntmps7
    go_wp2_with fail
    refine HW.out.mono ?_
    rintro e w1 ⟨rfl, b1⟩
    go_wp2_with fail
    refine (HRt.out _ b1).mono ?_
    rintro e w2 ⟨rfl, b2⟩
    have B2 := hide (chain b1 b2)
    go_wp2_with fail
    refine (HC.out _ B2.out).mono ?_
    rintro e w3 ⟨v3, L3, rfl, o3, e3, b3⟩
    have N3 : Hid (NodesV w3 v3 l) := by show NodesV _ _ _; rw [← e3]; exact o3.nodes
    obtain ⟨p3, k3, rfl⟩ : ∃ p k, v3 = .slice p l.length k := by obtain ⟨p, k, e, _⟩ := N3.out; exact ⟨p, k, e⟩
    have B3 := hide (chain B2.out b3)
    obtain ⟨w4, hw4⟩ : ∃ w4, w3.alloc (.cells (Array.replicate l.length (Value.int .i64 0)) 3) = w4 := ⟨_, rfl⟩
    have b4 : Below w3.heap.size w3 w4 := by rw [← hw4]; exact (Below.refl _ w3).alloc (Nat.le_refl _) _
    have S4 : Hid (SeenAt w4 w3.heap.size l.length (fun _ => 0)) := by show SeenAt _ _ _ _; rw [← hw4]; exact seen_new w3 l.length
    have N4 := hide (N3.out.below b4)
    have B4 := hide (chain B3.out b4)
    have sz : w.heap.size ≤ w3.heap.size := B3.out.size
    have N3k := N3
    have b4k := hide b4
    clear o3 e3 b1 b2 b3 b4 N3 B2 HRt HW HC N4 B4
    go_wp2_with fail
    clear hw4
    have N3' := hide (fun W (hb : Below w3.heap.size w3 W) => N3k.out.below hb)
    go_loopw [22] (fun iv wr => ∃ i : Nat, i ≤ l.length ∧ iv = .int .i64 i ∧ Hid (SeenAt wr w3.heap.size l.length (fun k : Nat => cntE l (k : Int) i)) ∧ Hid (Below w3.heap.size w3 wr)) (fun iv _ => l.length - (intOf iv).toNat)
    case atStart => exact ⟨0, Nat.zero_le _, rfl, S4.out, b4k.out⟩
    case round =>
      rename World => wr
      obtain ⟨i, hi, rfl, SR, BR⟩ := hrel
      have BWr : Hid (Below w.heap.size w wr) := B3.out.trans (BR.out.mono sz)
      by_cases hlt : i < l.length
      · have i1 : (i : Int) < (l.length : Int) := by omega
        have H1 := hide (HE.out _ (i : Int) _ BWr.out (N3'.out _ BR.out))
        have lr : w3.heap.size < wr.heap.size := SR.out.lt
        clear S4 b4k
        go_wp2_with fail
        refine H1.out.mono ?_
        rintro e w5 ⟨v5, rfl, g5, b5⟩
        have S5 := hide (SR.out.below b5)
        have B5 : Hid (Below w3.heap.size w3 w5) := chain BR.out b5
        have G5 := hide g5
        have OB : Hid (∀ g, v5.ownBlock = some g → wr.heap.size ≤ g) := fun g hg => (g5.lt g hg).1
        obtain ⟨p5, c5, rfl, h5⟩ := g5.ints
        have EL := hide (fun j (hj : j < (elementsP l (i : Int)).length) => (mem_el RT.out).1 (List.getElem_mem hj))
        have elen : (elementsP l (i : Int)).length ≤ l.length := nodup_len l.length _ (el_nodup RT.out) (fun x hx => ((mem_el RT.out).1 hx).2.1)
        have HIT := hide (fun (j q : Nat) (hj : j < (elementsP l (i : Int)).length) (eq : (elementsP l (i : Int))[j] = (q : Int)) => cntJ_hit RT.out hj eq)
        have FAR := hide (fun (j q : Nat) (hj : j < (elementsP l (i : Int)).length) (eq : (elementsP l (i : Int))[j] = (q : Int)) => cntJ_far hj eq)
        have CZ := hide (cntJ_zero (l := l) (i := i))
        have CE := hide (cntJ_end (l := l) (i := i))
        have CL := hide (fun (j q : Nat) => cntJ_le RT.out (i := i) (j := j) (q := q) (by omega))
        generalize hES : elementsP l (i : Int) = ES at *
        clear b5 SR BR H1 h5 g5 BWr
        go_wp2_with fail
        go_loopw [29] (fun jv wq => ∃ j : Nat, j ≤ ES.length ∧ jv = .int .i64 j ∧ Hid (SeenAt wq w3.heap.size l.length (cntJ l i j)) ∧ Hid (Chg [w3.heap.size] w5 wq)) (fun jv _ => ES.length - (intOf jv).toNat)
        case atStart => exact ⟨0, Nat.zero_le _, rfl, by show SeenAt _ _ _ _; rw [CZ.out]; exact S5.out, (Chg.of_below (Below.refl _ w5)).nil⟩
        case round =>
          rename World => wq
          obtain ⟨j, hj, rfl, SQ, CQ⟩ := hrel
          have s35 : w3.heap.size ≤ w5.heap.size := B5.out.size
          have BQ : Hid (Below w3.heap.size w3 wq) := B5.out.trans (CQ.out.below s35 (fun k r => by rw [List.mem_singleton.1 r]; exact Nat.le_refl _))
          have BW : Hid (Below w.heap.size w wq) := B3.out.trans (BQ.out.mono sz)
          by_cases hjt : j < ES.length
          · obtain ⟨e1, e2, e3, e4, e5⟩ := EL.out j hjt
            obtain ⟨q, eq, hq⟩ : ∃ q : Nat, ES[j] = (q : Int) ∧ q < l.length := ⟨ES[j].toNat, by omega, by omega⟩
            have ef : formP l (q : Int) = (i : Int) := by rw [← eq]; exact e5
            have KQ := owns_kept G5.out CQ.out (fun g hg r => by have := OB.out g hg; have := List.mem_singleton.1 r; omega)
            obtain ⟨g, c5', ev, eg, _, _, _⟩ := owns_at KQ (by omega)
            cases ev
            have cl : wq.cell? ⟨g, j, none⟩ = some (.int .i64 (q : Int)) := by
              have := owns_cell KQ rfl (j := j) (u := .int .i64 (q : Int)) (by rw [← eq]; unfold cellsI; rw [List.getElem?_map, List.getElem?_eq_getElem hjt]; rfl)
              exact this
            have H2 := hide (HF.out _ (q : Int) _ BW.out (N3'.out _ BQ.out))
            rw [ef] at H2
            have CLj := CL.out j q
            have HI := hide (HIT.out j q hjt eq)
            have FA := hide (FAR.out j q hjt eq)
            have j0 : (0 : Int) ≤ (j : Int) := by omega
            have j1 : (j : Int) < (ES.length : Int) := by omega
            have q0 : (0 : Int) ≤ (q : Int) := by omega
            have q1 : (q : Int) < (l.length : Int) := by omega
            have d1 : decide ((q : Int) < 0) = false := decide_eq_false (by omega)
            have d2 : decide ((l.length : Int) ≤ (q : Int)) = false := decide_eq_false (by omega)
            clear e1 e2 e3 e4 e5 KQ ef eq
            go_wp2_with fail
            refine H2.out.mono ?_
            rintro e w6 ⟨rfl, b6⟩
            have S6 := SQ.out.below b6
            have cs := S6.cells q hq
            have fs := S6.free q
            have C6 : Hid (Chg [w3.heap.size] w5 w6) := CQ.out.trans ((Chg.of_below b6).nil)
            have S6 := hide S6
            generalize hcn : cntJ l i j q = cn at *
            clear hcn b6 SQ CQ H2
            go_wp2_with fail
            go_roundw
            case rel => exact ⟨j + 1, by omega, by go_num, S6.out.set hq HI.out (fun k hk => FA.out k hk), C6.out.trans ((Chg.setB _ _ _ _).mono (fun k r _ => r))⟩
            case measure => simp [intOf]; omega
          · obtain rfl : j = ES.length := by omega
            rw [CE.out] at SQ
            go_wp2_with fail
            go_roundw
            case rel => exact ⟨i + 1, by omega, by go_num, SQ, BQ⟩
            case measure => simp [intOf]; omega
      · obtain rfl : i = l.length := by omega
        have ALL := hide (fun k (hk : k < l.length) => cnt_all RT.out hk)
        have HCE := hide (fun (n : Nat) k => (rfl : cntE l k n = cntE l k n))
        clear HE S4 b4k HCE
        go_wp2_with fail
        go_loopw [58] (fun iv wq => ∃ i : Nat, i ≤ l.length ∧ iv = .int .i64 i ∧ Hid (Below wr.heap.size wr wq)) (fun iv _ => l.length - (intOf iv).toNat)
        case atStart => exact ⟨0, Nat.zero_le _, rfl, Below.refl _ _⟩
        case round =>
          rename World => wq
          obtain ⟨i, hi', rfl, CQ⟩ := hrel
          have SQ := hide (SR.out.below CQ.out)
          have BQ : Hid (Below w3.heap.size w3 wq) := chain BR.out CQ.out
          have BW : Hid (Below w.heap.size w wq) := B3.out.trans (BQ.out.mono sz)
          by_cases hlt2 : i < l.length
          · have i1 : (i : Int) < (l.length : Int) := by omega
            have i0 : (0 : Int) ≤ (i : Int) := by omega
            have AI := hide (ALL.out i hlt2)
            have HFi := hide (fun W (hb : Below w3.heap.size w3 W) => HF.out _ (i : Int) W (B3.out.trans (hb.mono sz)) (N3'.out _ hb))
            obtain ⟨va, vk, N⟩ := HN.out i hlt2
            have nz := HZ.out.nds _ (List.getElem_mem hlt2)
            have HO := hide (fun W (hb : Below w.heap.size w W) => refOf_any l[i] va vk W (N.at_.below hb) nz.attrs nz.tx)
            have EK : kI l (i : Int) = kOf l[i].name (tyOf l[i].attrs) := by unfold kI kN; rw [Int.toNat_natCast, nd_at hlt2]
            have WE : Hid (wantE l (i : Int) = (decide (0 ≤ formP l (i : Int)) && (listB (kOf l[i].name (tyOf l[i].attrs)) && decide (topP l (i : Int) = topP l (formP l (i : Int)))))) := by show _ = _; unfold wantE; rw [EK]
            have HL := hide (fun W => refIs_1 (kOf l[i].name (tyOf l[i].attrs)) W)
            have HT1 := hide (fun W (hb : Below w.heap.size w W) => refTop_any (.slice (some ⟨b, o, none⟩) l.length k) l (i : Int) i W (HV.out.below hb) ⟨RT.out, rfl, hlt2⟩)
            have HT2 := hide (fun (f : Nat) (hf : f < l.length) W (hb : Below w.heap.size w W) => refTop_any (.slice (some ⟨b, o, none⟩) l.length k) l (f : Int) f W (HV.out.below hb) ⟨RT.out, rfl, hf⟩)
            have FI := hide (fun h => (form_in RT.out (k := (i : Int)) h).1)
            obtain ⟨pa, ca, rfl, hx1⟩ := N.at_
            obtain ⟨pk, ck, rfl, hx2⟩ := N.ks
            clear hx1 hx2
            have N0 := hide N
            clear N nz EK
            generalize hFI : formP l (i : Int) = fI at *
            clear hFI
            generalize hKK : kOf l[i].name (tyOf l[i].attrs) = kk at *
            clear hKK
            by_cases h0 : 0 ≤ fI
            · obtain ⟨f, rfl⟩ : ∃ f : Nat, fI = (f : Int) := ⟨fI.toNat, by omega⟩
              have hf : f < l.length := by have := FI.out h0; omega
              rw [decide_eq_true h0] at WE
              cases hl : listB kk with
              | false =>
                rw [hl] at WE HL
                rw [WE.out, if_neg (fun t => by cases t)] at AI
                clear WE hl FI HT1 HT2
                go_wp2_with fail
                refine (HFi.out _ BQ.out).mono ?_
                rintro e w6 ⟨rfl, b6⟩
                have B6 := hide (chain BW.out b6)
                have a0 := cell_below N0.out.name B6.out
                have a1 := cell_below N0.out.text B6.out
                have a2 := cell_below N0.out.attrs B6.out
                have a3 := cell_below N0.out.parent B6.out
                have a4 := cell_below N0.out.kids B6.out
                go_wp2_with fail
                refine (HO.out _ B6.out).mono ?_
                rintro e w7 ⟨rfl, b7⟩
                have B7 := hide (chain B6.out b7)
                have q7 := chain b6 b7
                go_wp2_with fail
                refine (HL.out _).mono ?_
                rintro e u ⟨rfl, hu⟩
                obtain rfl : w7 = u := hu.symm
                have cs := (SQ.out.below q7).cells i hlt2
                simp only [AI.out] at cs
                go_wp2_with fail
                go_roundw
                case rel => exact ⟨i + 1, by omega, by go_num, chain CQ.out q7⟩
                case measure => simp [intOf]; omega
              | true =>
                rw [hl] at WE HL
                clear hl FI
                generalize hT1 : topP l (i : Int) = t1 at *
                generalize hT2 : topP l (f : Int) = t2 at *
                have HT2f := hide (fun W hb => HT2.out f hf W hb)
                by_cases ht : t1 = t2
                · subst ht
                  rw [WE.out, decide_eq_true rfl, if_pos (show (true && (true && true)) = true from rfl)] at AI
                  clear WE
                  go_wp2_with fail
                  refine (HFi.out _ BQ.out).mono ?_
                  rintro e w6 ⟨rfl, b6⟩
                  have B6 := hide (chain BW.out b6)
                  have a0 := cell_below N0.out.name B6.out
                  have a1 := cell_below N0.out.text B6.out
                  have a2 := cell_below N0.out.attrs B6.out
                  have a3 := cell_below N0.out.parent B6.out
                  have a4 := cell_below N0.out.kids B6.out
                  go_wp2_with fail
                  refine (HO.out _ B6.out).mono ?_
                  rintro e w7 ⟨rfl, b7⟩
                  have B7 := hide (chain B6.out b7)
                  have q7 := chain b6 b7
                  go_wp2_with fail
                  refine (HL.out _).mono ?_
                  rintro e u ⟨rfl, hu⟩
                  obtain rfl : w7 = u := hu.symm
                  go_wp2_with fail
                  refine (HT1.out _ B7.out).mono ?_
                  rintro e u ⟨rfl, hu⟩
                  obtain rfl : w7 = u := hu.symm
                  go_wp2_with fail
                  refine (HFi.out _ (chain BQ.out q7)).mono ?_
                  rintro e w8 ⟨rfl, b8⟩
                  have B8 := hide (chain B7.out b8)
                  have q8 := chain q7 b8
                  go_wp2_with fail
                  refine (HT2.out f hf _ B8.out).mono ?_
                  rintro e u ⟨rfl, hu⟩
                  obtain rfl : w8 = u := hu.symm
                  have cs := (SQ.out.below q8).cells i hlt2
                  simp only [AI.out] at cs
                  go_wp2_with fail
                  go_roundw
                  case rel => exact ⟨i + 1, by omega, by go_num, chain CQ.out q8⟩
                  case measure => simp [intOf]; omega
                · rw [WE.out, decide_eq_false ht, if_neg (by decide)] at AI
                  have dt : (t1 == t2) = false := beq_eq_false_iff_ne.2 ht
                  clear WE
                  go_wp2_with fail
                  refine (HFi.out _ BQ.out).mono ?_
                  rintro e w6 ⟨rfl, b6⟩
                  have B6 := hide (chain BW.out b6)
                  have a0 := cell_below N0.out.name B6.out
                  have a1 := cell_below N0.out.text B6.out
                  have a2 := cell_below N0.out.attrs B6.out
                  have a3 := cell_below N0.out.parent B6.out
                  have a4 := cell_below N0.out.kids B6.out
                  go_wp2_with fail
                  refine (HO.out _ B6.out).mono ?_
                  rintro e w7 ⟨rfl, b7⟩
                  have B7 := hide (chain B6.out b7)
                  have q7 := chain b6 b7
                  go_wp2_with fail
                  refine (HL.out _).mono ?_
                  rintro e u ⟨rfl, hu⟩
                  obtain rfl : w7 = u := hu.symm
                  go_wp2_with fail
                  refine (HT1.out _ B7.out).mono ?_
                  rintro e u ⟨rfl, hu⟩
                  obtain rfl : w7 = u := hu.symm
                  go_wp2_with fail
                  refine (HFi.out _ (chain BQ.out q7)).mono ?_
                  rintro e w8 ⟨rfl, b8⟩
                  have B8 := hide (chain B7.out b8)
                  have q8 := chain q7 b8
                  go_wp2_with fail
                  refine (HT2.out f hf _ B8.out).mono ?_
                  rintro e u ⟨rfl, hu⟩
                  obtain rfl : w8 = u := hu.symm
                  have cs := (SQ.out.below q8).cells i hlt2
                  simp only [AI.out] at cs
                  go_wp2_with fail
                  go_roundw
                  case rel => exact ⟨i + 1, by omega, by go_num, chain CQ.out q8⟩
                  case measure => simp [intOf]; omega
            · have dn : decide (0 ≤ fI) = false := decide_eq_false h0
              rw [WE.out, dn, if_neg (fun t => by cases t)] at AI
              clear WE FI HT1 HT2 HL HO
              go_wp2_with fail
              refine (HFi.out _ BQ.out).mono ?_
              rintro e w6 ⟨rfl, b6⟩
              have B6 := hide (chain BW.out b6)
              have cs := (SQ.out.below b6).cells i hlt2
              simp only [AI.out] at cs
              go_wp2_with fail
              go_roundw
              case rel => exact ⟨i + 1, by omega, by go_num, chain CQ.out b6⟩
              case measure => simp [intOf]; omega
          · obtain rfl : i = l.length := by omega
            go_wp2_with fail
            go_ret
            exact ⟨rfl, BW.out⟩

end Go.Proofs.YtoejiojkpbibcaaDoor
