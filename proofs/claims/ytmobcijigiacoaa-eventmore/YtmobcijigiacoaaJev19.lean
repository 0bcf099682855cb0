/- A range over a function that hands out the elements of one list, each round of which goes on. The program's calling, stops of layer 23 and the library's Backward. The program's iterator of layer 23. What the rounds of the program's Calls of layer 23 hold. -/
import Derived.Test.YtmobcijigiacoaaJev8
import Derived.Test.YtmobcijigiacoaaJev17
import Derived.Shelf.RegionOpen
import Derived.OwnWalkIn
import Derived.TacticsInMore
import Derived.LoopNIn
import Derived.LoopIn

namespace Go.Proofs.Ytmobcijigiacoaa
open Go.RowKit
/-- What a round of such a loop comes to: it goes on. -/
def rndPost (B : Nat) (Kp : World → World → Prop) (I : Nat → World → Prop) (k : Nat) (W : World) : Exit → Act → World → Prop
  | .normal, _, W' => KeepsFrom B W W' ∧ Kp W W' ∧ I k W'
  | _, _, _ => False
theorem anyRound {m m' : Nat} {P : Program} {l : Nat} {f : FuncId} {tmps : Array Value} {assign body : Code} {w : World} {R : Ending → World → Prop} (h : RoundIn Fence.wide m P l f tmps assign body w R) : RoundIn Fence.wide m' P l f tmps assign body w R := ⟨h.1, fun c cs _ => h.2 c cs (room_wide _)⟩
/-- A function that hands out L's elements one by one, and ends. -/
def SeqL (n : Nat) (P : Program) (g : Nat) (lb : Array Value) (L : List (Array Value)) (Kp : World → World → Prop) (w : World) : Prop :=
  ∀ (l : Nat) (J : Nat → World → Prop) (W : World), Below w.heap.size w W → w.heap.size + 2 ≤ W.heap.size → OwnFrom W.heap.size J →
    (∀ i (h : i < L.length) W1, J i W1 → YieldAt Fence.wide n P l L[i] W1 fun e W' => e = .returned (.bool true) ∧ J (i + 1) W' ∧ Kp W1 W') →
    J 0 W → CallsIn Fence.wide n P g (#[.func (.yield l) #[] #[]] ++ lb) W fun e W' => (∃ v, e = .returned v) ∧ J L.length W'
/-- The statement, where each round goes on. -/
theorem wpIn_range_list {n : Nat} {P : Program} {g : Operand} {ps : Array Tmp} {assign body : Code} {Q : Exit → Act → World → Prop} {a : Act} {w : World} {gf : Nat} {lb : Array Value}
    (hg : a.eval g = .func (.func gf) #[] lb) (eg : ∀ args w, (callFunc gf args).run P w = .ok (.enter gf args) w) {L : List (Array Value)} {Kp : World → World → Prop} (hseq : SeqL n P gf lb L Kp w)
    (hps : ∀ i (h : i < L.length), L[i].size = ps.size) (hKt : ∀ {A B C : World}, Kp A B → Kp B C → Kp A C)
    (hKb : ∀ (W : World) (o o' : Obj), W.heap[w.heap.size + 1]? = some o → o.isCells = false → Kp W (W.putObj (w.heap.size + 1) o'))
    (I : Nat → World → Prop) (hI : OwnFrom w.heap.size I) (h0 : I 0 w) (a₁ : Nat → Act)
    (hassign : ∀ (l i : Nat) (h : i < L.length) (W : World) (K : Act → World → Prop), K (a₁ i) W → assign.wpIn (Fence.wide.inRound l) n P (Exit.then K (fun _ _ _ => False)) { tmps := (ps.zip L[i]).foldl (fun t (p, v) => t.setIfInBounds p v) a.tmps, defers := [] } W)
    (hbody : ∀ (l i : Nat) (_ : i < L.length) (W : World), I i W → body.wpIn (Fence.wide.inRound l) n P (rndPost w.heap.size Kp I (i + 1) W) (a₁ i) W)
    (hdone : ∀ (D : Nat) (W : World), w.heap.size ≤ D → I L.length W → W.heap[D]? = some (.deferred (some [])) → Q .normal { a with defers := { target := .collected D, args := #[] } :: a.defers } W) :
    (Code.rangeFunc g ps assign body).wpIn Fence.wide n P Q a w := by
  refine wpIn_rangeFunc fun fn hfn => ?_
  let R : LoopState → Option Code → Loop := fun s p => { state := s, pending := p, fn := fn, tmps := a.tmps, params := ps, assign := assign, body := body, defers := w.heap.size }
  let V : World := (w.alloc (.deferred (some []))).alloc (.loop (R .ready none))
  have sV : V.heap.size = w.heap.size + 2 := by show ((w.alloc _).alloc _).heap.size = _; simp
  have lV : V.heap[w.heap.size + 1]? = some (.loop (R .ready none)) := by
    have := World.alloc_heap_new (w.alloc (.deferred (some []))) (.loop (R .ready none))
    rwa [World.size_alloc] at this
  have dV : V.heap[w.heap.size]? = some (.deferred (some [])) := (Below.heap_alloc _ _ _ (by simp)).trans (World.alloc_heap_new w _)
  have bV : Below w.heap.size w V := ((Below.refl _ w).alloc (Nat.le_refl _) _).alloc (by simp) _
  let J : Nat → World → Prop := fun i W => I i W ∧ (W.heap[w.heap.size + 1]? = some (.loop (R .ready none)) ∧ W.heap[w.heap.size]? = some (.deferred (some [])))
  have JO : OwnFrom V.heap.size J := fun s A B row hs hb hr => by
    have far : ∀ k, k < w.heap.size + 2 → some k ≠ row := fun k hk e => by have := (hr k e.symm).1; omega
    refine ⟨hI s A B row hs.1 hb (fun r e => ⟨by have := (hr r e).1; omega, (hr r e).2⟩), ?_, ?_⟩
    · exact (hb.block _ (Array.getElem?_eq_some_iff.1 hs.2.1).1 (far _ (by omega))).trans hs.2.1
    · exact (hb.block _ (Array.getElem?_eq_some_iff.1 hs.2.2).1 (far _ (by omega))).trans hs.2.2
  have hQ := hseq (w.heap.size + 1) J V bV (by omega) JO ?_ ⟨hI.alloc _ (hI.alloc _ h0), lV, dV⟩
  · refine ⟨w.heap.size + 1, [{ target := .collected w.heap.size, args := #[] }], V, { target := .fn (.func gf) lb, args := #[.func (.yield (w.heap.size + 1)) #[] #[]] }, V, gf, #[.func (.yield (w.heap.size + 1)) #[] #[]] ++ lb, V, ?_, ?_, fun _ _ => trivial, ?_, fun h => (by cases h), ?_⟩
    · exact run_enterLoop_outer _ _ _ _ _
    · simp only [resolve, hg]
      simp [go_sem]
    · simp [invoke, go_sem, eg]
    · refine callsIn_wide.2 ((callsIn_wide.1 hQ).mono ?_)
      rintro e W ⟨⟨v, rfl⟩, hi, hl, hd⟩
      refine ⟨none, _, run_endLoop (P := P) hl (by simp [R]), ?_⟩
      exact hdone _ _ (Nat.le_refl _) (hI.putObj _ hi (by omega) hl rfl) ((World.putObj_heap_other (by omega)).trans hd)
  · rintro i hi W ⟨hIW, hl, hd⟩
    have lt : w.heap.size + 1 < W.heap.size := (Array.getElem?_eq_some_iff.1 hl).1
    refine ⟨fn, _, assign, body, run_yield (P := P) (args := L[i]) hl (hps i hi), roundIn_of_wpIn hfn (hassign _ i hi W _ ⟨_, run_beginRound hl rfl, ?_⟩)⟩
    have hl2 : (W.putObj (w.heap.size + 1) (.loop (R .busy none))).heap[w.heap.size + 1]? = some (.loop (R .busy none)) := World.putObj_heap_same lt
    have hd2 : (W.putObj (w.heap.size + 1) (.loop (R .busy none))).heap[w.heap.size]? = some (.deferred (some [])) := (World.putObj_heap_other (by omega)).trans hd
    refine wpIn_mono (hbody _ i hi _ (hI.putObj _ hIW (by omega) hl rfl)) ?_
    intro e a3 W3 hp
    cases e <;> first | exact hp.elim | skip
    obtain ⟨k3, p3, i3⟩ := hp
    have l3 := k3.same _ _ (by omega) hl2 rfl
    have d3 := k3.same _ _ (Nat.le_refl _) hd2 rfl
    refine ⟨_, _, run_endRound (P := P) none l3, rfl, ⟨hI.putObj _ i3 (by omega) l3 rfl, ?_, ?_⟩, ?_⟩
    · exact World.putObj_heap_same (Array.getElem?_eq_some_iff.1 l3).1
    · exact (World.putObj_heap_other (by omega)).trans d3
    · exact hKt (hKt (hKb _ _ _ hl rfl) p3) (hKb _ _ _ l3 rfl)
theorem heap_lt {W : World} {k : Nat} {o : Obj} (h : W.heap[k]? = some o) : k < W.heap.size := (Array.getElem?_eq_some_iff.1 h).1
theorem KpC.far {Bc n0 : Nat} {A B : World} (h : KpC Bc n0 A B) {k : Nat} (hk : k < A.heap.size) (hn : NotRow Bc A k) : NotRow Bc B k := fun u' hu e => by
  rcases h.row u' hu k e with ⟨u, q, e2⟩ | q
  · exact hn u q e2
  · omega
theorem KpC.trans {Bc n0 : Nat} {A B C : World} (h : KpC Bc n0 A B) (k : KpC Bc n0 B C) : KpC Bc n0 A C where
  size := Nat.le_trans h.size k.size
  cells i o hi ho hb hn := k.cells i o (h.cells i o hi ho hb hn) ho hb (h.far (heap_lt hi) hn)
  oth i o hi ha ho := k.oth i o hi (h.oth i o hi ha ho) ho
  row u' hu g hg := by
    rcases k.row u' hu g hg with ⟨u, q, e⟩ | q
    · exact h.row u q g e
    · exact .inr (Nat.le_trans h.size q)
  rin q := k.rin (h.rin q)
theorem KpC.of_below {Bc n0 : Nat} {A B : World} (h : Below A.heap.size A B) (hB : Bc < A.heap.size) : KpC Bc n0 A B where
  size := h.size
  cells k _ hk _ _ _ := (h.block k (heap_lt hk)).trans hk
  oth k _ _ hk _ := (h.block k (heap_lt hk)).trans hk
  row u' hu _ hg := .inl ⟨u', (h.block Bc hB).symm.trans hu, hg⟩
  rin q u hu g hg := Nat.lt_of_lt_of_le (q u ((h.block Bc hB).symm.trans hu) g hg) h.size
theorem KpC.put {Bc n0 l : Nat} {W : World} {o : Obj} (o' : Obj) (hl : W.heap[l]? = some o) (ho : o.isCells = false) (hn : l < n0) (hB : l ≠ Bc) : KpC Bc n0 W (W.putObj l o') where
  size := by simp
  cells k p hk hp _ _ := by
    by_cases e : k = l
    · rw [e, hl] at hk; cases hk; rw [ho] at hp; cases hp
    · exact (World.putObj_heap_other e).trans hk
  oth k p hk ha _ := (World.putObj_heap_other (by omega)).trans ha
  row u' hu _ hg := .inl ⟨u', (World.putObj_heap_other (fun e => hB e.symm)).symm.trans hu, hg⟩
  rin q u hu g hg := by
    have := q u ((World.putObj_heap_other (fun e => hB e.symm)).symm.trans hu) g hg
    simpa using this
theorem KpC.grown {Bc n0 B : Nat} {A W W' : World} {row : Option Nat} (h : KpC Bc n0 A W) (hg : W.grownBy W' row) (hr : ∀ r, row = some r → B ≤ r) (hA : A.heap.size ≤ B) (hB : Bc < A.heap.size) : KpC Bc n0 A W' where
  size := Nat.le_trans h.size hg.size
  cells k o hk ho hb hn := by
    have := h.cells k o hk ho hb hn
    exact (hg.block k (heap_lt this) (fun e => by have := hr k e.symm; have := heap_lt hk; omega)).trans this
  oth k o hk ha ho := by
    have := h.oth k o hk ha ho
    exact (hg.block k (heap_lt this) (fun e => by have := hr k e.symm; have := heap_lt ha; omega)).trans this
  row u' hu g hgg := h.row u' ((hg.block Bc (Nat.lt_of_lt_of_le hB h.size) (fun e => by have := hr Bc e.symm; omega)).symm.trans hu) g hgg
  rin q u hu g hgg := Nat.lt_of_lt_of_le (h.rin q u ((hg.block Bc (Nat.lt_of_lt_of_le hB h.size) (fun e => by have := hr Bc e.symm; omega)).symm.trans hu) g hgg) hg.size
/-- A block of cells that a chain of rounds keeps. -/
structure Safe (Bc : Nat) (W : World) (k : Nat) : Prop where
  ne : k ≠ Bc
  lt : k < W.heap.size
  far : NotRow Bc W k
theorem Safe.on {Bc n0 : Nat} {A B : World} {k : Nat} (h : Safe Bc A k) (hk : KpC Bc n0 A B) : Safe Bc B k := ⟨h.ne, Nat.lt_of_lt_of_le h.lt hk.size, hk.far h.lt h.far⟩
theorem Safe.box {Bc n0 : Nat} {A B : World} {k : Nat} {t : TypeId} {v : Value} (h : Safe Bc A k) (hk : KpC Bc n0 A B) (hb : Boxed A k t v) : Boxed B k t v := hk.cells k _ hb rfl h.ne h.far
theorem obj_of_cell {W : World} {a : Addr} {v : Value} (h : W.cell? a = some v) : ∃ o, W.heap[a.block]? = some o ∧ o.isCells = true := by
  unfold World.cell? at h
  cases ho : W.heap[a.block]? with
  | none => simp [ho] at h
  | some q => exact ⟨q, rfl, by cases q <;> simp_all [Obj.isCells]⟩
end Go.Proofs.Ytmobcijigiacoaa

namespace Go.Proofs.Ytmobcijigiacoaa
open Go.RowKit Go.Shelf
set_option maxRecDepth 100000
attribute [local go_sem] Oper.semAt_some
/-- A row that may have moved to a new block. -/
def MovR (u u' : Value) (n : Nat) : Prop := u'.ownBlock = u.ownBlock ∨ ∀ g, u'.ownBlock = some g → n ≤ g
theorem chg_row {w a b : World} {u u' : Value} (h : Chg u.ownBlock.toList w a) (hm : MovR u u' w.heap.size) (k : Chg u'.ownBlock.toList a b) : Chg u.ownBlock.toList w b :=
  ⟨k.os.trans h.os, k.tape.trans h.tape, k.output.trans h.output, Nat.le_trans h.size k.size, fun i hi hn => (k.block i (Nat.lt_of_lt_of_le hi h.size) (fun q => by
    rcases hm with e | e
    · exact hn (opt_mem.2 (e ▸ opt_mem.1 q))
    · have := e i (opt_mem.1 q)
      omega)).trans (h.block i hi hn)⟩
theorem MovR.then {u u' u'' : Value} {n m : Nat} (h : MovR u u' n) (hm : n ≤ m) (k : u''.ownBlock = u'.ownBlock ∨ u''.ownBlock = some m) : MovR u u'' n := by
  rcases k with k | k
  · rcases h with h | h
    · exact .inl (k.trans h)
    · exact .inr (fun g hg => h g (k ▸ hg))
  · exact .inr (fun g hg => by rw [k] at hg; cases hg; exact hm)
set_option maxHeartbeats 8000000 in
theorem evCalling_any (base : Nat) (q : Option Addr) (c : Nat) (cs : List Cl) (vp : Value) (xs : List Int) (n ph : Int) (w : World) (hown : ClsO base w (.slice q cs.length c) cs) (hbase : base ≤ w.heap.size) (hx : IntsV w vp xs) (hlo : ∀ b o k, vp = .slice (some ⟨b, o, none⟩) xs.length k → b < base) (hl : xs.length ≤ 1000) (hcl : cs.length ≤ 10000000) :
    Calls Try.prog 29 #[.slice q cs.length c, vp, .int .i64 n, .int .i64 ph] w fun e w' => ∃ q' c', e = .returned (.slice q' (cs ++ putC n ph xs).length c') ∧ ClsO base w' (.slice q' (cs ++ putC n ph xs).length c') (cs ++ putC n ph xs) ∧ Chg (Value.slice q cs.length c).ownBlock.toList w w' ∧ MovR (.slice q cs.length c) (.slice q' (cs ++ putC n ph xs).length c') w.heap.size := by
  obtain ⟨p, k, rfl, hc⟩ := hx
  have HC := hide hc
  have HLO := hide hlo
  obtain ⟨iI, hI0, hI1, hI2, hI3⟩ := info_parts info_call
  have HB := hide hown
  clear hc hlo hown
  go_enter Try.func29, Try.ntmps29
  go_wp2_with fail
  go_loopw [0, 13] (fun cv iv wr => ∃ (i : Nat) (q1 : Option Addr) (c1 : Nat), i ≤ xs.length ∧ iv = .int .i64 i ∧ cv = .slice q1 (cs ++ putC n ph (xs.take i)).length c1 ∧ Hid (ClsO base wr (.slice q1 (cs ++ putC n ph (xs.take i)).length c1) (cs ++ putC n ph (xs.take i))) ∧ Hid (Chg (Value.slice q cs.length c).ownBlock.toList w wr) ∧ Hid (MovR (.slice q cs.length c) (.slice q1 (cs ++ putC n ph (xs.take i)).length c1) w.heap.size)) (fun _ iv _ => xs.length - (intOf iv).toNat)
  case atStart =>
    have e : cs ++ putC n ph (xs.take 0) = cs := by rw [List.take_zero]; exact List.append_nil _
    exact ⟨0, q, c, Nat.zero_le _, rfl, by rw [e], by show ClsO _ _ _ _; rw [e]; exact HB.out, Chg.refl _ _, by show MovR _ _ _; rw [e]; exact .inl rfl⟩
  case round =>
    rename World => wr
    obtain ⟨i, q1, c1, hi, rfl, rfl, KX, CX, MX⟩ := hrel
    by_cases g : i < xs.length
    · have i1 : (i : Int) < (xs.length : Int) := by omega
      have i0 : (0 : Int) ≤ (i : Int) := by omega
      obtain ⟨b, o, rfl, hcc⟩ : ∃ b o, p = some ⟨b, o, none⟩ ∧ ∀ i (h : i < xs.length), w.cell? ⟨b, o + i, none⟩ = some (.int .i64 xs[i]) := by
        rcases HC.out with t | t
        · rw [t] at g; simp at g
        · exact t
      have hbl := HLO.out b o _ rfl
      have OWN0 : ∀ j, (Value.slice q cs.length c).ownBlock = some j → base ≤ j := fun j hj => (World.ownsRow.lt HB.out j hj).1
      have cx : wr.cell? ⟨b, o + i, none⟩ = some (.int .i64 xs[i]) := CX.out.cell (hcc i g) (fun t => by
        have := OWN0 _ (opt_mem.1 t)
        have h2 : b < base := hbl
        have h3 : base ≤ b := this
        omega)
      have TK : Hid (cs ++ putC n ph (xs.take (i + 1)) = (cs ++ putC n ph (xs.take i)) ++ [(xs[i], n, ph)]) := by
        show _ = _
        rw [List.take_succ_eq_append_getElem g, putC, List.map_append, List.append_assoc]; rfl
      have fl : (cs ++ putC n ph (xs.take i)).length ≤ 10001000 := by
        rw [List.length_append, putC, List.length_map, List.length_take]; omega
      have AL : Below wr.heap.size wr (wr.alloc (.cells #[.int .i64 xs[i], .int .i64 n, .int .i64 ph] 38)) := (Below.refl _ _).alloc (Nat.le_refl _) _
      have OZ := hide (owns_below KX.out AL)
      have CZ : Hid (Chg (Value.slice q cs.length c).ownBlock.toList w (wr.alloc (.cells #[.int .i64 xs[i], .int .i64 n, .int .i64 ph] 38))) := CX.out.trans (Chg.alloc _ _).nil
      have RAW := hide ((Bk.new wr [.int .i64 xs[i], .int .i64 n, .int .i64 ph] 38).raw 1 3 rfl 1)
      have WZ : Hid (base ≤ (wr.alloc (.cells #[.int .i64 xs[i], .int .i64 n, .int .i64 ph] 38)).heap.size) := by
        show _ ≤ _
        have := CZ.out.size
        omega
      clear hcc AL OWN0
      generalize xs[i] = x at *
      generalize cs ++ putC n ph (xs.take i) = ys at *
      go_wp2_with (at_builtin; refine wpList_append_raw rfl _ _ _ rfl base 38 iI _ 3 24 Try.underlying33 hI0 hI1 hI2 hI3 rfl (by omega) _ ys.length (cellsK ys) rfl OZ.out _ 1 _ rfl RAW.out (by simp [Value.oneCell']) (by unfold maxLen; omega) (by omega) WZ.out ?_; intro q8 k8 w8 own8 gr8 at8)
      have C8 : Hid (Chg (Value.slice q cs.length c).ownBlock.toList w w8) := chg_row CZ.out MX.out (Chg.of_grown gr8)
      have M8 : Hid (MovR (.slice q cs.length c) (.slice q8 (ys.length + 1) k8) w.heap.size) := MX.out.then CZ.out.size at8
      have O8 : Hid (ClsO base w8 (.slice q8 (ys ++ [(x, n, ph)]).length k8) (ys ++ [(x, n, ph)])) := by
        show World.ownsRow _ _ _ _ _ _ _
        rw [List.length_append, cellsK_app]
        exact own8
      clear own8 gr8 at8 OZ RAW
      go_roundw
      case rel => exact ⟨i + 1, q8, k8, by omega, by go_num, by rw [TK.out, List.length_append]; rfl, by show ClsO _ _ _ _; rw [TK.out]; exact O8.out, C8, by show MovR _ _ _; rw [TK.out, List.length_append]; exact M8.out⟩
      case measure => simp [intOf]; omega
    · obtain rfl : i = xs.length := by omega
      rw [List.take_length] at KX MX ⊢
      go_wp2_with fail
      go_ret
      exact ⟨_, _, rfl, KX.out, CX.out, MX.out⟩
set_option maxHeartbeats 8000000 in
theorem evStops_any (p : Option Addr) (n c : Nat) (b : Bool) (w : World) :
    Calls Try.prog 28 #[.slice p n c, .bool b] w fun e w' => e = .returned (.func (.func 33) #[] #[.pointer (some ⟨w.heap.size, 0, none⟩), .pointer (some ⟨w.heap.size + 1, 0, none⟩)]) ∧ w' = (w.alloc (.cells #[.slice p n c] 25)).alloc (.cells #[.bool b] 4) := by
  go_enter Try.func28, Try.ntmps28
  go_wp2_with fail
  go_ret
  exact ⟨by simp, rfl⟩
set_option maxHeartbeats 8000000 in
theorem evBackward_any (p : Option Addr) (n c : Nat) (w : World) :
    Calls Try.prog 34 #[.slice p n c] w fun e w' => e = .returned (.func (.func 38) #[] #[.pointer (some ⟨w.heap.size, 0, none⟩)]) ∧ w' = w.alloc (.cells #[.slice p n c] 25) := by
  go_enter Try.func34, Try.ntmps34
  go_wp2_with fail
  go_ret
  exact ⟨rfl, rfl⟩
/-- From the end, each with its place. -/
def backL (xs : List Int) : List (Array Value) := (xs.zipIdx.reverse).map fun x => #[.int .i64 (x.2 : Int), .int .i64 x.1]
theorem backL_len (xs : List Int) : (backL xs).length = xs.length := by unfold backL; rw [List.length_map, List.length_reverse, List.length_zipIdx]
theorem backL_at {xs : List Int} {k j : Nat} (h : k < (backL xs).length) (hj : j < xs.length) (e : j + k + 1 = xs.length) : (backL xs)[k] = #[.int .i64 (j : Int), .int .i64 xs[j]] := by
  have f : ∀ (h2 : k < ((xs.zipIdx.reverse).map fun x => (#[.int .i64 (x.2 : Int), .int .i64 x.1] : Array Value)).length), ((xs.zipIdx.reverse).map fun x => (#[.int .i64 (x.2 : Int), .int .i64 x.1] : Array Value))[k] = #[.int .i64 (j : Int), .int .i64 xs[j]] := fun h2 => by
    rw [List.getElem_map, List.getElem_reverse, List.getElem_zipIdx]
    have q : xs.zipIdx.length - 1 - k = j := by rw [List.length_zipIdx]; omega
    simp only [q, Nat.zero_add]
  exact f h
theorem Safe.cell {Bc n0 : Nat} {A B : World} {k o : Nat} {v : Value} (h : Safe Bc A k) (hk : KpC Bc n0 A B) (hc : A.cell? ⟨k, o, none⟩ = some v) : B.cell? ⟨k, o, none⟩ = some v := by
  obtain ⟨q, hq, hqc⟩ := obj_of_cell hc
  exact (World.cell?_of_block ((hk.cells k q hq hqc h.ne h.far).trans hq.symm)).trans hc
theorem Safe.below {Bc : Nat} {A B : World} {k : Nat} (h : Safe Bc A k) (hb : Below A.heap.size A B) (hB : Bc < A.heap.size) : Safe Bc B k := h.on (KpC.of_below (n0 := 0) hb hB)
set_option maxHeartbeats 8000000 in
theorem evBack1_any (m Bc n0 b o c Bx : Nat) (xs : List Int) (w : World) (hx : Boxed w Bx 25 (.slice (some ⟨b, o, none⟩) xs.length c)) (hsx : Safe Bc w Bx) (hsb : Safe Bc w b) (hB : Bc < w.heap.size) (hc : ∀ i (h : i < xs.length), w.cell? ⟨b, o + i, none⟩ = some (.int .i64 xs[i])) (hl : xs.length ≤ 1000) :
    SeqL m Try.prog 38 #[.pointer (some ⟨Bx, 0, none⟩)] (backL xs) (KpC Bc n0) w := by
  intro l J W hW _ hJ hY h0
  have HY := hide hY
  have BX0 : Boxed W Bx 25 (.slice (some ⟨b, o, none⟩) xs.length c) := (hW.block _ hx.lt).trans hx
  have SX := hide (hsx.below hW hB)
  have SB := hide (hsb.below hW hB)
  have HC : Hid (∀ i (h : i < xs.length), W.cell? ⟨b, o + i, none⟩ = some (.int .i64 xs[i])) := fun i h => cell_below (hc i h) hW
  have HBX := hide BX0
  have LB : Hid (Bc < W.heap.size) := Nat.lt_of_lt_of_le hB hW.size
  have x0 := BX0.cell
  rw [backL_len]
  clear hx hsx hsb hc hY hW hB BX0 hJ
  refine callsIn_of_wp Try.func38 rfl trivial ?_ rfl
  simp only [Try.ntmps38, List.size_toArray, List.length_cons, List.length_nil, Nat.reduceAdd, Nat.reduceSub, Array.replicate_succ, Array.replicate_zero, List.push_toArray, List.append_toArray, List.nil_append, List.cons_append]
  gi_wp2
  gi_loopw [3] (fun iv wr => ∃ (k : Nat) (z : Int), k ≤ xs.length ∧ iv = .int .i64 z ∧ z + k + 1 = xs.length ∧ Hid (J k wr) ∧ Hid (KpC Bc n0 W wr)) (fun iv _ => (intOf iv + 1).toNat)
  case atStart => exact ⟨0, _, Nat.zero_le _, rfl, by omega, h0, KpC.of_below (Below.refl _ _) LB.out⟩
  case round =>
    obtain ⟨k, z, hk, rfl, ez, hJk, hKp⟩ := hrel
    by_cases g : k < xs.length
    · obtain ⟨j, rfl⟩ : ∃ j : Nat, z = (j : Int) := ⟨z.toNat, by omega⟩
      have hj : j < xs.length := by omega
      have j1 : (j : Int) < (xs.length : Int) := by omega
      have j0 : (0 : Int) ≤ (j : Int) := by omega
      have y0 := (SX.out.box hKp.out HBX.out).cell
      have y1 := SB.out.cell hKp.out (HC.out j hj)
      obtain ⟨fn, tmps, assign, body, hy, hRd⟩ := HY.out k (by rw [backL_len]; exact g) wr hJk.out
      rw [backL_at _ hj (by omega)] at hy
      have hRd := hide hRd
      have EZ := hide ez
      clear ez
      generalize xs[j] = x at *
      gi_wp2
      refine ⟨fun q => (by cases q), (anyRound hRd.out).mono ?_⟩
      rintro e w5 ⟨rfl, J5, K5⟩
      gi_wp2
      go_roundw
      case rel => exact ⟨k + 1, (j : Int) - 1, by omega, rfl, by have := EZ.out; omega, J5, hKp.out.trans K5⟩
      case measure => simp [intOf]
    · obtain rfl : k = xs.length := by omega
      have zn : z < 0 := by omega
      gi_wp2
      go_end0
      exact ⟨⟨_, rfl⟩, hJk.out⟩
end Go.Proofs.Ytmobcijigiacoaa

namespace Go.Proofs.Ytmobcijigiacoaa
open Go.RowKit Go.Shelf
set_option maxRecDepth 100000
attribute [local go_sem] Oper.semAt_some
def stopsL (xs : List Int) (b : Bool) : List (Array Value) := (stopsP xs b).map fun x => #[.int .i64 x.1, .int .i64 x.2]
theorem stopsL_len {xs : List Int} {b : Bool} (h : 0 < xs.length) : (stopsL xs b).length = if b = true then xs.length + (xs.length - 1) else xs.length := by
  unfold stopsL stopsP
  rw [List.length_map, List.length_append, List.length_cons, List.length_map, List.length_dropLast]
  split
  · rw [List.length_map, List.length_reverse, List.length_dropLast]; omega
  · simp; omega
theorem stopsL_1 {xs : List Int} {b : Bool} {k : Nat} (h : k < (stopsL xs b).length) (hk : k < xs.length - 1) : (stopsL xs b)[k] = #[.int .i64 (xs[k]'(by omega)), .int .i64 1] := by
  have f : ((stopsP xs b).map fun x => (#[.int .i64 x.1, .int .i64 x.2] : Array Value))[k]? = some #[.int .i64 (xs[k]'(by omega)), .int .i64 1] := by
    unfold stopsP
    rw [List.getElem?_map, List.getElem?_append_left (by rw [List.length_map, List.length_dropLast]; exact hk), List.getElem?_map, List.getElem?_dropLast, if_pos hk, List.getElem?_eq_getElem (by omega)]
    rfl
  exact Option.some.inj ((List.getElem?_eq_getElem h).symm.trans f)
theorem stopsL_2 {xs : List Int} {b : Bool} {j : Nat} (h : j < (stopsL xs b).length) (hj : j + 1 = xs.length) : (stopsL xs b)[j] = #[.int .i64 (xs[j]'(by omega)), .int .i64 2] := by
  have f : ((stopsP xs b).map fun x => (#[.int .i64 x.1, .int .i64 x.2] : Array Value))[j]? = some #[.int .i64 (xs[j]'(by omega)), .int .i64 2] := by
    unfold stopsP
    have e : (xs.dropLast.map (fun x => (x, (1 : Int)))).length = j := by rw [List.length_map, List.length_dropLast]; omega
    rw [List.getElem?_map, List.getElem?_append_right (by omega), e, Nat.sub_self, List.getElem?_cons_zero]
    have q : xs.getLastD 0 = xs[j]'(by omega) := by
      rw [List.getLastD_eq_getLast?, List.getLast?_eq_getElem?, show xs.length - 1 = j by omega, List.getElem?_eq_getElem (by omega)]
      rfl
    rw [q]
    rfl
  exact Option.some.inj ((List.getElem?_eq_getElem h).symm.trans f)
theorem stopsL_3 {xs : List Int} {i j : Nat} (h : xs.length + i < (stopsL xs true).length) (hj : j + i + 2 = xs.length) : (stopsL xs true)[xs.length + i] = #[.int .i64 (xs[j]'(by omega)), .int .i64 3] := by
  have f : ((stopsP xs true).map fun x => (#[.int .i64 x.1, .int .i64 x.2] : Array Value))[xs.length + i]? = some #[.int .i64 (xs[j]'(by omega)), .int .i64 3] := by
    unfold stopsP
    have e : (xs.dropLast.map (fun x => (x, (1 : Int)))).length = xs.length - 1 := by rw [List.length_map, List.length_dropLast]
    rw [List.getElem?_map, List.getElem?_append_right (by omega), e, show xs.length + i - (xs.length - 1) = i + 1 by omega, List.getElem?_cons_succ, if_pos rfl, List.getElem?_map, List.getElem?_reverse (by rw [List.length_dropLast]; omega), List.length_dropLast, List.getElem?_dropLast, if_pos (by omega), show xs.length - 1 - 1 - i = j by omega, List.getElem?_eq_getElem (by omega)]
    rfl
  exact Option.some.inj ((List.getElem?_eq_getElem h).symm.trans f)
set_option maxHeartbeats 16000000 in
theorem evStops1_false (m Bc b o c Bp Bb : Nat) (xs : List Int) (w : World) (hp : Boxed w Bp 25 (.slice (some ⟨b, o, none⟩) xs.length c)) (hb : Boxed w Bb 4 (.bool false)) (sp : Safe Bc w Bp) (sb : Safe Bc w Bb) (sx : Safe Bc w b) (hB : Bc < w.heap.size) (hri : RowIn Bc w) (hc : ∀ i (h : i < xs.length), w.cell? ⟨b, o + i, none⟩ = some (.int .i64 xs[i])) (hne : 0 < xs.length) (hl : xs.length ≤ 400) (hcap : xs.length ≤ c) :
    SeqL m Try.prog 33 #[.pointer (some ⟨Bp, 0, none⟩), .pointer (some ⟨Bb, 0, none⟩)] (stopsL xs false) (KpC Bc (w.heap.size + 2)) w := by
  intro l J W hW hsz hJ hY h0
  have HY := hide hY
  have HJ := hide hJ
  obtain ⟨n0, hn0⟩ : ∃ n0, w.heap.size + 2 = n0 := ⟨_, rfl⟩
  obtain ⟨r, hr⟩ : ∃ r : Nat, xs.length = r + 1 := ⟨xs.length - 1, by omega⟩
  rw [hn0] at HY hsz
  have LB : Hid (Bc < W.heap.size) := Nat.lt_of_lt_of_le hB hW.size
  have bA : Below W.heap.size W (W.alloc (.cells #[.func (.yield l) #[] #[]] 61)) := (Below.refl _ _).alloc (Nat.le_refl _) _
  have bW := chain hW bA
  have HP := hide (show Boxed (W.alloc (.cells #[.func (.yield l) #[] #[]] 61)) Bp 25 (.slice (some ⟨b, o, none⟩) xs.length c) from (bW.block _ hp.lt).trans hp)
  have HB := hide (show Boxed (W.alloc (.cells #[.func (.yield l) #[] #[]] 61)) Bb 4 (.bool false) from (bW.block _ hb.lt).trans hb)
  have HYB := hide (Boxed.new W 61 (.func (.yield l) #[] #[]))
  have SP := hide (sp.below bW hB)
  have SB := hide (sb.below bW hB)
  have SX := hide (sx.below bW hB)
  have SY : Hid (Safe Bc (W.alloc (.cells #[.func (.yield l) #[] #[]] 61)) W.heap.size) := ⟨Nat.ne_of_gt LB.out, by simp, fun u hu e => by
    have hu2 : Boxed w Bc 33 u := (bW.block Bc hB).symm.trans hu
    have := hri u hu2 _ e
    have h3 := hW.size
    omega⟩
  have HC : Hid (∀ i (h : i < xs.length), (W.alloc (.cells #[.func (.yield l) #[] #[]] 61)).cell? ⟨b, o + i, none⟩ = some (.int .i64 xs[i])) := fun i h => cell_below (hc i h) bW
  have J1 : Hid (J 0 (W.alloc (.cells #[.func (.yield l) #[] #[]] 61))) := hJ.alloc _ h0
  have LW : Hid (Bc < (W.alloc (.cells #[.func (.yield l) #[] #[]] 61)).heap.size) := Nat.lt_of_lt_of_le LB.out bA.size
  have RIN : Hid (RowIn Bc (W.alloc (.cells #[.func (.yield l) #[] #[]] 61))) := fun u hu g hg => Nat.lt_of_lt_of_le (hri u ((bW.block Bc hB).symm.trans hu) g hg) bW.size
  have x1 := HP.out.cell
  clear hp hb sp sb sx hc hY hW hB bA bW hJ h0 hri
  refine callsIn_of_wp_marks Try.func33 rfl trivial ?_ rfl
  simp only [Try.ntmps33, List.size_toArray, List.length_cons, List.length_nil, Nat.reduceAdd, Nat.reduceSub, Array.replicate_succ, Array.replicate_zero, List.push_toArray, List.append_toArray, List.nil_append, List.cons_append]
  gi_wp2
  gi_loopw [16] (fun iv wr => ∃ k : Nat, k ≤ r ∧ iv = .int .i64 k ∧ Hid (J k wr) ∧ Hid (KpC Bc n0 (W.alloc (.cells #[.func (.yield l) #[] #[]] 61)) wr)) (fun iv _ => r - (intOf iv).toNat)
  case atStart => exact ⟨0, Nat.zero_le _, rfl, J1, KpC.of_below (Below.refl _ _) LW.out⟩
  case round =>
    obtain ⟨k, hk, rfl, hJk, hKp⟩ := hrel
    have LEN := hide (stopsL_len (xs := xs) (b := false) hne)
    by_cases g : k < r
    · have k1 : (k : Int) < (r : Int) := by omega
      have k0 : (0 : Int) ≤ (k : Int) := by omega
      have y0 := SX.out.cell hKp.out (HC.out k (by omega))
      have y1 := (SY.out.box hKp.out HYB.out).cell
      have kl : k < (stopsL xs false).length := by rw [LEN.out]; rw [if_neg (by decide)]; omega
      obtain ⟨fn, tmps, assign, body, hy, hRd⟩ := HY.out k kl wr hJk.out
      rw [stopsL_1 kl (by omega)] at hy
      have hRd := hide hRd
      clear kl
      generalize xs[k] = x at *
      gi_wp2
      refine ⟨fun q => (by cases q), (anyRound hRd.out).mono ?_⟩
      rintro e w5 ⟨rfl, J5, K5⟩
      gi_wp2
      go_roundw
      case rel => exact ⟨k + 1, by omega, by go_num, J5, hKp.out.trans K5⟩
      case measure => simp [intOf]; omega
    · obtain rfl : k = r := by omega
      have k1 : (k : Int) < (xs.length : Int) := by omega
      have k0 : (0 : Int) ≤ (k : Int) := by omega
      have y0 := SX.out.cell hKp.out (HC.out k (by omega))
      have y1 := (SY.out.box hKp.out HYB.out).cell
      have y2 := (SP.out.box hKp.out HP.out).cell
      have kl : k < (stopsL xs false).length := by rw [LEN.out]; rw [if_neg (by decide)]; omega
      have bD : Below wr.heap.size wr wr.drew := ⟨rfl, rfl, rfl, Nat.le_refl _, fun _ _ => rfl⟩
      have JD : J k wr.drew := HJ.out k wr wr.drew none hJk.out ⟨rfl, rfl, rfl, Nat.le_refl _, fun _ _ _ => rfl⟩ (fun r e => by cases e)
      have hKp : Hid (KpC Bc n0 (W.alloc (.cells #[.func (.yield l) #[] #[]] 61)) wr.drew) := hKp.out.trans (KpC.of_below bD (Nat.lt_of_lt_of_le LW.out hKp.out.size))
      obtain ⟨fn, tmps, assign, body, hy, hRd⟩ := HY.out k kl wr.drew JD
      have JD := hide JD
      clear bD
      rw [stopsL_2 kl hr.symm] at hy
      have hRd := hide hRd
      clear kl
      gi_wp2
      have x4 := HC.out k (by omega)
      generalize xs[k] = x at *
      refine wpIn_mono (Q := fun e a' W' => match e with
        | .normal => a' = { tmps := #[.func (.yield l) #[] #[], .pointer (some ⟨Bp, 0, none⟩), .pointer (some ⟨Bb, 0, none⟩), .pointer (some ⟨W.heap.size, 0, none⟩), .int .i64 k, undef, u6, undef, undef, .slice (some ⟨b, o, none⟩) (k + 1) c, .int .i64 ((k : Int) + 1), .int .i64 k, .slice (some ⟨b, o, none⟩) (k + 1) c, .int .i64 k, .slice (some ⟨b, o, none⟩) k c, .int .i64 k, .int .i64 k, .bool false, u18, u19, u20, u21, u22, u23, u24, .func (.yield l) #[] #[], .slice (some ⟨b, o, none⟩) (k + 1) c, .int .i64 k, .pointer (some ⟨b, o + k, none⟩), .int .i64 x, .bool true, .bool false, .bool false, .bool false, .bool true, .bool true, undef, undef, undef, undef, undef, undef, undef, undef, undef, undef], defers := [] } ∧ Hid (J (k + 1) W') ∧ Hid (KpC Bc n0 (W.alloc (.cells #[.func (.yield l) #[] #[]] 61)) W')
        | _ => False) ?_ ?_
      · have hm : Try.prog.follows .mixedOrders = true := by kernel_rfl
        gi_region_with_o (refine ⟨fun q => (by cases q), (anyRound hRd.out).mono ?_⟩; rintro e w5 ⟨rfl, J5, K5⟩; have K5 := hide (hKp.out.trans K5); have z0 := (SB.out.box K5.out HB.out).cell)
        all_goals exact ⟨rfl, J5, K5⟩
      · intro e a' w5 hQ
        cases e <;> first | exact hQ.elim | skip
        obtain ⟨rfl, J5, K5⟩ := hQ
        clear y0 y1 y2 hy hRd x4
        have z2 := (SP.out.box K5.out HP.out).cell
        gi_wp2
        exact ⟨_, results_none rfl _ _ _, ⟨_, rfl⟩, by rw [LEN.out, if_neg (by decide), hr]; exact J5.out⟩
set_option maxHeartbeats 16000000 in
theorem evStops1_true (m Bc b o c Bp Bb : Nat) (xs : List Int) (w : World) (hp : Boxed w Bp 25 (.slice (some ⟨b, o, none⟩) xs.length c)) (hb : Boxed w Bb 4 (.bool true)) (sp : Safe Bc w Bp) (sb : Safe Bc w Bb) (sx : Safe Bc w b) (hB : Bc < w.heap.size) (hri : RowIn Bc w) (hc : ∀ i (h : i < xs.length), w.cell? ⟨b, o + i, none⟩ = some (.int .i64 xs[i])) (hne : 0 < xs.length) (hl : xs.length ≤ 400) (hcap : xs.length ≤ c) :
    SeqL m Try.prog 33 #[.pointer (some ⟨Bp, 0, none⟩), .pointer (some ⟨Bb, 0, none⟩)] (stopsL xs true) (KpC Bc (w.heap.size + 2)) w := by
  intro l J W hW hsz hJ hY h0
  have HY := hide hY
  have HJ := hide hJ
  obtain ⟨n0, hn0⟩ : ∃ n0, w.heap.size + 2 = n0 := ⟨_, rfl⟩
  obtain ⟨r, hr⟩ : ∃ r : Nat, xs.length = r + 1 := ⟨xs.length - 1, by omega⟩
  rw [hn0] at HY hsz
  have LB : Hid (Bc < W.heap.size) := Nat.lt_of_lt_of_le hB hW.size
  have bA : Below W.heap.size W (W.alloc (.cells #[.func (.yield l) #[] #[]] 61)) := (Below.refl _ _).alloc (Nat.le_refl _) _
  have bW := chain hW bA
  have HP := hide (show Boxed (W.alloc (.cells #[.func (.yield l) #[] #[]] 61)) Bp 25 (.slice (some ⟨b, o, none⟩) xs.length c) from (bW.block _ hp.lt).trans hp)
  have HB := hide (show Boxed (W.alloc (.cells #[.func (.yield l) #[] #[]] 61)) Bb 4 (.bool true) from (bW.block _ hb.lt).trans hb)
  have HYB := hide (Boxed.new W 61 (.func (.yield l) #[] #[]))
  have SP := hide (sp.below bW hB)
  have SB := hide (sb.below bW hB)
  have SX := hide (sx.below bW hB)
  have SY : Hid (Safe Bc (W.alloc (.cells #[.func (.yield l) #[] #[]] 61)) W.heap.size) := ⟨Nat.ne_of_gt LB.out, by simp, fun u hu e => by
    have hu2 : Boxed w Bc 33 u := (bW.block Bc hB).symm.trans hu
    have := hri u hu2 _ e
    have h3 := hW.size
    omega⟩
  have HC : Hid (∀ i (h : i < xs.length), (W.alloc (.cells #[.func (.yield l) #[] #[]] 61)).cell? ⟨b, o + i, none⟩ = some (.int .i64 xs[i])) := fun i h => cell_below (hc i h) bW
  have J1 : Hid (J 0 (W.alloc (.cells #[.func (.yield l) #[] #[]] 61))) := hJ.alloc _ h0
  have LW : Hid (Bc < (W.alloc (.cells #[.func (.yield l) #[] #[]] 61)).heap.size) := Nat.lt_of_lt_of_le LB.out bA.size
  have RIN : Hid (RowIn Bc (W.alloc (.cells #[.func (.yield l) #[] #[]] 61))) := fun u hu g hg => Nat.lt_of_lt_of_le (hri u ((bW.block Bc hB).symm.trans hu) g hg) bW.size
  have x1 := HP.out.cell
  clear hp hb sp sb sx hc hY hW hB bA bW hJ h0 hri
  refine callsIn_of_wp_marks Try.func33 rfl trivial ?_ rfl
  simp only [Try.ntmps33, List.size_toArray, List.length_cons, List.length_nil, Nat.reduceAdd, Nat.reduceSub, Array.replicate_succ, Array.replicate_zero, List.push_toArray, List.append_toArray, List.nil_append, List.cons_append]
  gi_wp2
  gi_loopw [16] (fun iv wr => ∃ k : Nat, k ≤ r ∧ iv = .int .i64 k ∧ Hid (J k wr) ∧ Hid (KpC Bc n0 (W.alloc (.cells #[.func (.yield l) #[] #[]] 61)) wr)) (fun iv _ => r - (intOf iv).toNat)
  case atStart => exact ⟨0, Nat.zero_le _, rfl, J1, KpC.of_below (Below.refl _ _) LW.out⟩
  case round =>
    obtain ⟨k, hk, rfl, hJk, hKp⟩ := hrel
    have LEN := hide (stopsL_len (xs := xs) (b := true) hne)
    by_cases g : k < r
    · have k1 : (k : Int) < (r : Int) := by omega
      have k0 : (0 : Int) ≤ (k : Int) := by omega
      have y0 := SX.out.cell hKp.out (HC.out k (by omega))
      have y1 := (SY.out.box hKp.out HYB.out).cell
      have kl : k < (stopsL xs true).length := by rw [LEN.out]; rw [if_pos rfl]; omega
      obtain ⟨fn, tmps, assign, body, hy, hRd⟩ := HY.out k kl wr hJk.out
      rw [stopsL_1 kl (by omega)] at hy
      have hRd := hide hRd
      clear kl
      generalize xs[k] = x at *
      gi_wp2
      refine ⟨fun q => (by cases q), (anyRound hRd.out).mono ?_⟩
      rintro e w5 ⟨rfl, J5, K5⟩
      gi_wp2
      go_roundw
      case rel => exact ⟨k + 1, by omega, by go_num, J5, hKp.out.trans K5⟩
      case measure => simp [intOf]; omega
    · obtain rfl : k = r := by omega
      have k1 : (k : Int) < (xs.length : Int) := by omega
      have k0 : (0 : Int) ≤ (k : Int) := by omega
      have y0 := SX.out.cell hKp.out (HC.out k (by omega))
      have y1 := (SY.out.box hKp.out HYB.out).cell
      have y2 := (SP.out.box hKp.out HP.out).cell
      have kl : k < (stopsL xs true).length := by rw [LEN.out]; rw [if_pos rfl]; omega
      have bD : Below wr.heap.size wr wr.drew := ⟨rfl, rfl, rfl, Nat.le_refl _, fun _ _ => rfl⟩
      have JD : J k wr.drew := HJ.out k wr wr.drew none hJk.out ⟨rfl, rfl, rfl, Nat.le_refl _, fun _ _ _ => rfl⟩ (fun r e => by cases e)
      have hKp : Hid (KpC Bc n0 (W.alloc (.cells #[.func (.yield l) #[] #[]] 61)) wr.drew) := hKp.out.trans (KpC.of_below bD (Nat.lt_of_lt_of_le LW.out hKp.out.size))
      obtain ⟨fn, tmps, assign, body, hy, hRd⟩ := HY.out k kl wr.drew JD
      have JD := hide JD
      clear bD
      rw [stopsL_2 kl hr.symm] at hy
      have hRd := hide hRd
      clear kl
      gi_wp2
      have x4 := HC.out k (by omega)
      generalize xs[k] = x at *
      refine wpIn_mono (Q := fun e a' W' => match e with
        | .normal => a' = { tmps := #[.func (.yield l) #[] #[], .pointer (some ⟨Bp, 0, none⟩), .pointer (some ⟨Bb, 0, none⟩), .pointer (some ⟨W.heap.size, 0, none⟩), .int .i64 k, undef, u6, undef, undef, .slice (some ⟨b, o, none⟩) (k + 1) c, .int .i64 ((k : Int) + 1), .int .i64 k, .slice (some ⟨b, o, none⟩) (k + 1) c, .int .i64 k, .slice (some ⟨b, o, none⟩) k c, .int .i64 k, .int .i64 k, .bool false, u18, u19, u20, u21, u22, u23, u24, .func (.yield l) #[] #[], .slice (some ⟨b, o, none⟩) (k + 1) c, .int .i64 k, .pointer (some ⟨b, o + k, none⟩), .int .i64 x, .bool true, .bool false, .bool false, .bool true, .bool false, .bool false, undef, undef, undef, undef, undef, undef, undef, undef, undef, undef], defers := [] } ∧ Hid (J (k + 1) W') ∧ Hid (KpC Bc n0 (W.alloc (.cells #[.func (.yield l) #[] #[]] 61)) W')
        | _ => False) ?_ ?_
      · have hm : Try.prog.follows .mixedOrders = true := by kernel_rfl
        gi_region_with_o (refine ⟨fun q => (by cases q), (anyRound hRd.out).mono ?_⟩; rintro e w5 ⟨rfl, J5, K5⟩; have K5 := hide (hKp.out.trans K5); have z0 := (SB.out.box K5.out HB.out).cell)
        all_goals exact ⟨rfl, J5, K5⟩
      · intro e a' w5 hQ
        cases e <;> first | exact hQ.elim | skip
        obtain ⟨rfl, J5, K5⟩ := hQ
        clear y0 y1 y2 hy hRd x4
        have z2 := (SP.out.box K5.out HP.out).cell
        gi_wp2
        refine ⟨trivial, fun q => (by cases q), ?_⟩
        refine (callsIn_wide.2 (evBackward_any (some ⟨b, o, none⟩) k c w5)).mono ?_
        rintro e w6 ⟨rfl, hw6⟩
        have b6 : Below w5.heap.size w5 w6 := by rw [hw6]; exact (Below.refl _ _).alloc (Nat.le_refl _) _
        have L5 : Bc < w5.heap.size := Nat.lt_of_lt_of_le LW.out K5.out.size
        have K6 := hide (K5.out.trans (KpC.of_below b6 L5))
        have J6 : J (k + 1) w6 := by rw [hw6]; exact HJ.out.alloc _ J5.out
        have BX6 : Boxed w6 w5.heap.size 25 (.slice (some ⟨b, o, none⟩) (xs.take k).length c) := by
          rw [hw6, show (xs.take k).length = k by rw [List.length_take]; omega]; exact Boxed.new w5 _ _
        have S6 : Safe Bc w6 w5.heap.size := ⟨Nat.ne_of_gt L5, by rw [hw6]; simp, fun u hu e => by
          have := K5.out.rin RIN.out u ((b6.block Bc L5).symm.trans hu) _ e
          omega⟩
        have SX6 := SX.out.on K6.out
        have C6 : ∀ i (h : i < (xs.take k).length), w6.cell? ⟨b, o + i, none⟩ = some (.int .i64 (xs.take k)[i]) := fun i h => by
          have h2 : i < xs.length := by rw [List.length_take] at h; omega
          rw [List.getElem_take]
          exact SX.out.cell K6.out (HC.out i h2)
        have L6 : Bc < w6.heap.size := Nat.lt_of_lt_of_le L5 b6.size
        have SEQ := hide (evBack1_any m Bc (w6.heap.size + 2) b o c w5.heap.size (xs.take k) w6 BX6 S6 SX6 L6 C6 (by rw [List.length_take]; omega))
        have sW : W.heap.size + 1 ≤ w6.heap.size := by have := K6.out.size; simp at this; exact this
        have EL : Hid (∀ i (h : i < (backL (xs.take k)).length), (backL (xs.take k))[i] = #[.int .i64 ((k - 1 - i : Nat) : Int), .int .i64 (xs.getD (k - 1 - i) 0)]) := fun i h => by
          have h2 := h
          rw [backL_len, List.length_take] at h2
          rw [backL_at h (j := k - 1 - i) (by rw [List.length_take]; omega) (by rw [List.length_take]; omega), List.getElem_take, List.getD_eq_getElem?_getD, List.getElem?_eq_getElem (by omega)]
          rfl
        have BLN : Hid ((backL (xs.take k)).length = k) := by show _ = _; rw [backL_len, List.length_take]; omega
        have SZ5 := hide L5
        clear b6 L5 BX6 S6 SX6 C6 hw6
        gi_wp2
        refine wpIn_range_list (gf := 38) (lb := #[.pointer (some ⟨w5.heap.size, 0, none⟩)]) rfl (enters_of Try.func38 (by kernel_rfl) rfl) SEQ.out (fun i h => by rw [EL.out i h]; rfl) (fun h k => KpC.trans h k) (fun W o o' h ho => KpC.put o' h ho (by omega) (by omega))
          (fun i W' => J (k + 1 + i) W' ∧ KpC Bc n0 (W.alloc (.cells #[.func (.yield l) #[] #[]] 61)) W')
          (fun i A B row hs hb hr => ⟨HJ.out _ A B row hs.1 hb (fun r e => ⟨by have := (hr r e).1; omega, (hr r e).2⟩), hs.2.grown hb (B := w6.heap.size) (fun r e => (hr r e).1) K6.out.size LW.out⟩)
          ⟨J6, K6.out⟩
          (fun i => { tmps := #[.func (.yield l) #[] #[], .pointer (some ⟨Bp, 0, none⟩), .pointer (some ⟨Bb, 0, none⟩), .pointer (some ⟨W.heap.size, 0, none⟩), .int .i64 k, undef, u6, undef, .int .i64 (xs.getD (k - 1 - i) 0), .slice (some ⟨b, o, none⟩) (k + 1) c, .int .i64 ((k : Int) + 1), .int .i64 k, .slice (some ⟨b, o, none⟩) (k + 1) c, .int .i64 k, .slice (some ⟨b, o, none⟩) k c, .int .i64 k, .int .i64 k, .bool false, u18, u19, u20, u21, u22, u23, u24, .func (.yield l) #[] #[], .slice (some ⟨b, o, none⟩) (k + 1) c, .int .i64 k, .pointer (some ⟨b, o + k, none⟩), .int .i64 x, .bool true, .bool false, .bool false, .bool true, .bool false, .bool false, .slice (some ⟨b, o, none⟩) (k + 1) c, .int .i64 k, .slice (some ⟨b, o, none⟩) k c, .func (.func 38) #[] #[.pointer (some ⟨w5.heap.size, 0, none⟩)], .int .i64 ((k - 1 - i : Nat) : Int), .int .i64 (xs.getD (k - 1 - i) 0), undef, undef, undef, undef], defers := [] })
          ?assign ?body ?done
        case assign =>
          intro l2 i hi W2 K hK
          rw [EL.out i hi]
          gi_wp2
          exact hK
        case body =>
          rintro l2 i hi W2 ⟨hJi, hKi⟩
          rw [BLN.out] at hi
          have hJi := hide hJi
          have hKi := hide hKi
          have z1 := (SY.out.box hKi.out HYB.out).cell
          have kl2 : xs.length + i < (stopsL xs true).length := by rw [LEN.out, if_pos trivial]; omega
          obtain ⟨fn2, tmps2, assign2, body2, hy2, hRd2⟩ := HY.out (xs.length + i) kl2 W2 (by rw [hr]; exact hJi.out)
          have e3 := stopsL_3 (j := k - 1 - i) kl2 (by omega)
          have e4 : xs.getD (k - 1 - i) 0 = xs[k - 1 - i]'(by omega) := by rw [List.getD_eq_getElem?_getD, List.getElem?_eq_getElem (by omega)]; rfl
          rw [e3, ← e4] at hy2
          have hRd2 := hide hRd2
          clear e3 e4 kl2
          generalize xs.getD (k - 1 - i) 0 = y at *
          gi_wp2
          refine ⟨fun q => (by cases q), (show RoundIn (Fence.wide.inRound l2) _ _ _ _ _ _ _ _ _ from anyRound hRd2.out).mono ?_⟩
          rintro e w7 ⟨rfl, J7, K7⟩
          have J7 := hide J7
          have K7 := hide K7
          gi_wp2
          refine ⟨⟨K7.out.size, fun a p ha h1 h2 => K7.out.oth a p (by omega) h1 h2⟩, K7.out.mono (by omega), ?_, hKi.out.trans K7.out⟩
          rw [show k + 1 + (i + 1) = xs.length + i + 1 by omega]
          exact J7.out
        case done =>
          rintro D W2 hD ⟨hJi, hKi⟩ hK
          rw [BLN.out] at hJi
          have hJi := hide hJi
          gi_wp2
          refine ⟨by simp, .inl ⟨_, _, rfl, run_takeDeferred hK, ?_⟩⟩
          refine ⟨_, results_none rfl _ _ _, ⟨_, rfl⟩, ?_⟩
          rw [LEN.out, if_pos trivial, hr, show k + 1 + (k + 1 - 1) = k + 1 + k by omega]
          exact HJ.out.putObj _ hJi.out (by omega) hK rfl
end Go.Proofs.Ytmobcijigiacoaa

namespace Go.Proofs.Ytmobcijigiacoaa
open Go.RowKit Go.Shelf
set_option maxRecDepth 100000
/-- The box Bc holds a row of the calls cs; the box Ba who listens. -/
structure StC (base b0 g Bc Ba N : Nat) (w0 : World) (G : List (List Int)) (V : List Value) (cs : List Cl) (W : World) : Prop where
  row : ∃ q c, Boxed W Bc 33 (.slice q cs.length c) ∧ ClsO base W (.slice q cs.length c) cs
  box : Boxed W Ba 50 (.slice (some ⟨g, 0, none⟩) N N)
  rows : RowsH b0 W (.slice (some ⟨g, 0, none⟩) N N) G V N
  below : Below w0.heap.size w0 W
  size : base ≤ W.heap.size
theorem cells_on {W W' : World} {row : Option Nat} (hg : W.grownBy W' row) (hr : ∀ r, row = some r → ∃ o : Obj, W.heap[r]? = some o ∧ o.isCells = false) {k : Nat} {o : Obj} (hk : W.heap[k]? = some o) (ho : o.isCells = true) : W'.heap[k]? = some o :=
  (hg.block k (heap_lt hk) (fun e => by
    obtain ⟨p, hp, hc⟩ := hr k e.symm
    rw [hk] at hp; cases hp; rw [ho] at hc; cases hc)).trans hk
theorem owns_on {W W' : World} {row : Option Nat} (hg : W.grownBy W' row) (hr : ∀ r, row = some r → ∃ o : Obj, W.heap[r]? = some o ∧ o.isCells = false) {base : Nat} {e : TypeId} {size : Nat} {v : Value} {n : Nat} {xs : List Value} (h : W.ownsRow base e size v n xs) : W'.ownsRow base e size v n xs := by
  refine ⟨h.1, ?_⟩
  rcases h.2 with q | ⟨g, cap, cur, rfl, h1, h2, h3⟩
  · exact .inl q
  · exact .inr ⟨g, cap, cur, rfl, h1, cells_on hg hr h2 rfl, h3⟩
theorem StC.from {base b0 g Bc Ba N B : Nat} {w0 : World} {G : List (List Int)} {V : List Value} {f : Nat → List Cl} (hB : w0.heap.size ≤ B) : OwnFrom B (fun i W => StC base b0 g Bc Ba N w0 G V (f i) W) := fun s W W' row hs hg hr => by
  have hr' : ∀ r, row = some r → ∃ o : Obj, W.heap[r]? = some o ∧ o.isCells = false := fun r e => (hr r e).2
  obtain ⟨q, c, h1, h2⟩ := hs.row
  exact ⟨⟨q, c, cells_on hg hr' h1 rfl, owns_on hg hr' h2⟩, cells_on hg hr' hs.box rfl, ⟨hs.rows.len, owns_on hg hr' hs.rows.row, fun i hi => owns_on hg hr' (hs.rows.at_ i hi), hs.rows.far⟩,
    ⟨hg.os.trans hs.below.os, hg.tape.trans hs.below.tape, hg.output.trans hs.below.output, Nat.le_trans hs.below.size hg.size, fun k hk => (hg.block k (Nat.lt_of_lt_of_le hk hs.below.size) (fun e => by have := (hr k e.symm).1; omega)).trans (hs.below.block k hk)⟩, Nat.le_trans hs.size hg.size⟩
theorem boxed_chg {S : List Nat} {W W' : World} {B : Nat} {t : TypeId} {v : Value} (h : Boxed W B t v) (hc : Chg S W W') (hn : B ∉ S) : Boxed W' B t v := (hc.block B h.lt hn).trans h
theorem boxed_far {W : World} {B g k : Nat} {t : TypeId} {v u : Value} (h : Boxed W B t v) (hn : B ≠ g) : Boxed (W.setCell ⟨g, k, none⟩ u) B t v := (Below.heap_setCell _ _ _ _ hn).trans h
/-- One step: the row grew, and was stored into its box. -/
theorem StC.step {base b0 g Bc Ba N n0 B : Nat} {w0 W w5 : World} {G : List (List Int)} {V : List Value} {cs ds : List Cl} {q q' : Option Addr} {c c' : Nat} (h : StC base b0 g Bc Ba N w0 G V cs W) (hq : Boxed W Bc 33 (.slice q cs.length c)) (ho : ClsO base W (.slice q cs.length c) cs)
    (h5 : ClsO base w5 (.slice q' ds.length c') ds) (hc : Chg (Value.slice q cs.length c).ownBlock.toList W w5) (hm : MovR (.slice q cs.length c) (.slice q' ds.length c') W.heap.size)
    (hBc : Bc < base) (hBa : Ba < base) (hne : Ba ≠ Bc) (hg : g < base) (hgc : g ≠ Bc) (hgr : ∀ i b, i < G.length → (hAt V i).ownBlock = some b → b < base ∧ b ≠ Bc) (hw : w0.heap.size ≤ Bc) (hwb : w0.heap.size ≤ base) :
    (w5.cell? ⟨Bc, 0, none⟩ = some (.slice q cs.length c) ∧ w5.frozen? ⟨Bc, 0, none⟩ = false) ∧ Boxed w5 Ba 50 (.slice (some ⟨g, 0, none⟩) N N) ∧ RowsH b0 w5 (.slice (some ⟨g, 0, none⟩) N N) G V N ∧
    StC base b0 g Bc Ba N w0 G V ds (w5.setCell ⟨Bc, 0, none⟩ (.slice q' ds.length c')) ∧ KpC Bc n0 W (w5.setCell ⟨Bc, 0, none⟩ (.slice q' ds.length c')) ∧ KeepsFrom B W (w5.setCell ⟨Bc, 0, none⟩ (.slice q' ds.length c')) := by
  have OWN : ∀ j, (Value.slice q cs.length c).ownBlock = some j → base ≤ j ∧ j < W.heap.size := fun j hj => ⟨(World.ownsRow.lt ho j hj).1, (World.ownsRow.lt ho j hj).2⟩
  have NIN : ∀ k, k < base → k ∉ (Value.slice q cs.length c).ownBlock.toList := fun k hk t => by have := (OWN k (opt_mem.1 t)).1; omega
  have b5 : Boxed w5 Bc 33 (.slice q cs.length c) := boxed_chg hq hc (NIN _ hBc)
  have a5 := boxed_chg h.box hc (NIN _ hBa)
  have r5 : RowsH b0 w5 (.slice (some ⟨g, 0, none⟩) N N) G V N := ⟨h.rows.len, owns_kept h.rows.row hc (fun k hk => by cases hk; exact NIN _ hg), fun i hi => owns_kept (h.rows.at_ i hi) hc (fun k hk => NIN _ (hgr i k hi hk).1), h.rows.far⟩
  have W5 : Below w0.heap.size w0 w5 := h.below.trans (hc.below h.below.size (fun k hk => Nat.le_trans hwb (OWN k (opt_mem.1 hk)).1))
  have CS := Chg.setB w5 Bc 0 (.slice q' ds.length c')
  have O5 : ∀ j, (Value.slice q' ds.length c').ownBlock = some j → base ≤ j ∧ j < w5.heap.size := fun j hj => ⟨(World.ownsRow.lt h5 j hj).1, (World.ownsRow.lt h5 j hj).2⟩
  have sz : (w5.setCell ⟨Bc, 0, none⟩ (.slice q' ds.length c')).heap.size = w5.heap.size := World.size_setCell _ _ _
  have n1 : ∀ k : Nat, k ≠ Bc → k ∉ [Bc] := fun k hk t => hk (List.mem_singleton.1 t)
  refine ⟨⟨b5.cell, b5.frozen⟩, a5, r5, ⟨⟨q', c', b5.set _, ?_⟩, boxed_far a5 hne, ⟨r5.len, owns_kept r5.row CS (fun k hk => by cases hk; exact n1 _ hgc), fun i hi => owns_kept (r5.at_ i hi) CS (fun k hk => n1 _ (hgr i k hi hk).2), r5.far⟩, ?_, ?_⟩, ?_, ?_⟩
  · exact owns_kept h5 CS (fun k hk => n1 _ (by have := (O5 k hk).1; omega))
  · exact ⟨W5.os, W5.tape, W5.output, by rw [sz]; exact W5.size, fun k hk => (Below.heap_setCell _ _ _ _ (fun e => by have e2 : k = Bc := e; omega)).trans (W5.block k hk)⟩
  · rw [sz]; exact Nat.le_trans h.size hc.size
  · refine ⟨by rw [sz]; exact hc.size, fun k p hk hp hn hr => ?_, fun k p _ hk hp => ?_, fun u' hu j hj => ?_, fun _ u' hu j hj => ?_⟩
    · exact (Below.heap_setCell _ _ _ _ (fun e => hn e)).trans ((hc.block k (heap_lt hk) (fun t => hr _ hq (opt_mem.1 t))).trans hk)
    · have nb : k ≠ Bc := fun e => by subst e; rw [show W.heap[k]? = _ from hq] at hk; cases hk; cases hp
      refine (Below.heap_setCell _ _ _ _ (fun e => nb e)).trans ((hc.block k (heap_lt hk) (fun t => ?_)).trans hk)
      rcases ho.2 with ⟨e, _⟩ | ⟨j, cap, cur, e, _, hj, _⟩
      · rw [e] at t; cases t
      · rw [e] at t
        obtain rfl : j = k := Option.some.inj (opt_mem.1 t)
        rw [hj] at hk; cases hk; cases hp
    · have e : u' = .slice q' ds.length c' := by
        have h1 : (w5.setCell ⟨Bc, 0, none⟩ (.slice q' ds.length c')).heap[Bc]? = _ := b5.set (.slice q' ds.length c')
        have h2 : (w5.setCell ⟨Bc, 0, none⟩ (.slice q' ds.length c')).heap[Bc]? = _ := hu
        rw [h1] at h2
        simpa using h2.symm
      subst e
      rcases hm with e | e
      · exact .inl ⟨_, hq, e ▸ hj⟩
      · exact .inr (e j hj)
    · have e : u' = .slice q' ds.length c' := by
        have h1 : (w5.setCell ⟨Bc, 0, none⟩ (.slice q' ds.length c')).heap[Bc]? = _ := b5.set (.slice q' ds.length c')
        have h2 : (w5.setCell ⟨Bc, 0, none⟩ (.slice q' ds.length c')).heap[Bc]? = _ := hu
        rw [h1] at h2
        simpa using h2.symm
      subst e
      rw [sz]
      exact (O5 j hj).2
  · refine ⟨by rw [sz]; exact hc.size, fun k p _ hk hp => ?_⟩
    have nb : k ≠ Bc := fun e => by subst e; rw [show W.heap[k]? = _ from hq] at hk; cases hk; cases hp
    refine (Below.heap_setCell _ _ _ _ (fun e => nb e)).trans ((hc.block k (heap_lt hk) (fun t => ?_)).trans hk)
    rcases ho.2 with ⟨e, _⟩ | ⟨j, cap, cur, e, _, hj, _⟩
    · rw [e] at t; cases t
    · rw [e] at t
      obtain rfl : j = k := Option.some.inj (opt_mem.1 t)
      rw [hj] at hk; cases hk; cases hp

end Go.Proofs.Ytmobcijigiacoaa
