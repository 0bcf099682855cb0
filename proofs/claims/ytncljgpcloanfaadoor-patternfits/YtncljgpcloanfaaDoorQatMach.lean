/- The program's machine in memory: its states; what a call may change; 'add'. Condition: fewer than 900000 states. The program's 'addAtom' and 'addTimes', by the level of groups. Condition: fewer than 900000 states. The program's 'addTimes' and 'addLoop', by the level of groups. Condition: fewer than 900000 states. The program's 'addPiece' and 'addRow', by the level of groups. Condition: fewer than 900000 states. The program's 'addGroup', at every level of groups, and 'build'. Condition: fewer than 900000 states. The program's 'build'. Condition: fewer than 800000 states. -/
import Derived.Test.YtncljgpcloanfaaDoorQatQG
import Derived.Test.YtncljgpcloanfaaDoorQatAuto
import Derived.Deep.RegionLaw
namespace Go.Proofs.YtncljgpcloanfaaDoor
open Go.RowKit

/-- Rows of numbers of states. -/
def NextIs (h : Hp) (v : Value) (l : List Nat) : Prop := RowIn h 3 1 v l.length (l.map cellI)
theorem NextIs.mono {h h' : Hp} {v : Value} {l : List Nat} (a : NextIs h v l) (s : h.Sub h') : NextIs h' v l := RowIn.mono a s
/-- A state in memory: four cells. -/
def StIs (h : Hp) (c0 c1 c2 c3 : Value) (st : St) : Prop := c0 = .bool st.eats ∧ (∃ oth sp, SpansIs h c1 sp ∧ c2 = .bool oth ∧ sp.length ≤ 1000 ∧ (st.eats = true → ∀ c, hasS sp oth c = st.has c)) ∧ NextIs h c3 st.next ∧ (st.eats = true → st.next.length = 1)
theorem StIs.mono {h h' : Hp} {c0 c1 c2 c3 : Value} {st : St} (a : StIs h c0 c1 c2 c3 st) (s : h.Sub h') : StIs h' c0 c1 c2 c3 st := by
  obtain ⟨a1, ⟨oth, sp, a2, a3, a4⟩, a5, a6⟩ := a
  exact ⟨a1, ⟨oth, sp, a2.mono s, a3, a4⟩, a5.mono s, a6⟩
/-- What a call may change: the blocks of P, and what is new; P' is the machine's then. -/
structure MGo (P P' : Nat → Prop) (w w' : World) : Prop where
  os : w'.os = w.os
  tape : w'.tape = w.tape
  output : w'.output = w.output
  size : w.heap.size ≤ w'.heap.size
  keep : ∀ k, k < w.heap.size → ¬ P k → w'.heap[k]? = w.heap[k]?
  foot : ∀ k, P' k → P k ∨ w.heap.size ≤ k
theorem MGo.refl (P : Nat → Prop) (w : World) : MGo P P w w := ⟨rfl, rfl, rfl, Nat.le_refl _, fun _ _ _ => rfl, fun _ h => .inl h⟩
theorem MGo.trans {P P' P'' : Nat → Prop} {w w' w'' : World} (a : MGo P P' w w') (b : MGo P' P'' w' w'') : MGo P P'' w w'' :=
  ⟨b.os.trans a.os, b.tape.trans a.tape, b.output.trans a.output, Nat.le_trans a.size b.size, fun k hk hn => by
    rw [b.keep k (Nat.lt_of_lt_of_le hk a.size) (fun h => by
      rcases a.foot k h with g | g
      · exact hn g
      · omega)]
    exact a.keep k hk hn, fun k h => by
    rcases b.foot k h with g | g
    · exact a.foot k g
    · exact .inr (Nat.le_trans a.size g)⟩
theorem MGo.grown {P P' : Nat → Prop} {w w' w'' : World} {row : Option Nat} (a : MGo P P' w w') (b : w'.grownBy w'' row) (hr : ∀ k, row = some k → P k ∨ w.heap.size ≤ k) : MGo P P' w w'' :=
  ⟨b.os.trans a.os, b.tape.trans a.tape, b.output.trans a.output, Nat.le_trans a.size b.size, fun k hk hn => by
    rw [b.block k (Nat.lt_of_lt_of_le hk a.size) (fun e => by
      rcases hr k e.symm with g | g
      · exact hn g
      · omega)]
    exact a.keep k hk hn, a.foot⟩
theorem MGo.alloc {P P' : Nat → Prop} {w w' : World} (a : MGo P P' w w') (o : Obj) : MGo P P' w (w'.alloc o) := a.grown (World.grownBy_alloc w' o none) (fun _ e => by cases e)
theorem MGo.heap {P P' : Nat → Prop} {w w' : World} (a : MGo P P' w w') {k : Nat} {x : Obj} (hx : w.heap[k]? = some x) (hn : ¬ P k) : w'.heap[k]? = some x ∧ ¬ P' k := by
  have hk := (Array.getElem?_eq_some_iff.1 hx).1
  refine ⟨by rw [a.keep k hk hn]; exact hx, fun h => ?_⟩
  rcases a.foot k h with g | g
  · exact hn g
  · omega
/-- A part of a heap apart from what may change. -/
def Hp.Apart (h : Hp) (P : Nat → Prop) : Prop := ∀ k o, h k = some o → ¬ P k
theorem Hp.Apart.none {h : Hp} {P : Nat → Prop} (a : h.Apart P) {k : Nat} (hk : P k) : h k = none := by
  cases g : h k with
  | none => rfl
  | some x => exact absurd hk (a k x g)
theorem Apart.join {h h' : Hp} {P : Nat → Prop} (a : h.Apart P) (b : h'.Apart P) : (h.join h').Apart P := fun k o e => by
  unfold Hp.join at e
  cases g : h k with
  | none => rw [g] at e; exact b k o e
  | some x => exact a k x g
theorem Hp.In.go {h : Hp} {P P' : Nat → Prop} {w w' : World} (i : h.In w) (a : h.Apart P) (g : MGo P P' w w') : h.In w' ∧ h.Apart P' :=
  ⟨fun k o e => (g.heap (i k o e) (a k o e)).1, fun k o e => (g.heap (i k o e) (a k o e)).2⟩
theorem own_go {P P' : Nat → Prop} {w w' : World} {base : Nat} {e : TypeId} {size : Nat} {v : Value} {n : Nat} {xs : List Value} (h : w.ownsRow base e size v n xs) (hv : ∀ j, v.ownBlock = some j → ¬ P j) (g : MGo P P' w w') : w'.ownsRow base e size v n xs ∧ ∀ j, v.ownBlock = some j → ¬ P' j := by
  refine ⟨⟨h.1, ?_⟩, fun j e => ?_⟩
  · rcases h.2 with a | ⟨b, cap, cur, a1, a2, a3, r⟩
    · exact .inl a
    · exact .inr ⟨b, cap, cur, a1, a2, (g.heap a3 (hv b (by rw [a1]; rfl))).1, r⟩
  · rcases h.2 with ⟨a, _⟩ | ⟨b, cap, cur, a1, a2, a3, r⟩
    · rw [a] at e; cases e
    · rw [a1] at e; cases e
      exact (g.heap a3 (hv b (by rw [a1]; rfl))).2
/-- The machine in block Mb has the states S; P: its blocks that may change; A: blocks that it never reads. -/
def Mach (w : World) (Mb : Nat) (S : List St) (P A : Nat → Prop) : Prop :=
  ∃ (sv : Value) (xs : List Value) (f : Int) (hp : Hp), w.heap[Mb]? = some (.cells #[sv, .int .i64 f] 60 (0, 0)) ∧ w.ownsRow 0 57 4 sv S.length xs ∧ P Mb ∧ (∀ j, sv.ownBlock = some j → P j ∧ j ≠ Mb) ∧ hp.In w ∧ hp.Apart P ∧
    (∀ i st, S[i]? = some st → ∃ c0 c1 c2 c3, xs[4 * i]? = some c0 ∧ xs[4 * i + 1]? = some c1 ∧ xs[4 * i + 2]? = some c2 ∧ xs[4 * i + 3]? = some c3 ∧ StIs hp c0 c1 c2 c3 st) ∧ (∀ k, P k → k < w.heap.size) ∧ hp.Apart A
theorem Mach.grown {w w' : World} {Mb : Nat} {S : List St} {P A : Nat → Prop} {row : Option Nat} (h : Mach w Mb S P A) (g : w.grownBy w' row) (hr : ∀ k, row = some k → ¬ P k ∧ w.heap.size ≤ k) : Mach w' Mb S P A := by
  obtain ⟨sv, xs, f, hp, m1, m2, m3, m4, m5, m6, m7, m8, m9⟩ := h
  refine ⟨sv, xs, f, hp, grown_heap g m1 (fun e => (hr _ e).1 m3), m2.kept g ?_, m3, m4, m5.grown g (fun k e => ?_), m6, m7, fun k hk => Nat.lt_of_lt_of_le (m8 k hk) g.size, m9⟩
  · cases hv : sv.ownBlock with
    | none => exact .inl rfl
    | some j => exact .inr (fun e => (hr j e.symm).1 (m4 j hv).1)
  · exact m5.free (hr k e).2
theorem Mach.alloc {w : World} {Mb : Nat} {S : List St} {P A : Nat → Prop} (h : Mach w Mb S P A) (o : Obj) : Mach (w.alloc o) Mb S P A := h.grown (World.grownBy_alloc w o none) (fun _ e => by cases e)
theorem rt_state : RowTypes Tryd.prog 58 57 (.agg #[.bool false, .slice none 0 0, .bool false, .slice none 0 0]) 4 64 := ⟨Tryd.underlying58, by kernel_rfl, rfl, by decide⟩

/-- A state more. -/
def AddPost (w : World) (Mb : Nat) (S : List St) (st : St) (P A : Nat → Prop) (e : Ending) (w' : World) : Prop :=
  e = .returned (.int .i64 (S.length : Int)) ∧ ∃ P', Mach w' Mb (S ++ [st]) P' A ∧ MGo P P' w w'
theorem step_append_row {P : Program} {t e : TypeId} {z : Value} {size bytes : Nat} (rt : RowTypes P t e z size bytes) {ops : Array Oper} {o : Oper} {a : Act} {K : Act → World → Prop} {Q : Exit → Act → World → Prop} {E : Prop} (w : World)
    (hgd : o.guard = none) (s x : Operand) (ho : o.op = .call { callee := .builtin .append, args := #[s, x], argTypes := #[t, t] })
    (base : Nat) (v : Value) (n : Nat) (xs : List Value) (hs : a.eval s = v) (hown : w.ownsRow base e size v n xs)
    (g m c : Nat) (news : List Value) (hx : a.eval x = .slice (some ⟨g, 0, none⟩) m c) (hl : news.length = m * size) (hnews : ∀ j, j < m * size → w.cell? ⟨g, j, none⟩ = news[j]?) (h1 : ∀ u ∈ news, u.oneCell' = true)
    (hm : 0 < m) (h63 : n + m ≤ 1000000) (hb : bytes ≤ 1000) (hbase : base ≤ w.heap.size)
    (h : ∀ g' cap' w', w'.ownsRow base e size (.slice (some ⟨g', 0, none⟩) (n + m) cap') (n + m) (xs ++ news) → w.grownBy w' v.ownBlock → (v.ownBlock = some g' ∨ g' = w.heap.size) → g' < w'.heap.size → K (a.put o.dst (.slice (some ⟨g', 0, none⟩) (n + m) cap')) w') :
    if Region.wanted o (yielded ops a.tmps) = true then Oper.wp P o a w K Q else E := by
  obtain ⟨i, i1, i2, i3, i4⟩ := info_parts rt.info
  refine step_append_lies (P := P) w hgd s x t ho base e i z size bytes rt.sl i1 i2 i3 i4 rt.cells rt.pos v n xs hs hown ⟨g, 0, none⟩ m c news hx hl (fun j u hu => ?_) h1 hm (by unfold maxLen; omega) ?_ hbase _ rfl h
  · have hadd : (⟨g, 0, none⟩ : Addr).add j = ⟨g, j, none⟩ := by unfold Addr.add; split <;> simp_all
    rw [hadd, hnews j (by have := (List.getElem?_eq_some_iff.1 hu).1; omega)]
    exact hu
  · exact Nat.le_trans (Nat.mul_le_mul h63 hb) (Nat.le_of_ble_eq_true rfl)
theorem states_snoc {S : List St} {xs : List Value} {hp hp2 : Hp} (hx : xs.length = S.length * 4) (s1 : hp.Sub hp2)
    (he : ∀ i st, S[i]? = some st → ∃ c0 c1 c2 c3, xs[4 * i]? = some c0 ∧ xs[4 * i + 1]? = some c1 ∧ xs[4 * i + 2]? = some c2 ∧ xs[4 * i + 3]? = some c3 ∧ StIs hp c0 c1 c2 c3 st) (d0 d1 d2 d3 : Value) (q : St) (h1 : StIs hp2 d0 d1 d2 d3 q) :
    ∀ i st, (S ++ [q])[i]? = some st → ∃ c0 c1 c2 c3, (xs ++ [d0, d1, d2, d3])[4 * i]? = some c0 ∧ (xs ++ [d0, d1, d2, d3])[4 * i + 1]? = some c1 ∧ (xs ++ [d0, d1, d2, d3])[4 * i + 2]? = some c2 ∧ (xs ++ [d0, d1, d2, d3])[4 * i + 3]? = some c3 ∧ StIs hp2 c0 c1 c2 c3 st := by
  intro i st hi
  by_cases hlt : i < S.length
  · rw [List.getElem?_append_left hlt] at hi
    obtain ⟨c0, c1, c2, c3, b0, b1, b2, b3, b4⟩ := he i st hi
    refine ⟨c0, c1, c2, c3, ?_, ?_, ?_, ?_, b4.mono s1⟩
    · rw [List.getElem?_append_left (by omega)]; exact b0
    · rw [List.getElem?_append_left (by omega)]; exact b1
    · rw [List.getElem?_append_left (by omega)]; exact b2
    · rw [List.getElem?_append_left (by omega)]; exact b3
  · have hl := (List.getElem?_eq_some_iff.1 hi).1
    rw [List.length_append, List.length_singleton] at hl
    obtain rfl : i = S.length := by omega
    rw [List.getElem?_append_right (Nat.le_refl _), Nat.sub_self] at hi
    cases hi
    refine ⟨d0, d1, d2, d3, ?_, ?_, ?_, ?_, h1⟩
    · rw [List.getElem?_append_right (by omega), show 4 * S.length - xs.length = 0 by omega]; rfl
    · rw [List.getElem?_append_right (by omega), show 4 * S.length + 1 - xs.length = 1 by omega]; rfl
    · rw [List.getElem?_append_right (by omega), show 4 * S.length + 2 - xs.length = 2 by omega]; rfl
    · rw [List.getElem?_append_right (by omega), show 4 * S.length + 3 - xs.length = 3 by omega]; rfl

set_option maxHeartbeats 4000000 in
theorem add_any (Mb : Nat) (S : List St) (st : St) (P A : Nat → Prop) (oth : Bool) (q1 q3 : Option Addr) (n1 k1 n3 k3 : Nat) (hpn : Hp) (w : World) (hm : Mach w Mb S P A) (hl : S.length ≤ 900000)
    (hin : hpn.In w) (hap : hpn.Apart P) (hapA : hpn.Apart A) (hst : StIs hpn (.bool st.eats) (.slice q1 n1 k1) (.bool oth) (.slice q3 n3 k3) st) :
    Calls Tryd.prog 39 #[.pointer (some ⟨Mb, 0, none⟩), .agg #[.bool st.eats, .slice q1 n1 k1, .bool oth, .slice q3 n3 k3]] w (AddPost w Mb S st P A) := by
  obtain ⟨sv, xs, f, hp, m1, m2, m3, m4, m5, m6, m7, m8, m99⟩ := hm
  have M9 := hide m99
  have HAPA := hide hapA
  clear m99 hapA
  have ml := m8 Mb m3
  have HST := hide hst
  have M2 := hide m2
  have M7 := hide m7
  have M4 := hide m4
  have M6 := hide m6
  have M8 := hide m8
  have HAP := hide hap
  have m9 := grown_heap (World.grownBy_alloc w (.cells #[.bool st.eats, .slice q1 n1 k1, .bool oth, .slice q3 n3 k3] 57) none) m1 (by simp)
  obtain ⟨c0, c1, cf⟩ := cells2_at m9
  have SB := heap_alloc_new w (.cells #[.bool st.eats, .slice q1 n1 k1, .bool oth, .slice q3 n3 k3] 57)
  have W2 : ∀ j, j < 1 * 4 → ((w.alloc (.cells #[.bool st.eats, .slice q1 n1 k1, .bool oth, .slice q3 n3 k3] 57)).alloc (.cells #[.bool st.eats, .slice q1 n1 k1, .bool oth, .slice q3 n3 k3] 57)).cell? ⟨w.heap.size + 1, j, none⟩ = [Value.bool st.eats, .slice q1 n1 k1, .bool oth, .slice q3 n3 k3][j]? := by
    intro j hj
    have e := heap_alloc_new (w.alloc (.cells #[.bool st.eats, .slice q1 n1 k1, .bool oth, .slice q3 n3 k3] 57)) (.cells #[.bool st.eats, .slice q1 n1 k1, .bool oth, .slice q3 n3 k3] 57)
    rw [show (w.alloc (.cells #[.bool st.eats, .slice q1 n1 k1, .bool oth, .slice q3 n3 k3] 57)).heap.size = w.heap.size + 1 by simp] at e
    rw [cell_of_row _ _ j _ _ _ e]
    simp
  have W2 := hide W2
  have M10 := hide (grown_heap (World.grownBy_alloc (w.alloc (.cells #[.bool st.eats, .slice q1 n1 k1, .bool oth, .slice q3 n3 k3] 57)) (.cells #[.bool st.eats, .slice q1 n1 k1, .bool oth, .slice q3 n3 k3] 57) none) m9 (by simp))
  have INA := hide ((hin.grown (World.grownBy_alloc w (.cells #[.bool st.eats, .slice q1 n1 k1, .bool oth, .slice q3 n3 k3] 57) none) (fun _ e => by cases e)).grown (World.grownBy_alloc _ (.cells #[.bool st.eats, .slice q1 n1 k1, .bool oth, .slice q3 n3 k3] 57) none) (fun _ e => by cases e))
  have INB := hide ((m5.grown (World.grownBy_alloc w (.cells #[.bool st.eats, .slice q1 n1 k1, .bool oth, .slice q3 n3 k3] 57) none) (fun _ e => by cases e)).grown (World.grownBy_alloc _ (.cells #[.bool st.eats, .slice q1 n1 k1, .bool oth, .slice q3 n3 k3] 57) none) (fun _ e => by cases e))
  have GO0 := hide (((MGo.refl P w).alloc (.cells #[.bool st.eats, .slice q1 n1 k1, .bool oth, .slice q3 n3 k3] 57)).alloc (.cells #[.bool st.eats, .slice q1 n1 k1, .bool oth, .slice q3 n3 k3] 57))
  clear hin m5
  clear hst m2 m7 m4 m6 m8 hap
  generalize st.eats = ea at *
  go_enter Tryd.func39, Tryd.ntmps39
  go_wp2_with fail
  go_region_law (refine step_append_row rt_state _ rfl _ _ rfl 0 sv S.length xs (by simp [Act.eval]) ((M2.out.alloc _).alloc _) (w.heap.size + 1) 1 1 [Value.bool ea, .slice q1 n1 k1, .bool oth, .slice q3 n3 k3] (by simp [Act.eval]) rfl W2.out (by intro u hu; simp at hu; rcases hu with rfl | rfl | rfl | rfl <;> rfl) (by omega) (by omega) (by omega) (Nat.zero_le _) ?_; intro g3 cap3 w5 hown5 hgrow5 hat5 hlt5; have C5 := grown_heap hgrow5 (show _ = _ from M10.out) (fun e => (M4.out Mb e).2 rfl); obtain ⟨c50, c51, c5f⟩ := cells2_at C5)
  all_goals
    go_wp2_with fail
    go_ret
    have gne : g3 ≠ Mb := by
      rcases hat5 with e | e
      · exact (M4.out _ e).2
      · simp at e; omega
    have gfoot : P g3 ∨ w.heap.size ≤ g3 := by
      rcases hat5 with e | e
      · exact .inl (M4.out _ e).1
      · right; simp at e; omega
    have exA : ∀ k, sv.ownBlock = some k → hpn k = none := fun k e => HAP.out.none (M4.out k e).1
    have exB : ∀ k, sv.ownBlock = some k → hp k = none := fun k e => M6.out.none (M4.out k e).1
    have iA : hpn.In w5 := (INA.out.grown (grown_drew _ none) (fun _ e => by cases e)).grown hgrow5 exA
    have iB : hp.In w5 := (INB.out.grown (grown_drew _ none) (fun _ e => by cases e)).grown hgrow5 exB
    have iA2 := iA.grown (grown_set w5 ⟨Mb, 0, none⟩ (.slice (some ⟨g3, 0, none⟩) (S.length + 1) cap3)) (fun k e => by cases e; exact HAP.out.none m3)
    have iB2 := iB.grown (grown_set w5 ⟨Mb, 0, none⟩ (.slice (some ⟨g3, 0, none⟩) (S.length + 1) cap3)) (fun k e => by cases e; exact M6.out.none m3)
    refine ⟨?_, fun k => k = Mb ∨ k = g3, ⟨.slice (some ⟨g3, 0, none⟩) (S.length + 1) cap3, _, f, hp.join hpn, ?_, ?_, .inl rfl, ?_, Hp.join_in iB2 iA2, ?_, states_snoc M2.out.1 (Hp.join_left hp hpn) M7.out _ _ _ _ st (HST.out.mono (Hp.join_right iB2 iA2)), ?_, Apart.join M9.out HAPA.out⟩, ?_⟩
    · exact ret_int (by omega)
    · simp [World.setCell, Array.getElem?_modify, C5]
    · rw [List.length_append, List.length_singleton]
      exact hown5.kept (grown_set w5 ⟨Mb, 0, none⟩ _) (.inr (by simp [Value.ownBlock]; exact gne))
    · intro j e; cases e; exact ⟨.inr rfl, gne⟩
    · intro k o e hk
      rcases hk with rfl | rfl
      · have := Hp.join_none (M6.out.none m3) (HAP.out.none m3)
        rw [this] at e; cases e
      · have : hp.join hpn k = none := by
          rcases hat5 with e | e
          · exact Hp.join_none (exB _ e) (exA _ e)
          · exact Hp.join_none (INB.out.free (by rw [e]; exact Nat.le_refl _)) (INA.out.free (by rw [e]; exact Nat.le_refl _))
        rw [this] at e; cases e
    · intro k hk
      show k < (w5.setCell _ _).heap.size
      rw [show (w5.setCell ⟨Mb, 0, none⟩ (.slice (some ⟨g3, 0, none⟩) (S.length + 1) cap3)).heap.size = w5.heap.size by simp [World.setCell]]
      rcases hk with rfl | rfl
      · exact (Array.getElem?_eq_some_iff.1 C5).1
      · exact hlt5
    · have g1 := (GO0.out.grown (grown_drew _ none) (fun _ e => by cases e)).grown hgrow5 (fun k e => .inl (M4.out k e).1)
      have g2 := g1.grown (grown_set w5 ⟨Mb, 0, none⟩ (.slice (some ⟨g3, 0, none⟩) (S.length + 1) cap3)) (fun k e => by cases e; exact .inl m3)
      exact ⟨g2.os, g2.tape, g2.output, g2.size, g2.keep, fun k hk => by
        rcases hk with rfl | rfl
        · exact .inl m3
        · exact gfoot⟩

end Go.Proofs.YtncljgpcloanfaaDoor
namespace Go.Proofs.YtncljgpcloanfaaDoor
open Go.RowKit

/-- What the functions that add answer: a first state, of what was added. -/
def FragPost (w : World) (Mb : Nat) (S : List St) (P A : Nat → Prop) (nx : Nat) (R : List Nat → Nat → Nat → Prop) (c : Nat) (e : Ending) (w' : World) : Prop :=
  ∃ (b : Nat) (X : List St) (P' : Nat → Prop), e = .returned (.int .i64 (b : Int)) ∧ Mach w' Mb (S ++ X) P' A ∧ MGo P P' w w' ∧ b < (S ++ X).length ∧ X.length ≤ c ∧ (∀ st ∈ X, ∀ q ∈ st.next, q < (S ++ X).length) ∧ ∀ s, Frag s X S.length b nx (R s)
/-- What they ask. -/
structure Ready (w : World) (Mb : Nat) (S : List St) (P A : Nat → Prop) (hpA : Hp) (nx c : Nat) : Prop where
  mach : Mach w Mb S P A
  hin : hpA.In w
  ap : hpA.Apart P
  apA : hpA.Apart A
  ltA : ∀ k, A k → k < w.heap.size
  pos : 0 < S.length
  nx : nx < S.length
  room : S.length + c ≤ 900000
theorem Mach.lt {w : World} {Mb : Nat} {S : List St} {P A : Nat → Prop} (h : Mach w Mb S P A) : ∀ k, P k → k < w.heap.size := by
  obtain ⟨_, _, _, _, _, _, _, _, _, _, _, h, _⟩ := h; exact h
theorem RowIn.shape {h : Hp} {e : TypeId} {size : Nat} {v : Value} {n : Nat} {xs : List Value} (a : RowIn h e size v n xs) : ∃ q m c, v = .slice q m c := by
  rcases a.2 with ⟨b, _⟩ | ⟨g, cap, cur, b, _⟩
  · exact ⟨_, _, _, b⟩
  · exact ⟨_, _, _, b⟩
def GrC (k : Nat) : Prop := ∀ (p : Pat) (rv : Value) (hpA : Hp) (w : World) (Mb : Nat) (S : List St) (P A : Nat → Prop) (nx : Nat), GroupIs hpA (AtomIs hpA k) rv p → Ready w Mb S P A hpA nx (cost p + 1) →
    Calls Tryd.prog 27 #[.pointer (some ⟨Mb, 0, none⟩), .agg #[rv], .int .i64 (nx : Int)] w (FragPost w Mb S P A nx (fun s => M s p) (cost p + 1))
def AtC (k : Nat) : Prop := ∀ (p : Pat) (av : Value) (hpA : Hp) (w : World) (Mb : Nat) (S : List St) (P A : Nat → Prop) (nx : Nat), AtomIs hpA k av p → Ready w Mb S P A hpA nx (cost p + 1) →
    Calls Tryd.prog 56 #[.pointer (some ⟨Mb, 0, none⟩), av, .int .i64 (nx : Int)] w (FragPost w Mb S P A nx (fun s => M s p) (cost p + 1))
theorem ta_grp_yes (v : Value) (w : World) : (Instr.typeAssert (.iface 37 v) 89 37 true).run Tryd.prog w = .ok (.tuple #[v, .bool true]) w := by kernel_rfl
theorem ta_grp_no (v : Value) (w : World) : (Instr.typeAssert (.iface 55 v) 89 37 true).run Tryd.prog w = .ok (.tuple #[.agg #[.slice none 0 0], .bool false]) w := by kernel_rfl
theorem ta_set (v : Value) (w : World) : (Instr.typeAssert (.iface 55 v) 89 55 false).run Tryd.prog w = .ok v w := by kernel_rfl
theorem lit_next (g : Nat) (l : List Nat) (hl : l.length ≤ 1000) : NextIs (litHp g (l.map cellI).toArray 3) (.slice (some ⟨g, 0, none⟩) l.length l.length) l := by
  have := lit_row g l.length 1 (l.map cellI).toArray 3 (by unfold maxLen; omega) (by simp)
  simpa [NextIs] using this
theorem lit_apart {P : Nat → Prop} {g : Nat} {cs : Array Value} {e : TypeId} (h : ¬ P g) : (litHp g cs e).Apart P := fun k o hk => by
  unfold litHp at hk
  split at hk
  · rename_i ek; rw [ek]; exact h
  · cases hk

set_option maxHeartbeats 4000000 in
theorem addAtom_set (o : One) (sv : Value) (hpA : Hp) (w : World) (Mb : Nat) (S : List St) (P A : Nat → Prop) (nx : Nat) (hs : SetIs hpA sv o) (hr : Ready w Mb S P A hpA nx 1) :
    Calls Tryd.prog 56 #[.pointer (some ⟨Mb, 0, none⟩), .iface 55 sv, .int .i64 (nx : Int)] w (FragPost w Mb S P A nx (fun s => M s (.one o)) 1) := by
  obtain ⟨c1, oth, sp, rfl, h2, h3, h4⟩ := hs
  obtain ⟨q, m, c, rfl⟩ := h2.shape
  have t1 := ta_grp_no (.agg #[.slice q m c, .bool oth])
  have t2 := ta_set (.agg #[.slice q m c, .bool oth])
  have MA := (hr.mach.alloc (.cells #[.slice none 0 0] 37)).alloc (.cells #[.int .i64 (nx : Int)] 3)
  have i1 := ((hr.hin.grown (World.grownBy_alloc w (.cells #[.slice none 0 0] 37) none) (fun _ e => by cases e)).grown (World.grownBy_alloc _ (.cells #[.int .i64 (nx : Int)] 3) none) (fun _ e => by cases e))
  have i2 := lit_in (w.alloc (.cells #[.slice none 0 0] 37)) #[.int .i64 (nx : Int)] 3
  have n1 := lit_next (w.alloc (.cells #[.slice none 0 0] 37)).heap.size [nx] (by show 1 ≤ 1000; omega)
  have SZ : (w.alloc (.cells #[.slice none 0 0] 37)).heap.size = w.heap.size + 1 := by simp
  rw [SZ] at n1 i2
  have ap2 : (litHp (w.heap.size + 1) #[.int .i64 (nx : Int)] 3).Apart P := lit_apart (fun h => by have := hr.mach.lt _ h; omega)
  have ap3 : (litHp (w.heap.size + 1) #[.int .i64 (nx : Int)] 3).Apart A := lit_apart (fun h => by have := hr.ltA _ h; omega)
  have st1 : StIs (hpA.join (litHp (w.heap.size + 1) #[.int .i64 (nx : Int)] 3)) (.bool true) (.slice q m c) (.bool oth) (.slice (some ⟨w.heap.size + 1, 0, none⟩) 1 1) ⟨true, fitOne o, [nx]⟩ :=
    ⟨rfl, ⟨oth, sp, h2.mono (Hp.join_left _ _), rfl, h3, fun _ => h4⟩, n1.mono (Hp.join_right i1 i2), fun _ => rfl⟩
  have HA := hide (add_any Mb S ⟨true, fitOne o, [nx]⟩ P A oth q (some ⟨w.heap.size + 1, 0, none⟩) m c 1 1 _ _ MA (by have := hr.room; omega) (Hp.join_in i1 i2) (Apart.join hr.ap ap2) (Apart.join hr.apA ap3) st1)
  have GO := hide (((MGo.refl P w).alloc (.cells #[.slice none 0 0] 37)).alloc (.cells #[.int .i64 (nx : Int)] 3))
  have pos := hr.pos
  have nxl := hr.nx
  clear hr MA i1 i2 n1 ap2 ap3 st1 h2 h3 h4 SZ
  go_enter Tryd.func56, Tryd.ntmps56
  go_wp2_with fail
  refine HA.out.mono ?_
  rintro e w2 ⟨rfl, P', m2, g2⟩
  go_wp2_with fail
  go_ret
  refine ⟨S.length, [⟨true, fitOne o, [nx]⟩], P', rfl, m2, GO.out.trans g2, by simp, by simp, ?_, fun s => frag_eat s S.length nx (fitOne o) pos⟩
  intro st hst q hq
  simp at hst; subst hst
  simp at hq; subst hq
  simp; omega
set_option maxHeartbeats 4000000 in
theorem addAtom_grp (k : Nat) (HG : GrC k) (p : Pat) (rv : Value) (hpA : Hp) (w : World) (Mb : Nat) (S : List St) (P A : Nat → Prop) (nx : Nat) (hs : GroupIs hpA (AtomIs hpA k) rv p) (hr : Ready w Mb S P A hpA nx (cost p + 1)) :
    Calls Tryd.prog 56 #[.pointer (some ⟨Mb, 0, none⟩), .iface 37 (.agg #[rv]), .int .i64 (nx : Int)] w (FragPost w Mb S P A nx (fun s => M s p) (cost p + 1)) := by
  have sh : ∃ q m c, rv = .slice q m c := by
    obtain ⟨rows, _, _, vs, h, _⟩ := hs
    exact h.shape
  obtain ⟨q, m, c, rfl⟩ := sh
  have t1 := ta_grp_yes (.agg #[.slice q m c])
  have HA := hide (HG p (.slice q m c) hpA (w.alloc (.cells #[.slice q m c] 37)) Mb S P A nx hs ⟨hr.mach.alloc _, hr.hin.grown (World.grownBy_alloc w _ none) (fun _ e => by cases e), hr.ap, hr.apA, (fun k hk => by have := hr.ltA k hk; simp; omega), hr.pos, hr.nx, hr.room⟩)
  have GO := hide ((MGo.refl P w).alloc (.cells #[.slice q m c] 37))
  clear hr hs HG
  go_enter Tryd.func56, Tryd.ntmps56
  go_wp2_with fail
  refine HA.out.mono ?_
  rintro e w2 ⟨b, X, P', rfl, m2, g2, r⟩
  go_wp2_with fail
  go_ret
  exact ⟨b, X, P', rfl, m2, GO.out.trans g2, r⟩
theorem atC_of (k : Nat) (HG : ∀ j, k = j + 1 → GrC j) : AtC k := by
  intro p av hpA w Mb S P A nx ha hr
  have SET : (∃ sv o, av = .iface 55 sv ∧ p = .one o ∧ SetIs hpA sv o) → Calls Tryd.prog 56 #[.pointer (some ⟨Mb, 0, none⟩), av, .int .i64 (nx : Int)] w (FragPost w Mb S P A nx (fun s => M s p) (cost p + 1)) := by
    rintro ⟨sv, o, rfl, rfl, h⟩
    exact addAtom_set o sv hpA w Mb S P A nx h hr
  cases k with
  | zero => exact SET ha
  | succ j =>
    rcases ha with h | ⟨rv, rfl, _, h⟩
    · exact SET h
    · exact addAtom_grp j (HG j rfl) p rv hpA w Mb S P A nx h hr

end Go.Proofs.YtncljgpcloanfaaDoor
namespace Go.Proofs.YtncljgpcloanfaaDoor
open Go.RowKit

/-- States that are added under way. -/
structure AddU (w wr : World) (Mb : Nat) (S : List St) (P A : Nat → Prop) (nx : Nat) (b : Nat) (X : List St) (P' : Nat → Prop) (c : Nat) (R : List Nat → Nat → Nat → Prop) : Prop where
  mach : Mach wr Mb (S ++ X) P' A
  go : MGo P P' w wr
  bl : b < (S ++ X).length
  few : X.length ≤ c
  shut : ∀ st ∈ X, ∀ q ∈ st.next, q < (S ++ X).length
  frag : ∀ s, Frag s X S.length b nx (R s)
theorem AddU.start {w : World} {Mb : Nat} {S : List St} {P A : Nat → Prop} {nx : Nat} (hm : Mach w Mb S P A) (hn : nx < S.length) : AddU w w Mb S P A nx nx [] P 0 (fun _ i j => i = j) :=
  ⟨by simpa using hm, MGo.refl _ _, by simpa using hn, Nat.le_refl _, (fun _ h => by cases h), fun s => frag_none s _ _⟩
theorem AddU.ready {w wr : World} {Mb : Nat} {S : List St} {P A : Nat → Prop} {nx b : Nat} {X : List St} {P' : Nat → Prop} {c c0 d : Nat} {R : List Nat → Nat → Nat → Prop} {hpA : Hp} (u : AddU w wr Mb S P A nx b X P' c R) (hr : Ready w Mb S P A hpA nx c0) (h : c + d ≤ c0) : Ready wr Mb (S ++ X) P' A hpA b d := by
  obtain ⟨i, a⟩ := hr.hin.go hr.ap u.go
  have := hr.pos
  have := hr.room
  have := u.few
  exact ⟨u.mach, i, a, hr.apA, (fun k hk => Nat.lt_of_lt_of_le (hr.ltA k hk) u.go.size), by rw [List.length_append]; omega, u.bl, by rw [List.length_append]; omega⟩
/-- One behind the other. -/
theorem AddU.more {w wr w2 : World} {Mb : Nat} {S : List St} {P A : Nat → Prop} {nx b : Nat} {X : List St} {P' : Nat → Prop} {c d b2 : Nat} {R Q : List Nat → Nat → Nat → Prop} {Y : List St} {P2 : Nat → Prop} (u : AddU w wr Mb S P A nx b X P' c R) (v : AddU wr w2 Mb (S ++ X) P' A b b2 Y P2 d Q) : AddU w w2 Mb S P A nx b2 (X ++ Y) P2 (c + d) (fun s i j => ∃ m, Q s i m ∧ R s m j) := by
  have e := List.append_assoc S X Y
  have f1 := u.few
  have f2 := v.few
  refine ⟨by rw [← e]; exact v.mach, u.go.trans v.go, by rw [← e]; exact v.bl, by rw [List.length_append]; omega, fun st hst q hq => ?_, fun s => ?_⟩
  · rw [← e]
    rcases List.mem_append.1 hst with h | h
    · have := u.shut st h q hq
      rw [List.length_append]; omega
    · exact v.shut st h q hq
  · have h2 := v.frag s
    rw [List.length_append] at h2
    exact (u.frag s).comp h2
theorem AddU.as {w wr : World} {Mb : Nat} {S : List St} {P A : Nat → Prop} {nx b : Nat} {X : List St} {P' : Nat → Prop} {c d : Nat} {R Q : List Nat → Nat → Nat → Prop} (u : AddU w wr Mb S P A nx b X P' c R) (hc : c ≤ d) (e : ∀ s i j, R s i j ↔ Q s i j) : AddU w wr Mb S P A nx b X P' d Q :=
  ⟨u.mach, u.go, u.bl, Nat.le_trans u.few hc, u.shut, fun s => (u.frag s).as (e s)⟩
theorem frag_addU {w w' : World} {Mb : Nat} {S : List St} {P A : Nat → Prop} {nx c : Nat} {R : List Nat → Nat → Nat → Prop} {e : Ending} (h : FragPost w Mb S P A nx R c e w') : ∃ (b : Nat) (X : List St) (P' : Nat → Prop), e = .returned (.int .i64 (b : Int)) ∧ AddU w w' Mb S P A nx b X P' c R := by
  obtain ⟨b, X, P', e1, m, g, bl, f, s, fr⟩ := h
  exact ⟨b, X, P', e1, m, g, bl, f, s, fr⟩
theorem addU_frag {w w' : World} {Mb : Nat} {S : List St} {P A : Nat → Prop} {nx b : Nat} {X : List St} {P' : Nat → Prop} {c : Nat} {R : List Nat → Nat → Nat → Prop} (u : AddU w w' Mb S P A nx b X P' c R) : FragPost w Mb S P A nx R c (.returned (.int .i64 (b : Int))) w' :=
  ⟨b, X, P', rfl, u.mach, u.go, u.bl, u.few, u.shut, u.frag⟩

set_option maxHeartbeats 4000000 in
theorem addTimes_of (k : Nat) (HA : AtC k) (p : Pat) (av : Value) (t : Nat) (ht : t ≤ 1000) (hpA : Hp) (w : World) (Mb : Nat) (S : List St) (P A : Nat → Prop) (nx : Nat) (ha : AtomIs hpA k av p) (hr : Ready w Mb S P A hpA nx (t * (cost p + 1))) :
    Calls Tryd.prog 57 #[.pointer (some ⟨Mb, 0, none⟩), av, .int .i64 (t : Int), .int .i64 (nx : Int)] w (FragPost w Mb S P A nx (fun s => Pow (M s p) t) (t * (cost p + 1))) := by
  have HS : Hid (AddU w w Mb S P A nx nx [] P (0 * (cost p + 1)) (fun s => Pow (M s p) 0)) := (AddU.start hr.mach hr.nx).as (Nat.zero_le _) (fun _ _ _ => Iff.rfl)
  have HR := hide hr
  have HAT := hide ha
  clear hr ha
  go_enter Tryd.func57, Tryd.ntmps57
  go_wp2_with fail
  go_loopw [3, 10] (fun nv iv wr => ∃ (i b : Nat) (X : List St) (P' : Nat → Prop), i ≤ t ∧ iv = .int .i64 (i : Int) ∧ nv = .int .i64 (b : Int) ∧ AddU w wr Mb S P A nx b X P' (i * (cost p + 1)) (fun s => Pow (M s p) i)) (fun _ iv _ => t - (intOf iv).toNat)
  case atStart => exact ⟨0, nx, [], P, Nat.zero_le _, rfl, rfl, HS.out⟩
  case round =>
    obtain ⟨i, b, X, P', hi, rfl, rfl, hu⟩ := hrel
    rename World => wr
    by_cases hlt : i < t
    · have i1 : (i : Int) < (t : Int) := by omega
      have mul : i * (cost p + 1) + (cost p + 1) ≤ t * (cost p + 1) := by
        rw [← Nat.succ_mul]; exact Nat.mul_le_mul_right _ hlt
      have HC := hide (HA p av hpA wr Mb (S ++ X) P' A b HAT.out (hu.ready HR.out mul))
      have HU := hide hu
      clear hu HS mul
      go_wp2_with fail
      refine HC.out.mono ?_
      intro e w2 hf
      obtain ⟨b2, Y, P2, rfl, hv⟩ := frag_addU hf
      have HV := hide hv
      clear hv hf
      go_wp2_with fail
      go_roundw
      case rel => exact ⟨i + 1, b2, X ++ Y, P2, by omega, by go_num, rfl, (HU.out.more HV.out).as (by rw [Nat.succ_mul]; exact Nat.le_refl _) (fun _ _ _ => Iff.rfl)⟩
      case measure => simp [intOf]; omega
    · obtain rfl : i = t := by omega
      have HU := hide hu
      clear hu HS
      go_wp2_with fail
      go_ret
      exact addU_frag HU.out

theorem states_set {S : List St} {xs : List Value} {hp hp2 : Hp} (hx : xs.length = S.length * 4) (s1 : hp.Sub hp2)
    (he : ∀ i st, S[i]? = some st → ∃ c0 c1 c2 c3, xs[4 * i]? = some c0 ∧ xs[4 * i + 1]? = some c1 ∧ xs[4 * i + 2]? = some c2 ∧ xs[4 * i + 3]? = some c3 ∧ StIs hp c0 c1 c2 c3 st) (k : Nat) (hk : k < S.length) (d3 : Value) (l : List Nat) (h1 : NextIs hp2 d3 l) (h2 : S[k].eats = false) :
    ∀ i st, (S.set k ⟨S[k].eats, S[k].has, l⟩)[i]? = some st → ∃ c0 c1 c2 c3, (xs.set (4 * k + 3) d3)[4 * i]? = some c0 ∧ (xs.set (4 * k + 3) d3)[4 * i + 1]? = some c1 ∧ (xs.set (4 * k + 3) d3)[4 * i + 2]? = some c2 ∧ (xs.set (4 * k + 3) d3)[4 * i + 3]? = some c3 ∧ StIs hp2 c0 c1 c2 c3 st := by
  intro i st hi
  by_cases e : k = i
  · subst e
    rw [List.getElem?_set_self hk] at hi
    cases hi
    obtain ⟨c0, c1, c2, c3, b0, b1, b2, b3, b4⟩ := he k S[k] (List.getElem?_eq_getElem hk)
    refine ⟨c0, c1, c2, d3, ?_, ?_, ?_, ?_, ?_⟩
    · rw [List.getElem?_set_ne (by omega)]; exact b0
    · rw [List.getElem?_set_ne (by omega)]; exact b1
    · rw [List.getElem?_set_ne (by omega)]; exact b2
    · rw [List.getElem?_set_self (by omega)]
    · obtain ⟨q1, ⟨oth, sp, q2, q3, q4⟩, q5⟩ := b4.mono s1
      exact ⟨q1, ⟨oth, sp, q2, q3, q4⟩, h1, (fun e => by rw [show S[k].eats = true from e] at h2; cases h2)⟩
  · rw [List.getElem?_set_ne e] at hi
    obtain ⟨c0, c1, c2, c3, b0, b1, b2, b3, b4⟩ := he i st hi
    refine ⟨c0, c1, c2, c3, ?_, ?_, ?_, ?_, b4.mono s1⟩
    · rw [List.getElem?_set_ne (by omega)]; exact b0
    · rw [List.getElem?_set_ne (by omega)]; exact b1
    · rw [List.getElem?_set_ne (by omega)]; exact b2
    · rw [List.getElem?_set_ne (by omega)]; exact b3
def st0 : St := ⟨false, fun _ => false, []⟩
theorem set_mid (S Y : List St) (a b : St) : (S ++ [a] ++ Y).set S.length b = S ++ [b] ++ Y := by
  rw [List.append_assoc, List.set_append_right _ _ (Nat.le_refl _), Nat.sub_self, List.append_assoc]; rfl

set_option maxHeartbeats 8000000 in
theorem addLoop_of (k : Nat) (HA : AtC k) (p : Pat) (av : Value) (lo : Nat) (ht : lo ≤ 99) (hpA : Hp) (w : World) (Mb : Nat) (S : List St) (P A : Nat → Prop) (nx : Nat) (ha : AtomIs hpA k av p) (hr : Ready w Mb S P A hpA nx (pcost p lo none)) :
    Calls Tryd.prog 55 #[.pointer (some ⟨Mb, 0, none⟩), .agg #[av, .int .i64 (lo : Int), .int .i64 (-1)], .int .i64 (nx : Int)] w (FragPost w Mb S P A nx (fun s => Often (M s p) lo none) (pcost p lo none)) := by
  obtain ⟨t, u, rfl⟩ := ha.shape
  have room := hr.room
  have pos := hr.pos
  have nxl := hr.nx
  have pc : pcost p lo none = 1 + (lo - 1 + 1) * (cost p + 1) := rfl
  have pc1 : 1 + (cost p + 1) ≤ pcost p lo none := by
    have := Nat.mul_le_mul_right (cost p + 1) (show 1 ≤ lo - 1 + 1 by omega)
    rw [pc]; omega
  have MA := hr.mach.alloc (.cells #[.iface t u, .int .i64 (lo : Int), .int .i64 (-1)] 91)
  have B0 := heap_alloc_new w (.cells #[.iface t u, .int .i64 (lo : Int), .int .i64 (-1)] 91)
  have nB : ¬ P w.heap.size := fun h => by have := hr.mach.lt _ h; omega
  have H1 := hide (add_any Mb S st0 P A false none none 0 0 0 0 Hp.nil _ MA (by omega) (Hp.nil_in _) (fun _ _ e => by cases e) (fun _ _ e => by cases e) ⟨rfl, ⟨false, [], ⟨rfl, .inl ⟨rfl, rfl⟩⟩, rfl, Nat.zero_le _, fun e => by cases e⟩, ⟨rfl, .inl ⟨rfl, rfl⟩⟩, fun e => by cases e⟩)
  have GO := hide ((MGo.refl P w).alloc (.cells #[.iface t u, .int .i64 (lo : Int), .int .i64 (-1)] 91))
  have HR := hide hr
  have HAT := hide ha
  have PC := hide pc
  clear hr ha MA pc
  go_enter Tryd.func55, Tryd.ntmps55
  go_wp2_with fail
  refine H1.out.mono ?_
  rintro e w1 ⟨rfl, P1, m1, g1⟩
  obtain ⟨B1, nB1⟩ := g1.heap B0 nB
  obtain ⟨p0, p1, p2, pf⟩ := cells3_at B1
  have G1 := hide (GO.out.trans g1)
  have hin1 := HR.out.hin.go HR.out.ap G1.out
  have H2 := hide (HA p (.iface t u) hpA w1 Mb (S ++ [st0]) P1 A S.length HAT.out ⟨m1, hin1.1, hin1.2, HR.out.apA, (fun k hk => Nat.lt_of_lt_of_le (HR.out.ltA k hk) G1.out.size), by simp, by simp, by simp; omega⟩)
  clear hin1 m1 g1 H1 GO B0 nB
  go_wp2_with fail
  refine H2.out.mono ?_
  intro e w2 hf
  obtain ⟨b2, Y, P2, rfl, hv⟩ := frag_addU hf
  obtain ⟨B2, nB2⟩ := hv.go.heap B1 nB1
  obtain ⟨r0, r1, r2, rf⟩ := cells3_at B2
  have G2 := hide (G1.out.trans hv.go)
  have few := hv.few
  have bl := hv.bl
  have FR := hide hv.frag
  have SH := hide hv.shut
  obtain ⟨sv, xs, f, hp, m1, m2, m3, m4, m5, m6, m7, m8, m9⟩ := hv.mach
  obtain ⟨g, cp, rfl, _, gl⟩ := m2.form (by simp; omega)
  obtain ⟨c0, c1, cf⟩ := cells2_at m1
  have gne := (m4 g rfl).2
  have gP := (m4 g rfl).1
  have fz := fun j => m2.frozenAt j
  have XL := m2.1
  have NL : S.length < (S ++ [st0] ++ Y).length := by rw [List.length_append, List.length_append, List.length_singleton]; omega
  have NU : (S ++ [st0] ++ Y).length ≤ 900000 := by simp; omega
  have CE := m2.cellAt (S.length * 4 + 3) (by omega)
  have CE2 : xs[S.length * 4 + 3]? ≠ none := by
    rw [ne_eq, List.getElem?_eq_none_iff]; omega
  obtain ⟨cx, hcx⟩ := Option.ne_none_iff_exists'.1 CE2
  rw [hcx] at CE
  have neg : w.heap.size ≠ g := fun e => nB2 (e ▸ gP)
  have MbP := m3
  have SZ3 : (w2.setCell ⟨g, S.length * 4 + 3, none⟩ (.slice (some ⟨w2.heap.size, 0, none⟩) 2 2)).heap.size = w2.heap.size := by simp [World.setCell]
  have gs := grown_set w2 ⟨g, S.length * 4 + 3, none⟩ (.slice (some ⟨w2.heap.size, 0, none⟩) 2 2)
  have ga := World.grownBy_alloc (w2.setCell ⟨g, S.length * 4 + 3, none⟩ (.slice (some ⟨w2.heap.size, 0, none⟩) 2 2)) (.cells #[.int .i64 (b2 : Int), .int .i64 (nx : Int)] 3) none
  have B3 := grown_heap ga (grown_heap gs B2 (by simp; omega)) (by simp)
  have i3 := (m5.grown gs (fun j e => by cases e; exact m6.none gP)).grown ga (fun _ e => by cases e)
  have l3 := lit_in (w2.setCell ⟨g, S.length * 4 + 3, none⟩ (.slice (some ⟨w2.heap.size, 0, none⟩) 2 2)) #[.int .i64 (b2 : Int), .int .i64 (nx : Int)] 3
  rw [SZ3] at l3
  have la : (litHp w2.heap.size #[.int .i64 (b2 : Int), .int .i64 (nx : Int)] 3).Apart P2 := lit_apart (fun h => by have := m8 _ h; omega)
  have laA : (litHp w2.heap.size #[.int .i64 (b2 : Int), .int .i64 (nx : Int)] 3).Apart A := lit_apart (fun h => by have := HR.out.ltA _ h; have := G2.out.size; omega)
  have M3 : Mach ((w2.setCell ⟨g, S.length * 4 + 3, none⟩ (.slice (some ⟨w2.heap.size, 0, none⟩) 2 2)).alloc (.cells #[.int .i64 (b2 : Int), .int .i64 (nx : Int)] 3)) Mb (S ++ [⟨false, fun _ => false, [b2, nx]⟩] ++ Y) P2 A := by
    refine ⟨.slice (some ⟨g, 0, none⟩) (S ++ [st0] ++ Y).length cp, xs.set (S.length * 4 + 3) (.slice (some ⟨w2.heap.size, 0, none⟩) 2 2), f, hp.join (litHp w2.heap.size #[.int .i64 (b2 : Int), .int .i64 (nx : Int)] 3), grown_heap ga (grown_heap gs m1 (by simp; exact gne)) (by simp), ?_, m3, m4, Hp.join_in i3 l3, Apart.join m6 la, ?_, ?_, Apart.join m9 laA⟩
    · have e : (S ++ [(⟨false, fun _ => false, [b2, nx]⟩ : St)] ++ Y).length = (S ++ [st0] ++ Y).length := by simp
      rw [e]
      exact (m2.stored _ _).1.alloc _
    · have := states_set m2.1 (Hp.join_left hp (litHp w2.heap.size #[.int .i64 (b2 : Int), .int .i64 (nx : Int)] 3)) m7 S.length NL (.slice (some ⟨w2.heap.size, 0, none⟩) 2 2) [b2, nx] ((lit_next w2.heap.size [b2, nx] (by show 2 ≤ 1000; omega)).mono (Hp.join_right i3 l3)) (by rw [show (S ++ [st0] ++ Y)[S.length] = st0 by simp]; rfl)
      have e1 : (S ++ [st0] ++ Y)[S.length] = st0 := by simp
      rw [e1, set_mid, show 4 * S.length + 3 = S.length * 4 + 3 by omega] at this
      exact this
    · intro j hj
      have := m8 j hj
      have := ga.size
      rw [SZ3] at this
      omega
  have G3 := (G2.out.grown gs (fun j e => by cases e; exact G2.out.foot g gP)).grown ga (fun _ e => by cases e)
  have FL := fun s => frag_loop (f := fun _ => false) (nx := nx) pos (by have := FR.out s; rw [List.length_append] at this; exact this)
  have CLOSE : ∀ st ∈ ((⟨false, fun _ => false, [b2, nx]⟩ : St) :: Y), ∀ q ∈ st.next, q < (S ++ ((⟨false, fun _ => false, [b2, nx]⟩ : St) :: Y)).length := by
    intro st hst q hq
    have e : (S ++ ((⟨false, fun _ => false, [b2, nx]⟩ : St) :: Y)).length = (S ++ [st0] ++ Y).length := by simp
    rw [e]
    rcases List.mem_cons.1 hst with rfl | h
    · simp at hq
      rcases hq with rfl | rfl
      · exact bl
      · omega
    · exact SH.out st h q hq
  have EQ : S ++ [(⟨false, fun _ => false, [b2, nx]⟩ : St)] ++ Y = S ++ ((⟨false, fun _ => false, [b2, nx]⟩ : St) :: Y) := by simp
  rw [EQ] at M3
  have LEN : (S ++ ((⟨false, fun _ => false, [b2, nx]⟩ : St) :: Y)).length = (S ++ [st0] ++ Y).length := by simp
  have U1 : AddU w _ Mb S P A nx S.length ((⟨false, fun _ => false, [b2, nx]⟩ : St) :: Y) P2 (1 + (cost p + 1)) (fun s => Star (M s p)) :=
    ⟨M3, G3, by rw [LEN]; exact NL, by simp; omega, CLOSE, fun s => (FL s).1⟩
  have U2 : AddU w _ Mb S P A nx b2 ((⟨false, fun _ => false, [b2, nx]⟩ : St) :: Y) P2 (1 + (cost p + 1)) (fun s i j => ∃ m, M s p i m ∧ Star (M s p) m j) :=
    ⟨M3, G3, by rw [LEN]; exact bl, by simp; omega, CLOSE, fun s => (FL s).2⟩
  obtain ⟨s0, s1, s2, sf⟩ := cells3_at B3
  have U1 := hide U1
  have U2 := hide U2
  clear hv hf H2 B1 nB1 p0 p1 p2 pf CE2 hcx m2 m7 m8 m9 laA m5 m6 M3 G3 FL CLOSE EQ LEN i3 l3 la gs ga SZ3 FR SH m4
  generalize (S ++ [st0] ++ Y).length = N at *
  generalize hn0 : S.length = n0 at *
  have HN0 := hide hn0
  clear hn0
  have j1 : (n0 : Int) < (N : Int) := by omega
  have j2 : (N : Int) ≤ 900000 := by omega
  by_cases h0 : lo = 0
  · subst h0
    have l0 : (((0 : Nat) : Int) == 0) = true := rfl
    go_wp2_with fail
    go_ret
    exact addU_frag (U1.out.as pc1 (fun s i j => often_star))
  · have l0 : ((lo : Int) == 0) = false := by rw [beq_eq_false_iff_ne]; omega
    have l1 : (1 : Int) ≤ (lo : Int) := by omega
    have l2 : (lo : Int) ≤ 99 := by omega
    have EL : pcost p lo none = 1 + (cost p + 1) + (lo - 1) * (cost p + 1) := by
      rw [PC.out, Nat.add_mul]; omega
    have H3 := hide (fun hh => addTimes_of k HA p (.iface t u) (lo - 1) (by omega) hpA _ Mb _ P2 A b2 HAT.out (U2.out.ready HR.out hh))
    rw [show ((lo - 1 : Nat) : Int) = (lo : Int) - 1 by omega] at H3
    go_wp2_with fail
    refine (H3.out (by omega)).mono ?_
    intro e w4 hf
    obtain ⟨b4, Z, P4, rfl, hv⟩ := frag_addU hf
    have HV := hide hv
    clear hv hf
    go_wp2_with fail
    go_ret
    refine addU_frag ((U2.out.more HV.out).as (by omega) (fun s i j => ?_))
    have := often_plus (R := M s p) (lo := lo - 1) (i := i) (j := j)
    rw [show lo - 1 + 1 = lo by omega] at this
    exact this

end Go.Proofs.YtncljgpcloanfaaDoor
namespace Go.Proofs.YtncljgpcloanfaaDoor
open Go.RowKit

theorem AddU.fork {w wr w2 w3 : World} {Mb : Nat} {S : List St} {P A : Nat → Prop} {nx b b2 : Nat} {X Y : List St} {P' P2 P3 : Nat → Prop} {c d : Nat} {R Q : List Nat → Nat → Nat → Prop} (pos : 0 < S.length) (hnx : nx < S.length) (u : AddU w wr Mb S P A nx b X P' c Q) (v : AddU wr w2 Mb (S ++ X) P' A b b2 Y P2 d R) (f : Nat → Bool)
    (m : Mach w3 Mb ((S ++ X ++ Y) ++ [⟨false, f, [b2, nx]⟩]) P3 A) (g : MGo P2 P3 w2 w3) : AddU w w3 Mb S P A nx (S ++ X ++ Y).length (X ++ Y ++ [⟨false, f, [b2, nx]⟩]) P3 (c + d + 1) (fun s i j => i = j ∨ ∃ m, R s i m ∧ Q s m j) := by
  have e : S ++ (X ++ Y ++ [(⟨false, f, [b2, nx]⟩ : St)]) = (S ++ X ++ Y) ++ [⟨false, f, [b2, nx]⟩] := by simp
  have f1 := u.few
  have f2 := v.few
  have vl := v.bl
  refine ⟨by rw [e]; exact m, (u.go.trans v.go).trans g, by rw [e]; simp, by simp; omega, fun st hst q hq => ?_, fun s => ?_⟩
  · rw [e, List.length_append]
    rcases List.mem_append.1 hst with h | h
    · rcases List.mem_append.1 h with h | h
      · have := u.shut st h q hq
        rw [List.length_append]; omega
      · have := v.shut st h q hq
        omega
    · simp at h; subst h
      simp at hq
      rcases hq with rfl | rfl
      · omega
      · rw [List.length_append, List.length_append]; omega
  · have h2 := v.frag s
    rw [List.length_append] at h2
    have := frag_more (f := f) pos (u.frag s) h2
    rw [show (S ++ X ++ Y).length = S.length + (X ++ Y).length by simp]
    exact this

set_option maxHeartbeats 8000000 in
theorem addPiece_of (k : Nat) (HA : AtC k) (p : Pat) (av : Value) (lo : Nat) (hi : Option Nat) (g : Bool) (hok : OftOk g lo hi) (hpA : Hp) (w : World) (Mb : Nat) (S : List St) (P A : Nat → Prop) (nx : Nat) (ha : AtomIs hpA k av p) (hr : Ready w Mb S P A hpA nx (pcost p lo hi)) :
    Calls Tryd.prog 50 #[.pointer (some ⟨Mb, 0, none⟩), .agg #[av, .int .i64 (lo : Int), .int .i64 (hiZ hi)], .int .i64 (nx : Int)] w (FragPost w Mb S P A nx (fun s => Often (M s p) lo hi) (pcost p lo hi)) := by
  obtain ⟨t, u, rfl⟩ := ha.shape
  have low := hok.low
  have room := hr.room
  have pos := hr.pos
  have nxl := hr.nx
  have nB : ¬ P w.heap.size := fun h => by have := hr.mach.lt _ h; omega
  have B0 := heap_alloc_new w (.cells #[.iface t u, .int .i64 (lo : Int), .int .i64 (hiZ hi)] 91)
  have MA := hr.mach.alloc (.cells #[.iface t u, .int .i64 (lo : Int), .int .i64 (hiZ hi)] 91)
  have GO := (MGo.refl P w).alloc (.cells #[.iface t u, .int .i64 (lo : Int), .int .i64 (hiZ hi)] 91)
  have IA := hr.hin.grown (World.grownBy_alloc w (.cells #[.iface t u, .int .i64 (lo : Int), .int .i64 (hiZ hi)] 91) none) (fun _ e => by cases e)
  have R1 : Ready (w.alloc (.cells #[.iface t u, .int .i64 (lo : Int), .int .i64 (hiZ hi)] 91)) Mb S P A hpA nx (pcost p lo hi) := ⟨MA, IA, hr.ap, hr.apA, (fun k hk => by have := hr.ltA k hk; simp; omega), hr.pos, hr.nx, hr.room⟩
  have RR := hide R1
  have HAT := hide ha
  have GO := hide GO
  obtain ⟨p0, p1, p2, pf⟩ := cells3_at B0
  cases hi with
  | none =>
    have HL := hide (addLoop_of k HA p (.iface t u) lo low hpA _ Mb S P A nx ha R1)
    clear MA IA R1 hr ha
    go_enter Tryd.func50, Tryd.ntmps50
    go_wp2_with fail
    refine HL.out.mono ?_
    rintro e w2 ⟨b, X, P', rfl, m2, g2, r⟩
    go_wp2_with fail
    go_ret
    exact ⟨b, X, P', rfl, m2, GO.out.trans g2, r⟩
  | some h =>
    obtain ⟨hl, h99⟩ := hok.high h rfl
    have pc : pcost p lo (some h) = lo * (cost p + 1) + (h - lo) * (cost p + 2) := rfl
    have START : AddU (w.alloc (.cells #[.iface t u, .int .i64 (lo : Int), .int .i64 (h : Int)] 91)) (w.alloc (.cells #[.iface t u, .int .i64 (lo : Int), .int .i64 (h : Int)] 91)) Mb S P A nx nx [] P (0 * (cost p + 2)) (fun s => UpTo (M s p) 0) := (AddU.start MA nxl).as (Nat.zero_le _) (fun s i j => upto_zero.symm)
    have e1 : ((h : Int) == -1) = false := by rw [beq_eq_false_iff_ne]; omega
    have j1 : (lo : Int) ≤ (h : Int) := by omega
    have j2 : (h : Int) ≤ 99 := by omega
    have j3 : 0 ≤ (lo : Int) := by omega
    have HS := hide START
    have PC := hide pc
    clear MA IA R1 hr ha START pc
    show Calls _ _ #[_, .agg #[_, _, .int .i64 (h : Int)], _] _ _
    have B0' : (w.alloc (.cells #[.iface t u, .int .i64 (lo : Int), .int .i64 (h : Int)] 91)).heap[w.heap.size]? = _ := B0
    have p0' : (w.alloc (.cells #[.iface t u, .int .i64 (lo : Int), .int .i64 (h : Int)] 91)).cell? ⟨w.heap.size, 0, none⟩ = _ := p0
    have p1' : (w.alloc (.cells #[.iface t u, .int .i64 (lo : Int), .int .i64 (h : Int)] 91)).cell? ⟨w.heap.size, 1, none⟩ = _ := p1
    have p2' : (w.alloc (.cells #[.iface t u, .int .i64 (lo : Int), .int .i64 (h : Int)] 91)).cell? ⟨w.heap.size, 2, none⟩ = some (.int .i64 (h : Int)) := p2
    have RR' : Hid (Ready (w.alloc (.cells #[.iface t u, .int .i64 (lo : Int), .int .i64 (h : Int)] 91)) Mb S P A hpA nx (pcost p lo (some h))) := RR
    have GO' : Hid (MGo P P w (w.alloc (.cells #[.iface t u, .int .i64 (lo : Int), .int .i64 (h : Int)] 91))) := GO
    clear B0 p0 p1 p2 pf RR GO
    go_enter Tryd.func50, Tryd.ntmps50
    go_wp2_with fail
    generalize w.alloc (.cells #[.iface t u, .int .i64 (lo : Int), .int .i64 (h : Int)] 91) = w0 at *
    have EW : Hid (∀ i, i ≤ h - lo → i * (cost p + 2) + lo * (cost p + 1) ≤ pcost p lo (some h)) := by
      intro i hi
      rw [PC.out]
      have := Nat.mul_le_mul_right (cost p + 2) hi
      omega
    go_loopw [7, 21] (fun bv iv wr => ∃ (i b : Nat) (X : List St) (P' : Nat → Prop), i ≤ h - lo ∧ iv = .int .i64 (i : Int) ∧ bv = .int .i64 (b : Int) ∧ AddU w0 wr Mb S P A nx b X P' (i * (cost p + 2)) (fun s => UpTo (M s p) i)) (fun _ iv _ => h - lo - (intOf iv).toNat)
    case atStart => exact ⟨0, nx, [], P, Nat.zero_le _, rfl, rfl, HS.out⟩
    case round =>
      obtain ⟨i, b, X, P', hi, rfl, rfl, hu⟩ := hrel
      rename World => wr
      obtain ⟨B1, nB1⟩ := hu.go.heap B0' nB
      obtain ⟨q0, q1, q2, qf⟩ := cells3_at B1
      have HU := hide hu
      by_cases hlt : i < h - lo
      · have i1 : (i : Int) < (h : Int) - (lo : Int) := by omega
        have c1 : i * (cost p + 2) + (cost p + 2) ≤ pcost p lo (some h) := by
          have := EW.out (i + 1) hlt
          rw [Nat.succ_mul] at this
          omega
        have HC := hide (HA p (.iface t u) hpA wr Mb (S ++ X) P' A b HAT.out (hu.ready RR'.out (by omega)))
        clear hu HS p0' p1' p2'
        go_wp2_with fail
        refine HC.out.mono ?_
        intro e w2 hf
        obtain ⟨b2, Y, P2, rfl, hv⟩ := frag_addU hf
        have fx := HU.out.few
        have fy := hv.few
        have MA := hv.mach.alloc (.cells #[.int .i64 (b2 : Int), .int .i64 (nx : Int)] 3)
        have li := lit_in w2 #[.int .i64 (b2 : Int), .int .i64 (nx : Int)] 3
        have ln := lit_next w2.heap.size [b2, nx] (by show 2 ≤ 1000; omega)
        have la : (litHp w2.heap.size #[.int .i64 (b2 : Int), .int .i64 (nx : Int)] 3).Apart P2 := lit_apart (fun hh => by have := hv.mach.lt _ hh; omega)
        have laA : (litHp w2.heap.size #[.int .i64 (b2 : Int), .int .i64 (nx : Int)] 3).Apart A := lit_apart (fun hh => by have := RR'.out.ltA _ hh; have := (HU.out.go.trans hv.go).size; omega)
        have H3 := hide (add_any Mb (S ++ X ++ Y) ⟨false, fun _ => false, [b2, nx]⟩ P2 A false none (some ⟨w2.heap.size, 0, none⟩) 0 0 2 2 _ _ MA (by rw [List.length_append, List.length_append]; omega) li la laA ⟨rfl, ⟨false, [], ⟨rfl, .inl ⟨rfl, rfl⟩⟩, rfl, Nat.zero_le _, fun e => by cases e⟩, ln, fun e => by cases e⟩)
        have GA := hide ((MGo.refl P2 w2).alloc (.cells #[.int .i64 (b2 : Int), .int .i64 (nx : Int)] 3))
        have HV := hide hv
        clear hv hf MA li ln la laA HC
        go_wp2_with fail
        refine H3.out.mono ?_
        rintro e w3 ⟨rfl, P3, m3, g3⟩
        go_wp2_with fail
        go_roundw
        case rel =>
          refine ⟨i + 1, (S ++ X ++ Y).length, _, P3, by omega, by go_num, by rw [List.length_append, List.length_append]; congr 1; omega, (HU.out.fork pos nxl HV.out (fun _ => false) m3 (GA.out.trans g3)).as ?_ (fun s a c => upto_more.symm)⟩
          rw [Nat.succ_mul]; omega
        case measure => simp [intOf]; omega
      · obtain rfl : i = h - lo := by omega
        have i1 : ¬ ((h - lo : Nat) : Int) < (h : Int) - (lo : Int) := by omega
        have H4 := hide (addTimes_of k HA p (.iface t u) lo (by omega) hpA wr Mb (S ++ X) P' A b HAT.out (hu.ready RR'.out (EW.out _ (Nat.le_refl _))))
        clear hu HS p0' p1' p2'
        go_wp2_with fail
        refine H4.out.mono ?_
        intro e w4 hf
        obtain ⟨b4, Z, P4, rfl, hv⟩ := frag_addU hf
        have HV := hide hv
        clear hv hf
        go_wp2_with fail
        go_ret
        obtain ⟨b5, X5, P5, e5, m5, g5, r5⟩ := addU_frag ((HU.out.more HV.out).as (EW.out _ (Nat.le_refl _)) (fun s i j => often_some))
        exact ⟨b5, X5, P5, e5, m5, GO'.out.trans g5, r5⟩

theorem drop_pred {ps : List Pc} {j : Nat} (h : j < ps.length) : ps.drop j = ps[j] :: ps.drop (j + 1) := List.drop_eq_getElem_cons h
set_option maxHeartbeats 8000000 in
theorem addRow_of (k : Nat) (HA : AtC k) (ps : List Pc) (v : Value) (hpA : Hp) (w : World) (Mb : Nat) (S : List St) (P A : Nat → Prop) (nx : Nat) (ha : RowIs hpA (AtomIs hpA k) v ps) (hr : Ready w Mb S P A hpA nx (cost (rowP ps))) :
    Calls Tryd.prog 38 #[.pointer (some ⟨Mb, 0, none⟩), v, .int .i64 (nx : Int)] w (FragPost w Mb S P A nx (fun s => M s (rowP ps)) (cost (rowP ps))) := by
  obtain ⟨xs, hx1, hx2⟩ := ha
  obtain ⟨q, m, c, rfl⟩ := hx1.shape
  have hpl : ps.length ≤ 9223372036854775807 := by
    rcases hx1.2 with ⟨_, e2⟩ | ⟨g, cap, cur, _, _, e3, e4, _⟩
    · omega
    · unfold maxLen at e4; omega
  obtain rfl : m = ps.length := by
    rcases hx1.2 with ⟨e, e2⟩ | ⟨g, cap, cur, e, _⟩
    · cases e; exact e2.symm
    · cases e; rfl
  have HS : Hid (AddU w w Mb S P A nx nx [] P (cost (rowP (ps.drop ps.length))) (fun s => M s (rowP (ps.drop ps.length)))) := by
    rw [List.drop_length]
    exact AddU.start hr.mach hr.nx
  have HR := hide hr
  have HX1 := hide hx1
  have HX2 := hide hx2
  have CL : Hid (∀ j, cost (rowP (ps.drop j)) ≤ cost (rowP ps)) := by
    intro j
    induction j with
    | zero => exact Nat.le_refl _
    | succ j ih =>
      by_cases hj : j < ps.length
      · rw [drop_pred hj, cost_row] at ih; omega
      · rw [List.drop_eq_nil_of_le (by omega)]; exact Nat.zero_le _
  clear hr hx1 hx2
  go_enter Tryd.func38, Tryd.ntmps38
  go_wp2_with fail
  go_loopw [2, 7] (fun nv iv wr => ∃ (j b : Nat) (X : List St) (P' : Nat → Prop), j ≤ ps.length ∧ iv = .int .i64 ((j : Int) - 1) ∧ nv = .int .i64 (b : Int) ∧ AddU w wr Mb S P A nx b X P' (cost (rowP (ps.drop j))) (fun s => M s (rowP (ps.drop j)))) (fun _ iv _ => (intOf iv + 1).toNat)
  case atStart => exact ⟨ps.length, nx, [], P, Nat.le_refl _, rfl, rfl, HS.out⟩
  case round =>
    obtain ⟨j, b, X, P', hj, rfl, rfl, hu⟩ := hrel
    rename World => wr
    by_cases hlt : 0 < j
    · obtain ⟨i, rfl⟩ : ∃ i, j = i + 1 := ⟨j - 1, by omega⟩
      have hi : i < ps.length := by omega
      obtain ⟨inr, apr⟩ := HR.out.hin.go HR.out.ap hu.go
      obtain ⟨gr, cp, e, _, _, _, hcell⟩ := HX1.out.form (by omega) inr
      cases e
      obtain ⟨av, b0, b1, b2, b3, b4⟩ := HX2.out i ps[i] (List.getElem?_eq_getElem hi)
      obtain ⟨t, u, rfl⟩ := b3.shape
      have k0 : wr.cell? ⟨gr, i * 3, none⟩ = some (.iface t u) := by rw [hcell _ (by omega), show i * 3 = 3 * i by omega]; exact b0
      have k1 : wr.cell? ⟨gr, i * 3 + 1, none⟩ = some (.int .i64 (ps[i].2.1 : Int)) := by rw [hcell _ (by omega), show i * 3 + 1 = 3 * i + 1 by omega]; exact b1
      have k2 : wr.cell? ⟨gr, i * 3 + 2, none⟩ = some (.int .i64 (hiZ ps[i].2.2)) := by rw [hcell _ (by omega), show i * 3 + 2 = 3 * i + 2 by omega]; exact b2
      have cr : cost (rowP (ps.drop i)) = pcost ps[i].1 ps[i].2.1 ps[i].2.2 + cost (rowP (ps.drop (i + 1))) := by rw [drop_pred hi, cost_row]
      have room : cost (rowP (ps.drop (i + 1))) + pcost ps[i].1 ps[i].2.1 ps[i].2.2 ≤ cost (rowP ps) := by have := CL.out i; omega
      have HP := hide (addPiece_of k HA ps[i].1 (.iface t u) ps[i].2.1 ps[i].2.2 _ b4 hpA wr Mb (S ++ X) P' A b b3 (hu.ready HR.out room))
      have HU := hide hu
      have CR := hide cr
      have DP := hide (drop_pred hi)
      have z0 : 0 ≤ (i : Int) := by omega
      have z1 : (i : Int) < (ps.length : Int) := by omega
      have z2 : (ps.length : Int) ≤ 9223372036854775807 := by omega
      rw [show ((i + 1 : Nat) : Int) - 1 = (i : Int) by omega]
      clear hu HS b0 b1 b2 b3 b4 hcell cr room inr apr CL
      generalize ps[i] = pi at *
      go_wp2_with fail
      refine HP.out.mono ?_
      intro e w2 hf
      obtain ⟨b2, Y, P2, rfl, hv⟩ := frag_addU hf
      have HV := hide hv
      clear hv hf
      go_wp2_with fail
      go_roundw
      case rel =>
        refine ⟨i, b2, X ++ Y, P2, by omega, rfl, rfl, (HU.out.more HV.out).as (by rw [CR.out]; omega) (fun s a c => ?_)⟩
        rw [DP.out]
        exact (M_piece s _ _ _ _ a c).symm
      case measure => simp [intOf]
    · obtain rfl : j = 0 := by omega
      have HU := hide hu
      clear hu HS
      go_wp2_with fail
      go_ret
      exact addU_frag HU.out

end Go.Proofs.YtncljgpcloanfaaDoor
namespace Go.Proofs.YtncljgpcloanfaaDoor
open Go.RowKit

theorem rt_int : RowTypes Tryd.prog 32 3 (.int .i64 0) 1 8 := ⟨Tryd.underlying32, by kernel_rfl, rfl, by decide⟩
theorem cellI_one (l : List Nat) : ∀ u ∈ l.map cellI, u.oneCell' = true := by
  intro u hu
  obtain ⟨c, _, rfl⟩ := List.mem_map.1 hu
  rfl
/-- Rows that are added under way: where each begins. -/
structure GrU (w wr : World) (Mb : Nat) (S : List St) (P A : Nat → Prop) (nx : Nat) (rows : List (List Pc)) (i : Nat) (bv : Value) (bs : List Nat) (X : List St) (P' : Nat → Prop) : Prop where
  mach : Mach wr Mb (S ++ X) P' (fun k => A k ∨ bv.ownBlock = some k)
  go : MGo P P' w wr
  own : wr.ownsRow w.heap.size 3 1 bv bs.length (bs.map cellI)
  apart : ∀ j, bv.ownBlock = some j → ¬ P' j
  len : bs.length = i
  few : X.length ≤ ((rows.take i).map (fun r => cost (rowP r))).sum
  shut : ∀ st ∈ X, ∀ q ∈ st.next, q < (S ++ X).length
  bl : ∀ b ∈ bs, b < (S ++ X).length
  frag : ∀ s (j b : Nat) (r : List Pc), bs[j]? = some b → rows[j]? = some r → Frag s X S.length b nx (M s (rowP r))
theorem sum_take (rows : List (List Pc)) (i : Nat) (h : i < rows.length) : ((rows.take (i + 1)).map (fun r => cost (rowP r))).sum = ((rows.take i).map (fun r => cost (rowP r))).sum + cost (rowP rows[i]) := by
  rw [List.take_succ_eq_append_getElem h, List.map_append, List.sum_append]; simp
theorem sum_take_le (rows : List (List Pc)) (i : Nat) : ((rows.take i).map (fun r => cost (rowP r))).sum ≤ (rows.map (fun r => cost (rowP r))).sum := by
  have e : rows = rows.take i ++ rows.drop i := (List.take_append_drop i rows).symm
  rw [congrArg (List.map (fun r => cost (rowP r))) e, List.map_append, List.sum_append]
  omega
theorem Mach.weak {w : World} {Mb : Nat} {S : List St} {P A B : Nat → Prop} (h : Mach w Mb S P A) (hb : ∀ k, B k → A k) : Mach w Mb S P B := by
  obtain ⟨sv, xs, f, hp, m1, m2, m3, m4, m5, m6, m7, m8, m9⟩ := h
  exact ⟨sv, xs, f, hp, m1, m2, m3, m4, m5, m6, m7, m8, fun k o e hk => m9 k o e (hb k hk)⟩

set_option maxHeartbeats 8000000 in
theorem grC_of (k : Nat) (HA : AtC k) : GrC k := by
  intro p rv hpA w Mb S P A nx hgi hr
  obtain ⟨rows, ⟨hne, h1000⟩, rfl, vs, hx1, hx2⟩ := hgi
  obtain ⟨q, m, c, rfl⟩ := hx1.shape
  have hlen : 0 < rows.length := List.length_pos_iff.2 hne
  obtain rfl : m = rows.length := by
    rcases hx1.2 with ⟨e, e2⟩ | ⟨g, cap, cur, e, _⟩
    · cases e; exact e2.symm
    · cases e; rfl
  have CO : cost (altsP (rows.map rowP)) = (rows.map (fun r => cost (rowP r))).sum := by rw [cost_alts, List.map_map]; rfl
  have room := hr.room
  have pos := hr.pos
  have nxl := hr.nx
  have nB : ¬ P w.heap.size := fun h => by have := hr.mach.lt _ h; omega
  have B0 := heap_alloc_new w (.cells #[.slice q rows.length c] 37)
  obtain ⟨p0, pf⟩ := cells1_at B0
  have HS : Hid (GrU w (w.alloc (.cells #[.slice q rows.length c] 37)) Mb S P A nx rows 0 (.slice none 0 0) [] [] P) :=
    ⟨by simpa [Value.ownBlock] using hr.mach.alloc _, (MGo.refl P w).alloc _, World.ownsRow_nil _ _ _ _, (fun _ e => by cases e), rfl, Nat.zero_le _, (fun _ h => by cases h), (fun _ h => by cases h), (fun s j b r e => by simp at e)⟩
  have HR := hide hr
  have HX1 := hide hx1
  have HX2 := hide hx2
  have CO := hide CO
  clear hr hx1 hx2 B0
  go_enter Tryd.func27, Tryd.ntmps27
  go_wp2_with fail
  go_loopw [7, 13] (fun bv iv wr => ∃ (i : Nat) (bs : List Nat) (X : List St) (P' : Nat → Prop), i ≤ rows.length ∧ iv = .int .i64 (i : Int) ∧ GrU w wr Mb S P A nx rows i bv bs X P') (fun _ iv _ => rows.length - (intOf iv).toNat)
  case atStart => exact ⟨0, [], [], P, Nat.zero_le _, rfl, HS.out⟩
  case round =>
    obtain ⟨i, bs, X, P', hi, rfl, hu⟩ := hrel
    rename World => wr
    have HU := hide hu
    have BL := hide hu.len
    have bll : bs.length ≤ rows.length := by rw [hu.len]; exact hi
    by_cases hlt : i < rows.length
    · obtain ⟨inr, apr⟩ := HR.out.hin.go HR.out.ap hu.go
      obtain ⟨gr, cp, e, _, _, _, hcell⟩ := HX1.out.form hlen inr
      cases e
      obtain ⟨v, v1, v2⟩ := HX2.out i rows[i] (List.getElem?_eq_getElem hlt)
      have vsh : ∃ q n c, v = .slice q n c := by
        obtain ⟨ys, y1, _⟩ := v2
        exact y1.shape
      obtain ⟨vq, vn, vc, rfl⟩ := vsh
      have k0 : wr.cell? ⟨gr, i, none⟩ = some (.slice vq vn vc) := by rw [hcell _ (by omega)]; exact v1
      have st := sum_take rows i hlt
      have sl := sum_take_le rows (i + 1)
      have few := hu.few
      have co := CO.out
      have AA : hpA.Apart (fun k => A k ∨ u7.ownBlock = some k) := fun k o e hk => by
        rcases hk with hk | hk
        · exact HR.out.apA k o e hk
        · have := (hu.own.lt k hk).1
          have := HR.out.hin.lt e
          omega
      have LA : ∀ k, (A k ∨ u7.ownBlock = some k) → k < wr.heap.size := fun k hk => by
        rcases hk with hk | hk
        · exact Nat.lt_of_lt_of_le (HR.out.ltA k hk) hu.go.size
        · exact (hu.own.lt k hk).2
      have RD : Ready wr Mb (S ++ X) P' (fun k => A k ∨ u7.ownBlock = some k) hpA nx (cost (rowP rows[i])) := ⟨hu.mach, inr, apr, AA, LA, by rw [List.length_append]; omega, by rw [List.length_append]; omega, by rw [List.length_append]; omega⟩
      have HP := hide (addRow_of k HA rows[i] (.slice vq vn vc) hpA wr Mb (S ++ X) P' _ nx v2 RD)
      have RE := hide (List.getElem?_eq_getElem hlt)
      have ST := hide st
      have z1 : (i : Int) < (rows.length : Int) := by omega
      have z2 : (rows.length : Int) ≤ 1000 := by omega
      clear hu HS v1 v2 hcell st sl few co inr apr RD AA LA
      generalize rows[i] = ri at *
      go_wp2_with fail
      refine HP.out.mono ?_
      intro e w2 hf
      obtain ⟨b2, Y, P2, rfl, hv⟩ := frag_addU hf
      have szr := HU.out.go.size
      have sz2 := hv.go.size
      obtain ⟨own2, ap2⟩ := own_go HU.out.own HU.out.apart hv.go
      have own3 := own2.alloc (.cells #[.int .i64 (b2 : Int)] 3)
      have M3 := hv.mach.alloc (.cells #[.int .i64 (b2 : Int)] 3)
      have G3 := (HU.out.go.trans hv.go).alloc (.cells #[.int .i64 (b2 : Int)] 3)
      have SRC : Hid (∀ j, j < 1 * 1 → (w2.alloc (.cells #[.int .i64 (b2 : Int)] 3)).cell? ⟨w2.heap.size, j, none⟩ = [Value.int .i64 (b2 : Int)][j]?) := by
        intro j hj
        rw [cell_of_row _ _ j _ _ _ (heap_alloc_new w2 _)]
        simp
      have LT := hide hv.mach.lt
      have HV := hide hv
      have OWN3 := hide own3
      have M3 := hide M3
      have G3 := hide G3
      have AP2 := hide ap2
      clear hv hf own2 own3 ap2 HP
      go_wp2_with (at_builtin; refine wpList_append_row rt_int _ rfl _ _ rfl w.heap.size u7 bs.length (bs.map cellI) rfl OWN3.out w2.heap.size 1 1 [Value.int .i64 (b2 : Int)] rfl rfl SRC.out (by intro u hu; simp at hu; subst hu; rfl) (by omega) (by omega) (by omega) (by simp; omega) ?_; intro g5 cap5 w5 hown5 hgrow5 hat5 hlt5)
      have np : ¬ P2 g5 := by
        rcases hat5 with e | e
        · exact AP2.out _ e
        · intro hh
          have := LT.out _ hh
          simp at e; omega
      have M5 : Mach w5 Mb ((S ++ X) ++ Y) P2 (fun k => A k ∨ Value.ownBlock (.slice (some ⟨g5, 0, none⟩) (bs.length + 1) cap5) = some k) := by
        obtain ⟨sv, xs, f, hp, m1, m2, m3, m4, m5, m6, m7, m8, m9⟩ := M3.out
        refine ⟨sv, xs, f, hp, grown_heap hgrow5 m1 (fun e => AP2.out _ e m3), m2.kept hgrow5 ?_, m3, m4, m5.grown hgrow5 (fun k e => m9.none (.inr e)), m6, m7, fun j hj => Nat.lt_of_lt_of_le (m8 j hj) hgrow5.size, fun k o e hk => ?_⟩
        · cases hv : sv.ownBlock with
          | none => exact .inl rfl
          | some j => exact .inr (fun e => AP2.out j e.symm (m4 j hv).1)
        · rcases hk with hk | hk
          · exact m9 k o e (.inl hk)
          · cases hk
            rcases hat5 with e5 | e5
            · exact m9 _ o e (.inr e5)
            · have : g5 < _ := m5.lt e
              omega
      have AE := List.append_assoc S X Y
      refine ⟨⟨i + 1, bs ++ [b2], X ++ Y, P2, by omega, by go_num, ?_, ?_, ?_, ?_, ?_, ?_, ?_, ?_, ?_⟩, ?_⟩
      · rw [← AE]; exact M5
      · exact G3.out.grown hgrow5 (fun j e => .inr (by have := (HU.out.own.lt j e).1; omega))
      · rw [List.length_append, List.length_singleton, List.map_append]; exact hown5
      · intro j e; cases e; exact np
      · rw [List.length_append, List.length_singleton, BL.out]
      · rw [ST.out, List.length_append]
        have := HU.out.few
        have := HV.out.few
        omega
      · intro st hst q hq
        rw [← AE]
        rcases List.mem_append.1 hst with h | h
        · have := HU.out.shut st h q hq
          rw [List.length_append]; omega
        · exact HV.out.shut st h q hq
      · intro b hb
        rw [← AE]
        rcases List.mem_append.1 hb with h | h
        · have := HU.out.bl b h
          rw [List.length_append]; omega
        · simp at h; subst h; exact HV.out.bl
      · intro s j b r hb hrj
        by_cases hj : j < bs.length
        · rw [List.getElem?_append_left hj] at hb
          exact (HU.out.frag s j b r hb hrj).mono (fun T hT => hT.left)
        · have hl := (List.getElem?_eq_some_iff.1 hb).1
          rw [List.length_append, List.length_singleton] at hl
          obtain rfl : j = bs.length := by omega
          rw [List.getElem?_append_right (Nat.le_refl _), Nat.sub_self] at hb
          cases hb
          rw [BL.out, RE.out] at hrj
          cases hrj
          have h2 := HV.out.frag s
          rw [List.length_append] at h2
          exact h2.mono (fun T hT => hT.right)
      · simp [intOf]; omega
    · obtain rfl : i = rows.length := by omega
      have z1 : ¬ (rows.length : Int) < (rows.length : Int) := by omega
      obtain ⟨h1, i1, q1, o1⟩ := RowIn.of hu.own
      have ap1 : h1.Apart P' := fun k o e => hu.apart k (o1 k o e)
      have apA : h1.Apart A := fun k o e hk => by
        have := (hu.own.lt k (o1 k o e)).1
        have := HR.out.ltA k hk
        omega
      have few := hu.few
      have sl := sum_take_le rows rows.length
      have co := CO.out
      obtain ⟨bq, bn, bc, hbv⟩ := own_shape hu.own
      subst hbv
      have H3 := hide (add_any Mb (S ++ X) ⟨false, fun _ => false, bs⟩ P' A false none bq 0 0 bn bc h1 wr (hu.mach.weak (fun k hk => .inl hk)) (by rw [List.length_append]; omega) i1 ap1 apA ⟨rfl, ⟨false, [], ⟨rfl, .inl ⟨rfl, rfl⟩⟩, rfl, Nat.zero_le _, fun e => by cases e⟩, q1, fun e => by cases e⟩)
      clear hu HS i1 q1 o1 ap1 apA
      go_wp2_with fail
      refine H3.out.mono ?_
      rintro e w3 ⟨rfl, P3, m3, g3⟩
      go_wp2_with fail
      go_ret
      have e1 : S ++ (X ++ [(⟨false, fun _ => false, bs⟩ : St)]) = (S ++ X) ++ [⟨false, fun _ => false, bs⟩] := by simp
      refine ⟨(S ++ X).length, X ++ [⟨false, fun _ => false, bs⟩], P3, ?_, by rw [e1]; exact m3, HU.out.go.trans g3, by rw [e1]; simp, ?_, ?_, fun s => ?_⟩
      · exact ret_int (by rw [List.length_append]; omega)
      · rw [co, List.length_append, List.length_singleton]; omega
      · intro st hst q hq
        rw [e1, List.length_append]
        rcases List.mem_append.1 hst with h | h
        · have := HU.out.shut st h q hq
          omega
        · simp at h; subst h
          have := HU.out.bl q hq
          omega
      · have := frag_rows (s := s) (X := X) (n0 := S.length) (nx := nx) (f := fun _ => false) (bs := bs) (ps := rows.map rowP) pos (by rw [List.length_map, BL.out]) (fun k b p hb hp => by
          rw [List.getElem?_map] at hp
          obtain ⟨r, hr, rfl⟩ := Option.map_eq_some_iff.1 hp
          exact HU.out.frag s k b r hb hr)
        rw [List.length_append]
        exact this.as (fun i j => (M_alts s (rows.map rowP) (by simpa using hne) i j).symm)
theorem grC_any : ∀ k, GrC k
  | 0 => grC_of 0 (atC_of 0 (fun j e => by omega))
  | k + 1 => grC_of _ (atC_of _ (fun j e => by
    obtain rfl : k = j := by omega
    exact grC_any k))

end Go.Proofs.YtncljgpcloanfaaDoor
namespace Go.Proofs.YtncljgpcloanfaaDoor
open Go.RowKit

/-- A machine that is built: it stays as it is. -/
structure Auto (w : World) (Mb : Nat) (S : List St) (f : Nat) (hp : Hp) (sv : Value) (xs : List Value) : Prop where
  lies : hp Mb = some (.cells #[sv, .int .i64 (f : Int)] 60 (0, 0))
  row : RowIn hp 57 4 sv S.length xs
  elems : ∀ i st, S[i]? = some st → ∃ c0 c1 c2 c3, xs[4 * i]? = some c0 ∧ xs[4 * i + 1]? = some c1 ∧ xs[4 * i + 2]? = some c2 ∧ xs[4 * i + 3]? = some c3 ∧ StIs hp c0 c1 c2 c3 st
  hin : hp.In w
  shut : ∀ st ∈ S, ∀ q ∈ st.next, q < S.length
  first : f < S.length
  few : S.length ≤ 900000
/-- What 'build' answers. -/
def BuildPost (w : World) (p : Pat) (e : Ending) (w' : World) : Prop :=
  ∃ (Mb : Nat) (S : List St) (f : Nat) (hp : Hp) (sv : Value) (xs : List Value), e = .returned (.pointer (some ⟨Mb, 0, none⟩)) ∧ Auto w' Mb S f hp sv xs ∧ (∀ s : List Nat, Path S s f 0 s.length ↔ M s p 0 s.length) ∧ Below w.heap.size w w'

set_option maxHeartbeats 8000000 in
theorem build_any (p : Pat) (rv : Value) (hpA : Hp) (w : World) (hg : GroupIs hpA (AtomIs hpA 8) rv p) (hin : hpA.In w) (hc : cost p ≤ 800000) :
    Calls Tryd.prog 19 #[.agg #[rv]] w (BuildPost w p) := by
  have sh : ∃ q m c, rv = .slice q m c := by
    obtain ⟨rows, _, _, vs, h, _⟩ := hg
    exact h.shape
  obtain ⟨q, m, c, rfl⟩ := sh
  have B0 := heap_alloc_new w (.cells #[.slice q m c] 37)
  have e1 : (w.alloc (.cells #[.slice q m c] 37)).heap.size = w.heap.size + 1 := by simp
  have own0 := World.ownsRow_lit (base := 0) (e := 57) (size := 4) (w.alloc (.cells #[.slice q m c] 37)) #[.bool false, .slice none 0 0, .bool false, .slice none 0 0] 1 (Nat.zero_le _) (by unfold maxLen; omega) rfl
  rw [e1] at own0
  have own1 := own0.alloc (.cells #[.slice (some ⟨w.heap.size + 1, 0, none⟩) 1 1, .int .i64 0] 60)
  have L1 := heap_alloc_new ((w.alloc (.cells #[.slice q m c] 37)).alloc (.cells #[.bool false, .slice none 0 0, .bool false, .slice none 0 0] 57)) (.cells #[.slice (some ⟨w.heap.size + 1, 0, none⟩) 1 1, .int .i64 0] 60)
  have e2 : ((w.alloc (.cells #[.slice q m c] 37)).alloc (.cells #[.bool false, .slice none 0 0, .bool false, .slice none 0 0] 57)).heap.size = w.heap.size + 2 := by simp
  rw [e2] at L1
  have e3 : (((w.alloc (.cells #[.slice q m c] 37)).alloc (.cells #[.bool false, .slice none 0 0, .bool false, .slice none 0 0] 57)).alloc (.cells #[.slice (some ⟨w.heap.size + 1, 0, none⟩) 1 1, .int .i64 0] 60)).heap.size = w.heap.size + 3 := by simp
  have i1 := ((hin.grown (World.grownBy_alloc w (.cells #[.slice q m c] 37) none) (fun _ e => by cases e)).grown (World.grownBy_alloc _ (.cells #[.bool false, .slice none 0 0, .bool false, .slice none 0 0] 57) none) (fun _ e => by cases e)).grown (World.grownBy_alloc _ (.cells #[.slice (some ⟨w.heap.size + 1, 0, none⟩) 1 1, .int .i64 0] 60) none) (fun _ e => by cases e)
  have M0 : Mach (((w.alloc (.cells #[.slice q m c] 37)).alloc (.cells #[.bool false, .slice none 0 0, .bool false, .slice none 0 0] 57)).alloc (.cells #[.slice (some ⟨w.heap.size + 1, 0, none⟩) 1 1, .int .i64 0] 60)) (w.heap.size + 2) [st0] (fun k => k = w.heap.size + 2 ∨ k = w.heap.size + 1) (fun _ => False) := by
    refine ⟨_, _, 0, Hp.nil, L1, own1, .inl rfl, ?_, Hp.nil_in _, (fun _ _ e => by cases e), ?_, ?_, (fun _ _ e => by cases e)⟩
    · intro j e; cases e; exact ⟨.inr rfl, by show w.heap.size + 1 ≠ _; omega⟩
    · intro i st hi
      have : i = 0 := by
        have := (List.getElem?_eq_some_iff.1 hi).1
        simp at this; exact this
      subst this
      cases hi
      exact ⟨.bool false, .slice none 0 0, .bool false, .slice none 0 0, rfl, rfl, rfl, rfl, rfl, ⟨false, [], ⟨rfl, .inl ⟨rfl, rfl⟩⟩, rfl, Nat.zero_le _, fun e => by cases e⟩, ⟨rfl, .inl ⟨rfl, rfl⟩⟩, fun e => by cases e⟩
    · intro k hk
      rw [e3]
      rcases hk with rfl | rfl <;> omega
  have ap : hpA.Apart (fun k => k = w.heap.size + 2 ∨ k = w.heap.size + 1) := fun k o e hk => by
    have := hin.lt e
    rcases hk with rfl | rfl <;> omega
  have HG := hide (grC_any 8 p (.slice q m c) hpA _ (w.heap.size + 2) [st0] _ _ 0 hg ⟨M0, i1, ap, (fun _ _ _ h => h), (fun _ h => h.elim), by simp, by simp, by simp; omega⟩)
  have BL := hide ((((Below.refl w.heap.size w).alloc (Nat.le_refl _) (.cells #[.slice q m c] 37)).alloc (by rw [e1]; omega) (.cells #[.bool false, .slice none 0 0, .bool false, .slice none 0 0] 57)).alloc (by rw [e2]; omega) (.cells #[.slice (some ⟨w.heap.size + 1, 0, none⟩) 1 1, .int .i64 0] 60))
  have E3 := hide e3
  clear M0 i1 ap own0 own1 L1 e1 e2 e3 hg hin B0
  go_enter Tryd.func19, Tryd.ntmps19
  go_wp2_with fail
  refine HG.out.mono ?_
  rintro e w2 ⟨b, X, P', rfl, m2, g2, bl, few, shut, frag⟩
  obtain ⟨sv, xs, f, hp, m1, m2, m3, m4, m5, m6, m7, m8, m9⟩ := m2
  obtain ⟨c0, c1, cf⟩ := cells2_at m1
  have M1 := hide m1
  have M2 := hide m2
  have M4 := hide m4
  have M5 := hide m5
  have M6 := hide m6
  have M7 := hide m7
  have SH := hide shut
  have FR := hide frag
  have G2 := hide g2
  clear m1 m2 m4 m5 m6 m7 m8 m9 shut frag g2 HG
  go_wp2_with fail
  go_ret
  have gs := grown_set w2 ⟨w.heap.size + 2, 1, none⟩ (.int .i64 (b : Int))
  have L2 : (w2.setCell ⟨w.heap.size + 2, 1, none⟩ (.int .i64 (b : Int))).heap[w.heap.size + 2]? = some (.cells #[sv, .int .i64 (b : Int)] 60 (0, 0)) := by
    have := M1.out
    simp [World.setCell, Array.getElem?_modify, this]
  have own3 := M2.out.kept gs (by
    cases hv : sv.ownBlock with
    | none => exact .inl rfl
    | some j => exact .inr (fun e => by cases e; exact (M4.out _ hv).2 rfl))
  obtain ⟨h1, i1, q1, o1⟩ := RowIn.of own3
  have i2 := M5.out.grown gs (fun k e => by cases e; exact M6.out.none m3)
  have i3 : (litHp (w.heap.size + 2) #[sv, .int .i64 (b : Int)] 60).In (w2.setCell ⟨w.heap.size + 2, 1, none⟩ (.int .i64 (b : Int))) := fun k o h => by
    unfold litHp at h
    split at h
    · rename_i ek; cases h; rw [ek]; exact L2
    · cases h
  refine ⟨w.heap.size + 2, [st0] ++ X, b, (litHp (w.heap.size + 2) #[sv, .int .i64 (b : Int)] 60).join (h1.join hp), sv, xs, rfl, ⟨Hp.join_left _ _ _ _ (by unfold litHp; rw [if_pos rfl]), (q1.mono (Hp.join_left h1 hp)).mono (Hp.join_right i3 (Hp.join_in i1 i2)), fun i st hi => ?_, Hp.join_in i3 (Hp.join_in i1 i2), ?_, bl, ?_⟩, fun s => whole_acc (FR.out s) rfl, ?_⟩
  · obtain ⟨d0, d1, d2, d3, b0, b1, b2, b3, b4⟩ := M7.out i st hi
    exact ⟨d0, d1, d2, d3, b0, b1, b2, b3, (b4.mono (Hp.join_right i1 i2)).mono (Hp.join_right i3 (Hp.join_in i1 i2))⟩
  · intro st hst q hq
    rcases List.mem_append.1 hst with h | h
    · simp at h; subst h; cases hq
    · exact SH.out st h q hq
  · rw [List.length_append, List.length_singleton]; omega
  · have bg : Below w.heap.size w w2 := BL.out.trans ⟨G2.out.os, G2.out.tape, G2.out.output, G2.out.size, fun k hk => G2.out.keep k (by rw [E3.out]; omega) (fun h => by rcases h with rfl | rfl <;> omega)⟩
    exact bg.setCell (by show w.heap.size ≤ w.heap.size + 2; omega) _

end Go.Proofs.YtncljgpcloanfaaDoor
