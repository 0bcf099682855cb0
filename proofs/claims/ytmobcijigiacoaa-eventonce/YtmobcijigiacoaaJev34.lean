/- Paths to nodes, and the listeners that an event calls, as functions of documents and listeners. Stage 23's law EventOnce, walked. -/
import Derived.Test.YtmobcijigiacoaaJev21
import Derived.Test.YtmobcijigiacoaaJev27
import Derived.Test.YtmobcijigiacoaaJev35
import Derived.Deep.OwnRows

namespace Go.Proofs.Ytmobcijigiacoaa
open Go.RowKit
theorem calls_up {l : List Nd} {all : List Ls} {t : Int} {k : ByteArray} {b : Bool} : (callsP l all t k b).Pairwise (fun x y => x.2.2 ≤ y.2.2) := by
  unfold callsP
  have G : ∀ L : List (Int × Int × Bool), L.Pairwise (fun g h => g.2.1 ≤ h.2.1) → (L.flatMap (atP all k)).Pairwise (fun x y => x.2.2 ≤ y.2.2) := fun L => by
    induction L with
    | nil => intro _; exact List.Pairwise.nil
    | cons g L ih =>
      intro hn
      rw [List.pairwise_cons] at hn
      rw [List.flatMap_cons, List.pairwise_append]
      have ph : ∀ {g : Int × Int × Bool} {z : Cl}, z ∈ atP all k g → z.2.2 = g.2.1 := fun hz => by
        obtain ⟨_, _, _, _, _, _, e⟩ := at_cap hz
        rw [e]
      refine ⟨List.Pairwise.imp_of_mem (R := fun _ _ => True) (fun ha hb _ => by rw [ph ha, ph hb]; omega) (List.pairwise_of_forall fun _ _ => trivial), ih hn.2, fun x hx y hy => ?_⟩
      obtain ⟨g', hg', hy'⟩ := List.mem_flatMap.1 hy
      rw [ph hx, ph hy']
      exact hn.1 g' hg'
  refine G _ ?_
  unfold grpE
  rw [List.pairwise_append]
  refine ⟨by rw [List.pairwise_map]; exact List.pairwise_of_forall fun _ _ => Int.le_refl _, ?_, ?_⟩
  · rw [List.pairwise_append]
    refine ⟨by split <;> simp, ?_, ?_⟩
    · split
      · rw [List.pairwise_map]; exact List.pairwise_of_forall fun _ _ => Int.le_refl _
      · exact List.Pairwise.nil
    · intro x hx y hy
      split at hy
      · obtain ⟨_, _, rfl⟩ := List.mem_map.1 hy
        split at hx
        · cases hx
        · simp only [List.mem_cons, List.not_mem_nil, or_false] at hx
          rcases hx with rfl | rfl <;> exact (by decide : (2 : Int) ≤ 3)
      · cases hy
  · intro x hx y hy
    obtain ⟨_, _, rfl⟩ := List.mem_map.1 hx
    rcases List.mem_append.1 hy with hy | hy
    · split at hy
      · cases hy
      · simp only [List.mem_cons, List.not_mem_nil, or_false] at hy
        rcases hy with rfl | rfl <;> exact (by decide : (1 : Int) ≤ 2)
    · split at hy
      · obtain ⟨_, _, rfl⟩ := List.mem_map.1 hy
        show (1 : Int) ≤ 3
        decide
      · cases hy
end Go.Proofs.Ytmobcijigiacoaa

namespace Go.Proofs.Ytmobcijigiacoaa
open Go.RowKit
set_option maxRecDepth 100000
theorem info_bool : (Try.prog.info? 4).map (fun i => (i.zero, i.size, i.bytes)) = some (some (.bool false), 1, 1) := by kernel_rfl
/-- Which listeners have been called; the last phase. -/
def snE (n : Nat) (cs : List Cl) : List Bool := (List.range n).map fun i : Nat => decide ((i : Int) ∈ cs.map (·.1))
def phE (cs : List Cl) : Int := (cs.getLast?.map (·.2.2)).getD 0
def cellsB (bs : List Bool) : List Value := bs.map (.bool ·)
theorem sn_nil (n : Nat) : cellsB (snE n []) = List.replicate n (Value.bool false) := by
  apply List.ext_getElem
  · simp [cellsB, snE]
  · intro i h1 h2
    simp [cellsB, snE]
theorem sn_len (n : Nat) (cs : List Cl) : (cellsB (snE n cs)).length = n := by simp [cellsB, snE]
theorem sn_at {n : Nat} {cs : List Cl} {i : Nat} (h : i < n) : (cellsB (snE n cs))[i]? = some (.bool (decide ((i : Int) ∈ cs.map (·.1)))) := by simp [cellsB, snE, h]
theorem sn_set {n : Nat} {cs : List Cl} {i : Nat} {c : Cl} (hc : c.1 = (i : Int)) : (cellsB (snE n cs)).set i (.bool true) = cellsB (snE n (cs ++ [c])) := by
  apply List.ext_getElem?
  intro j
  by_cases hj : j < n
  · rw [sn_at hj, List.getElem?_set]
    by_cases e : i = j
    · subst e
      rw [if_pos rfl, if_pos (by rw [sn_len]; exact hj), List.map_append, decide_eq_true (List.mem_append.2 (.inr (by show _ ∈ [c.1]; rw [hc]; exact List.mem_singleton.2 rfl)))]
    · rw [if_neg e, sn_at hj]
      congr 3
      rw [List.map_append]
      exact propext ⟨fun t => List.mem_append.2 (.inl t), fun t => (List.mem_append.1 t).elim id (fun t => by
        have : (j : Int) = c.1 := List.mem_singleton.1 t
        omega)⟩
  · rw [List.getElem?_eq_none (by rw [List.length_set, sn_len]; omega), List.getElem?_eq_none (by rw [sn_len]; omega)]
theorem ph_app (cs : List Cl) (c : Cl) : phE (cs ++ [c]) = c.2.2 := by unfold phE; rw [List.getLast?_append]; rfl
theorem made_false (n : Nat) : (madeCells #[Value.bool false] n).toList = List.replicate n (Value.bool false) := by
  apply List.ext_getElem
  · simp [madeCells]
  · intro i h1 h2
    simp [madeCells, Nat.mod_one]
theorem ClsV.chg {S : List Nat} {w w' : World} {v : Value} {cs : List Cl} (h : ClsV w v cs) (hc : Chg S w w') (hn : ∀ b o n c, v = .slice (some ⟨b, o, none⟩) n c → ¬ cs = [] → b ∉ S) : ClsV w' v cs := by
  obtain ⟨p, k, e, h⟩ := h
  refine ⟨p, k, e, ?_⟩
  rcases h with h | ⟨b, o, e2, h⟩
  · exact .inl h
  · by_cases h0 : cs = []
    · exact .inl h0
    · have q := hn b o _ _ (by rw [e, e2]) h0
      exact .inr ⟨b, o, e2, fun i hi => ⟨hc.cell (h i hi).1 q, hc.cell (h i hi).2.1 q, hc.cell (h i hi).2.2 q⟩⟩
theorem cls_far {w : World} {G : Nat} {bs : List Bool} {v : Value} {cs : List Cl} (h : ClsV w v cs) (hb : NB w G (cellsB bs) 4) : ∀ b o n c, v = .slice (some ⟨b, o, none⟩) n c → ¬ cs = [] → ¬ b = G := fun b o n c e h0 q => by
  obtain ⟨p, k, e1, h⟩ := h
  obtain ⟨b', o', e2, hh⟩ := h.resolve_left h0
  rw [e1, e2] at e
  obtain ⟨rfl, rfl⟩ : b' = b ∧ o' = o := by cases e; exact ⟨rfl, rfl⟩
  subst q
  have hl : 0 < cs.length := List.length_pos_iff.2 h0
  have x := (hh 0 hl).1
  have lt : o' + 0 * 3 < (cellsB bs).length := by
    apply Classical.byContradiction
    intro t
    have y : w.cell? ⟨b', o' + 0 * 3, none⟩ = none := by
      unfold World.cell?
      simp only [hb.lies]
      simp
      omega
    rw [y] at x; cases x
  have z := hb.cell (o' + 0 * 3) (List.getElem?_eq_getElem lt)
  rw [z] at x
  have m := List.getElem_mem lt
  unfold cellsB at m
  obtain ⟨y, _, ey⟩ := List.mem_map.1 m
  have : (Value.bool y) = .int .i64 cs[0].1 := by rw [← Option.some.inj x]; exact ey
  cases this
/-- What the next call has. -/
theorem once_next {l : List Nd} {all : List Ls} {t : Int} {k : ByteArray} {b : Bool} {cs : List Cl} (e : callsP l all t k b = cs) {j : Nat} (hj : j < cs.length) : ∃ i, ∃ hi : i < all.length, cs[j].1 = (i : Int) ∧ (i : Int) ∉ (cs.take j).map (·.1) ∧ all[i].node = cs[j].2.1 ∧ all[i].typ = k ∧ phE (cs.take j) ≤ cs[j].2.2 ∧ 1 ≤ cs[j].2.2 ∧ cs[j].2.2 ≤ 3 ∧ (cs[j].2.2 = 2 ↔ cs[j].2.1 = t) ∧ (cs[j].2.2 = 3 → b = true) := by
  subst e
  have m := List.getElem_mem hj
  obtain ⟨⟨i, hi, e1, e2, e3⟩, h1, h2, h3, h4⟩ := calls_at m
  have dr : (callsP l all t k b) = (callsP l all t k b).take j ++ (callsP l all t k b)[j] :: (callsP l all t k b).drop (j + 1) := by rw [← List.drop_eq_getElem_cons hj, List.take_append_drop]
  refine ⟨i, hi, e1, ?_, e2, e3, ?_, h1, h2, h3, h4⟩
  · have n := calls_once (l := l) (all := all) (t := t) (k := k) (b := b)
    rw [dr, List.map_append, List.nodup_append] at n
    intro q
    exact n.2.2 _ q _ (by rw [List.map_cons]; exact List.mem_cons_self) e1.symm
  · have u := calls_up (l := l) (all := all) (t := t) (k := k) (b := b)
    rw [dr, List.pairwise_append] at u
    cases q : ((callsP l all t k b).take j).getLast? with
    | none => unfold phE; rw [q]; show (0 : Int) ≤ _; omega
    | some c =>
      unfold phE
      rw [q]
      exact u.2.2 c (List.mem_of_getLast? q) _ List.mem_cons_self
set_option maxHeartbeats 8000000 in
theorem eventOnce_walk (v vl : Value) (l : List Nd) (all : List Ls) (t : Int) (k : ByteArray) (b : Bool) (w : World) (hv : NodesV w v l) (hz : DocSz l) (hl : LsV w vl all) (hn : all.length ≤ 2513169434917) (hT : EvTabs w) :
    Calls Try.prog 5 #[v, vl, .agg #[.int .i64 t, .string k, .bool b]] w fun e w' => e = .returned (.bool true) ∧ Below w.heap.size w w' := by
  have B0 : Hid (Below w.heap.size w (w.alloc (.cells #[.int .i64 t, .string k, .bool b] 31))) := (Below.refl _ w).alloc (Nat.le_refl _) _
  have K0 : Hid (Bk (w.alloc (.cells #[.int .i64 t, .string k, .bool b] 31)) w.heap.size [.int .i64 t, .string k, .bool b] 31) := Bk.new w _ _
  have HW := hide (evWakes_any (w.alloc (.cells #[.int .i64 t, .string k, .bool b] 31)) (hT.below B0.out))
  have HC := hide (fun W (hb : Below w.heap.size w W) => refCopied_any v l W (hv.below hb) hz)
  have HL := hide hl
  by_cases h2 : all.length ≤ 200
  · have H1 := hide (fun u W (hb : Below w.heap.size w W) (hu : NodesV W u l) => evCalls_any u vl l all t k b W hu hz (hl.below hb) (by omega) (hT.below hb))
    have FEW : (callsP l all t k b).length ≤ 1000000 := Nat.le_trans calls_len (by omega)
    obtain ⟨cs, hcs⟩ : ∃ cs, callsP l all t k b = cs := ⟨_, rfl⟩
    have NX := hide (fun j (hj : j < cs.length) => once_next hcs hj)
    rw [hcs] at H1 FEW
    clear hcs
    obtain ⟨p, c, rfl⟩ : ∃ p k, v = .slice p l.length k := by obtain ⟨p, k, e, _⟩ := hv; exact ⟨p, k, e⟩
    obtain ⟨A, hA, pl, cl, rfl, _⟩ := hl
    have hmk := run_make_row' (P := Try.prog) 36 4 (.bool false) 1 Try.underlying36 info_bool rfl .i64 .i64 all.length (by omega) (by omega)
    have i2 : ¬ (200 : Int) < (all.length : Int) := by omega
    have i3 : (0 : Int) ≤ (all.length : Int) := by omega
    clear hv hz hT hA
    go_enter Try.func5, Try.ntmps5
    go_wp2_with fail
    refine HW.out.mono ?_
    rintro e w1 ⟨rfl, b1⟩
    have B1 := hide (chain B0.out b1)
    replace K0 := hide (K0.out.below b1)
    clear b1 B0 HW
    have AM : Below w1.heap.size w1 (w1.alloc (.cells (madeCells #[Value.bool false] all.length) 4)) := (Below.refl _ _).alloc (Nat.le_refl _) _
    have SN : Hid ((w1.alloc (.cells (madeCells #[Value.bool false] all.length) 4)).heap[w1.heap.size]? = some (.cells (cellsB (snE all.length [])).toArray 4 (0, 0))) := by
      show _ = _
      rw [heap_alloc_new, sn_nil, ← made_false, Array.toArray_toList]
    have LTG : w.heap.size < w1.heap.size := K0.out.lt
    replace K0 := hide (K0.out.below AM)
    replace B1 := hide (chain B1.out AM)
    clear AM
    go_wp2_with fail
    generalize w1.alloc (.cells (madeCells #[Value.bool false] all.length) 4) = w2 at *
    have DR : Below w2.heap.size w2 w2.drew := ⟨rfl, rfl, rfl, Nat.le_refl _, fun _ _ => rfl⟩
    have K1 := hide (K0.out.below DR)
    have B2 := hide (chain B1.out DR)
    have S2 : Hid (NB w2.drew w1.heap.size (cellsB (snE all.length [])) 4) := ⟨SN.out⟩
    clear DR B1 hmk SN
    refine wp_region_held_drew (S := fun X : World => X.cell? ⟨w.heap.size, 0, none⟩ = some (.int .i64 t) ∧ X.cell? ⟨w.heap.size, 1, none⟩ = some (.string k) ∧ X.cell? ⟨w.heap.size, 2, none⟩ = some (.bool b)) (by kernel_rfl) ?_ (fun hHeld => ?_)
    · exact ⟨K0.out.cell 0 rfl, K0.out.cell 1 rfl, K0.out.cell 2 rfl⟩
    clear K0
    refine wpAnyH_take (i := 0) (oi := { dst := some 19, op := Op.move (Operand.tmp 0), type := 22, pos := "law.go:55", after := #[], guard := none }) (v := ?_) rfl (by kernel_rfl) (by kernel_rfl) (by kernel_rfl) (fun _ _ _ h => h) (Or.inl ⟨by rfl, ?_⟩) (by assumption) ?_
    rotate_left
    · (intro w hSw; (try dsimp only at hSw); first | (go_simp; done) | (go_simp; with_reducible rfl))
    simp only [Act.put, List.setIfInBounds_toArray, List.set_cons_zero, List.set_cons_succ]
    refine wpAnyH_take (i := 2) (oi := { dst := some 21, op := Op.move (Operand.tmp 1), type := 29, pos := "law.go:55", after := #[], guard := none }) (v := ?_) rfl (by kernel_rfl) (by kernel_rfl) (by kernel_rfl) (fun _ _ _ h => h) (Or.inl ⟨by rfl, ?_⟩) (by assumption) ?_
    rotate_left
    · (intro w hSw; (try dsimp only at hSw); first | (go_simp; done) | (go_simp; with_reducible rfl))
    simp only [Act.put, List.setIfInBounds_toArray, List.set_cons_zero, List.set_cons_succ]
    refine wpAnyH_take (i := 3) (oi := { dst := some 22, op := Op.fieldAddr 31 (Operand.tmp 5) 0, type := 0, pos := "law.go:55", after := #[], guard := none }) (v := ?_) rfl (by kernel_rfl) (by kernel_rfl) (by kernel_rfl) (fun _ _ _ h => h) (Or.inl ⟨by rfl, ?_⟩) (by assumption) ?_
    rotate_left
    · (intro w hSw; (try dsimp only at hSw); first | (go_simp; done) | (go_simp; with_reducible rfl))
    simp only [Act.put, List.setIfInBounds_toArray, List.set_cons_zero, List.set_cons_succ]
    refine wpAnyH_take (i := 4) (oi := { dst := some 23, op := Op.load 3 (Operand.tmp 22), type := 3, pos := "law.go:55", after := #[{ on := 3, ground := Ground.data }], guard := none }) (v := ?_) rfl (by kernel_rfl) (by kernel_rfl) (by kernel_rfl) (fun _ _ _ h => h) (Or.inl ⟨by rfl, ?_⟩) (by assumption) ?_
    rotate_left
    · (intro w hSw; (try dsimp only at hSw); first | (go_simp; done) | (go_simp; with_reducible rfl))
    simp only [Act.put, List.setIfInBounds_toArray, List.set_cons_zero, List.set_cons_succ]
    refine wpAnyH_take (i := 5) (oi := { dst := some 24, op := Op.fieldAddr 31 (Operand.tmp 5) 1, type := 0, pos := "law.go:55", after := #[], guard := none }) (v := ?_) rfl (by kernel_rfl) (by kernel_rfl) (by kernel_rfl) (fun _ _ _ h => h) (Or.inl ⟨by rfl, ?_⟩) (by assumption) ?_
    rotate_left
    · (intro w hSw; (try dsimp only at hSw); first | (go_simp; done) | (go_simp; with_reducible rfl))
    simp only [Act.put, List.setIfInBounds_toArray, List.set_cons_zero, List.set_cons_succ]
    refine wpAnyH_take (i := 6) (oi := { dst := some 25, op := Op.load 9 (Operand.tmp 24), type := 9, pos := "law.go:55", after := #[{ on := 5, ground := Ground.data }], guard := none }) (v := ?_) rfl (by kernel_rfl) (by kernel_rfl) (by kernel_rfl) (fun _ _ _ h => h) (Or.inl ⟨by rfl, ?_⟩) (by assumption) ?_
    rotate_left
    · (intro w hSw; (try dsimp only at hSw); first | (go_simp; done) | (go_simp; with_reducible rfl))
    simp only [Act.put, List.setIfInBounds_toArray, List.set_cons_zero, List.set_cons_succ]
    refine wpAnyH_take (i := 7) (oi := { dst := some 26, op := Op.fieldAddr 31 (Operand.tmp 5) 2, type := 0, pos := "law.go:55", after := #[], guard := none }) (v := ?_) rfl (by kernel_rfl) (by kernel_rfl) (by kernel_rfl) (fun _ _ _ h => h) (Or.inl ⟨by rfl, ?_⟩) (by assumption) ?_
    rotate_left
    · (intro w hSw; (try dsimp only at hSw); first | (go_simp; done) | (go_simp; with_reducible rfl))
    simp only [Act.put, List.setIfInBounds_toArray, List.set_cons_zero, List.set_cons_succ]
    refine wpAnyH_take (i := 8) (oi := { dst := some 27, op := Op.load 4 (Operand.tmp 26), type := 4, pos := "law.go:55", after := #[{ on := 7, ground := Ground.data }], guard := none }) (v := ?_) rfl (by kernel_rfl) (by kernel_rfl) (by kernel_rfl) (fun _ _ _ h => h) (Or.inl ⟨by rfl, ?_⟩) (by assumption) ?_
    rotate_left
    · (intro w hSw; (try dsimp only at hSw); first | (go_simp; done) | (go_simp; with_reducible rfl))
    simp only [Act.put, List.setIfInBounds_toArray, List.set_cons_zero, List.set_cons_succ]
    refine wpAnyH_take (i := 11) (oi := { dst := some 30, op := Op.move (Operand.const (Value.int IntKind.i64 0)), type := 3, pos := "law.go:55", after := #[], guard := none }) (v := ?_) rfl (by kernel_rfl) (by kernel_rfl) (by kernel_rfl) (fun _ _ _ h => h) (Or.inl ⟨by rfl, ?_⟩) (by assumption) ?_
    rotate_left
    · (intro w hSw; (try dsimp only at hSw); first | (go_simp; done) | (go_simp; with_reducible rfl))
    simp only [Act.put, List.setIfInBounds_toArray, List.set_cons_zero, List.set_cons_succ]
    refine wpAnyH_ready (rs := [1]) (by kernel_rfl) (by simp) ?_
    refine AllReadyH.cons (i := 1) (o := { dst := some 20, op := Op.call { callee := Callee.value (Operand.func 11), args := #[Operand.tmp 19], argTypes := #[22] }, type := 22, pos := "law.go:55", after := #[{ on := 0, ground := Ground.data }], guard := none }) rfl (fun K hK => ?_) AllReadyH.nil
    go_simp
    refine (HC.out _ B2.out).mono ?_
    rintro e w3 ⟨v3, L3, rfl, o3, e3, b3⟩
    have N3 : Hid (NodesV w3 v3 l) := by show NodesV _ _ _; rw [← e3]; exact o3.nodes
    obtain ⟨p3, k3, rfl⟩ : ∃ p k, v3 = .slice p l.length k := by obtain ⟨p, k, e, _⟩ := N3.out; exact ⟨p, k, e⟩
    have B3 := hide (chain B2.out b3)
    replace K1 := hide (K1.out.below b3)
    replace S2 := hide (S2.out.chg (Chg.of_below b3) (fun q => by cases q))
    clear o3 e3 b3 HC B2
    go_wp2_with fail
    refine hK.out _ _ ?_ (fun hHeld => ?_)
    · exact ⟨K1.out.cell 0 rfl, K1.out.cell 1 rfl, K1.out.cell 2 rfl⟩
    clear hK K
    refine wpAnyH_ready (rs := [9]) (by kernel_rfl) (by simp) ?_
    refine AllReadyH.cons (i := 9) (o := { dst := some 28, op := Op.call { callee := Callee.value (Operand.func 14), args := #[Operand.tmp 20, Operand.tmp 21, Operand.tmp 23, Operand.tmp 25, Operand.tmp 27], argTypes := #[22, 29, 3, 9, 4] }, type := 33, pos := "law.go:55", after := #[{ on := 1, ground := Ground.data }, { on := 2, ground := Ground.data }, { on := 4, ground := Ground.data }, { on := 6, ground := Ground.data }, { on := 8, ground := Ground.data }, { on := 1, ground := Ground.chain }], guard := none }) rfl (fun K hK => ?_) AllReadyH.nil
    go_simp
    refine (H1.out _ _ B3.out N3.out).mono ?_
    rintro e w4 ⟨v4, rfl, c4, b4⟩
    have B4 := hide (chain B3.out b4)
    replace K1 := hide (K1.out.below b4)
    replace S2 := hide (S2.out.chg (Chg.of_below b4) (fun q => by cases q))
    have C4 := hide c4
    obtain ⟨p4, k4, rfl, _⟩ := c4
    clear b4 B3 N3 H1
    go_wp2_with fail
    refine hK.out _ _ ?_ (fun hHeld => ?_)
    · exact ⟨K1.out.cell 0 rfl, K1.out.cell 1 rfl, K1.out.cell 2 rfl⟩
    clear hK K
    refine wpAnyH_take (i := 10) (oi := { dst := some 29, op := Op.call { callee := Callee.builtin Builtin.len, args := #[Operand.tmp 28], argTypes := #[33] }, type := 3, pos := "law.go:55", after := #[{ on := 9, ground := Ground.data }], guard := none }) (v := ?_) rfl (by kernel_rfl) (by kernel_rfl) (by kernel_rfl) (fun _ _ _ h => h) (Or.inl ⟨by rfl, ?_⟩) (by assumption) ?_
    rotate_left
    · (intro w hSw; (try dsimp only at hSw); first | (go_simp; done) | (go_simp; with_reducible rfl))
    simp only [Act.put, List.setIfInBounds_toArray, List.set_cons_zero, List.set_cons_succ]
    refine wpAnyH_done (by kernel_rfl) ?_ _
    go_wp2_with fail
    go_loopw [8, 30] (fun pv iv wr => ∃ j : Nat, j ≤ cs.length ∧ iv = .int .i64 j ∧ pv = .int .i64 (phE (cs.take j)) ∧ Hid (NB wr w1.heap.size (cellsB (snE all.length (cs.take j))) 4) ∧ Hid (ClsV wr (.slice p4 cs.length k4) cs) ∧ Hid (Bk wr w.heap.size [.int .i64 t, .string k, .bool b] 31) ∧ Hid (Below w.heap.size w wr)) (fun _ iv _ => cs.length - (intOf iv).toNat)
    case atStart => exact ⟨0, Nat.zero_le _, rfl, by rw [List.take_zero]; rfl, by rw [List.take_zero]; exact S2, C4, K1, B4⟩
    case round =>
      rename World => wr
      obtain ⟨j, hj, rfl, rfl, SR, CR, KR, BR⟩ := hrel
      clear S2 C4 K1 B4
      by_cases g : j < cs.length
      · have j1 : (j : Int) < (cs.length : Int) := by omega
        have j0 : (0 : Int) ≤ (j : Int) := by omega
        obtain ⟨i, hi, e1, nm, e2, e3, up, p1, p3, p2, pb⟩ := NX.out j g
        obtain ⟨pp, cc, evc, hcr⟩ := CR.out
        cases evc
        obtain ⟨b4, o4, rfl, hcq⟩ := hcr.resolve_left (fun q => by rw [q] at g; simp at g)
        have x0 := (hcq j g).1
        have x1 := (hcq j g).2.1
        have x2 := (hcq j g).2.2
        have FR := cls_far CR.out SR.out b4 o4 _ _ rfl (fun q => by rw [q] at g; simp at g)
        obtain ⟨A', hA', pl', cl', evl, hlr⟩ := HL.out.below BR.out
        cases evl
        obtain ⟨bl, ol, rfl, hlq⟩ := hlr.resolve_left (fun q => by rw [q] at hi; simp at hi)
        have y0 : wr.cell? ⟨bl, ol + i * 4, none⟩ = some (.int .i64 all[i].node) := hlq i hi 0 _ rfl
        have y1 : wr.cell? ⟨bl, ol + i * 4 + 1, none⟩ = some (.string all[i].typ) := hlq i hi 1 _ rfl
        rw [e2] at y0
        rw [e3] at y1
        have z0 := SR.out.cell i (sn_at hi)
        rw [decide_eq_false nm] at z0
        have f0 := SR.out.free i
        have a0 := KR.out.cell 0 rfl
        have a1 := KR.out.cell 1 rfl
        have a2 := KR.out.cell 2 rfl
        have TK : Hid (cs.take (j + 1) = cs.take j ++ [cs[j]]) := List.take_succ_eq_append_getElem g
        have PH : Hid (phE (cs.take (j + 1)) = cs[j].2.2) := by show _ = _; rw [TK.out]; exact ph_app _ _
        have SS := hide (sn_set (n := all.length) (cs := cs.take j) e1)
        rw [e1] at x0
        have lG : w1.heap.size < wr.heap.size := SR.out.lt
        have lB : b4 < wr.heap.size := World.block_lt_of_cell? _ _ x0
        have lL : bl < wr.heap.size := World.block_lt_of_cell? _ _ y0
        have lK : w.heap.size < wr.heap.size := KR.out.lt
        have n1 : ¬ b4 = wr.heap.size := by omega
        have n2 : ¬ bl = wr.heap.size := by omega
        have n3 : ¬ w1.heap.size = wr.heap.size := by omega
        have n4 : ¬ w.heap.size = wr.heap.size := by omega
        have n5 : ¬ w.heap.size = w1.heap.size := by omega
        have q0 : (0 : Int) ≤ (i : Int) := by omega
        have q1 : (i : Int) < (all.length : Int) := by omega
        have q2 : ¬ (i : Int) < 0 := by omega
        have q3 : ¬ (all.length : Int) ≤ (i : Int) := by omega
        clear hcr hcq hlr hlq hA' e1 e2 e3 nm NX
        generalize cs[j].2.1 = nd2 at *
        generalize cs[j].2.2 = ph2 at *
        generalize phE (cs.take j) = ph0 at *
        have u1 : ¬ ph2 < ph0 := by omega
        have u2 : ¬ 3 < ph2 := by omega
        have e4 : decide ((i : Int) < 0) = false := decide_eq_false q2
        have e5 : decide ((all.length : Int) ≤ (i : Int)) = false := decide_eq_false q3
        have e6 : decide (ph2 < ph0) = false := decide_eq_false u1
        have END : Hid (phE (cs.take (j + 1)) = ph2) := PH
        clear PH
        rcases (show ph2 = 1 ∨ ph2 = 2 ∨ ph2 = 3 by omega) with rfl | rfl | rfl
        · have d1 : (nd2 == t) = false := beq_eq_false_iff_ne.2 (fun q => absurd (p2.2 q) (by decide))
          clear p2 pb
          go_wp2_with fail
          go_quiet (fail)
          rename Nat => nq
          have AC : Below wr.heap.size wr ((wr.alloc (.cells #[.int .i64 (i : Int), .int .i64 nd2, .int .i64 1] 38)).drewN nq) := bel_drewN ((Below.refl _ _).alloc (Nat.le_refl _) _) nq
          have CE := hide (Bk.new wr [.int .i64 (i : Int), .int .i64 nd2, .int .i64 1] 38)
          have CE2 : Hid (Bk ((wr.alloc (.cells #[.int .i64 (i : Int), .int .i64 nd2, .int .i64 1] 38)).drewN nq) wr.heap.size [.int .i64 (i : Int), .int .i64 nd2, .int .i64 1] 38) := ⟨CE.out.lies⟩
          generalize (wr.alloc (.cells #[.int .i64 (i : Int), .int .i64 nd2, .int .i64 1] 38)).drewN nq = w5 at *
          have SC := hide (SR.out.chg (Chg.of_below AC) (fun q => by cases q))
          have CC := hide (CR.out.below AC)
          have KC := hide (KR.out.below AC)
          have BC := hide (chain BR.out AC)
          have FZ : Hid (Chg [w1.heap.size] w5 (w5.setCell ⟨w1.heap.size, i, none⟩ (.bool true))) := Chg.setB _ _ _ _
          have SZ : Hid (NB (w5.setCell ⟨w1.heap.size, i, none⟩ (.bool true)) w1.heap.size (cellsB (snE all.length (cs.take (j + 1)))) 4) := by
            have := SC.out.set i (.bool true)
            rw [SS.out, ← TK.out] at this
            exact this
          have CZ := hide (CC.out.chg FZ.out (fun b o n c e h0 q => FR (by cases e; exact List.mem_singleton.1 q)))
          have KZ : Hid (Bk (w5.setCell ⟨w1.heap.size, i, none⟩ (.bool true)) w.heap.size [.int .i64 t, .string k, .bool b] 31) := KC.out.other (fun e => n5 e.symm) _ _
          have BZ : Hid (Below w.heap.size w (w5.setCell ⟨w1.heap.size, i, none⟩ (.bool true))) := BC.out.setCell (Nat.le_of_lt LTG) _
          have d0 := CE2.out.cell 0 rfl
          have d1' := CE2.out.cell 1 rfl
          have d2 := CE2.out.cell 2 rfl
          have z5 := SC.out.cell i (sn_at hi)
          have f5 := SC.out.free i
          generalize decide ((i : Int) ∈ (cs.take j).map (·.1)) = zz at *
          clear SR CR KR BR AC SC CC KC BC FZ SS TK FR HL CE x0 x1 x2 y0 y1 z0 f0 a0 a1 a2
          go_wp2_with fail
          go_roundw
          case rel => exact ⟨j + 1, by omega, by go_num, by rw [END.out], SZ, CZ, KZ, BZ⟩
          case measure => simp [intOf]; omega
        · obtain rfl := p2.1 rfl
          have d1 : (nd2 == nd2) = true := beq_self_eq_true _
          clear p2 pb
          go_wp2_with fail
          go_quiet (fail)
          rename Nat => nq
          have AC : Below wr.heap.size wr ((wr.alloc (.cells #[.int .i64 (i : Int), .int .i64 nd2, .int .i64 2] 38)).drewN nq) := bel_drewN ((Below.refl _ _).alloc (Nat.le_refl _) _) nq
          have CE := hide (Bk.new wr [.int .i64 (i : Int), .int .i64 nd2, .int .i64 2] 38)
          have CE2 : Hid (Bk ((wr.alloc (.cells #[.int .i64 (i : Int), .int .i64 nd2, .int .i64 2] 38)).drewN nq) wr.heap.size [.int .i64 (i : Int), .int .i64 nd2, .int .i64 2] 38) := ⟨CE.out.lies⟩
          generalize (wr.alloc (.cells #[.int .i64 (i : Int), .int .i64 nd2, .int .i64 2] 38)).drewN nq = w5 at *
          have SC := hide (SR.out.chg (Chg.of_below AC) (fun q => by cases q))
          have CC := hide (CR.out.below AC)
          have KC := hide (KR.out.below AC)
          have BC := hide (chain BR.out AC)
          have FZ : Hid (Chg [w1.heap.size] w5 (w5.setCell ⟨w1.heap.size, i, none⟩ (.bool true))) := Chg.setB _ _ _ _
          have SZ : Hid (NB (w5.setCell ⟨w1.heap.size, i, none⟩ (.bool true)) w1.heap.size (cellsB (snE all.length (cs.take (j + 1)))) 4) := by
            have := SC.out.set i (.bool true)
            rw [SS.out, ← TK.out] at this
            exact this
          have CZ := hide (CC.out.chg FZ.out (fun b o n c e h0 q => FR (by cases e; exact List.mem_singleton.1 q)))
          have KZ : Hid (Bk (w5.setCell ⟨w1.heap.size, i, none⟩ (.bool true)) w.heap.size [.int .i64 nd2, .string k, .bool b] 31) := KC.out.other (fun e => n5 e.symm) _ _
          have BZ : Hid (Below w.heap.size w (w5.setCell ⟨w1.heap.size, i, none⟩ (.bool true))) := BC.out.setCell (Nat.le_of_lt LTG) _
          have d0 := CE2.out.cell 0 rfl
          have d1' := CE2.out.cell 1 rfl
          have d2 := CE2.out.cell 2 rfl
          have z5 := SC.out.cell i (sn_at hi)
          have f5 := SC.out.free i
          generalize decide ((i : Int) ∈ (cs.take j).map (·.1)) = zz at *
          clear SR CR KR BR AC SC CC KC BC FZ SS TK FR HL CE x0 x1 x2 y0 y1 z0 f0 a0 a1 a2
          go_wp2_with fail
          go_roundw
          case rel => exact ⟨j + 1, by omega, by go_num, by rw [END.out], SZ, CZ, KZ, BZ⟩
          case measure => simp [intOf]; omega
        · have d1 : (nd2 == t) = false := beq_eq_false_iff_ne.2 (fun q => absurd (p2.2 q) (by decide))
          obtain rfl := pb rfl
          clear p2 pb
          go_wp2_with fail
          go_quiet (fail)
          rename Nat => nq
          have AC : Below wr.heap.size wr ((wr.alloc (.cells #[.int .i64 (i : Int), .int .i64 nd2, .int .i64 3] 38)).drewN nq) := bel_drewN ((Below.refl _ _).alloc (Nat.le_refl _) _) nq
          have CE := hide (Bk.new wr [.int .i64 (i : Int), .int .i64 nd2, .int .i64 3] 38)
          have CE2 : Hid (Bk ((wr.alloc (.cells #[.int .i64 (i : Int), .int .i64 nd2, .int .i64 3] 38)).drewN nq) wr.heap.size [.int .i64 (i : Int), .int .i64 nd2, .int .i64 3] 38) := ⟨CE.out.lies⟩
          generalize (wr.alloc (.cells #[.int .i64 (i : Int), .int .i64 nd2, .int .i64 3] 38)).drewN nq = w5 at *
          have SC := hide (SR.out.chg (Chg.of_below AC) (fun q => by cases q))
          have CC := hide (CR.out.below AC)
          have KC := hide (KR.out.below AC)
          have BC := hide (chain BR.out AC)
          have FZ : Hid (Chg [w1.heap.size] w5 (w5.setCell ⟨w1.heap.size, i, none⟩ (.bool true))) := Chg.setB _ _ _ _
          have SZ : Hid (NB (w5.setCell ⟨w1.heap.size, i, none⟩ (.bool true)) w1.heap.size (cellsB (snE all.length (cs.take (j + 1)))) 4) := by
            have := SC.out.set i (.bool true)
            rw [SS.out, ← TK.out] at this
            exact this
          have CZ := hide (CC.out.chg FZ.out (fun b o n c e h0 q => FR (by cases e; exact List.mem_singleton.1 q)))
          have KZ : Hid (Bk (w5.setCell ⟨w1.heap.size, i, none⟩ (.bool true)) w.heap.size [.int .i64 t, .string k, .bool true] 31) := KC.out.other (fun e => n5 e.symm) _ _
          have BZ : Hid (Below w.heap.size w (w5.setCell ⟨w1.heap.size, i, none⟩ (.bool true))) := BC.out.setCell (Nat.le_of_lt LTG) _
          have d0 := CE2.out.cell 0 rfl
          have d1' := CE2.out.cell 1 rfl
          have d2 := CE2.out.cell 2 rfl
          have z5 := SC.out.cell i (sn_at hi)
          have f5 := SC.out.free i
          generalize decide ((i : Int) ∈ (cs.take j).map (·.1)) = zz at *
          clear SR CR KR BR AC SC CC KC BC FZ SS TK FR HL CE x0 x1 x2 y0 y1 z0 f0 a0 a1 a2
          go_wp2_with fail
          go_roundw
          case rel => exact ⟨j + 1, by omega, by go_num, by rw [END.out], SZ, CZ, KZ, BZ⟩
          case measure => simp [intOf]; omega
      · obtain rfl : j = cs.length := by omega
        clear NX SR CR KR HL
        go_wp2_with fail
        go_ret
        exact ⟨rfl, BR.out⟩
  · have i2 : (200 : Int) < (all.length : Int) := by omega
    have i3 : (all.length : Int) ≤ 2513169434917 := by omega
    obtain ⟨p, c, rfl⟩ : ∃ p k, v = .slice p l.length k := by obtain ⟨p, k, e, _⟩ := hv; exact ⟨p, k, e⟩
    obtain ⟨A, hA, pl, cl, rfl, _⟩ := hl
    clear hv hz hT hA HC
    go_enter Try.func5, Try.ntmps5
    go_wp2_with fail
    refine HW.out.mono ?_
    rintro e w1 ⟨rfl, b1⟩
    go_wp2_with fail
    go_ret
    exact ⟨rfl, chain B0.out b1⟩

end Go.Proofs.Ytmobcijigiacoaa
