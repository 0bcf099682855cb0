/- slices.Repeat of one number. The program's Form, Elements, Default, Control, Disabled of layer 16. The program's owners of layer 17. The program's groups of layer 17. -/
import Derived.Test.YtldbaoolddlacaaGreatDoorJgz25
import Derived.Shelf.Bits.Mul64
import Derived.Laws.CopyOwn
import Derived.Deep.OwnRows

namespace Go.Proofs.YtldbaoolddlacaaGreatDoor
open Go.RowKit Go.Shelf
set_option maxRecDepth 100000
def mulren : Go.Shelf.Ren := ⟨fun | 212 => 72 | 263 => 90 | 264 => 91 | n => n, fun | 5 => 5 | 46 => 93 | 51 => 110 | 53 => 113 | 146 => 111 | 148 => 114 | n => n, fun  | n => n⟩
theorem lays212 : Go.Proofs.Lays.n212 Tryz.prog mulren := {
  mixed := by kernel_rfl
  f212 := Tryz.func72.trans (congrArg some (by kernel_rfl))
  f263 := Tryz.func90.trans (congrArg some (by kernel_rfl))
  f264 := Tryz.func91.trans (congrArg some (by kernel_rfl))
  t46 := Tryz.underlying93
  a46 := Tryz.isAgg93
  z46 := Tryz.sizeOf93
  v46 := Tryz.zeroValue93
  t51 := Tryz.underlying110
  a51 := Tryz.isAgg110
  z51 := Tryz.sizeOf110
  v51 := Tryz.zeroValue110
  t53 := Tryz.underlying113
  a53 := Tryz.isAgg113
  z53 := Tryz.sizeOf113
  v53 := Tryz.zeroValue113
  t146 := Tryz.underlying111
  a146 := Tryz.isAgg111
  z146 := Tryz.sizeOf111
  v146 := Tryz.zeroValue111
  t148 := Tryz.underlying114
  a148 := Tryz.isAgg114
  z148 := Tryz.sizeOf114
  v148 := Tryz.zeroValue114 }
theorem mulG_any (n : Nat) (w : World) (hn : n ≤ 400) :
    Calls Tryz.prog 72 #[.int .u64 1, .int .u64 (n : Int)] w fun e w' => e = .returned (.tuple #[.int .u64 0, .int .u64 (n : Int)]) ∧ w' = w := by
  have h := Any.bits_Mul lays212 1 n (by omega) (by omega) w
  rw [show (1 * n / 18446744073709551616 : Nat) = 0 from by omega, show (1 * n % 18446744073709551616 : Nat) = n from by omega] at h
  exact h
theorem size_int : (Tryz.prog.info? 3).map (·.size) = some 1 := by kernel_rfl
theorem made_rep (n : Nat) : (madeCells #[Value.int .i64 0] n).toList = List.replicate n (Value.int .i64 0) := by
  apply List.ext_getElem
  · simp [madeCells]
  · intro i h1 h2
    simp [madeCells, Nat.mod_one]
theorem splice_rep (x y : Value) (n m k : Nat) (h : m + k ≤ n) : Go.splice (List.replicate m x ++ List.replicate (n - m) y) m (List.replicate k x) = List.replicate (m + k) x ++ List.replicate (n - (m + k)) y := by
  unfold Go.splice
  rw [List.take_append_of_le_length (by simp), List.take_of_length_le (by simp), List.length_replicate, List.drop_append, List.drop_eq_nil_of_le (by simp), List.nil_append, List.length_replicate, List.drop_replicate, ← List.append_assoc, List.replicate_append_replicate]
  congr 2
  omega
theorem copyI_run (w : World) (g off dLen dCap : Nat) (a : Addr) (sLen sCap : Nat) (cur cs : List Value) (hg : w.heap[g]? = some (.cells cur.toArray 3 (0, 0))) (hn : cs.length = Nat.min sLen dLen)
    (hsrc : ∀ j v, cs[j]? = some v → w.cell? (a.add j) = some v) (hfit : off + cs.length ≤ cur.length) (h1 : ∀ v ∈ cs, v.oneCell' = true) (B : Nat) (w0 : World) (hb : Below B w0 w) (hBg : B ≤ g) :
    ∃ w', (Builtin.copy_ #[38, 38] 3 #[.slice (some ⟨g, off, none⟩) dLen dCap, .slice (some a) sLen sCap]).run Tryz.prog w = .ok (goInt cs.length) w' ∧ w'.heap[g]? = some (.cells (splice cur off cs).toArray 3 (0, 0)) ∧ Below B w0 w' := by
  refine ⟨_, run_copy_row (P := Tryz.prog) w 38 38 3 3 g off dLen dCap a sLen sCap cur.toArray 3 cs Tryz.underlying38 size_int hg hn hsrc (by simpa using hfit) h1, ?_, below_setRow hb hBg _⟩
  simpa [splice] using setRow_heap w g _ _ _ _ hg
set_option maxHeartbeats 8000000 in
theorem repeat_any (z : Int) (n vb c : Nat) (w : World) (hb : NB w vb [.int .i64 z] 3) (h1 : 1 ≤ n) (hl : n ≤ 400) :
    Calls Tryz.prog 54 #[.slice (some ⟨vb, 0, none⟩) 1 c, .int .i64 (n : Int)] w fun e w' => ∃ v', e = .returned v' ∧ KidsO w.heap.size w' v' (List.replicate n z) ∧ Below w.heap.size w w' := by
  have HM := hide (mulG_any n w hl)
  have hmk := run_make_row' (P := Tryz.prog) 38 3 (.int .i64 0) 8 Tryz.underlying38 infoI rfl .i64 .i64 n (by omega) (by omega)
  have vc := hb.cell 0 rfl
  have vl := hb.lt
  have z0 : (0 : Int) ≤ (n : Int) := by omega
  have z1 : (n : Int) ≤ 400 := by omega
  have z2 : (1 : Int) ≤ (n : Int) := by omega
  have GL : Hid ((w.alloc (.cells (madeCells #[Value.int .i64 0] n) 3)).heap[w.heap.size]? = some (.cells (List.replicate n (Value.int .i64 0)).toArray 3 (0, 0))) := by
    show _ = _
    rw [heap_alloc_new, ← made_rep, Array.toArray_toList]
  have BL : Hid (Below w.heap.size w (w.alloc (.cells (madeCells #[Value.int .i64 0] n) 3))) := (Below.refl _ w).alloc (Nat.le_refl _) _
  have VC := hide (show (w.alloc (.cells (madeCells #[Value.int .i64 0] n) 3)).cell? ⟨vb, 0, none⟩ = some (.int .i64 z) from cell_below vc BL.out)
  obtain ⟨w3, CP, G3, B3⟩ := copyI_run (w.alloc (.cells (madeCells #[Value.int .i64 0] n) 3)) w.heap.size 0 n n ⟨vb, 0, none⟩ 1 c (List.replicate n (Value.int .i64 0)) [.int .i64 z] GL.out (Nat.min_eq_left h1).symm (fun j v hj => by
    match j, hj with
    | 0, hj => cases hj; rw [Addr.add_lit]; exact VC.out) (by simp; omega) (by simp [Value.oneCell']) w.heap.size w BL.out (Nat.le_refl _)
  rw [show splice (List.replicate n (Value.int .i64 0)) 0 [.int .i64 z] = List.replicate 1 (Value.int .i64 z) ++ List.replicate (n - 1) (Value.int .i64 0) from by
    have := splice_rep (Value.int .i64 z) (Value.int .i64 0) n 0 1 (by omega)
    simpa using this] at G3
  replace G3 := hide G3
  replace B3 := hide B3
  simp only [List.length_cons, List.length_nil, Nat.zero_add] at CP
  go_enter Tryz.func54, Tryz.ntmps54
  go_wp2_with fail
  refine HM.out.mono ?_
  rintro e w0 ⟨rfl, hw⟩
  obtain rfl : w = w0 := hw.symm
  go_wp2_with fail
  clear HM hmk vc GL BL VC hb CP
  go_loopw [8] (fun nv wr => ∃ m : Nat, 1 ≤ m ∧ m ≤ n ∧ nv = .int .i64 (m : Int) ∧ Hid (wr.heap[w.heap.size]? = some (.cells (List.replicate m (Value.int .i64 z) ++ List.replicate (n - m) (Value.int .i64 0)).toArray 3 (0, 0))) ∧ Hid (Below w.heap.size w wr)) (fun nv _ => n - (intOf nv).toNat)
  case atStart => exact ⟨1, Nat.le_refl _, h1, rfl, G3, B3⟩
  case round =>
    rename World => wr
    obtain ⟨m, hm1, hm2, rfl, GW, BW⟩ := hrel
    have m0 : (0 : Int) ≤ (m : Int) := by omega
    have m1 : (m : Int) ≤ (n : Int) := by omega
    by_cases h : m < n
    · have m2 : (m : Int) < (n : Int) := by omega
      have CL : Hid (∀ j, j < m → wr.cell? ⟨w.heap.size, j, none⟩ = some (.int .i64 z)) := fun j hj => by
        have := GW.out
        unfold World.cell?
        simp only [this]
        simp
        rw [List.getElem?_append_left (by rw [List.length_replicate]; exact hj), List.getElem?_replicate, if_pos hj]
      have BD : Below w.heap.size w wr.drew := ⟨BW.out.os, BW.out.tape, BW.out.output, BW.out.size, BW.out.block⟩
      obtain ⟨w4, C4, G4, B4⟩ := copyI_run wr.drew w.heap.size m (n - m) (n - m) ⟨w.heap.size, 0, none⟩ m n (List.replicate m (Value.int .i64 z) ++ List.replicate (n - m) (Value.int .i64 0)) (List.replicate (Nat.min m (n - m)) (.int .i64 z)) GW.out (by simp) (fun j v hj => by
        have hj2 := (List.getElem?_eq_some_iff.1 hj).1
        rw [List.length_replicate] at hj2
        rw [List.getElem?_replicate, if_pos hj2] at hj
        cases hj
        rw [Addr.add_lit, Nat.zero_add]
        exact CL.out _ (Nat.lt_of_lt_of_le hj2 (Nat.min_le_left _ _))) (by
          have := Nat.min_le_right m (n - m)
          have e : Nat.min m (n - m) ≤ n - m := this
          simp only [List.length_append, List.length_replicate]; omega) (by intro v hv; rw [List.eq_of_mem_replicate hv]; rfl) w.heap.size w BD (Nat.le_refl _)
      obtain ⟨k, hk, k1, k2⟩ : ∃ k, Nat.min m (n - m) = k ∧ 1 ≤ k ∧ m + k ≤ n := ⟨_, rfl, Nat.le_min.2 ⟨hm1, by omega⟩, by have e : Nat.min m (n - m) ≤ n - m := Nat.min_le_right m (n - m); omega⟩
      rw [hk, List.length_replicate] at C4
      rw [hk, splice_rep _ _ _ _ _ k2] at G4
      replace G4 := hide G4
      replace B4 := hide B4
      have k3 : (m : Int) + (k : Int) ≤ 400 := by omega
      have nm : ¬ n = m := by omega
      have kw : IntKind.i64.wrap ((m : Int) + (k : Int)) = (m : Int) + (k : Int) := by rw [IntKind.wrap_i64]; omega
      clear hk GW CL BD BW
      go_wp2_with fail
      refine wp_region_held_drew (S := fun _ : World => True) (by kernel_rfl) ?_ (fun hHeld => ?_)
      · exact trivial
      refine wpAnyH_take (i := 0) (oi := { dst := some 38, op := Op.move (Operand.tmp 8), type := 3, pos := "slices.go:528", after := #[], guard := none }) (v := ?_) rfl (by kernel_rfl) (by kernel_rfl) (by kernel_rfl) (fun _ _ _ h => h) (Or.inl ⟨by rfl, ?_⟩) (by assumption) ?_
      rotate_left
      · (intro w hSw; (try dsimp only at hSw); first | (go_simp; done) | (go_simp; with_reducible rfl))
      simp only [Act.put, List.setIfInBounds_toArray, List.set_cons_zero, List.set_cons_succ]
      refine wpAnyH_take (i := 1) (oi := { dst := some 39, op := Op.move (Operand.tmp 7), type := 38, pos := "slices.go:528", after := #[], guard := none }) (v := ?_) rfl (by kernel_rfl) (by kernel_rfl) (by kernel_rfl) (fun _ _ _ h => h) (Or.inl ⟨by rfl, ?_⟩) (by assumption) ?_
      rotate_left
      · (intro w hSw; (try dsimp only at hSw); first | (go_simp; done) | (go_simp; with_reducible rfl))
      simp only [Act.put, List.setIfInBounds_toArray, List.set_cons_zero, List.set_cons_succ]
      refine wpAnyH_take (i := 2) (oi := { dst := some 40, op := Op.move (Operand.tmp 8), type := 3, pos := "slices.go:528", after := #[], guard := none }) (v := ?_) rfl (by kernel_rfl) (by kernel_rfl) (by kernel_rfl) (fun _ _ _ h => h) (Or.inl ⟨by rfl, ?_⟩) (by assumption) ?_
      rotate_left
      · (intro w hSw; (try dsimp only at hSw); first | (go_simp; done) | (go_simp; with_reducible rfl))
      simp only [Act.put, List.setIfInBounds_toArray, List.set_cons_zero, List.set_cons_succ]
      refine wpAnyH_take (i := 3) (oi := { dst := some 41, op := Op.slice 38 (Operand.tmp 39) (some (Operand.tmp 40)) none none, type := 38, pos := "slices.go:528", after := #[{ on := 1, ground := Ground.data }, { on := 2, ground := Ground.data }], guard := none }) (v := ?_) rfl (by kernel_rfl) (by kernel_rfl) (by kernel_rfl) (fun _ _ _ h => h) (Or.inl ⟨by rfl, ?_⟩) (by assumption) ?_
      rotate_left
      · (intro w hSw; (try dsimp only at hSw); first | (go_simp; done) | (go_simp; with_reducible rfl))
      simp only [Act.put, List.setIfInBounds_toArray, List.set_cons_zero, List.set_cons_succ]
      refine wpAnyH_take (i := 4) (oi := { dst := some 42, op := Op.move (Operand.tmp 7), type := 38, pos := "slices.go:528", after := #[], guard := none }) (v := ?_) rfl (by kernel_rfl) (by kernel_rfl) (by kernel_rfl) (fun _ _ _ h => h) (Or.inl ⟨by rfl, ?_⟩) (by assumption) ?_
      rotate_left
      · (intro w hSw; (try dsimp only at hSw); first | (go_simp; done) | (go_simp; with_reducible rfl))
      simp only [Act.put, List.setIfInBounds_toArray, List.set_cons_zero, List.set_cons_succ]
      refine wpAnyH_take (i := 5) (oi := { dst := some 43, op := Op.move (Operand.tmp 8), type := 3, pos := "slices.go:528", after := #[], guard := none }) (v := ?_) rfl (by kernel_rfl) (by kernel_rfl) (by kernel_rfl) (fun _ _ _ h => h) (Or.inl ⟨by rfl, ?_⟩) (by assumption) ?_
      rotate_left
      · (intro w hSw; (try dsimp only at hSw); first | (go_simp; done) | (go_simp; with_reducible rfl))
      simp only [Act.put, List.setIfInBounds_toArray, List.set_cons_zero, List.set_cons_succ]
      refine wpAnyH_take (i := 6) (oi := { dst := some 44, op := Op.slice 38 (Operand.tmp 42) none (some (Operand.tmp 43)) none, type := 38, pos := "slices.go:528", after := #[{ on := 4, ground := Ground.data }, { on := 5, ground := Ground.data }], guard := none }) (v := ?_) rfl (by kernel_rfl) (by kernel_rfl) (by kernel_rfl) (fun _ _ _ h => h) (Or.inl ⟨by rfl, ?_⟩) (by assumption) ?_
      rotate_left
      · (intro w hSw; (try dsimp only at hSw); first | (go_simp; done) | (go_simp; with_reducible rfl))
      simp only [Act.put, List.setIfInBounds_toArray, List.set_cons_zero, List.set_cons_succ]
      refine wpAnyH_ready (rs := [7]) (by kernel_rfl) (by simp) ?_
      refine AllReadyH.cons (i := 7) (o := { dst := some 45, op := Op.call { callee := Callee.builtin Builtin.copy, args := #[Operand.tmp 41, Operand.tmp 44], argTypes := #[38, 38] }, type := 3, pos := "slices.go:528", after := #[{ on := 3, ground := Ground.data }, { on := 6, ground := Ground.data }], guard := none }) rfl (fun K hK => ?_) AllReadyH.nil
      go_simp
      refine hK.out _ _ ?_ (fun hHeld => ?_)
      · exact trivial
      clear hK K
      refine wpAnyH_take (i := 8) (oi := { dst := some 46, op := Op.binOp BinOp.add 3 (Operand.tmp 38) (Operand.tmp 45) 3, type := 3, pos := "slices.go:528", after := #[{ on := 0, ground := Ground.data }, { on := 7, ground := Ground.data }], guard := none }) (v := ?_) rfl (by kernel_rfl) (by kernel_rfl) (by kernel_rfl) (fun _ _ _ h => h) (Or.inl ⟨by rfl, ?_⟩) (by assumption) ?_
      rotate_left
      · (intro w hSw; (try dsimp only at hSw); first | (go_simp; done) | (go_simp; with_reducible rfl))
      simp only [Act.put, List.setIfInBounds_toArray, List.set_cons_zero, List.set_cons_succ]
      refine wpAnyH_take (i := 9) (oi := { dst := some 8, op := Op.assign (Operand.tmp 46), type := 3, pos := "slices.go:528", after := #[{ on := 8, ground := Ground.data }, { on := 7, ground := Ground.chain }, { on := 0, ground := Ground.phase }, { on := 1, ground := Ground.phase }, { on := 2, ground := Ground.phase }, { on := 3, ground := Ground.phase }, { on := 4, ground := Ground.phase }, { on := 5, ground := Ground.phase }, { on := 6, ground := Ground.phase }, { on := 7, ground := Ground.phase }, { on := 8, ground := Ground.phase }], guard := none }) (v := ?_) rfl (by kernel_rfl) (by kernel_rfl) (by kernel_rfl) (fun _ _ _ h => h) (Or.inl ⟨by rfl, ?_⟩) (by assumption) ?_
      rotate_left
      · (intro w hSw; (try dsimp only at hSw); first | (go_simp; done) | (go_simp; with_reducible rfl))
      simp only [Act.put, List.setIfInBounds_toArray, List.set_cons_zero, List.set_cons_succ]
      refine wpAnyH_done (by kernel_rfl) ?_ _
      go_wp2_with fail
      go_roundw
      case rel => exact ⟨m + k, by omega, by omega, by go_num, G4, B4⟩
      case measure => simp [intOf]; omega
    · obtain rfl : m = n := by omega
      have KO : Hid (KidsO w.heap.size wr (.slice (some ⟨w.heap.size, 0, none⟩) m m) (List.replicate m z)) := by
        refine ⟨by simp [cellsI], .inr ⟨w.heap.size, m, _, by simp, Nat.le_refl _, GW.out, by simp, by unfold maxLen; omega, by simp, by simp [cellsI]⟩⟩
      clear GW
      go_wp2_with fail
      go_ret
      exact ⟨_, rfl, KO.out, BW.out⟩
end Go.Proofs.YtldbaoolddlacaaGreatDoor

namespace Go.Proofs.YtldbaoolddlacaaGreatDoor
open Go.RowKit
set_option maxRecDepth 100000
abbrev OwTabs (w : World) : Prop := KTabs w
theorem OwTabs.below {w w' : World} (h : OwTabs w) (hb : Below w.heap.size w w') : OwTabs w' := KTabs.below h hb
theorem isK_not {l : List Nd} {k id : Int} (h : okB l (fun x => x == k) id = false ∨ rightB l = false) : isK l id k = false := by
  rw [← ok_right]
  rcases h with h | h <;> rw [h]
  · rfl
  · rw [Bool.and_false]
theorem isK_yes {l : List Nd} {k id : Int} (h : okB l (fun x => x == k) id = true) (hr : rightB l = true) : isK l id k = true := by rw [← ok_right, h, hr]; rfl
theorem ok_rng {l : List Nd} {q : Int → Bool} {id : Int} (h : okB l q id = true) : ∃ m : Nat, id = (m : Int) ∧ m < l.length := by
  have rg : 0 ≤ id ∧ id < (l.length : Int) := by
    apply Classical.byContradiction
    intro t
    rw [ok_out t] at h; cases h
  exact ⟨id.toNat, by omega, by omega⟩
set_option maxHeartbeats 8000000 in
theorem owElementsK_any (v : Value) (l : List Nd) (id : Int) (w : World) (hv : NodesV w v l) (hz : DocSz l) (hT : OwTabs w) :
    Calls Tryz.prog 55 #[v, .int .i64 id] w fun e w' => ∃ v', e = .returned v' ∧ KidsO w.heap.size w' v' (elementsP l id) ∧ Below w.heap.size w w' := by
  have HI := hide (fun W (hb : Below w.heap.size w W) => owIsOf_any v l id _ is30 suisForm W (hv.below hb) hz (hT.below hb))
  have HRt := hide (fun W (hb : Below w.heap.size w W) => right_any v l W (hv.below hb) hz)
  cases ok : okB l is30 id with
  | false =>
    have E : Hid (elementsP l id = []) := by show _ = _; rw [elements_is, isK_not (.inl ok)]; rfl
    rw [ok] at HI
    clear ok
    obtain ⟨p, c, rfl⟩ := nds_formW hv
    have B0 : Hid (Below w.heap.size w w) := Below.refl _ _
    clear hv hz hT HRt
    go_enter Tryz.func55, Tryz.ntmps55
    go_wp2_with fail
    refine (HI.out _ B0.out).mono ?_
    rintro e w1 ⟨rfl, b1⟩
    go_wp2_with fail
    go_ret
    exact ⟨_, rfl, by rw [E.out]; exact World.ownsRow_nil _ _ _ _, chain B0.out b1⟩
  | true =>
    rw [ok] at HI
    cases rb : rightB l with
    | false =>
      have E : Hid (elementsP l id = []) := by show _ = _; rw [elements_is, isK_not (.inr rb)]; rfl
      rw [rb] at HRt
      clear ok rb
      obtain ⟨p, c, rfl⟩ := nds_formW hv
      have B0 : Hid (Below w.heap.size w w) := Below.refl _ _
      clear hv hz hT
      go_enter Tryz.func55, Tryz.ntmps55
      go_wp2_with fail
      refine (HI.out _ B0.out).mono ?_
      rintro e w1 ⟨rfl, b1⟩
      go_wp2_with fail
      refine (HRt.out _ (chain B0.out b1)).mono ?_
      rintro e w2 ⟨rfl, b2⟩
      go_wp2_with fail
      go_ret
      exact ⟨_, rfl, by rw [E.out]; exact World.ownsRow_nil _ _ _ _, chain (chain B0.out b1) b2⟩
    | true =>
      rw [rb] at HRt
      have hR := right_is.1 rb
      obtain ⟨m, rfl, hm⟩ := ok_rng ok
      have HO := hide (fun W (hb : Below w.heap.size w W) => owOwned_any v l m _ listB suListed W (hv.below hb) hz (hT.below hb) hR hm)
      have E : Hid (ownedP l listB (m : Int) = elementsP l (m : Int)) := by show _ = _; rw [elements_is, isK_yes ok rb]; rfl
      rw [E.out] at HO
      clear E
      obtain ⟨p, c, rfl⟩ := nds_formW hv
      have B0 : Hid (Below w.heap.size w w) := Below.refl _ _
      clear hv hz hT ok rb hR
      generalize elementsP l (m : Int) = z at *
      go_enter Tryz.func55, Tryz.ntmps55
      go_wp2_with fail
      refine (HI.out _ B0.out).mono ?_
      rintro e w1 ⟨rfl, b1⟩
      go_wp2_with fail
      refine (HRt.out _ (chain B0.out b1)).mono ?_
      rintro e w2 ⟨rfl, b2⟩
      have B2 := hide (chain (chain B0.out b1) b2)
      go_wp2_with fail
      refine (HO.out _ B2.out).mono ?_
      rintro e w3 ⟨v3, rfl, k3, b3⟩
      have K3 := hide (owns_mono k3 B2.out.size)
      obtain ⟨p3, c3, rfl, _⟩ := k3.ints
      clear k3
      go_wp2_with fail
      go_ret
      exact ⟨_, rfl, K3.out, chain B2.out b3⟩
end Go.Proofs.YtldbaoolddlacaaGreatDoor

namespace Go.Proofs.YtldbaoolddlacaaGreatDoor
open Go.RowKit
set_option maxRecDepth 100000
/-- Forms, of the first ones' elements; and of some of the next one's. -/
def fmL (l : List Nd) (k : Nat) : List Int := (List.range l.length).map fun i : Nat => ownF l (i : Int) k
def fmA (l : List Nd) (k : Nat) (S : List Int) : List Int := (List.range l.length).map fun i : Nat => if (i : Int) ∈ S then (k : Int) else ownF l (i : Int) k
theorem fm_zero (l : List Nd) : fmL l 0 = List.replicate l.length (-1) := by
  unfold fmL
  apply List.ext_getElem
  · simp
  · intro i h1 h2
    simp [ownF]
theorem fmA_nil (l : List Nd) (k : Nat) : fmA l k [] = fmL l k := by
  unfold fmA fmL
  exact List.map_congr_left fun i _ => if_neg (fun t => by cases t)
theorem fmA_all (l : List Nd) (k : Nat) : fmA l k (elementsP l (k : Int)) = fmL l (k + 1) := rfl
theorem fmA_len (l : List Nd) (k : Nat) (S : List Int) : (fmA l k S).length = l.length := by unfold fmA; simp
theorem fmL_len (l : List Nd) (k : Nat) : (fmL l k).length = l.length := by unfold fmL; simp
theorem fmA_at {l : List Nd} {k i : Nat} {S : List Int} (h : i < (fmA l k S).length) : (fmA l k S)[i] = if (i : Int) ∈ S then (k : Int) else ownF l (i : Int) k := by simp [fmA]
theorem fmA_step {l : List Nd} {k q : Nat} {S : List Int} : (fmA l k S).set q (k : Int) = fmA l k (S ++ [(q : Int)]) := by
  apply List.ext_getElem
  · rw [List.length_set, fmA_len, fmA_len]
  · intro i h1 h2
    rw [List.getElem_set, fmA_at h2]
    by_cases e : q = i
    · subst e
      rw [if_pos rfl, if_pos (List.mem_append.2 (.inr (List.mem_singleton.2 rfl)))]
    · rw [if_neg e, fmA_at (by rw [List.length_set] at h1; exact h1)]
      by_cases m : (i : Int) ∈ S
      · rw [if_pos m, if_pos (List.mem_append.2 (.inl m))]
      · rw [if_neg m, if_neg]
        intro t
        rcases List.mem_append.1 t with t | t
        · exact m t
        · rw [List.mem_singleton] at t; omega
set_option maxHeartbeats 8000000 in
theorem gpOwners_any (v : Value) (l : List Nd) (w : World) (hv : NodesV w v l) (hz : DocSz l) (hT : KTabs w) (hR : Right l) :
    Calls Tryz.prog 32 #[v] w fun e w' => ∃ v', e = .returned v' ∧ KidsO w.heap.size w' v' (fmL l l.length) ∧ Below w.heap.size w w' := by
  have hl := hR.len
  have BW1 : Hid (Below w.heap.size w (w.alloc (.cells #[.int .i64 (-1)] 3))) := (Below.refl _ w).alloc (Nat.le_refl _) _
  have HRp := hide (repeat_any (-1) l.length w.heap.size 1 (w.alloc (.cells #[.int .i64 (-1)] 3)) (NB.new w [.int .i64 (-1)] 3) hl.1 hl.2)
  rw [← fm_zero] at HRp
  have HE := hide (fun (k : Nat) W (hb : Below w.heap.size w W) => owElementsK_any v l (k : Int) W (hv.below hb) hz (hT.below hb))
  have HM : Hid (∀ (k : Nat), ∀ x ∈ elementsP l (k : Int), 0 ≤ x ∧ x < (l.length : Int)) := fun k x hx => ((mem_el hR).1 hx).2.1
  have HN : Hid (∀ (k : Nat), (elementsP l (k : Int)).length ≤ 400) := fun k => by
    have a := nodup_sub (el_nodup (l := l) hR (f := (k : Int))) (B := (List.range l.length).map fun i : Nat => (i : Int)) (fun x hx => by
      have := ((mem_el hR).1 hx).2.1
      rw [List.mem_map]
      exact ⟨x.toNat, List.mem_range.2 (by omega), by omega⟩)
    rw [List.length_map, List.length_range] at a
    omega
  obtain ⟨p, c, rfl⟩ := nds_formW hv
  have hl1 : 1 ≤ l.length := hl.1
  have hl2 : l.length ≤ 400 := hl.2
  clear hv hz hT hR hl
  go_enter Tryz.func32, Tryz.ntmps32
  go_wp2_with fail
  refine HRp.out.mono ?_
  rintro e w1 ⟨vf, rfl, KF, b1⟩
  obtain ⟨gf, cf, rfl, ebf, gf0, gf1, cf1, cf2⟩ := owns_at KF (by rw [fmL_len]; omega)
  rw [fmL_len] at KF ebf
  have KF1 : Hid (KidsO (w.heap.size + 1) w1 (.slice (some ⟨gf, 0, none⟩) l.length cf) (fmL l 0)) := by
    have t := KF
    rw [World.size_alloc] at t
    exact t
  have B1 := hide (chain BW1.out b1)
  have gfw : w.heap.size ≤ gf := by rw [World.size_alloc] at gf0; omega
  clear KF b1 BW1 HRp gf0 ebf cf2
  rw [fmL_len] at cf1 ⊢
  go_wp2_with fail
  go_loopw [13] (fun iv wr => ∃ k : Nat, k ≤ l.length ∧ iv = .int .i64 k ∧ Hid (KidsO (w.heap.size + 1) wr (.slice (some ⟨gf, 0, none⟩) l.length cf) (fmL l k)) ∧ Hid (Below w.heap.size w wr)) (fun iv _ => l.length - (intOf iv).toNat)
  case atStart => exact ⟨0, Nat.zero_le _, rfl, KF1, B1⟩
  case round =>
    rename World => wr
    obtain ⟨k, hk, rfl, KW, BW⟩ := hrel
    clear KF1 B1
    by_cases h : k < l.length
    · have i1 : (k : Int) < (l.length : Int) := by omega
      have i0 : (0 : Int) ≤ (k : Int) := by omega
      have HE1 := hide (HE.out k wr BW.out)
      have HM1 := hide (HM.out k)
      have HN1 := HN.out k
      have FA : Hid (fmA l k ((elementsP l (k : Int)).take (elementsP l (k : Int)).length) = fmL l (k + 1)) := by show _ = _; rw [List.take_length]; exact fmA_all l k
      clear HE HM HN
      generalize elementsP l (k : Int) = E at *
      go_wp2_with fail
      refine HE1.out.mono ?_
      rintro e w2 ⟨ve, rfl, KE, b2⟩
      obtain ⟨pe, ce, rfl⟩ := KE.formG
      have KE1 := hide KE
      have OB : Hid (∀ j, (Value.slice pe E.length ce).ownBlock = some j → wr.heap.size ≤ j) := fun j hj => (World.ownsRow.lt KE j hj).1
      have gl : gf < wr.heap.size := (World.ownsRow.lt KW.out gf rfl).2
      have KA : Hid (KidsO (w.heap.size + 1) w2 (.slice (some ⟨gf, 0, none⟩) l.length cf) (fmA l k (E.take 0))) := by
        show KidsO _ _ _ _
        rw [List.take_zero, fmA_nil]
        exact owns_below KW.out b2
      have B2 := hide (chain BW.out b2)
      clear KE b2 HE1 KW BW
      go_wp2_with fail
      go_loopw [20] (fun jv wq => ∃ j : Nat, j ≤ E.length ∧ jv = .int .i64 j ∧ Hid (KidsO (w.heap.size + 1) wq (.slice (some ⟨gf, 0, none⟩) l.length cf) (fmA l k (E.take j))) ∧ Hid (Chg [gf] w2 wq)) (fun jv _ => E.length - (intOf jv).toNat)
      case atStart => exact ⟨0, Nat.zero_le _, rfl, KA, Chg.refl _ _⟩
      case round =>
        rename World => wq
        obtain ⟨j, hj, rfl, KQ, CQ⟩ := hrel
        clear KA
        by_cases hh : j < E.length
        · have j1 : (j : Int) < (E.length : Int) := by omega
          have j0 : (0 : Int) ≤ (j : Int) := by omega
          obtain ⟨ge, cpe, el, eg, _⟩ := owns_at KE1.out (by omega)
          obtain ⟨rfl, rfl⟩ : pe = some ⟨ge, 0, none⟩ ∧ ce = cpe := by cases el; exact ⟨rfl, rfl⟩
          have gne : ¬ ge = gf := by
            have := OB.out ge rfl
            omega
          have ce0 := CQ.out.cell (owns_cell KE1.out rfl (cellsI_at hh)) (by rw [List.mem_singleton]; exact gne)
          have rx := HM1.out E[j] (List.getElem_mem hh)
          obtain ⟨q, eq⟩ : ∃ q : Nat, E[j] = (q : Int) := ⟨E[j].toNat, by omega⟩
          have hq : q < l.length := by rw [eq] at rx; omega
          rw [eq] at ce0
          have TK : Hid (E.take (j + 1) = E.take j ++ [(q : Int)]) := by show _ = _; rw [List.take_succ_eq_append_getElem hh, eq]
          have lq : q < (fmA l k (E.take j)).length := by rw [fmA_len]; exact hq
          have cf0 := owns_cell KQ.out rfl (cellsI_at lq)
          have ff0 := owns_free KQ.out rfl q
          have PUT : Hid (KidsO (w.heap.size + 1) (wq.setCell ⟨gf, q, none⟩ (.int .i64 (k : Int))) (.slice (some ⟨gf, 0, none⟩) l.length cf) (fmA l k (E.take (j + 1)))) := by
            have t := owns_set KQ.out rfl q (.int .i64 (k : Int))
            rw [cellsI_set, fmA_step, ← TK.out, fmA_len] at t
            show World.ownsRow _ _ _ _ _ _ _
            rw [fmA_len]
            exact t
          have CZ := hide CQ.out
          have q0 : (0 : Int) ≤ (q : Int) := by omega
          have q1 : (q : Int) < (l.length : Int) := by omega
          generalize (fmA l k (E.take j))[q] = old at *
          clear rx eq TK lq KQ CQ el eg KE1 OB HM1 FA
          go_wp2_with fail
          go_roundw
          case rel => exact ⟨j + 1, by omega, by go_num, PUT, CZ.out.trans (Chg.setB _ _ _ _)⟩
          case measure => simp [intOf]; omega
        · obtain rfl : j = E.length := by omega
          rw [FA.out] at KQ
          have B3 : Hid (Below w.heap.size w wq) := B2.out.trans (CQ.out.below B2.out.size (fun k hk => by rw [List.mem_singleton] at hk; rw [hk]; exact gfw))
          clear KE1 OB HM1 FA CQ B2
          go_wp2_with fail
          go_roundw
          case rel => exact ⟨k + 1, by omega, by go_num, KQ, B3⟩
          case measure => simp [intOf]; omega
    · obtain rfl : k = l.length := by omega
      clear HE HM HN
      go_wp2_with fail
      go_ret
      exact ⟨_, rfl, owns_mono KW.out (by omega), BW.out⟩
end Go.Proofs.YtldbaoolddlacaaGreatDoor

namespace Go.Proofs.YtldbaoolddlacaaGreatDoor
open Go.RowKit Go.Maps
set_option maxRecDepth 100000
theorem fnd_maxG {ax : List (ByteArray × ByteArray)} (h : ∀ a ∈ ax, a.2.size ≤ maxLen) (n : ByteArray) : (fndS ax n).size ≤ maxLen := by
  cases q : findA ax n with
  | none => rw [(fnd_miss q).1]; decide
  | some k =>
    have hk : k < ax.length := (List.findIdx?_eq_some_iff_getElem.1 q).1
    rw [(fnd_hit hk q).1]
    exact h _ (List.getElem_mem hk)
theorem wfG {n : Int} (h1 : -1 ≤ n) (h2 : n ≤ 1000000000) : (Lit.int .i64 n).wf = true := WalkArith.wf_i64 ⟨by omega, by omega⟩
theorem keyG_ok {l : List Nd} (hz : DocSz l) {x : Int} (hk : isK l x 17 = true) : KeyOK (keyG l x) := by
  obtain ⟨h, h0, hx⟩ := isK_in hk
  have hl := h.len.2
  have nb : (nmA l x).size ≤ maxLen := by
    unfold nmA
    have hm : x.toNat < l.length := by omega
    rw [nd_at hm]
    exact fnd_maxG (fun a ha => ((hz.nds _ (List.getElem_mem hm)).attr a ha).2) _
  have fb : -1 ≤ formP l x ∧ formP l x < (l.length : Int) := by
    by_cases q : 0 ≤ formP l x
    · exact ⟨by omega, (form_in h q).1⟩
    · rw [← ownF_is hk] at q ⊢
      have : ∀ n, ownF l x n = -1 ∨ 0 ≤ ownF l x n := fun n => by
        induction n with
        | zero => exact .inl rfl
        | succ n ih =>
          unfold ownF
          split
          · exact .inr (by omega)
          · exact ih
      rcases this l.length with t | t
      · rw [t]; omega
      · exact absurd t q
  have tb := top_rng h h0 hx
  unfold keyG
  split
  · exact ⟨(by decide : (⟨#[]⟩ : ByteArray).size ≤ maxLen), wfG (n := 0) (by omega) (by omega), wfG (n := 0) (by omega) (by omega), wfG (n := x) (by omega) (by omega)⟩
  · exact ⟨nb, wfG (n := formP l x) (by omega) (by omega), wfG (n := topP l x) (by omega) (by omega), wfG (n := 0) (by omega) (by omega)⟩
theorem fm_at {l : List Nd} {k i : Nat} (h : i < (fmL l k).length) : (fmL l k)[i] = ownF l (i : Int) k := by simp [fmL]
theorem ids_len {l : List Nd} (h : Right l) : ∀ n, n ≤ l.length → (idsG l n).length ≤ n * 400
  | 0, _ => Nat.zero_le _
  | n + 1, hn => by
    show (idsG l n ++ radG l n).length ≤ _
    rw [List.length_append]
    have a := ids_len h n (by omega)
    have b : (radG l n).length ≤ 400 := by
      unfold radG
      split
      · refine Nat.le_trans (List.length_filter_le _ _) ?_
        rw [order_down h ⟨by omega, by omega⟩]
        have := down_few h (k := (n : Int)) ⟨by omega, by omega⟩
        have := h.len.2
        omega
      · exact Nat.zero_le _
    omega
theorem keys_foldL {l : List Nd} : ∀ (ys : List Int) (K : List GKey), (ys.foldl (fun K y => stepK K (keyG l y)) K).length ≤ K.length + ys.length
  | [], _ => Nat.le_refl _
  | y :: ys, K => by
    rw [List.foldl_cons]
    refine Nat.le_trans (keys_foldL ys _) ?_
    have : (stepK K (keyG l y)).length ≤ K.length + 1 := by
      unfold stepK
      split
      · omega
      · rw [List.length_append]; exact Nat.le_refl _
    rw [List.length_cons]
    omega
theorem keys_few {l : List Nd} (ys : List Int) : (keysG l ys).length ≤ ys.length := by
  have := keys_foldL (l := l) ys []
  rw [List.length_nil, Nat.zero_add] at this
  exact this
theorem infoIS : (Tryz.prog.info? 38).map (fun i => (i.zero, i.size, i.bytes)) = some (some (.slice none 0 0), 1, 24) := by kernel_rfl
theorem set_last {α : Type} (G : List α) (a b : α) : (G ++ [a]).set G.length b = G ++ [b] := by
  rw [List.set_append_right _ _ (Nat.le_refl _), Nat.sub_self]; rfl
/-- What the walk has about it: rows, the map, the forms, what lay there. -/
structure GSt (l : List Nd) (w0 w : World) (M : Nat) (fv v : Value) (G : List (List Int)) (K : List GKey) (n : Nat) (V : List Value) : Prop where
  rows : RowsO (M + 1) w v G V
  map : ∃ D : DataW Unit, w.ownsMap Tryz.prog 62 (plainElem Tryz.prog 3) M n D ∧ PlG K D
  forms : KidsO w0.heap.size w fv (fmL l l.length)
  bel : Below w0.heap.size w0 w
  low : w0.heap.size ≤ M
  fm : ∀ b, fv.ownBlock = some b → b < M
  lt : M < w.heap.size
theorem grownG {w w' : World} (hb : Below w.heap.size w w') (row : Option Nat) : w.grownBy w' row := ⟨hb.os, hb.tape, hb.output, hb.size, fun i hi _ => hb.block i hi⟩
theorem GSt.below {l : List Nd} {w0 w w' : World} {M : Nat} {fv v : Value} {G : List (List Int)} {K : List GKey} {n : Nat} {V : List Value} (h : GSt l w0 w M fv v G K n V) (hb : Below w.heap.size w w') : GSt l w0 w' M fv v G K n V := by
  obtain ⟨D, m1, m2⟩ := h.map
  exact ⟨h.rows.below hb, ⟨D, m1.kept (grownG hb none) (by simp), m2⟩, owns_below h.forms hb, chain h.bel hb, h.low, h.fm, Nat.lt_of_lt_of_le h.lt hb.size⟩
theorem zero_intG (w : World) : (zeroValue 3).run Tryz.prog w = .ok (.int .i64 0) w := Tryz.zeroValue3 w
theorem GSt.yes {l : List Nd} {w0 w : World} {M : Nat} {fv v : Value} {G : List (List Int)} {K : List GKey} {n : Nat} {V : List Value} (h : GSt l w0 w M fv v G K n V) {p : Nat} (hp : p < K.length) :
    (Instr.lookup 60 (.map (some M)) (keyV K[p]) true).run Tryz.prog w = .ok (.tuple #[.int .i64 (p : Int), .bool true]) w := by
  obtain ⟨D, m1, m2⟩ := h.map
  obtain ⟨kl, hk⟩ := key_some (m2.ok _ (List.getElem_mem hp))
  obtain ⟨x, ps, hr, hx⟩ := m1.look_ok gkLaw Tryz.underlying60 (zero_intG w) (plainElem_int Tryz.underlying3 (by decide)) hk
  rw [m2.at_ p hp kl hk] at hx
  obtain ⟨a, rfl, ha, _⟩ := plainElem_int_inv Tryz.underlying3 hx
  have e : (p : Int) = a := by
    have := congrArg Prod.fst ha
    simp only [DataW.lit.injEq, Lit.int.injEq, true_and] at this
    exact this
  rw [hr, m2.has_ _ _ hk, memK_iff.2 (List.getElem_mem hp), e]
theorem GSt.no {l : List Nd} {w0 w : World} {M : Nat} {fv v : Value} {G : List (List Int)} {K : List GKey} {n : Nat} {V : List Value} (h : GSt l w0 w M fv v G K n V) {k : GKey} (ho : KeyOK k) (hn : ¬ k ∈ K) :
    ∃ c, (Instr.lookup 60 (.map (some M)) (keyV k) true).run Tryz.prog w = .ok (.tuple #[.int .i64 c, .bool false]) w := by
  obtain ⟨D, m1, m2⟩ := h.map
  obtain ⟨kl, hk⟩ := key_some ho
  obtain ⟨x, ps, hr, hx⟩ := m1.look_ok gkLaw Tryz.underlying60 (zero_intG w) (plainElem_int Tryz.underlying3 (by decide)) hk
  obtain ⟨a, rfl, ha, _⟩ := plainElem_int_inv Tryz.underlying3 hx
  refine ⟨a, ?_⟩
  rw [hr, m2.has_ _ _ hk]
  cases e : memK k K with
  | false => rfl
  | true => exact absurd (memK_iff.1 e) hn
theorem GSt.update {l : List Nd} {w0 w : World} {M : Nat} {fv v : Value} {G : List (List Int)} {K : List GKey} {n : Nat} {V : List Value} (h : GSt l w0 w M fv v G K n V) {k : GKey} (ho : KeyOK k) (hn : ¬ k ∈ K) (h1 : n ≤ 1000000) (h2 : K.length ≤ 1000000) :
    ∃ w', (Instr.mapUpdate 60 (.map (some M)) (keyV k) (.int .i64 (K.length : Int))).run Tryz.prog w = .ok () w' ∧ GSt l w0 w' M fv v G (K ++ [k]) (n + 1) V ∧ w.grownBy w' (some M) := by
  obtain ⟨D, m1, m2⟩ := h.map
  obtain ⟨kl, hk⟩ := key_some ho
  obtain ⟨w', hr, m3, gr⟩ := m1.update gkLaw Tryz.underlying60 (by unfold maxLen; omega) hk (plainElem_int Tryz.underlying3 (wfG (n := (K.length : Int)) (by omega) (by omega)))
  have c : Chg [M] w w' := Chg.of_grown gr
  refine ⟨w', hr, ⟨h.rows.kept c (fun k hk q => ?_) (fun i k hi hk q => ?_), ⟨_, m3, m2.add hk ho hn⟩, owns_kept h.forms c (fun k hk q => ?_), h.bel.trans (c.below h.bel.size (fun k hk => ?_)), h.low, h.fm, Nat.lt_of_lt_of_le h.lt c.size⟩, gr⟩
  · have := (World.ownsRow.lt h.rows.row k hk).1
    rw [List.mem_singleton] at q
    omega
  · have := (h.rows.lt hi hk).1
    rw [List.mem_singleton] at q
    omega
  · have := h.fm k hk
    rw [List.mem_singleton] at q
    omega
  · rw [List.mem_singleton] at hk
    rw [hk]; exact h.low
theorem GSt.more {l : List Nd} {w0 w : World} {M : Nat} {fv v : Value} {G : List (List Int)} {K : List GKey} {n n' : Nat} {V : List Value} (h : GSt l w0 w M fv v G K n V) (hn : n ≤ n') : GSt l w0 w M fv v G K n' V := by
  obtain ⟨D, m1, m2⟩ := h.map
  exact ⟨h.rows, ⟨D, m1.mono hn, m2⟩, h.forms, h.bel, h.low, h.fm, h.lt⟩
theorem GSt.push {l : List Nd} {w0 w w1 : World} {M : Nat} {fv v v' : Value} {G : List (List Int)} {K : List GKey} {n : Nat} {V : List Value} (h : GSt l w0 w M fv v G K n V) (gr : w.grownBy w1 v.ownBlock) (hr : w1.ownsRow (M + 1) 38 1 v' (G.length + 1) (V ++ [.slice none 0 0])) :
    GSt l w0 w1 M fv v' (G ++ [[]]) K n (V ++ [.slice none 0 0]) := by
  obtain ⟨D, m1, m2⟩ := h.map
  have c := Chg.of_grown gr
  have lo : ∀ k, v.ownBlock = some k → M + 1 ≤ k := fun k hk => (World.ownsRow.lt h.rows.row k hk).1
  refine ⟨h.rows.push c hr, ⟨D, m1.kept gr (fun q => ?_), m2⟩, owns_kept h.forms c (fun k hk q => ?_), h.bel.trans (c.below h.bel.size (fun k hk => ?_)), h.low, h.fm, Nat.lt_of_lt_of_le h.lt c.size⟩
  · have := lo M q.symm
    omega
  · have := h.fm k hk
    have := lo k (opt_mem.1 q)
    omega
  · have := lo k (opt_mem.1 hk)
    have := h.low
    omega
theorem GSt.put {l : List Nd} {w0 w w1 : World} {M : Nat} {fv v : Value} {G : List (List Int)} {K : List GKey} {n : Nat} {V : List Value} (h : GSt l w0 w M fv v G K n V) {p : Nat} (hp : p < G.length) {u : Value} {ks : List Int} (gr : w.grownBy w1 (vAt V p).ownBlock) (hk : KidsO (M + 1) w1 u ks) (hl : u.ownBlock = (vAt V p).ownBlock ∨ ∀ b, u.ownBlock = some b → w.heap.size ≤ b) {g : Nat} (hg : v.ownBlock = some g) :
    GSt l w0 (w1.setCell ⟨g, p, none⟩ u) M fv v (G.set p ks) K n (V.set p u) := by
  obtain ⟨D, m1, m2⟩ := h.map
  have c := Chg.of_grown gr
  have lo : ∀ k, (vAt V p).ownBlock = some k → M + 1 ≤ k := fun k hk => (h.rows.lt hp hk).1
  have lg := (World.ownsRow.lt h.rows.row g hg).1
  have c2 := Chg.setB w1 g p u
  refine ⟨h.rows.put hp c hk hl hg, ⟨D, (m1.kept gr (fun q => ?_)).setCell (a := ⟨g, p, none⟩) (show M ≠ g by omega) u, m2⟩, owns_kept (owns_kept h.forms c (fun k hk q => ?_)) c2 (fun k hk q => ?_), (h.bel.trans (c.below h.bel.size (fun k hk => ?_))).setCell (show _ ≤ g by have := h.low; omega) _, h.low, h.fm, Nat.lt_of_lt_of_le (Nat.lt_of_lt_of_le h.lt c.size) c2.size⟩
  · have := lo M q.symm
    omega
  · have := h.fm k hk
    have := lo k (opt_mem.1 q)
    omega
  · have := h.fm k hk
    rw [List.mem_singleton] at q
    omega
  · have := lo k (opt_mem.1 hk)
    have := h.low
    omega
set_option maxHeartbeats 8000000 in
theorem gpGroups_any (v : Value) (l : List Nd) (w : World) (hv : NodesV w v l) (hz : DocSz l) (hT : KTabs w) (hR : Right l) :
    Calls Tryz.prog 18 #[v] w fun e w' => ∃ q k V, e = .returned (.slice q (allG l).length k) ∧ RowsO w.heap.size w' (.slice q (allG l).length k) (allG l) V ∧ Below w.heap.size w w' := by
  have hl := hR.len
  have HO := hide (gpOwners_any v l w hv hz hT hR)
  have HRd := hide (fun (t : Nat) (ht : t < l.length) W (hb : Below w.heap.size w W) => gpRadios_any v l t W (hv.below hb) hz (hT.below hb) hR ht)
  have HK := hide (fun (m : Nat) (hm : m < l.length) W (hb : Below w.heap.size w W) => gpKeyOf_any v l m W (hv.below hb) hz hm)
  have RM : Hid (∀ (t : Nat) (ht : t < l.length) x, x ∈ radG l t → isK l x 17 = true ∧ topP l x = (t : Int)) := fun t ht x hx => by
    have m := rad_mem hR ht hx
    exact ⟨isK_rad hR m.1 m.2.2, m.2.1⟩
  have KO : Hid (∀ x, isK l x 17 = true → KeyOK (keyG l x) ∧ ownF l x l.length = formP l x ∧ 0 ≤ x ∧ x < (l.length : Int)) := fun x hx => ⟨keyG_ok hz hx, ownF_is hx, (isK_in hx).2⟩
  have IL : Hid (∀ t, t ≤ l.length → (idsG l t).length ≤ 160000) := fun t ht => by
    have := ids_len hR t ht
    have := hl.2
    omega
  have RL : Hid (∀ t, t < l.length → (radG l t).length ≤ 400) := fun t ht => by
    unfold radG
    split
    · refine Nat.le_trans (List.length_filter_le _ _) ?_
      rw [order_down hR ⟨by omega, by omega⟩]
      have := down_few hR (k := (t : Int)) ⟨by omega, by omega⟩
      omega
    · exact Nat.zero_le _
  have hmm := @run_makeMap Tryz.prog
  obtain ⟨p, c, rfl⟩ := nds_formW hv
  have hl1 : 1 ≤ l.length := hl.1
  have hl2 : l.length ≤ 400 := hl.2
  clear hv hz hT hR hl
  go_enter Tryz.func18, Tryz.ntmps18
  go_wp2_with fail
  refine HO.out.mono ?_
  rintro e w1 ⟨vf, rfl, KF, b1⟩
  obtain ⟨gf, cf, rfl, ebf, gf0, gf1, cf1, cf2⟩ := owns_at KF (by rw [fmL_len]; omega)
  rw [fmL_len] at KF ebf
  have S0 : Hid (GSt l w (w1.alloc (.map #[] 0)) w1.heap.size (.slice (some ⟨gf, 0, none⟩) l.length cf) (.slice none 0 0) (grpG l (idsG l 0)) (keysG l (idsG l 0)) (idsG l 0).length []) :=
    ⟨RowsO.nil _ _, ⟨.map [], World.ownsMap_made _ _ _ _, PlG.nil⟩, owns_below KF ((Below.refl _ w1).alloc (Nat.le_refl _) _), b1.alloc b1.size _, b1.size, fun b hb => by cases hb; exact gf1, by simp⟩
  clear KF b1 HO gf0 ebf cf2 gf1
  rw [fmL_len] at cf1 ⊢
  go_wp2_with fail
  clear hmm
  go_loopw [5, 17] (fun av iv wr => ∃ (t : Nat) (q : Option Addr) (cp : Nat) (V : List Value), t ≤ l.length ∧ iv = .int .i64 t ∧ av = .slice q (grpG l (idsG l t)).length cp ∧ Hid (GSt l w wr w1.heap.size (.slice (some ⟨gf, 0, none⟩) l.length cf) (.slice q (grpG l (idsG l t)).length cp) (grpG l (idsG l t)) (keysG l (idsG l t)) (idsG l t).length V)) (fun _ iv _ => l.length - (intOf iv).toNat)
  case atStart => exact ⟨0, none, 0, [], Nat.zero_le _, rfl, rfl, S0⟩
  case round =>
    rename World => wr
    obtain ⟨t, qa, ca, V, ht, rfl, rfl, SW⟩ := hrel
    clear S0
    by_cases h : t < l.length
    · have i1 : (t : Int) < (l.length : Int) := by omega
      have i0 : (0 : Int) ≤ (t : Int) := by omega
      have HR1 := hide (HRd.out t h wr SW.out.bel)
      have RM1 := hide (RM.out t h)
      have RL1 := RL.out t h
      have IL1 := IL.out t (by omega)
      have ES : Hid (idsG l t ++ (radG l t).take (radG l t).length = idsG l (t + 1)) := by show _ = _; rw [List.take_length]; rfl
      have E0 : Hid (idsG l t ++ (radG l t).take 0 = idsG l t) := by show _ = _; rw [List.take_zero, List.append_nil]
      clear HRd RM IL RL
      generalize radG l t = R at *
      go_wp2_with fail
      refine HR1.out.mono ?_
      rintro e w2 ⟨vr, rfl, KR, b2⟩
      obtain ⟨pr, cr, rfl⟩ := KR.formG
      have KR1 := hide KR
      have NR : Hid (∀ i b, i < (grpG l (idsG l t)).length → (vAt V i).ownBlock = some b → ¬ (Value.slice pr R.length cr).ownBlock = some b) := fun i b hi hb q => by
        have := (World.ownsRow.lt KR b q).1
        have := (SW.out.rows.lt hi hb).2
        omega
      have SA := hide (SW.out.below b2)
      have ML : w1.heap.size < wr.heap.size := SW.out.lt
      clear KR b2 HR1 SW
      go_wp2_with fail
      go_loopw [5, 24] (fun av jv wq => ∃ (j : Nat) (q : Option Addr) (cp : Nat) (V : List Value), j ≤ R.length ∧ jv = .int .i64 j ∧ av = .slice q (grpG l (idsG l t ++ R.take j)).length cp ∧ Hid (GSt l w wq w1.heap.size (.slice (some ⟨gf, 0, none⟩) l.length cf) (.slice q (grpG l (idsG l t ++ R.take j)).length cp) (grpG l (idsG l t ++ R.take j)) (keysG l (idsG l t ++ R.take j)) (idsG l t ++ R.take j).length V) ∧ Hid (KidsO wr.heap.size wq (.slice pr R.length cr) R) ∧ Hid (∀ i b, i < (grpG l (idsG l t ++ R.take j)).length → (vAt V i).ownBlock = some b → ¬ (Value.slice pr R.length cr).ownBlock = some b)) (fun _ jv _ => R.length - (intOf jv).toNat)
      case atStart => exact ⟨0, qa, ca, V, Nat.zero_le _, rfl, by rw [E0.out], by rw [E0.out]; exact SA, KR1, by rw [E0.out]; exact NR⟩
      case round =>
        rename World => wq
        obtain ⟨j, q, cp, V, hj, rfl, rfl, SQ, KQ, NQ⟩ := hrel
        clear SA KR1 NR E0
        by_cases hh : j < R.length
        · have j1 : (j : Int) < (R.length : Int) := by omega
          have j0 : (0 : Int) ≤ (j : Int) := by omega
          obtain ⟨gr, cpr, el, eg, _⟩ := owns_at KQ.out (by omega)
          obtain ⟨rfl, rfl⟩ : pr = some ⟨gr, 0, none⟩ ∧ cr = cpr := by cases el; exact ⟨rfl, rfl⟩
          have cr0 := owns_cell KQ.out eg (cellsI_at hh)
          have rx := RM1.out R[j] (List.getElem_mem hh)
          have ko := KO.out R[j] rx.1
          obtain ⟨y, ey⟩ : ∃ y : Nat, R[j] = (y : Int) := ⟨R[j].toNat, by omega⟩
          rw [ey] at cr0 rx ko
          have hy : y < l.length := by omega
          have TK : Hid (idsG l t ++ R.take (j + 1) = (idsG l t ++ R.take j) ++ [(y : Int)]) := by show _ = _; rw [List.take_succ_eq_append_getElem hh, ey, List.append_assoc]
          have cf0 := owns_cell SQ.out.forms rfl (cellsI_at (ks := fmL l l.length) (i := y) (by rw [fmL_len]; exact hy))
          rw [fm_at, ko.2.1] at cf0
          have HK1 := hide (HK.out y hy wq SQ.out.bel)
          rw [rx.2] at HK1
          have y0 : (0 : Int) ≤ (y : Int) := by omega
          have y1 : (y : Int) < (l.length : Int) := by omega
          have KOK := hide ko.1
          have KN := hide (memK_iff (k := keyG l (y : Int)) (K := keysG l (idsG l t ++ R.take j)))
          have GN := hide (fun h => grp_new (l := l) (ys := idsG l t ++ R.take j) (y := (y : Int)) h)
          have GO := hide (fun p hp h => grp_old (l := l) (ys := idsG l t ++ R.take j) (y := (y : Int)) (p := p) hp h)
          have KS := hide (keys_snoc (l := l) (ys := idsG l t ++ R.take j) (y := (y : Int)))
          have GL := hide (grp_len (l := l) (ys := idsG l t ++ R.take j))
          have NL : Hid ((idsG l t ++ R.take j ++ [(y : Int)]).length = (idsG l t ++ R.take j).length + 1) := by show _ = _; rw [List.length_append]; rfl
          have NB : (idsG l t ++ R.take j).length ≤ 200000 := by rw [List.length_append, List.length_take]; omega
          have KB : (keysG l (idsG l t ++ R.take j)).length ≤ 200000 := Nat.le_trans (keys_few _) NB
          have GE : Hid (∀ p (h : p < (grpG l (idsG l t ++ R.take j)).length), ((grpG l (idsG l t ++ R.take j))[p]).length ≤ 200000) := fun p h => by
            rw [gat_at (by rw [← grp_len]; exact h)]
            exact Nat.le_trans (List.length_filter_le _ _) NB
          generalize idsG l t ++ R.take j = ys at *
          clear rx ey el HK KO RM1 ko ES IL1
          generalize formP l (y : Int) = fo at *
          obtain ⟨⟨k1, k2, k3, k4⟩, hkk⟩ : ∃ kk, keyG l (y : Int) = kk := ⟨_, rfl⟩
          rw [hkk] at HK1 KOK KN GN GO KS
          clear hkk
          obtain ⟨iI, hI0, hI1, hI2, hI3⟩ := info_parts infoI
          obtain ⟨iS, hS0, hS1, hS2, hS3⟩ := info_parts infoIS
          unfold keyV at HK1
          dsimp only at HK1
          go_wp2_with fail
          refine HK1.out.mono ?_
          rintro e w3 ⟨rfl, b3⟩
          have A4 : Below w3.heap.size w3 (w3.alloc (.cells #[.string k1, .int .i64 k2, .int .i64 k3, .int .i64 k4] 62)) := (Below.refl _ w3).alloc (Nat.le_refl _) _
          have S4 := hide ((SQ.out.below b3).below A4)
          have K4 := hide (owns_below (owns_below KQ.out b3) A4)
          have KC := hide (Bk.new w3 [.string k1, .int .i64 k2, .int .i64 k3, .int .i64 k4] 62)
          have kc0 := KC.out.cell 0 rfl
          have kc1 := KC.out.cell 1 rfl
          have kc2 := KC.out.cell 2 rfl
          have kc3 := KC.out.cell 3 rfl
          clear HK1 b3 SQ KQ cf0 cr0 A4
          go_upto_region 11 with fail
          generalize w3.alloc (.cells #[.string k1, .int .i64 k2, .int .i64 k3, .int .i64 k4] 62) = w4 at *
          by_cases hmem : (k1, k2, k3, k4) ∈ keysG l ys
          · obtain ⟨pl, hp, ep⟩ := List.getElem_of_mem hmem
            have LK := S4.out.yes hp
            rw [ep] at LK
            unfold keyV at LK
            dsimp only at LK
            have KE : Hid (keysG l (ys ++ [(y : Int)]) = keysG l ys) := by show _ = _; rw [KS.out, stepK, if_pos (KN.out.2 hmem)]
            have GE1 := hide (GO.out pl hp ep)
            have hpG : pl < (grpG l ys).length := by rw [GL.out]; exact hp
            have GB := GE.out pl hpG
            clear KS KN GN GO GL GE hmem KOK KC ep
            obtain ⟨g, cpg, ev, eb, _, gl4, _⟩ := owns_at S4.out.rows.row (by omega)
            obtain ⟨rfl, rfl⟩ : q = some ⟨g, 0, none⟩ ∧ cp = cpg := by cases ev; exact ⟨rfl, rfl⟩
            have LV : pl < V.length := by rw [S4.out.rows.len]; exact hpG
            obtain ⟨pv, cv, evp⟩ := (S4.out.rows.at_ pl hpG).formG
            obtain ⟨ks, hks⟩ : ∃ ks, (grpG l ys)[pl] = ks := ⟨_, rfl⟩
            rw [hks] at evp GB GE1
            have x0 : w4.cell? ⟨g, pl, none⟩ = some (.slice pv (ks).length cv) := by rw [← evp]; exact owns_cell S4.out.rows.row rfl (vAt_at LV)
            have A5 : Below w4.heap.size w4 (w4.alloc (.cells #[.int .i64 (y : Int)] 3)) := (Below.refl _ _).alloc (Nat.le_refl _) _
            have S5 := hide (S4.out.below A5)
            have K5 := hide (owns_below K4.out A5)
            have O5 : Hid (KidsO (w1.heap.size + 1) (w4.alloc (.cells #[.int .i64 (y : Int)] 3)) (.slice pv (ks).length cv) (ks)) := by
              have t := S5.out.rows.at_ pl hpG
              rw [evp, hks] at t
              exact t
            have RAW := hide ((Bk.new w4 [.int .i64 (y : Int)] 3).raw 1 1 rfl 1)
            have WZ : Hid (w1.heap.size + 1 ≤ (w4.alloc (.cells #[.int .i64 (y : Int)] 3)).heap.size) := S5.out.lt
            have H8 : Hid (∀ w8, (w4.alloc (.cells #[.int .i64 (y : Int)] 3)).grownBy w8 (Value.slice pv (ks).length cv).ownBlock → w8.cell? ⟨g, pl, none⟩ = some (.slice pv (ks).length cv) ∧ w8.frozen? ⟨g, pl, none⟩ = false) := fun w8 gr => by
              have r8 := owns_kept S5.out.rows.row (Chg.of_grown gr) (fun k hk q => rows_far O5.out S5.out.rows.row k (opt_mem.1 q) hk)
              exact ⟨by rw [← evp]; exact owns_cell r8 rfl (vAt_at LV), owns_free r8 rfl _⟩
            have NP : Hid (∀ b, (Value.slice pv (ks).length cv).ownBlock = some b → ¬ gr = b) := fun b hb e => by
              subst e
              exact NQ.out pl gr hpG (by rw [evp]; exact hb) rfl
            have GR : Hid (gr < (w4.alloc (.cells #[.int .i64 (y : Int)] 3)).heap.size) := (World.ownsRow.lt K5.out gr rfl).2
            have i5 : (0 : Int) ≤ (pl : Int) := by omega
            have i6 : (pl : Int) < ((grpG l ys).length : Int) := by omega
            replace evp := hide evp
            replace hks := hide hks
            clear A5 S4 K4 ev eb gl4
            go_wp2_with (at_builtin; refine wpList_append_raw rfl _ _ _ rfl (w1.heap.size + 1) 3 iI _ 1 8 Tryz.underlying38 hI0 hI1 hI2 hI3 rfl (by omega) _ (ks).length (cellsI (ks)) rfl O5.out _ 1 _ rfl RAW.out (by simp [Value.oneCell']) (by unfold maxLen; omega) (by omega) WZ.out ?_; intro q8 k8 w8 own8 gr8 at8; have x8 := (H8.out w8 gr8).1; have f8 := (H8.out w8 gr8).2)
            have own9 : KidsO (w1.heap.size + 1) w8 (.slice q8 ((ks).length + 1) k8) (ks ++ [(y : Int)]) := by
              unfold KidsO
              rw [List.length_append, cellsI_app]
              exact own8
            have S9 := S5.out.put hpG (by rw [evp.out]; exact gr8) own9 (by rw [evp.out]; exact at8.imp id (fun t b hb => by rw [t] at hb; cases hb; exact Nat.le_refl _)) (g := g) rfl
            have K9 : KidsO wr.heap.size (w8.setCell ⟨g, pl, none⟩ (.slice q8 ((ks).length + 1) k8)) (.slice (some ⟨gr, 0, none⟩) R.length cr) R := by
              have k8 := owns_kept K5.out (Chg.of_grown gr8) (fun k hk q => by cases hk; exact NP.out gr (opt_mem.1 q) rfl)
              have r8 := owns_kept S5.out.rows.row (Chg.of_grown gr8) (fun k hk q => rows_far O5.out S5.out.rows.row k (opt_mem.1 q) hk)
              exact owns_kept k8 (Chg.setB _ _ _ _) (fun k hk q => rows_far k8 r8 k hk (by rw [List.mem_singleton] at q; rw [q]; rfl))
            have N9 : ∀ i b, i < (grpG l ys).length → (vAt (V.set pl (.slice q8 ((ks).length + 1) k8)) i).ownBlock = some b → ¬ (Value.slice (some ⟨gr, 0, none⟩) R.length cr).ownBlock = some b := fun i b hi hb e => by
              cases e
              rw [vAt_set LV] at hb
              split at hb
              · rcases at8 with t | t
                · rw [t] at hb; exact NP.out gr hb rfl
                · rw [t] at hb
                  have hb2 : (w4.alloc (.cells #[.int .i64 (y : Int)] 3)).heap.size = gr := Option.some.inj hb
                  have hb3 := GR.out
                  rw [hb2] at hb3
                  exact Nat.lt_irrefl _ hb3
              · exact NQ.out i gr hi hb rfl
            have EG : (grpG l (ys ++ [(y : Int)])).length = (grpG l ys).length := by rw [GE1.out, List.length_set]
            go_roundw
            case rel => exact ⟨j + 1, some ⟨g, 0, none⟩, cp, _, by omega, by go_num, by rw [TK.out, EG], by rw [TK.out, EG, GE1.out, KE.out, NL.out]; exact S9.more (Nat.le_succ _), K9, by rw [TK.out, EG]; exact N9⟩
            case measure => simp [intOf]; omega
          · obtain ⟨cz, LK⟩ := S4.out.no KOK.out hmem
            obtain ⟨w5, UP, S5, GU⟩ := S4.out.update KOK.out hmem (by omega) (by omega)
            unfold keyV at LK UP
            dsimp only at LK UP
            rw [← GL.out] at UP
            have KE : Hid (keysG l (ys ++ [(y : Int)]) = keysG l ys ++ [(k1, k2, k3, k4)]) := by show _ = _; rw [KS.out, stepK, if_neg (fun t => hmem (KN.out.1 t))]
            have GE1 := hide (GN.out hmem)
            have GB : (grpG l ys).length ≤ 200000 := by rw [GL.out]; exact KB
            have A6 : Below w5.heap.size w5 (w5.alloc (.cells #[.slice none 0 0] 38)) := (Below.refl _ _).alloc (Nat.le_refl _) _
            have K6 : Hid (KidsO wr.heap.size (w5.alloc (.cells #[.slice none 0 0] 38)) (.slice (some ⟨gr, 0, none⟩) R.length cr) R) := owns_below (owns_kept K4.out (Chg.of_grown GU) (fun k hk q => by
              have := (World.ownsRow.lt K4.out k hk).1
              rw [opt_mem] at q
              cases q
              omega)) A6
            have S6 := hide (S5.below A6)
            have RAW6 := hide ((Bk.new w5 [.slice none 0 0] 38).raw 1 1 rfl 1)
            have WZ6 : Hid (w1.heap.size + 1 ≤ (w5.alloc (.cells #[.slice none 0 0] 38)).heap.size) := S6.out.lt
            have O6 := hide S6.out.rows.row
            clear KS KN GN GO GL GE hmem KOK KC A6 S5 GU S4 K4 KB
            go_upto_region 16 with (at_builtin; refine wpList_append_raw rfl _ _ _ rfl (w1.heap.size + 1) 38 iS _ 1 24 Tryz.underlying47 hS0 hS1 hS2 hS3 rfl (by omega) _ (grpG l ys).length V rfl O6.out _ 1 _ rfl RAW6.out (by simp [Value.oneCell']) (by unfold maxLen; omega) (by omega) WZ6.out ?_; intro q7 k7 w7 own7 gr7 at7)
            have S7 := hide (S6.out.push gr7 own7)
            have K7 : Hid (KidsO wr.heap.size w7 (.slice (some ⟨gr, 0, none⟩) R.length cr) R) := owns_kept K6.out (Chg.of_grown gr7) (fun k hk q => rows_far K6.out O6.out k hk (opt_mem.1 q))
            have hpG : (grpG l ys).length < (grpG l ys ++ [([] : List Int)]).length := by rw [List.length_append]; exact Nat.lt_succ_self _
            have e1 : (grpG l ys ++ [([] : List Int)]).length = (grpG l ys).length + 1 := by rw [List.length_append]; rfl
            replace NQ : Hid (∀ i b, i < (grpG l ys ++ [([] : List Int)]).length → (vAt (V ++ [.slice none 0 0]) i).ownBlock = some b → ¬ (Value.slice (some ⟨gr, 0, none⟩) R.length cr).ownBlock = some b) := fun i b hi hb => by
              by_cases q : i < (grpG l ys).length
              · rw [vAt_app (by rw [S6.out.rows.len]; exact q)] at hb
                exact NQ.out i b q hb
              · rw [vAt_new (by rw [S6.out.rows.len]; omega)] at hb
                cases hb
            replace e1 := hide e1
            have GB0 : ([] : List Int).length ≤ 200000 := Nat.zero_le _
            clear own7 gr7 at7 S6 K6 RAW6 WZ6 O6 LK UP
            obtain ⟨g, cpg, ev, eb, _, gl4, _⟩ := owns_at S7.out.rows.row (by rw [e1.out]; omega)
            obtain ⟨rfl, rfl⟩ : q7 = some ⟨g, 0, none⟩ ∧ k7 = cpg := by rw [e1.out] at ev; cases ev; exact ⟨rfl, rfl⟩
            have LV : (grpG l ys).length < (V ++ [Value.slice none 0 0]).length := by rw [S7.out.rows.len]; exact hpG
            obtain ⟨pv, cv, evp⟩ := (S7.out.rows.at_ (grpG l ys).length hpG).formG
            rw [List.getElem_append_right (Nat.le_refl _)] at evp
            simp only [Nat.sub_self, List.getElem_cons_zero] at evp
            have x0 : w7.cell? ⟨g, (grpG l ys).length, none⟩ = some (.slice pv (([] : List Int)).length cv) := by rw [← evp]; exact owns_cell S7.out.rows.row rfl (vAt_at LV)
            have A5 : Below w7.heap.size w7 (w7.alloc (.cells #[.int .i64 (y : Int)] 3)) := (Below.refl _ _).alloc (Nat.le_refl _) _
            have S5 := hide (S7.out.below A5)
            have K5 := hide (owns_below K7.out A5)
            have O5 : Hid (KidsO (w1.heap.size + 1) (w7.alloc (.cells #[.int .i64 (y : Int)] 3)) (.slice pv (([] : List Int)).length cv) (([] : List Int))) := by
              have t := S5.out.rows.at_ (grpG l ys).length hpG
              rw [List.getElem_append_right (Nat.le_refl _)] at t
              simp only [Nat.sub_self, List.getElem_cons_zero] at t
              rw [evp] at t
              exact t
            have RAW := hide ((Bk.new w7 [.int .i64 (y : Int)] 3).raw 1 1 rfl 1)
            have WZ : Hid (w1.heap.size + 1 ≤ (w7.alloc (.cells #[.int .i64 (y : Int)] 3)).heap.size) := S5.out.lt
            have H8 : Hid (∀ w8, (w7.alloc (.cells #[.int .i64 (y : Int)] 3)).grownBy w8 (Value.slice pv (([] : List Int)).length cv).ownBlock → w8.cell? ⟨g, (grpG l ys).length, none⟩ = some (.slice pv (([] : List Int)).length cv) ∧ w8.frozen? ⟨g, (grpG l ys).length, none⟩ = false) := fun w8 gr => by
              have r8 := owns_kept S5.out.rows.row (Chg.of_grown gr) (fun k hk q => rows_far O5.out S5.out.rows.row k (opt_mem.1 q) hk)
              exact ⟨by rw [← evp]; exact owns_cell r8 rfl (vAt_at LV), owns_free r8 rfl _⟩
            have NP : Hid (∀ b, (Value.slice pv (([] : List Int)).length cv).ownBlock = some b → ¬ gr = b) := fun b hb e => by
              subst e
              exact NQ.out (grpG l ys).length gr hpG (by rw [evp]; exact hb) rfl
            have GR : Hid (gr < (w7.alloc (.cells #[.int .i64 (y : Int)] 3)).heap.size) := (World.ownsRow.lt K5.out gr rfl).2
            have i5 : (0 : Int) ≤ ((grpG l ys).length : Int) := by omega
            have i6 : ((grpG l ys).length : Int) < ((grpG l ys).length + 1 : Int) := by omega
            replace evp := hide evp
            clear A5 S7 K7 ev eb gl4
            go_wp2_with (at_builtin; refine wpList_append_raw rfl _ _ _ rfl (w1.heap.size + 1) 3 iI _ 1 8 Tryz.underlying38 hI0 hI1 hI2 hI3 rfl (by omega) _ (([] : List Int)).length (cellsI (([] : List Int))) rfl O5.out _ 1 _ rfl RAW.out (by simp [Value.oneCell']) (by unfold maxLen; omega) (by omega) WZ.out ?_; intro q8 k8 w8 own8 gr8 at8; have x8 := (H8.out w8 gr8).1; have f8 := (H8.out w8 gr8).2)
            have own9 : KidsO (w1.heap.size + 1) w8 (.slice q8 ((([] : List Int)).length + 1) k8) (([] : List Int) ++ [(y : Int)]) := by
              unfold KidsO
              rw [List.length_append, cellsI_app]
              exact own8
            have S9 := S5.out.put hpG (by rw [evp.out]; exact gr8) own9 (by rw [evp.out]; exact at8.imp id (fun t b hb => by rw [t] at hb; cases hb; exact Nat.le_refl _)) (g := g) rfl
            have K9 : KidsO wr.heap.size (w8.setCell ⟨g, (grpG l ys).length, none⟩ (.slice q8 ((([] : List Int)).length + 1) k8)) (.slice (some ⟨gr, 0, none⟩) R.length cr) R := by
              have k8 := owns_kept K5.out (Chg.of_grown gr8) (fun k hk q => by cases hk; exact NP.out gr (opt_mem.1 q) rfl)
              have r8 := owns_kept S5.out.rows.row (Chg.of_grown gr8) (fun k hk q => rows_far O5.out S5.out.rows.row k (opt_mem.1 q) hk)
              exact owns_kept k8 (Chg.setB _ _ _ _) (fun k hk q => rows_far k8 r8 k hk (by rw [List.mem_singleton] at q; rw [q]; rfl))
            have N9 : ∀ i b, i < (grpG l ys ++ [([] : List Int)]).length → (vAt ((V ++ [Value.slice none 0 0]).set (grpG l ys).length (.slice q8 ((([] : List Int)).length + 1) k8)) i).ownBlock = some b → ¬ (Value.slice (some ⟨gr, 0, none⟩) R.length cr).ownBlock = some b := fun i b hi hb e => by
              cases e
              rw [vAt_set LV] at hb
              split at hb
              · rcases at8 with t | t
                · rw [t] at hb; exact NP.out gr hb rfl
                · rw [t] at hb
                  have hb2 : (w7.alloc (.cells #[.int .i64 (y : Int)] 3)).heap.size = gr := Option.some.inj hb
                  have hb3 := GR.out
                  rw [hb2] at hb3
                  exact Nat.lt_irrefl _ hb3
              · exact NQ.out i gr hi hb rfl
            have EG : (grpG l (ys ++ [(y : Int)])).length = (grpG l ys).length + 1 := by rw [GE1.out, List.length_append]; rfl
            rw [List.nil_append, set_last] at S9
            go_roundw
            case rel => exact ⟨j + 1, some ⟨g, 0, none⟩, k7, _, by omega, by go_num, by rw [TK.out, EG], by rw [TK.out, EG, GE1.out, KE.out, NL.out]; exact S9, K9, by rw [TK.out, EG, ← e1.out]; exact N9⟩
            case measure => simp [intOf]; omega
        · obtain rfl : j = R.length := by omega
          rw [ES.out] at SQ
          clear KQ NQ HK KO RM1 RL1 IL1
          go_wp2_with fail
          go_roundw
          case rel => exact ⟨t + 1, q, cp, V, by omega, by go_num, by rw [ES.out], SQ⟩
          case measure => simp [intOf]; omega
    · obtain rfl : t = l.length := by omega
      clear HRd HK RM KO IL RL
      go_wp2_with fail
      go_ret
      exact ⟨_, _, V, rfl, ⟨SW.out.rows.len, owns_mono SW.out.rows.row (by have := SW.out.low; omega), fun i hi => owns_mono (SW.out.rows.at_ i hi) (by have := SW.out.low; omega), SW.out.rows.far⟩, SW.out.bel⟩

end Go.Proofs.YtldbaoolddlacaaGreatDoor
