/- slices.Repeat of one number. The program's formOf, owned of layer 16 and their closures. The program's Form, Elements, Default, Control, Disabled of layer 16. -/
import Derived.Test.YtldbaoolddlacaaDoorJgd25
import Derived.Test.YtldbaoolddlacaaDoorJgd26
import Derived.Shelf.Bits.Mul64
import Derived.Laws.CopyOwn
import Derived.Deep.OwnRows

namespace Go.Proofs.YtldbaoolddlacaaDoor
open Go.RowKit Go.Shelf
set_option maxRecDepth 100000
def mulren : Go.Shelf.Ren := ⟨fun | 212 => 71 | 263 => 83 | 264 => 84 | n => n, fun | 5 => 5 | 46 => 99 | 51 => 106 | 53 => 109 | 146 => 107 | 148 => 110 | n => n, fun  | n => n⟩
theorem lays212 : Go.Proofs.Lays.n212 Tryd.prog mulren := {
  mixed := by kernel_rfl
  f212 := Tryd.func71.trans (congrArg some (by kernel_rfl))
  f263 := Tryd.func83.trans (congrArg some (by kernel_rfl))
  f264 := Tryd.func84.trans (congrArg some (by kernel_rfl))
  t46 := Tryd.underlying99
  a46 := Tryd.isAgg99
  z46 := Tryd.sizeOf99
  v46 := Tryd.zeroValue99
  t51 := Tryd.underlying106
  a51 := Tryd.isAgg106
  z51 := Tryd.sizeOf106
  v51 := Tryd.zeroValue106
  t53 := Tryd.underlying109
  a53 := Tryd.isAgg109
  z53 := Tryd.sizeOf109
  v53 := Tryd.zeroValue109
  t146 := Tryd.underlying107
  a146 := Tryd.isAgg107
  z146 := Tryd.sizeOf107
  v146 := Tryd.zeroValue107
  t148 := Tryd.underlying110
  a148 := Tryd.isAgg110
  z148 := Tryd.sizeOf110
  v148 := Tryd.zeroValue110 }
theorem mulG_any (n : Nat) (w : World) (hn : n ≤ 400) :
    Calls Tryd.prog 71 #[.int .u64 1, .int .u64 (n : Int)] w fun e w' => e = .returned (.tuple #[.int .u64 0, .int .u64 (n : Int)]) ∧ w' = w := by
  have h := Any.bits_Mul lays212 1 n (by omega) (by omega) w
  rw [show (1 * n / 18446744073709551616 : Nat) = 0 from by omega, show (1 * n % 18446744073709551616 : Nat) = n from by omega] at h
  exact h
theorem size_int : (Tryd.prog.info? 3).map (·.size) = some 1 := by kernel_rfl
theorem made_rep (n : Nat) : (madeCells #[Value.int .i64 0] n).toList = List.replicate n (Value.int .i64 0) := by
  apply List.ext_getElem
  · simp [madeCells]
  · intro i h1 h2
    simp [madeCells, Nat.mod_one]
theorem splice_rep (x y : Value) (n m k : Nat) (h : m + k ≤ n) : Go.splice (List.replicate m x ++ List.replicate (n - m) y) m (List.replicate k x) = List.replicate (m + k) x ++ List.replicate (n - (m + k)) y := by
  unfold Go.splice
  rw [List.take_append_of_le_length (by simp), List.take_of_length_le (by simp), List.length_replicate, List.drop_append, List.drop_eq_nil_of_le (by simp), List.nil_append, List.length_replicate, List.drop_replicate, ← List.append_assoc, List.replicate_append_replicate]
  congr 2
  omega
theorem copyI_run (w : World) (g off dLen dCap : Nat) (a : Addr) (sLen sCap : Nat) (cur cs : List Value) (hg : w.heap[g]? = some (.cells cur.toArray 3 (0, 0))) (hn : cs.length = Nat.min sLen dLen)
    (hsrc : ∀ j v, cs[j]? = some v → w.cell? (a.add j) = some v) (hfit : off + cs.length ≤ cur.length) (h1 : ∀ v ∈ cs, v.oneCell' = true) (B : Nat) (w0 : World) (hb : Below B w0 w) (hBg : B ≤ g) :
    ∃ w', (Builtin.copy_ #[25, 25] 3 #[.slice (some ⟨g, off, none⟩) dLen dCap, .slice (some a) sLen sCap]).run Tryd.prog w = .ok (goInt cs.length) w' ∧ w'.heap[g]? = some (.cells (splice cur off cs).toArray 3 (0, 0)) ∧ Below B w0 w' := by
  refine ⟨_, run_copy_row (P := Tryd.prog) w 25 25 3 3 g off dLen dCap a sLen sCap cur.toArray 3 cs Tryd.underlying25 size_int hg hn hsrc (by simpa using hfit) h1, ?_, below_setRow hb hBg _⟩
  simpa [splice] using setRow_heap w g _ _ _ _ hg
set_option maxHeartbeats 8000000 in
theorem repeat_any (z : Int) (n vb c : Nat) (w : World) (hb : NB w vb [.int .i64 z] 3) (h1 : 1 ≤ n) (hl : n ≤ 400) :
    Calls Tryd.prog 51 #[.slice (some ⟨vb, 0, none⟩) 1 c, .int .i64 (n : Int)] w fun e w' => ∃ v', e = .returned v' ∧ KidsO w.heap.size w' v' (List.replicate n z) ∧ Below w.heap.size w w' := by
  have HM := hide (mulG_any n w hl)
  have hmk := run_make_row' (P := Tryd.prog) 25 3 (.int .i64 0) 8 Tryd.underlying25 infoI rfl .i64 .i64 n (by omega) (by omega)
  have vc := hb.cell 0 rfl
  have vl := hb.lt
  have z0 : (0 : Int) ≤ (n : Int) := by omega
  have z1 : (n : Int) ≤ 400 := by omega
  have z2 : (1 : Int) ≤ (n : Int) := by omega
  have GL : Hid ((w.alloc (.cells (madeCells #[Value.int .i64 0] n) 3)).heap[w.heap.size]? = some (.cells (List.replicate n (Value.int .i64 0)).toArray 3 (0, 0))) := by
    show _ = _
    rw [heap_alloc_new, ← made_rep, Array.toArray_toList]
  have BL : Hid (Below w.heap.size w (w.alloc (.cells (madeCells #[Value.int .i64 0] n) 3))) := (Below.refl _ w).alloc (Nat.le_refl _) _
  have VC := hide (show (w.alloc (.cells (madeCells #[Value.int .i64 0] n) 3)).cell? ⟨vb, 0, none⟩ = some (.int .i64 z) from cell_below vc BL.out)
  obtain ⟨w3, CP, G3, B3⟩ := copyI_run (w.alloc (.cells (madeCells #[Value.int .i64 0] n) 3)) w.heap.size 0 n n ⟨vb, 0, none⟩ 1 c (List.replicate n (Value.int .i64 0)) [.int .i64 z] GL.out (Nat.min_eq_left h1).symm (fun j v hj => by
    match j, hj with
    | 0, hj => cases hj; rw [Addr.add_lit]; exact VC.out) (by simp; omega) (by simp [Value.oneCell']) w.heap.size w BL.out (Nat.le_refl _)
  rw [show splice (List.replicate n (Value.int .i64 0)) 0 [.int .i64 z] = List.replicate 1 (Value.int .i64 z) ++ List.replicate (n - 1) (Value.int .i64 0) from by
    have := splice_rep (Value.int .i64 z) (Value.int .i64 0) n 0 1 (by omega)
    simpa using this] at G3
  replace G3 := hide G3
  replace B3 := hide B3
  simp only [List.length_cons, List.length_nil, Nat.zero_add] at CP
  go_enter Tryd.func51, Tryd.ntmps51
  go_wp2_with fail
  refine HM.out.mono ?_
  rintro e w0 ⟨rfl, hw⟩
  obtain rfl : w = w0 := hw.symm
  go_wp2_with fail
  clear HM hmk vc GL BL VC hb CP
  go_loopw [8] (fun nv wr => ∃ m : Nat, 1 ≤ m ∧ m ≤ n ∧ nv = .int .i64 (m : Int) ∧ Hid (wr.heap[w.heap.size]? = some (.cells (List.replicate m (Value.int .i64 z) ++ List.replicate (n - m) (Value.int .i64 0)).toArray 3 (0, 0))) ∧ Hid (Below w.heap.size w wr)) (fun nv _ => n - (intOf nv).toNat)
  case atStart => exact ⟨1, Nat.le_refl _, h1, rfl, G3, B3⟩
  case round =>
    rename World => wr
    obtain ⟨m, hm1, hm2, rfl, GW, BW⟩ := hrel
    have m0 : (0 : Int) ≤ (m : Int) := by omega
    have m1 : (m : Int) ≤ (n : Int) := by omega
    by_cases h : m < n
    · have m2 : (m : Int) < (n : Int) := by omega
      have CL : Hid (∀ j, j < m → wr.cell? ⟨w.heap.size, j, none⟩ = some (.int .i64 z)) := fun j hj => by
        have := GW.out
        unfold World.cell?
        simp only [this]
        simp
        rw [List.getElem?_append_left (by rw [List.length_replicate]; exact hj), List.getElem?_replicate, if_pos hj]
      have BD : Below w.heap.size w wr.drew := ⟨BW.out.os, BW.out.tape, BW.out.output, BW.out.size, BW.out.block⟩
      obtain ⟨w4, C4, G4, B4⟩ := copyI_run wr.drew w.heap.size m (n - m) (n - m) ⟨w.heap.size, 0, none⟩ m n (List.replicate m (Value.int .i64 z) ++ List.replicate (n - m) (Value.int .i64 0)) (List.replicate (Nat.min m (n - m)) (.int .i64 z)) GW.out (by simp) (fun j v hj => by
        have hj2 := (List.getElem?_eq_some_iff.1 hj).1
        rw [List.length_replicate] at hj2
        rw [List.getElem?_replicate, if_pos hj2] at hj
        cases hj
        rw [Addr.add_lit, Nat.zero_add]
        exact CL.out _ (Nat.lt_of_lt_of_le hj2 (Nat.min_le_left _ _))) (by
          have := Nat.min_le_right m (n - m)
          have e : Nat.min m (n - m) ≤ n - m := this
          simp only [List.length_append, List.length_replicate]; omega) (by intro v hv; rw [List.eq_of_mem_replicate hv]; rfl) w.heap.size w BD (Nat.le_refl _)
      obtain ⟨k, hk, k1, k2⟩ : ∃ k, Nat.min m (n - m) = k ∧ 1 ≤ k ∧ m + k ≤ n := ⟨_, rfl, Nat.le_min.2 ⟨hm1, by omega⟩, by have e : Nat.min m (n - m) ≤ n - m := Nat.min_le_right m (n - m); omega⟩
      rw [hk, List.length_replicate] at C4
      rw [hk, splice_rep _ _ _ _ _ k2] at G4
      replace G4 := hide G4
      replace B4 := hide B4
      have k3 : (m : Int) + (k : Int) ≤ 400 := by omega
      have nm : ¬ n = m := by omega
      have kw : IntKind.i64.wrap ((m : Int) + (k : Int)) = (m : Int) + (k : Int) := by rw [IntKind.wrap_i64]; omega
      clear hk GW CL BD BW
      go_wp2_with fail
      refine wp_region_held_drew (S := fun _ : World => True) (by kernel_rfl) ?_ (fun hHeld => ?_)
      · exact trivial
      refine wpAnyH_take (i := 0) (oi := { dst := some 38, op := Op.move (Operand.tmp 8), type := 3, pos := "slices.go:528", after := #[], guard := none }) (v := ?_) rfl (by kernel_rfl) (by kernel_rfl) (by kernel_rfl) (fun _ _ _ h => h) (Or.inl ⟨by rfl, ?_⟩) (by assumption) ?_
      rotate_left
      · (intro w hSw; (try dsimp only at hSw); first | (go_simp; done) | (go_simp; with_reducible rfl))
      simp only [Act.put, List.setIfInBounds_toArray, List.set_cons_zero, List.set_cons_succ]
      refine wpAnyH_take (i := 1) (oi := { dst := some 39, op := Op.move (Operand.tmp 7), type := 25, pos := "slices.go:528", after := #[], guard := none }) (v := ?_) rfl (by kernel_rfl) (by kernel_rfl) (by kernel_rfl) (fun _ _ _ h => h) (Or.inl ⟨by rfl, ?_⟩) (by assumption) ?_
      rotate_left
      · (intro w hSw; (try dsimp only at hSw); first | (go_simp; done) | (go_simp; with_reducible rfl))
      simp only [Act.put, List.setIfInBounds_toArray, List.set_cons_zero, List.set_cons_succ]
      refine wpAnyH_take (i := 2) (oi := { dst := some 40, op := Op.move (Operand.tmp 8), type := 3, pos := "slices.go:528", after := #[], guard := none }) (v := ?_) rfl (by kernel_rfl) (by kernel_rfl) (by kernel_rfl) (fun _ _ _ h => h) (Or.inl ⟨by rfl, ?_⟩) (by assumption) ?_
      rotate_left
      · (intro w hSw; (try dsimp only at hSw); first | (go_simp; done) | (go_simp; with_reducible rfl))
      simp only [Act.put, List.setIfInBounds_toArray, List.set_cons_zero, List.set_cons_succ]
      refine wpAnyH_take (i := 3) (oi := { dst := some 41, op := Op.slice 25 (Operand.tmp 39) (some (Operand.tmp 40)) none none, type := 25, pos := "slices.go:528", after := #[{ on := 1, ground := Ground.data }, { on := 2, ground := Ground.data }], guard := none }) (v := ?_) rfl (by kernel_rfl) (by kernel_rfl) (by kernel_rfl) (fun _ _ _ h => h) (Or.inl ⟨by rfl, ?_⟩) (by assumption) ?_
      rotate_left
      · (intro w hSw; (try dsimp only at hSw); first | (go_simp; done) | (go_simp; with_reducible rfl))
      simp only [Act.put, List.setIfInBounds_toArray, List.set_cons_zero, List.set_cons_succ]
      refine wpAnyH_take (i := 4) (oi := { dst := some 42, op := Op.move (Operand.tmp 7), type := 25, pos := "slices.go:528", after := #[], guard := none }) (v := ?_) rfl (by kernel_rfl) (by kernel_rfl) (by kernel_rfl) (fun _ _ _ h => h) (Or.inl ⟨by rfl, ?_⟩) (by assumption) ?_
      rotate_left
      · (intro w hSw; (try dsimp only at hSw); first | (go_simp; done) | (go_simp; with_reducible rfl))
      simp only [Act.put, List.setIfInBounds_toArray, List.set_cons_zero, List.set_cons_succ]
      refine wpAnyH_take (i := 5) (oi := { dst := some 43, op := Op.move (Operand.tmp 8), type := 3, pos := "slices.go:528", after := #[], guard := none }) (v := ?_) rfl (by kernel_rfl) (by kernel_rfl) (by kernel_rfl) (fun _ _ _ h => h) (Or.inl ⟨by rfl, ?_⟩) (by assumption) ?_
      rotate_left
      · (intro w hSw; (try dsimp only at hSw); first | (go_simp; done) | (go_simp; with_reducible rfl))
      simp only [Act.put, List.setIfInBounds_toArray, List.set_cons_zero, List.set_cons_succ]
      refine wpAnyH_take (i := 6) (oi := { dst := some 44, op := Op.slice 25 (Operand.tmp 42) none (some (Operand.tmp 43)) none, type := 25, pos := "slices.go:528", after := #[{ on := 4, ground := Ground.data }, { on := 5, ground := Ground.data }], guard := none }) (v := ?_) rfl (by kernel_rfl) (by kernel_rfl) (by kernel_rfl) (fun _ _ _ h => h) (Or.inl ⟨by rfl, ?_⟩) (by assumption) ?_
      rotate_left
      · (intro w hSw; (try dsimp only at hSw); first | (go_simp; done) | (go_simp; with_reducible rfl))
      simp only [Act.put, List.setIfInBounds_toArray, List.set_cons_zero, List.set_cons_succ]
      refine wpAnyH_ready (rs := [7]) (by kernel_rfl) (by simp) ?_
      refine AllReadyH.cons (i := 7) (o := { dst := some 45, op := Op.call { callee := Callee.builtin Builtin.copy, args := #[Operand.tmp 41, Operand.tmp 44], argTypes := #[25, 25] }, type := 3, pos := "slices.go:528", after := #[{ on := 3, ground := Ground.data }, { on := 6, ground := Ground.data }], guard := none }) rfl (fun K hK => ?_) AllReadyH.nil
      go_simp
      refine hK.out _ _ ?_ (fun hHeld => ?_)
      · exact trivial
      clear hK K
      refine wpAnyH_take (i := 8) (oi := { dst := some 46, op := Op.binOp BinOp.add 3 (Operand.tmp 38) (Operand.tmp 45) 3, type := 3, pos := "slices.go:528", after := #[{ on := 0, ground := Ground.data }, { on := 7, ground := Ground.data }], guard := none }) (v := ?_) rfl (by kernel_rfl) (by kernel_rfl) (by kernel_rfl) (fun _ _ _ h => h) (Or.inl ⟨by rfl, ?_⟩) (by assumption) ?_
      rotate_left
      · (intro w hSw; (try dsimp only at hSw); first | (go_simp; done) | (go_simp; with_reducible rfl))
      simp only [Act.put, List.setIfInBounds_toArray, List.set_cons_zero, List.set_cons_succ]
      refine wpAnyH_take (i := 9) (oi := { dst := some 8, op := Op.assign (Operand.tmp 46), type := 3, pos := "slices.go:528", after := #[{ on := 8, ground := Ground.data }, { on := 7, ground := Ground.chain }, { on := 0, ground := Ground.phase }, { on := 1, ground := Ground.phase }, { on := 2, ground := Ground.phase }, { on := 3, ground := Ground.phase }, { on := 4, ground := Ground.phase }, { on := 5, ground := Ground.phase }, { on := 6, ground := Ground.phase }, { on := 7, ground := Ground.phase }, { on := 8, ground := Ground.phase }], guard := none }) (v := ?_) rfl (by kernel_rfl) (by kernel_rfl) (by kernel_rfl) (fun _ _ _ h => h) (Or.inl ⟨by rfl, ?_⟩) (by assumption) ?_
      rotate_left
      · (intro w hSw; (try dsimp only at hSw); first | (go_simp; done) | (go_simp; with_reducible rfl))
      simp only [Act.put, List.setIfInBounds_toArray, List.set_cons_zero, List.set_cons_succ]
      refine wpAnyH_done (by kernel_rfl) ?_ _
      go_wp2_with fail
      go_roundw
      case rel => exact ⟨m + k, by omega, by omega, by go_num, G4, B4⟩
      case measure => simp [intOf]; omega
    · obtain rfl : m = n := by omega
      have KO : Hid (KidsO w.heap.size wr (.slice (some ⟨w.heap.size, 0, none⟩) m m) (List.replicate m z)) := by
        refine ⟨by simp [cellsI], .inr ⟨w.heap.size, m, _, by simp, Nat.le_refl _, GW.out, by simp, by unfold maxLen; omega, by simp, by simp [cellsI]⟩⟩
      clear GW
      go_wp2_with fail
      go_ret
      exact ⟨_, rfl, KO.out, BW.out⟩
end Go.Proofs.YtldbaoolddlacaaDoor

namespace Go.Proofs.YtldbaoolddlacaaDoor
open Go.RowKit
set_option maxRecDepth 100000
theorem entF1W : ∀ args w, (callFunc 96 args).run Tryd.prog w = .ok (.enter 96 args) w := Go.Proofs.enters_of Tryd.func96 (by kernel_rfl) rfl
set_option maxHeartbeats 8000000 in
theorem owFormOf1_any (a b : Int) (w : World) :
    Calls Tryd.prog 96 #[.int .i64 a, .int .i64 b] w fun e w' => e = .returned (.bool true) ∧ Below w.heap.size w w' := by
  go_enter Tryd.func96, Tryd.ntmps96
  go_wp2_with fail
  go_ret
  exact ⟨rfl, Below.refl _ _⟩
theorem ints_oneW (w : World) (z : Int) : IntsV (w.alloc (.cells #[.int .i64 z] 3)) (.slice (some ⟨w.heap.size, 0, none⟩) 1 1) [z] := ⟨_, 1, rfl, .inr ⟨w.heap.size, 0, rfl, fun j hj => by
  obtain rfl : j = 0 := by have : j < 1 := hj; omega
  exact (Bk.new w [.int .i64 z] 3).cell 0 rfl⟩⟩
set_option maxHeartbeats 8000000 in
theorem owFormOf_any (v : Value) (l : List Nd) (m : Nat) (g : Nat) (lb : Array Value) (eg : ∀ args w, (callFunc g args).run Tryd.prog w = .ok (.enter g args) w) (f : ByteArray → Int) (w : World) (hf : ∀ s W, Below w.heap.size w W → Calls Tryd.prog g (#[.string s] ++ lb) W fun e w' => e = .returned (.int .i64 (f s)) ∧ Below W.heap.size W w') (hv : NodesV w v l) (hz : DocSz l) (hT : KTabs w) (hR : Right l) (hm : m < l.length) :
    Calls Tryd.prog 90 #[v, .int .i64 (m : Int), .func (.func g) #[] lb] w fun e w' => e = .returned (.int .i64 (frmP l f (m : Int))) ∧ Below w.heap.size w w' := by
  have nz := hz.nds _ (List.getElem_mem hm)
  have HA := hide (fun W (hb : Below w.heap.size w W) => owAbove_any v l m _ is30 suisForm 96 #[] entF1W (fun _ _ => true) W (fun a b _ _ W _ => owFormOf1_any a b W) (hv.below hb) hz (hT.below hb) hR hm)
  have HI := hide (fun W (hb : Below w.heap.size w W) => owIsRooted_any v l m W (hv.below hb) hR hm)
  have HF := hide (fun s W (hb : Below w.heap.size w W) => hf s W hb)
  have HO := hide (fun vk z W (hb : Below w.heap.size w W) (hk : IntsV W vk [z]) => owFirstOf_any v vk l [z] _ is30 suisForm W (hv.below hb) hk hz (hT.below hb) (by simp))
  have E : Hid (frmP l f (m : Int) = if hasA l[m] oForm = true ∧ topP l (m : Int) = 0 then firB l is30 [f (fndS l[m].attrs oForm)] else abvP l is30 (fun _ _ => true) (m : Int)) := by
    show _ = _
    unfold frmP
    rw [Int.toNat_natCast, nd_at hm]
  generalize frmP l f (m : Int) = RES at *
  generalize abvP l is30 (fun _ _ => true) (m : Int) = AB at *
  obtain ⟨p, c, rfl⟩ := nds_formW hv
  obtain ⟨b, o, va, pk, nk, ck, rfl, N⟩ := node_ofW hv hm
  have HN := hide (owFind_any l[m] va pk nk ck oForm w N.at_ nz.attrs)
  obtain ⟨pa, ca, rfl, hxx⟩ := N.at_
  clear hxx
  have c0 := N.name
  have c1 := N.text
  have c2 := N.attrs
  have c3 := N.parent
  have c4 := N.kids
  have m0 : (0 : Int) ≤ (m : Int) := by omega
  have m1 : (m : Int) < (l.length : Int) := by omega
  clear N hv hz hT nz hR hf
  generalize fndS l[m].attrs oForm = nm at *
  generalize hasA l[m] oForm = ha at *
  rw [show oForm = ⟨#[102, 111, 114, 109]⟩ from rfl] at HN
  generalize l[m].name = n0 at *
  generalize l[m].text = n1 at *
  generalize l[m].parent = n3 at *
  generalize l[m].attrs.length = n5 at *
  generalize topP l (m : Int) = T at *
  cases ha with
  | false =>
    rw [if_neg (by rintro ⟨t, _⟩; cases t)] at E
    clear HI HF HO
    go_enter Tryd.func90, Tryd.ntmps90
    go_wp2_with fail
    refine HN.out.mono ?_
    rintro e w1 ⟨rfl, b1⟩
    go_wp2_with fail
    refine (HA.out _ b1).mono ?_
    rintro e w2 ⟨rfl, b2⟩
    go_wp2_with fail
    go_ret
    exact ⟨ret_int E.out.symm, chain b1 b2⟩
  | true =>
    by_cases hT0 : T = 0
    · rw [if_pos ⟨rfl, hT0⟩] at E
      have q0 : (T == 0) = true := by rw [hT0]; rfl
      rw [q0] at HI
      clear HA q0 hT0
      go_enter Tryd.func90, Tryd.ntmps90
      go_wp2_with fail
      refine HN.out.mono ?_
      rintro e w1 ⟨rfl, b1⟩
      go_wp2_with fail
      refine (HI.out _ b1).mono ?_
      rintro e w2 ⟨rfl, b2⟩
      have B2 := hide (chain b1 b2)
      go_wp2_with fail
      refine (HF.out _ _ B2.out).mono ?_
      rintro e w3 ⟨rfl, b3⟩
      have B3 := hide (chain (chain B2.out b3) ((Below.refl _ w3).alloc (Nat.le_refl _) (.cells #[.int .i64 (f nm)] 3)))
      have IV := hide (ints_oneW w3 (f nm))
      generalize f nm = z at *
      go_wp2_with fail
      refine (HO.out _ _ _ B3.out IV.out).mono ?_
      rintro e w4 ⟨rfl, b4⟩
      go_wp2_with fail
      go_ret
      exact ⟨ret_int E.out.symm, chain B3.out b4⟩
    · rw [if_neg (fun t => hT0 t.2)] at E
      have q0 : (T == 0) = false := by rw [beq_eq_false_iff_ne]; exact hT0
      rw [q0] at HI
      clear HO HF q0 hT0
      go_enter Tryd.func90, Tryd.ntmps90
      go_wp2_with fail
      refine HN.out.mono ?_
      rintro e w1 ⟨rfl, b1⟩
      go_wp2_with fail
      refine (HI.out _ b1).mono ?_
      rintro e w2 ⟨rfl, b2⟩
      have B2 := hide (chain b1 b2)
      go_wp2_with fail
      refine (HA.out _ B2.out).mono ?_
      rintro e w3 ⟨rfl, b3⟩
      go_wp2_with fail
      go_ret
      exact ⟨ret_int E.out.symm, chain B2.out b3⟩
theorem entO1W : ∀ args w, (callFunc 87 args).run Tryd.prog w = .ok (.enter 87 args) w := Go.Proofs.enters_of Tryd.func87 (by kernel_rfl) rfl
theorem entO2W : ∀ args w, (callFunc 89 args).run Tryd.prog w = .ok (.enter 89 args) w := Go.Proofs.enters_of Tryd.func89 (by kernel_rfl) rfl
set_option maxHeartbeats 8000000 in
theorem owOwned1_any (s own : ByteArray) (pl : Int) (Bo Bp : Nat) (w : World) (ho : w.cell? ⟨Bo, 0, none⟩ = some (.string own)) (hp : w.cell? ⟨Bp, 0, none⟩ = some (.int .i64 pl)) :
    Calls Tryd.prog 87 #[.string s, .pointer (some ⟨Bo, 0, none⟩), .pointer (some ⟨Bp, 0, none⟩)] w fun e w' => e = .returned (.int .i64 (if s = own then pl else -1)) ∧ Below w.heap.size w w' := by
  by_cases h : s = own
  · rw [if_pos h]
    have q1 : (s.toList == own.toList) = true := by rw [txt_beq, decide_eq_true h]
    have q2 : (s.toList != own.toList) = false := by rw [bne, q1]; rfl
    subst h
    go_enter Tryd.func87, Tryd.ntmps87
    go_wp2_with fail
    go_ret
    exact ⟨rfl, Below.refl _ _⟩
  · rw [if_neg h]
    have q1 : (s.toList == own.toList) = false := by rw [txt_beq, decide_eq_false h]
    have q2 : (s.toList != own.toList) = true := by rw [bne, q1]; rfl
    go_enter Tryd.func87, Tryd.ntmps87
    go_wp2_with fail
    go_ret
    exact ⟨rfl, Below.refl _ _⟩
set_option maxHeartbeats 8000000 in
theorem owOwned2_any (v : Value) (l : List Nd) (fm : Nat) (g : Nat) (q : Int → Bool) (hs : SuchF g q) (Bl Bs Bn Bf Bo Bp : Nat) (w : World) (hv : NodesV w v l) (hz : DocSz l) (hT : KTabs w) (hR : Right l)
    (x1 : w.cell? ⟨Bl, 0, none⟩ = some v) (x2 : w.cell? ⟨Bs, 0, none⟩ = some (.func (.func g) #[] #[])) (x3 : w.cell? ⟨Bn, 0, none⟩ = some (.func (.func 87) #[] #[.pointer (some ⟨Bo, 0, none⟩), .pointer (some ⟨Bp, 0, none⟩)])) (x4 : w.cell? ⟨Bf, 0, none⟩ = some (.int .i64 (fm : Int))) (x5 : w.cell? ⟨Bo, 0, none⟩ = some (.string (ownId l (fm : Int)))) (x6 : w.cell? ⟨Bp, 0, none⟩ = some (.int .i64 (namedP l (ownId l (fm : Int)))))
    (id : Int) :
    Calls Tryd.prog 89 (#[.int .i64 id] ++ #[.pointer (some ⟨Bl, 0, none⟩), .pointer (some ⟨Bs, 0, none⟩), .pointer (some ⟨Bn, 0, none⟩), .pointer (some ⟨Bf, 0, none⟩)]) w fun e w' => e = .returned (.bool (goneB l q (fm : Int) id)) ∧ Below w.heap.size w w' := by
  have HI := hide (fun W (hb : Below w.heap.size w W) => owIsOf_any v l id g q hs W (hv.below hb) hz (hT.below hb))
  have BD : Hid (Below w.heap.size w w.drew) := ⟨rfl, rfl, rfl, Nat.le_refl _, fun _ _ => rfl⟩
  cases ok : okB l q id with
  | false =>
    have E : Hid (goneB l q (fm : Int) id = true) := by show _ = _; unfold goneB; rw [ok]; rfl
    obtain ⟨p, c, rfl⟩ := nds_formW hv
    rw [ok] at HI
    have hu : undef = Value.tuple #[] := rfl
    clear hv hz hT hR x5 x6 ok
    go_enter Tryd.func89, Tryd.ntmps89
    go_wp2_with fail
    refine wp_region_held_drew (S := fun X : World => X.cell? ⟨Bl, 0, none⟩ = some (.slice p l.length c) ∧ X.cell? ⟨Bs, 0, none⟩ = some (.func (.func g) #[] #[]) ∧ X.cell? ⟨Bn, 0, none⟩ = some (.func (.func 87) #[] #[.pointer (some ⟨Bo, 0, none⟩), .pointer (some ⟨Bp, 0, none⟩)]) ∧ X.cell? ⟨Bf, 0, none⟩ = some (.int .i64 (fm : Int))) (by kernel_rfl) ?_ (fun hHeld => ?_)
    · exact ⟨x1, x2, x3, x4⟩
    refine wpAnyH_take (i := 0) (oi := { dst := some 7, op := Op.load 22 (Operand.tmp 1), type := 22, pos := "owner.go:72", after := #[], guard := none }) (v := ?_) rfl (by kernel_rfl) (by kernel_rfl) (by kernel_rfl) (fun _ _ _ h => h) (Or.inl ⟨by rfl, ?_⟩) (by assumption) ?_
    rotate_left
    · (intro w hSw; (try dsimp only at hSw); first | (go_simp; done) | (go_simp; with_reducible rfl))
    simp only [Act.put, List.setIfInBounds_toArray, List.set_cons_zero, List.set_cons_succ]
    refine wpAnyH_take (i := 1) (oi := { dst := some 8, op := Op.move (Operand.tmp 0), type := 3, pos := "owner.go:72", after := #[], guard := none }) (v := ?_) rfl (by kernel_rfl) (by kernel_rfl) (by kernel_rfl) (fun _ _ _ h => h) (Or.inl ⟨by rfl, ?_⟩) (by assumption) ?_
    rotate_left
    · (intro w hSw; (try dsimp only at hSw); first | (go_simp; done) | (go_simp; with_reducible rfl))
    simp only [Act.put, List.setIfInBounds_toArray, List.set_cons_zero, List.set_cons_succ]
    refine wpAnyH_take (i := 2) (oi := { dst := some 9, op := Op.load 84 (Operand.tmp 2), type := 84, pos := "owner.go:72", after := #[], guard := none }) (v := ?_) rfl (by kernel_rfl) (by kernel_rfl) (by kernel_rfl) (fun _ _ _ h => h) (Or.inl ⟨by rfl, ?_⟩) (by assumption) ?_
    rotate_left
    · (intro w hSw; (try dsimp only at hSw); first | (go_simp; done) | (go_simp; with_reducible rfl))
    simp only [Act.put, List.setIfInBounds_toArray, List.set_cons_zero, List.set_cons_succ]
    refine wpAnyH_ready (rs := [3]) (by kernel_rfl) (by simp) ?_
    refine AllReadyH.cons (i := 3) (o := { dst := some 10, op := Op.call { callee := Callee.value (Operand.func 72), args := #[Operand.tmp 7, Operand.tmp 8, Operand.tmp 9], argTypes := #[22, 3, 84] }, type := 4, pos := "owner.go:72", after := #[{ on := 0, ground := Ground.data }, { on := 1, ground := Ground.data }, { on := 2, ground := Ground.data }], guard := none }) rfl (fun K hK => ?_) AllReadyH.nil
    go_simp
    refine (HI.out _ BD.out).mono ?_
    rintro e w1 ⟨rfl, b1⟩
    have B1 := hide (chain BD.out b1)
    clear b1
    go_wp2_with fail
    refine hK.out _ _ ?_ (fun hHeld => ?_)
    · exact ⟨cell_below x1 B1.out, cell_below x2 B1.out, cell_below x3 B1.out, cell_below x4 B1.out⟩
    clear hK K
    refine wpAnyH_take (i := 4) (oi := { dst := some 11, op := Op.unOp UnOp.not 4 (Operand.tmp 10), type := 4, pos := "owner.go:72", after := #[{ on := 3, ground := Ground.data }], guard := none }) (v := ?_) rfl (by kernel_rfl) (by kernel_rfl) (by kernel_rfl) (fun _ _ _ h => h) (Or.inl ⟨by rfl, ?_⟩) (by assumption) ?_
    rotate_left
    · (intro w hSw; (try dsimp only at hSw); first | (go_simp; done) | (go_simp; with_reducible rfl))
    simp only [Act.put, List.setIfInBounds_toArray, List.set_cons_zero, List.set_cons_succ]
    refine wpAnyH_take (i := 5) (oi := { dst := some 12, op := Op.move (Operand.tmp 11), type := 4, pos := "owner.go:72", after := #[{ on := 4, ground := Ground.data }, { on := 3, ground := Ground.chain }], guard := none }) (v := ?_) rfl (by kernel_rfl) (by kernel_rfl) (by kernel_rfl) (fun _ _ _ h => h) (Or.inl ⟨by rfl, ?_⟩) (by assumption) ?_
    rotate_left
    · (intro w hSw; (try dsimp only at hSw); first | (go_simp; done) | (go_simp; with_reducible rfl))
    simp only [Act.put, List.setIfInBounds_toArray, List.set_cons_zero, List.set_cons_succ]
    refine wpAnyH_take (i := 6) (oi := { dst := some 13, op := Op.load 22 (Operand.tmp 1), type := 22, pos := "owner.go:72", after := #[{ on := 5, ground := Ground.guard }], guard := some (5, false) }) (v := undef) rfl (by kernel_rfl) (by kernel_rfl) (by kernel_rfl) (fun _ _ _ h => h) (Or.inr ⟨by rfl, rfl⟩) (by assumption) ?_
    simp only [Act.put, List.setIfInBounds_toArray, List.set_cons_zero, List.set_cons_succ]
    refine wpAnyH_take (i := 7) (oi := { dst := some 14, op := Op.move (Operand.tmp 0), type := 3, pos := "owner.go:72", after := #[{ on := 5, ground := Ground.guard }], guard := some (5, false) }) (v := undef) rfl (by kernel_rfl) (by kernel_rfl) (by kernel_rfl) (fun _ _ _ h => h) (Or.inr ⟨by rfl, rfl⟩) (by assumption) ?_
    simp only [Act.put, List.setIfInBounds_toArray, List.set_cons_zero, List.set_cons_succ]
    refine wpAnyH_take (i := 8) (oi := { dst := some 15, op := Op.load 113 (Operand.tmp 3), type := 113, pos := "owner.go:72", after := #[{ on := 5, ground := Ground.guard }], guard := some (5, false) }) (v := undef) rfl (by kernel_rfl) (by kernel_rfl) (by kernel_rfl) (fun _ _ _ h => h) (Or.inr ⟨by rfl, rfl⟩) (by assumption) ?_
    simp only [Act.put, List.setIfInBounds_toArray, List.set_cons_zero, List.set_cons_succ]
    refine wpAnyH_take (i := 9) (oi := { dst := some 16, op := Op.call { callee := Callee.value (Operand.func 90), args := #[Operand.tmp 13, Operand.tmp 14, Operand.tmp 15], argTypes := #[22, 3, 113] }, type := 3, pos := "owner.go:72", after := #[{ on := 6, ground := Ground.data }, { on := 7, ground := Ground.data }, { on := 8, ground := Ground.data }, { on := 5, ground := Ground.chain }, { on := 5, ground := Ground.guard }], guard := some (5, false) }) (v := undef) rfl (by kernel_rfl) (by kernel_rfl) (by kernel_rfl) (fun _ _ _ h => h) (Or.inr ⟨by rfl, rfl⟩) (by assumption) ?_
    simp only [Act.put, List.setIfInBounds_toArray, List.set_cons_zero, List.set_cons_succ]
    refine wpAnyH_take (i := 10) (oi := { dst := some 17, op := Op.load 3 (Operand.tmp 4), type := 3, pos := "owner.go:72", after := #[{ on := 5, ground := Ground.guard }], guard := some (5, false) }) (v := undef) rfl (by kernel_rfl) (by kernel_rfl) (by kernel_rfl) (fun _ _ _ h => h) (Or.inr ⟨by rfl, rfl⟩) (by assumption) ?_
    simp only [Act.put, List.setIfInBounds_toArray, List.set_cons_zero, List.set_cons_succ]
    refine wpAnyH_take (i := 11) (oi := { dst := some 18, op := Op.binOp BinOp.neq 3 (Operand.tmp 16) (Operand.tmp 17) 3, type := 4, pos := "owner.go:72", after := #[{ on := 9, ground := Ground.data }, { on := 10, ground := Ground.data }, { on := 5, ground := Ground.guard }], guard := some (5, false) }) (v := undef) rfl (by kernel_rfl) (by kernel_rfl) (by kernel_rfl) (fun _ _ _ h => h) (Or.inr ⟨by rfl, rfl⟩) (by assumption) ?_
    simp only [Act.put, List.setIfInBounds_toArray, List.set_cons_zero, List.set_cons_succ]
    refine wpAnyH_take (i := 12) (oi := { dst := some 19, op := Op.pick (Operand.tmp 12) (Operand.const (Value.bool true)) (Operand.tmp 18), type := 4, pos := "owner.go:72", after := #[{ on := 5, ground := Ground.data }, { on := 11, ground := Ground.data }], guard := none }) (v := ?_) rfl (by kernel_rfl) (by kernel_rfl) (by kernel_rfl) (fun _ _ _ h => h) (Or.inl ⟨by rfl, ?_⟩) (by assumption) ?_
    rotate_left
    · (intro w hSw; (try dsimp only at hSw); first | (go_simp; done) | (go_simp; with_reducible rfl))
    simp only [Act.put, List.setIfInBounds_toArray, List.set_cons_zero, List.set_cons_succ]
    refine wpAnyH_take (i := 13) (oi := { dst := some 6, op := Op.assign (Operand.tmp 19), type := 4, pos := "owner.go:72", after := #[{ on := 12, ground := Ground.data }, { on := 9, ground := Ground.chain }, { on := 0, ground := Ground.phase }, { on := 1, ground := Ground.phase }, { on := 2, ground := Ground.phase }, { on := 3, ground := Ground.phase }, { on := 4, ground := Ground.phase }, { on := 5, ground := Ground.phase }, { on := 6, ground := Ground.phase }, { on := 7, ground := Ground.phase }, { on := 8, ground := Ground.phase }, { on := 9, ground := Ground.phase }, { on := 10, ground := Ground.phase }, { on := 11, ground := Ground.phase }, { on := 12, ground := Ground.phase }], guard := none }) (v := ?_) rfl (by kernel_rfl) (by kernel_rfl) (by kernel_rfl) (fun _ _ _ h => h) (Or.inl ⟨by rfl, ?_⟩) (by assumption) ?_
    rotate_left
    · (intro w hSw; (try dsimp only at hSw); first | (go_simp; done) | (go_simp; with_reducible rfl))
    simp only [Act.put, List.setIfInBounds_toArray, List.set_cons_zero, List.set_cons_succ]
    refine wpAnyH_done (by kernel_rfl) ?_ _
    go_wp2_with fail
    go_ret
    exact ⟨ret_bool E.out.symm, B1.out⟩
  | true =>
    have rg : 0 ≤ id ∧ id < (l.length : Int) := by
      apply Classical.byContradiction
      intro t
      rw [ok_out t] at ok; cases ok
    obtain ⟨m, rfl⟩ : ∃ m : Nat, id = (m : Int) := ⟨id.toNat, by omega⟩
    have hm : m < l.length := by omega
    have HF := hide (fun W (hb : Below w.heap.size w W) => owFormOf_any v l m 87 #[.pointer (some ⟨Bo, 0, none⟩), .pointer (some ⟨Bp, 0, none⟩)] entO1W (nmdP l (fm : Int)) W (fun s W' hb' => owOwned1_any s (ownId l (fm : Int)) (namedP l (ownId l (fm : Int))) Bo Bp W' (cell_below (cell_below x5 hb) hb') (cell_below (cell_below x6 hb) hb')) (hv.below hb) hz (hT.below hb) hR hm)
    have E : Hid (goneB l q (fm : Int) (m : Int) = (frmP l (nmdP l (fm : Int)) (m : Int) != (fm : Int))) := by show _ = _; unfold goneB; rw [ok]; rfl
    obtain ⟨p, c, rfl⟩ := nds_formW hv
    rw [ok] at HI
    clear hv hz hT hR x5 x6 ok rg
    generalize frmP l (nmdP l (fm : Int)) (m : Int) = z at *
    have gz : (z != (fm : Int)) = goneB l q (fm : Int) (m : Int) := E.out.symm
    generalize goneB l q (fm : Int) (m : Int) = R at *
    clear E
    go_enter Tryd.func89, Tryd.ntmps89
    go_wp2_with fail
    refine wp_region_held_drew (S := fun X : World => X.cell? ⟨Bl, 0, none⟩ = some (.slice p l.length c) ∧ X.cell? ⟨Bs, 0, none⟩ = some (.func (.func g) #[] #[]) ∧ X.cell? ⟨Bn, 0, none⟩ = some (.func (.func 87) #[] #[.pointer (some ⟨Bo, 0, none⟩), .pointer (some ⟨Bp, 0, none⟩)]) ∧ X.cell? ⟨Bf, 0, none⟩ = some (.int .i64 (fm : Int))) (by kernel_rfl) ?_ (fun hHeld => ?_)
    · exact ⟨x1, x2, x3, x4⟩
    refine wpAnyH_take (i := 0) (oi := { dst := some 7, op := Op.load 22 (Operand.tmp 1), type := 22, pos := "owner.go:72", after := #[], guard := none }) (v := ?_) rfl (by kernel_rfl) (by kernel_rfl) (by kernel_rfl) (fun _ _ _ h => h) (Or.inl ⟨by rfl, ?_⟩) (by assumption) ?_
    rotate_left
    · (intro w hSw; (try dsimp only at hSw); first | (go_simp; done) | (go_simp; with_reducible rfl))
    simp only [Act.put, List.setIfInBounds_toArray, List.set_cons_zero, List.set_cons_succ]
    refine wpAnyH_take (i := 1) (oi := { dst := some 8, op := Op.move (Operand.tmp 0), type := 3, pos := "owner.go:72", after := #[], guard := none }) (v := ?_) rfl (by kernel_rfl) (by kernel_rfl) (by kernel_rfl) (fun _ _ _ h => h) (Or.inl ⟨by rfl, ?_⟩) (by assumption) ?_
    rotate_left
    · (intro w hSw; (try dsimp only at hSw); first | (go_simp; done) | (go_simp; with_reducible rfl))
    simp only [Act.put, List.setIfInBounds_toArray, List.set_cons_zero, List.set_cons_succ]
    refine wpAnyH_take (i := 2) (oi := { dst := some 9, op := Op.load 84 (Operand.tmp 2), type := 84, pos := "owner.go:72", after := #[], guard := none }) (v := ?_) rfl (by kernel_rfl) (by kernel_rfl) (by kernel_rfl) (fun _ _ _ h => h) (Or.inl ⟨by rfl, ?_⟩) (by assumption) ?_
    rotate_left
    · (intro w hSw; (try dsimp only at hSw); first | (go_simp; done) | (go_simp; with_reducible rfl))
    simp only [Act.put, List.setIfInBounds_toArray, List.set_cons_zero, List.set_cons_succ]
    refine wpAnyH_ready (rs := [3]) (by kernel_rfl) (by simp) ?_
    refine AllReadyH.cons (i := 3) (o := { dst := some 10, op := Op.call { callee := Callee.value (Operand.func 72), args := #[Operand.tmp 7, Operand.tmp 8, Operand.tmp 9], argTypes := #[22, 3, 84] }, type := 4, pos := "owner.go:72", after := #[{ on := 0, ground := Ground.data }, { on := 1, ground := Ground.data }, { on := 2, ground := Ground.data }], guard := none }) rfl (fun K hK => ?_) AllReadyH.nil
    go_simp
    refine (HI.out _ BD.out).mono ?_
    rintro e w1 ⟨rfl, b1⟩
    have B1 := hide (chain BD.out b1)
    clear b1
    go_wp2_with fail
    refine hK.out _ _ ?_ (fun hHeld => ?_)
    · exact ⟨cell_below x1 B1.out, cell_below x2 B1.out, cell_below x3 B1.out, cell_below x4 B1.out⟩
    clear hK K
    refine wpAnyH_take (i := 4) (oi := { dst := some 11, op := Op.unOp UnOp.not 4 (Operand.tmp 10), type := 4, pos := "owner.go:72", after := #[{ on := 3, ground := Ground.data }], guard := none }) (v := ?_) rfl (by kernel_rfl) (by kernel_rfl) (by kernel_rfl) (fun _ _ _ h => h) (Or.inl ⟨by rfl, ?_⟩) (by assumption) ?_
    rotate_left
    · (intro w hSw; (try dsimp only at hSw); first | (go_simp; done) | (go_simp; with_reducible rfl))
    simp only [Act.put, List.setIfInBounds_toArray, List.set_cons_zero, List.set_cons_succ]
    refine wpAnyH_take (i := 5) (oi := { dst := some 12, op := Op.move (Operand.tmp 11), type := 4, pos := "owner.go:72", after := #[{ on := 4, ground := Ground.data }, { on := 3, ground := Ground.chain }], guard := none }) (v := ?_) rfl (by kernel_rfl) (by kernel_rfl) (by kernel_rfl) (fun _ _ _ h => h) (Or.inl ⟨by rfl, ?_⟩) (by assumption) ?_
    rotate_left
    · (intro w hSw; (try dsimp only at hSw); first | (go_simp; done) | (go_simp; with_reducible rfl))
    simp only [Act.put, List.setIfInBounds_toArray, List.set_cons_zero, List.set_cons_succ]
    refine wpAnyH_take (i := 6) (oi := { dst := some 13, op := Op.load 22 (Operand.tmp 1), type := 22, pos := "owner.go:72", after := #[{ on := 5, ground := Ground.guard }], guard := some (5, false) }) (v := ?_) rfl (by kernel_rfl) (by kernel_rfl) (by kernel_rfl) (fun _ _ _ h => h) (Or.inl ⟨by rfl, ?_⟩) (by assumption) ?_
    rotate_left
    · (intro w hSw; (try dsimp only at hSw); first | (go_simp; done) | (go_simp; with_reducible rfl))
    simp only [Act.put, List.setIfInBounds_toArray, List.set_cons_zero, List.set_cons_succ]
    refine wpAnyH_take (i := 7) (oi := { dst := some 14, op := Op.move (Operand.tmp 0), type := 3, pos := "owner.go:72", after := #[{ on := 5, ground := Ground.guard }], guard := some (5, false) }) (v := ?_) rfl (by kernel_rfl) (by kernel_rfl) (by kernel_rfl) (fun _ _ _ h => h) (Or.inl ⟨by rfl, ?_⟩) (by assumption) ?_
    rotate_left
    · (intro w hSw; (try dsimp only at hSw); first | (go_simp; done) | (go_simp; with_reducible rfl))
    simp only [Act.put, List.setIfInBounds_toArray, List.set_cons_zero, List.set_cons_succ]
    refine wpAnyH_take (i := 8) (oi := { dst := some 15, op := Op.load 113 (Operand.tmp 3), type := 113, pos := "owner.go:72", after := #[{ on := 5, ground := Ground.guard }], guard := some (5, false) }) (v := ?_) rfl (by kernel_rfl) (by kernel_rfl) (by kernel_rfl) (fun _ _ _ h => h) (Or.inl ⟨by rfl, ?_⟩) (by assumption) ?_
    rotate_left
    · (intro w hSw; (try dsimp only at hSw); first | (go_simp; done) | (go_simp; with_reducible rfl))
    simp only [Act.put, List.setIfInBounds_toArray, List.set_cons_zero, List.set_cons_succ]
    refine wpAnyH_take (i := 10) (oi := { dst := some 17, op := Op.load 3 (Operand.tmp 4), type := 3, pos := "owner.go:72", after := #[{ on := 5, ground := Ground.guard }], guard := some (5, false) }) (v := ?_) rfl (by kernel_rfl) (by kernel_rfl) (by kernel_rfl) (fun _ _ _ h => h) (Or.inl ⟨by rfl, ?_⟩) (by assumption) ?_
    rotate_left
    · (intro w hSw; (try dsimp only at hSw); first | (go_simp; done) | (go_simp; with_reducible rfl))
    simp only [Act.put, List.setIfInBounds_toArray, List.set_cons_zero, List.set_cons_succ]
    refine wpAnyH_ready (rs := [9]) (by kernel_rfl) (by simp) ?_
    refine AllReadyH.cons (i := 9) (o := { dst := some 16, op := Op.call { callee := Callee.value (Operand.func 90), args := #[Operand.tmp 13, Operand.tmp 14, Operand.tmp 15], argTypes := #[22, 3, 113] }, type := 3, pos := "owner.go:72", after := #[{ on := 6, ground := Ground.data }, { on := 7, ground := Ground.data }, { on := 8, ground := Ground.data }, { on := 5, ground := Ground.chain }, { on := 5, ground := Ground.guard }], guard := some (5, false) }) rfl (fun K hK => ?_) AllReadyH.nil
    go_simp
    refine (HF.out _ B1.out).mono ?_
    rintro e w2 ⟨rfl, b2⟩
    have B2 := hide (chain B1.out b2)
    clear b2
    go_wp2_with fail
    refine hK.out _ _ ?_ (fun hHeld => ?_)
    · exact ⟨cell_below x1 B2.out, cell_below x2 B2.out, cell_below x3 B2.out, cell_below x4 B2.out⟩
    clear hK K
    refine wpAnyH_take (i := 11) (oi := { dst := some 18, op := Op.binOp BinOp.neq 3 (Operand.tmp 16) (Operand.tmp 17) 3, type := 4, pos := "owner.go:72", after := #[{ on := 9, ground := Ground.data }, { on := 10, ground := Ground.data }, { on := 5, ground := Ground.guard }], guard := some (5, false) }) (v := ?_) rfl (by kernel_rfl) (by kernel_rfl) (by kernel_rfl) (fun _ _ _ h => h) (Or.inl ⟨by rfl, ?_⟩) (by assumption) ?_
    rotate_left
    · (intro w hSw; (try dsimp only at hSw); first | (go_simp; done) | (go_simp; with_reducible rfl))
    simp only [Act.put, List.setIfInBounds_toArray, List.set_cons_zero, List.set_cons_succ]
    refine wpAnyH_take (i := 12) (oi := { dst := some 19, op := Op.pick (Operand.tmp 12) (Operand.const (Value.bool true)) (Operand.tmp 18), type := 4, pos := "owner.go:72", after := #[{ on := 5, ground := Ground.data }, { on := 11, ground := Ground.data }], guard := none }) (v := ?_) rfl (by kernel_rfl) (by kernel_rfl) (by kernel_rfl) (fun _ _ _ h => h) (Or.inl ⟨by rfl, ?_⟩) (by assumption) ?_
    rotate_left
    · (intro w hSw; (try dsimp only at hSw); first | (go_simp; done) | (go_simp; with_reducible rfl))
    simp only [Act.put, List.setIfInBounds_toArray, List.set_cons_zero, List.set_cons_succ]
    refine wpAnyH_take (i := 13) (oi := { dst := some 6, op := Op.assign (Operand.tmp 19), type := 4, pos := "owner.go:72", after := #[{ on := 12, ground := Ground.data }, { on := 9, ground := Ground.chain }, { on := 0, ground := Ground.phase }, { on := 1, ground := Ground.phase }, { on := 2, ground := Ground.phase }, { on := 3, ground := Ground.phase }, { on := 4, ground := Ground.phase }, { on := 5, ground := Ground.phase }, { on := 6, ground := Ground.phase }, { on := 7, ground := Ground.phase }, { on := 8, ground := Ground.phase }, { on := 9, ground := Ground.phase }, { on := 10, ground := Ground.phase }, { on := 11, ground := Ground.phase }, { on := 12, ground := Ground.phase }], guard := none }) (v := ?_) rfl (by kernel_rfl) (by kernel_rfl) (by kernel_rfl) (fun _ _ _ h => h) (Or.inl ⟨by rfl, ?_⟩) (by assumption) ?_
    rotate_left
    · (intro w hSw; (try dsimp only at hSw); first | (go_simp; done) | (go_simp; with_reducible rfl))
    simp only [Act.put, List.setIfInBounds_toArray, List.set_cons_zero, List.set_cons_succ]
    refine wpAnyH_done (by kernel_rfl) ?_ _
    go_wp2_with fail
    go_ret
    exact ⟨rfl, B2.out⟩
set_option maxHeartbeats 8000000 in
theorem owOwned_any (v : Value) (l : List Nd) (fm : Nat) (g : Nat) (q : Int → Bool) (hs : SuchF g q) (w : World) (hv : NodesV w v l) (hz : DocSz l) (hT : KTabs w) (hR : Right l) (hm : fm < l.length) :
    Calls Tryd.prog 74 #[v, .int .i64 (fm : Int), .func (.func g) #[] #[]] w fun e w' => ∃ v', e = .returned v' ∧ KidsO w.heap.size w' v' (ownedP l q (fm : Int)) ∧ Below w.heap.size w w' := by
  have nz := hz.nds _ (List.getElem_mem hm)
  have rb := right_is.2 hR
  have tr := top_rng hR (k := (fm : Int)) (by omega) (by omega)
  have hN : hasN l (fm : Int) = true := by unfold hasN; rw [decide_eq_true ⟨by omega, by omega⟩, rb]; rfl
  have eT : topQ l (fm : Int) = topP l (fm : Int) := if_pos hN
  have hNt : hasN l (topP l (fm : Int)) = true := by unfold hasN; rw [decide_eq_true tr, rb]; rfl
  have eO : ordL l (topP l (fm : Int)) = orderP l (topP l (fm : Int)) := (if_pos hNt).trans (order_down hR tr).symm
  have HNm := hide (fun W (hb : Below w.heap.size w W) => named_any v l (ownId l (fm : Int)) W (hv.below hb) hz)
  have eNm : namedQ l (ownId l (fm : Int)) = namedP l (ownId l (fm : Int)) := if_pos rb
  rw [eNm] at HNm
  have HTp := hide (fun W (hb : Below w.heap.size w W) => top_any v l (fm : Int) W (hv.below hb) hz)
  rw [eT] at HTp
  have HOr := hide (fun W (hb : Below w.heap.size w W) => order_any v l (topP l (fm : Int)) W (hv.below hb) hz)
  rw [eO] at HOr
  have OL : Hid ((orderP l (topP l (fm : Int))).length ≤ 17592186044416) := by
    show _ ≤ _
    rw [order_down hR tr]
    have := down_few hR tr
    omega
  have HDl := hide (fun (vo : Value) (B : Nat) (W : World) (ko : KidsO B W vo (orderP l (topP l (fm : Int)))) (Bl Bs Bn Bf : Nat) (hp : PredX 89 #[.pointer (some ⟨Bl, 0, none⟩), .pointer (some ⟨Bs, 0, none⟩), .pointer (some ⟨Bn, 0, none⟩), .pointer (some ⟨Bf, 0, none⟩)] (Value.int .i64) (goneB l q (fm : Int)) (vo.ownBlock.toList) W) => deleteFuncI_any B vo (orderP l (topP l (fm : Int))) (goneB l q (fm : Int)) 89 #[.pointer (some ⟨Bl, 0, none⟩), .pointer (some ⟨Bs, 0, none⟩), .pointer (some ⟨Bn, 0, none⟩), .pointer (some ⟨Bf, 0, none⟩)] entO2W W ko hp OL.out)
  have H2 := hide (fun Bl Bs Bn Bf Bo Bp W (hb : Below w.heap.size w W) x1 x2 x3 x4 x5 x6 => owOwned2_any v l fm g q hs Bl Bs Bn Bf Bo Bp W (hv.below hb) hz (hT.below hb) hR x1 x2 x3 x4 x5 x6)
  have EF : Hid ((orderP l (topP l (fm : Int))).filter (fun x => !goneB l q (fm : Int) x) = ownedP l q (fm : Int)) := rfl
  obtain ⟨p, c, rfl⟩ := nds_formW hv
  obtain ⟨b, o, va, pk, nk, ck, rfl, N⟩ := node_ofW hv hm
  have HN := hide (fun W (hb : Below w.heap.size w W) => owFind_any l[fm] va pk nk ck idT W (N.at_.below hb) nz.attrs)
  have EI : Hid (fndS l[fm].attrs idT = ownId l (fm : Int)) := by show _ = _; unfold ownId; rw [Int.toNat_natCast, nd_at hm]
  rw [EI.out, show idT = ⟨#[105, 100]⟩ from rfl] at HN
  obtain ⟨pa, ca, rfl, hxx⟩ := N.at_
  clear hxx
  have hlt : b < w.heap.size := World.block_lt_of_cell? _ _ N.name
  have BW3 : Hid (Below w.heap.size w (((w.alloc (.cells #[.slice (some ⟨b, o, none⟩) l.length c] 22)).alloc (.cells #[.int .i64 (fm : Int)] 3)).alloc (.cells #[.func (.func g) #[] #[]] 84))) := (((Below.refl _ w).alloc (Nat.le_refl _) _).alloc (by simp) _).alloc (by simp; omega) _
  have c0 := cell_below N.name BW3.out
  have c1 := cell_below N.text BW3.out
  have c2 := cell_below N.attrs BW3.out
  have c3 := cell_below N.parent BW3.out
  have c4 := cell_below N.kids BW3.out
  have m0 : (0 : Int) ≤ (fm : Int) := by omega
  have m1 : (fm : Int) < (l.length : Int) := by omega
  have K1 : Hid (Bk (((w.alloc (.cells #[.slice (some ⟨b, o, none⟩) l.length c] 22)).alloc (.cells #[.int .i64 (fm : Int)] 3)).alloc (.cells #[.func (.func g) #[] #[]] 84)) w.heap.size [.slice (some ⟨b, o, none⟩) l.length c] 22) := ((Bk.new w _ _).below ((Below.refl _ _).alloc (Nat.le_refl _) _)).below ((Below.refl _ _).alloc (Nat.le_refl _) _)
  have K2 : Hid (Bk (((w.alloc (.cells #[.slice (some ⟨b, o, none⟩) l.length c] 22)).alloc (.cells #[.int .i64 (fm : Int)] 3)).alloc (.cells #[.func (.func g) #[] #[]] 84)) (w.heap.size + 1) [.int .i64 (fm : Int)] 3) := by
    have := Bk.new (w.alloc (.cells #[.slice (some ⟨b, o, none⟩) l.length c] 22)) [.int .i64 (fm : Int)] 3
    rw [World.size_alloc] at this
    exact this.below ((Below.refl _ _).alloc (Nat.le_refl _) _)
  have K3 : Hid (Bk (((w.alloc (.cells #[.slice (some ⟨b, o, none⟩) l.length c] 22)).alloc (.cells #[.int .i64 (fm : Int)] 3)).alloc (.cells #[.func (.func g) #[] #[]] 84)) (w.heap.size + 1 + 1) [.func (.func g) #[] #[]] 84) := by
    have := Bk.new ((w.alloc (.cells #[.slice (some ⟨b, o, none⟩) l.length c] 22)).alloc (.cells #[.int .i64 (fm : Int)] 3)) [.func (.func g) #[] #[]] 84
    rw [World.size_alloc, World.size_alloc] at this
    exact this
  clear N hv hz hT nz hR hs rb tr hN eT hNt eO eNm EI OL
  generalize ownId l (fm : Int) = own at *
  generalize namedP l own = pl at *
  generalize orderP l (topP l (fm : Int)) = ord at *
  generalize topP l (fm : Int) = T at *
  generalize hasA l[fm] ⟨#[105, 100]⟩ = hai at *
  generalize l[fm].name = n0 at *
  generalize l[fm].text = n1 at *
  generalize l[fm].parent = n3 at *
  generalize l[fm].attrs.length = n5 at *
  go_enter Tryd.func74, Tryd.ntmps74
  go_wp2_with fail
  refine (HN.out _ BW3.out).mono ?_
  rintro e w1 ⟨rfl, b1⟩
  have B1 := hide (chain BW3.out b1)
  replace K1 := hide (K1.out.below b1)
  replace K2 := hide (K2.out.below b1)
  replace K3 := hide (K3.out.below b1)
  clear b1 BW3 HN c0 c1 c2 c3 c4
  have A1 : Hid (Below w1.heap.size w1 (w1.alloc (.cells #[.string own] 9))) := (Below.refl _ w1).alloc (Nat.le_refl _) _
  have B2 := hide (chain B1.out A1.out)
  have K4 := hide (Bk.new w1 [.string own] 9)
  replace K1 := hide (K1.out.below A1.out)
  replace K2 := hide (K2.out.below A1.out)
  replace K3 := hide (K3.out.below A1.out)
  have x1 := K1.out.cell 0 rfl
  have x4 := K4.out.cell 0 rfl
  go_wp2_with fail
  refine (HNm.out _ B2.out).mono ?_
  rintro e w2 ⟨rfl, b2⟩
  have B3 := hide (chain B2.out b2)
  replace K1 := hide (K1.out.below b2)
  replace K2 := hide (K2.out.below b2)
  replace K3 := hide (K3.out.below b2)
  replace K4 := hide (K4.out.below b2)
  clear b2 A1 B2 HNm x1 x4 B1
  have A2 : Hid (Below w2.heap.size w2 ((w2.alloc (.cells #[.int .i64 pl] 3)).alloc (.cells #[.func (.func 87) #[] #[.pointer (some ⟨w1.heap.size, 0, none⟩), .pointer (some ⟨w2.heap.size, 0, none⟩)]] 113))) := ((Below.refl _ w2).alloc (Nat.le_refl _) _).alloc (by simp) _
  have B4 := hide (chain B3.out A2.out)
  have K5 : Hid (Bk ((w2.alloc (.cells #[.int .i64 pl] 3)).alloc (.cells #[.func (.func 87) #[] #[.pointer (some ⟨w1.heap.size, 0, none⟩), .pointer (some ⟨w2.heap.size, 0, none⟩)]] 113)) w2.heap.size [.int .i64 pl] 3) := (Bk.new w2 _ _).below ((Below.refl _ _).alloc (Nat.le_refl _) _)
  have K6 : Hid (Bk ((w2.alloc (.cells #[.int .i64 pl] 3)).alloc (.cells #[.func (.func 87) #[] #[.pointer (some ⟨w1.heap.size, 0, none⟩), .pointer (some ⟨w2.heap.size, 0, none⟩)]] 113)) (w2.heap.size + 1) [.func (.func 87) #[] #[.pointer (some ⟨w1.heap.size, 0, none⟩), .pointer (some ⟨w2.heap.size, 0, none⟩)]] 113) := by
    have := Bk.new (w2.alloc (.cells #[.int .i64 pl] 3)) [.func (.func 87) #[] #[.pointer (some ⟨w1.heap.size, 0, none⟩), .pointer (some ⟨w2.heap.size, 0, none⟩)]] 113
    rw [World.size_alloc] at this
    exact this
  replace K1 := hide (K1.out.below A2.out)
  replace K2 := hide (K2.out.below A2.out)
  replace K3 := hide (K3.out.below A2.out)
  replace K4 := hide (K4.out.below A2.out)
  clear A2 B3
  go_wp2_with fail
  generalize ((w2.alloc (.cells #[.int .i64 pl] 3)).alloc (.cells #[.func (.func 87) #[] #[.pointer (some ⟨w1.heap.size, 0, none⟩), .pointer (some ⟨w2.heap.size, 0, none⟩)]] 113)) = w3 at *
  have DR : Below w3.heap.size w3 w3.drew := ⟨rfl, rfl, rfl, Nat.le_refl _, fun _ _ => rfl⟩
  have B5 := hide (chain B4.out DR)
  have x1 := K1.out.cell 0 rfl
  have x2 := K2.out.cell 0 rfl
  replace K1 := hide (K1.out.below DR)
  replace K2 := hide (K2.out.below DR)
  replace K3 := hide (K3.out.below DR)
  replace K4 := hide (K4.out.below DR)
  replace K5 := hide (K5.out.below DR)
  replace K6 := hide (K6.out.below DR)
  clear DR B4
  refine wp_region_held_drew (S := fun X : World => X.cell? ⟨w.heap.size, 0, none⟩ = some (.slice (some ⟨b, o, none⟩) l.length c) ∧ X.cell? ⟨w.heap.size + 1, 0, none⟩ = some (.int .i64 (fm : Int))) (by kernel_rfl) ?_ (fun hHeld => ?_)
  · exact ⟨x1, x2⟩
  refine wpAnyH_take (i := 0) (oi := { dst := some 24, op := Op.load 22 (Operand.tmp 3), type := 22, pos := "owner.go:70", after := #[], guard := none }) (v := ?_) rfl (by kernel_rfl) (by kernel_rfl) (by kernel_rfl) (fun _ _ _ h => h) (Or.inl ⟨by rfl, ?_⟩) (by assumption) ?_
  rotate_left
  · (intro w hSw; (try dsimp only at hSw); first | (go_simp; done) | (go_simp; with_reducible rfl))
  simp only [Act.put, List.setIfInBounds_toArray, List.set_cons_zero, List.set_cons_succ]
  refine wpAnyH_take (i := 1) (oi := { dst := some 25, op := Op.load 22 (Operand.tmp 3), type := 22, pos := "owner.go:70", after := #[], guard := none }) (v := ?_) rfl (by kernel_rfl) (by kernel_rfl) (by kernel_rfl) (fun _ _ _ h => h) (Or.inl ⟨by rfl, ?_⟩) (by assumption) ?_
  rotate_left
  · (intro w hSw; (try dsimp only at hSw); first | (go_simp; done) | (go_simp; with_reducible rfl))
  simp only [Act.put, List.setIfInBounds_toArray, List.set_cons_zero, List.set_cons_succ]
  refine wpAnyH_take (i := 2) (oi := { dst := some 26, op := Op.load 3 (Operand.tmp 4), type := 3, pos := "owner.go:70", after := #[], guard := none }) (v := ?_) rfl (by kernel_rfl) (by kernel_rfl) (by kernel_rfl) (fun _ _ _ h => h) (Or.inl ⟨by rfl, ?_⟩) (by assumption) ?_
  rotate_left
  · (intro w hSw; (try dsimp only at hSw); first | (go_simp; done) | (go_simp; with_reducible rfl))
  simp only [Act.put, List.setIfInBounds_toArray, List.set_cons_zero, List.set_cons_succ]
  refine wpAnyH_ready (rs := [3]) (by kernel_rfl) (by simp) ?_
  refine AllReadyH.cons (i := 3) (o := { dst := some 27, op := Op.call { callee := Callee.value (Operand.func 88), args := #[Operand.tmp 25, Operand.tmp 26], argTypes := #[22, 3] }, type := 3, pos := "owner.go:70", after := #[{ on := 1, ground := Ground.data }, { on := 2, ground := Ground.data }], guard := none }) rfl (fun K hK => ?_) AllReadyH.nil
  go_simp
  refine (HTp.out _ B5.out).mono ?_
  rintro e w4 ⟨rfl, b4⟩
  have B6 := hide (chain B5.out b4)
  replace K1 := hide (K1.out.below b4)
  replace K2 := hide (K2.out.below b4)
  replace K3 := hide (K3.out.below b4)
  replace K4 := hide (K4.out.below b4)
  replace K5 := hide (K5.out.below b4)
  replace K6 := hide (K6.out.below b4)
  clear b4 B5
  go_wp2_with fail
  refine hK.out _ _ ?_ (fun hHeld => ?_)
  · exact ⟨K1.out.cell 0 rfl, K2.out.cell 0 rfl⟩
  clear hK K
  refine wpAnyH_ready (rs := [4]) (by kernel_rfl) (by simp) ?_
  refine AllReadyH.cons (i := 4) (o := { dst := some 28, op := Op.call { callee := Callee.value (Operand.func 54), args := #[Operand.tmp 24, Operand.tmp 27], argTypes := #[22, 3] }, type := 25, pos := "owner.go:70", after := #[{ on := 0, ground := Ground.data }, { on := 3, ground := Ground.data }, { on := 3, ground := Ground.chain }], guard := none }) rfl (fun K hK => ?_) AllReadyH.nil
  go_simp
  refine (HOr.out _ B6.out).mono ?_
  rintro e w5 ⟨vo, rfl, KO, b5⟩
  replace KO := hide KO
  go_wp2_with fail
  refine hK.out _ _ ?_ (fun hHeld => ?_)
  · exact ⟨(K1.out.below b5).cell 0 rfl, (K2.out.below b5).cell 0 rfl⟩
  clear hK K
  refine wpAnyH_take (i := 5) (oi := { dst := some 11, op := Op.assign (Operand.tmp 28), type := 25, pos := "owner.go:70", after := #[{ on := 4, ground := Ground.data }, { on := 4, ground := Ground.chain }, { on := 0, ground := Ground.phase }, { on := 1, ground := Ground.phase }, { on := 2, ground := Ground.phase }, { on := 3, ground := Ground.phase }, { on := 4, ground := Ground.phase }], guard := none }) (v := ?_) rfl (by kernel_rfl) (by kernel_rfl) (by kernel_rfl) (fun _ _ _ h => h) (Or.inl ⟨by rfl, ?_⟩) (by assumption) ?_
  rotate_left
  · (intro w hSw; (try dsimp only at hSw); first | (go_simp; done) | (go_simp; with_reducible rfl))
  simp only [Act.put, List.setIfInBounds_toArray, List.set_cons_zero, List.set_cons_succ]
  refine wpAnyH_done (by kernel_rfl) ?_ _
  have OB : Hid (∀ k ∈ vo.ownBlock.toList, w4.heap.size ≤ k) := fun k hk => (World.ownsRow.lt KO.out k (opt_mem.1 hk)).1
  have PX : Hid (PredX 89 #[.pointer (some ⟨w.heap.size, 0, none⟩), .pointer (some ⟨w.heap.size + 1 + 1, 0, none⟩), .pointer (some ⟨w2.heap.size + 1, 0, none⟩), .pointer (some ⟨w.heap.size + 1, 0, none⟩)] (Value.int .i64) (goneB l q (fm : Int)) (vo.ownBlock.toList) w5) := fun W x hc => by
    have hb : Below w4.heap.size w4 W := b5.trans (hc.below b5.size OB.out)
    exact H2.out _ _ _ _ w1.heap.size w2.heap.size W (chain B6.out hb) ((K1.out.below hb).cell 0 rfl) ((K3.out.below hb).cell 0 rfl) ((K6.out.below hb).cell 0 rfl) ((K2.out.below hb).cell 0 rfl) ((K4.out.below hb).cell 0 rfl) ((K5.out.below hb).cell 0 rfl) x
  have HD := hide (HDl.out vo w4.heap.size w5 KO.out _ _ _ _ PX.out)
  rw [EF.out] at HD
  have B7 := hide (chain B6.out b5)
  have h56 := B6.out.size
  clear HDl H2 PX K1 K2 K3 K4 K5 K6 EF
  obtain ⟨po, ko, eo, _⟩ := KO.out.ints
  subst eo
  go_wp2_with fail
  refine HD.out.mono ?_
  rintro e w6 ⟨q6, n6, c6, rfl, o6, ch6, _⟩
  have B8 : Hid (Below w.heap.size w w6) := B7.out.trans (ch6.below B7.out.size (fun k hk => Nat.le_trans h56 (OB.out k hk)))
  go_wp2_with fail
  go_ret
  exact ⟨_, rfl, owns_mono o6 h56, B8.out⟩
end Go.Proofs.YtldbaoolddlacaaDoor

namespace Go.Proofs.YtldbaoolddlacaaDoor
open Go.RowKit
set_option maxRecDepth 100000
abbrev OwTabs (w : World) : Prop := KTabs w
theorem OwTabs.below {w w' : World} (h : OwTabs w) (hb : Below w.heap.size w w') : OwTabs w' := KTabs.below h hb
theorem isK_not {l : List Nd} {k id : Int} (h : okB l (fun x => x == k) id = false ∨ rightB l = false) : isK l id k = false := by
  rw [← ok_right]
  rcases h with h | h <;> rw [h]
  · rfl
  · rw [Bool.and_false]
theorem isK_yes {l : List Nd} {k id : Int} (h : okB l (fun x => x == k) id = true) (hr : rightB l = true) : isK l id k = true := by rw [← ok_right, h, hr]; rfl
theorem ok_rng {l : List Nd} {q : Int → Bool} {id : Int} (h : okB l q id = true) : ∃ m : Nat, id = (m : Int) ∧ m < l.length := by
  have rg : 0 ≤ id ∧ id < (l.length : Int) := by
    apply Classical.byContradiction
    intro t
    rw [ok_out t] at h; cases h
  exact ⟨id.toNat, by omega, by omega⟩
set_option maxHeartbeats 8000000 in
theorem owElementsK_any (v : Value) (l : List Nd) (id : Int) (w : World) (hv : NodesV w v l) (hz : DocSz l) (hT : OwTabs w) :
    Calls Tryd.prog 52 #[v, .int .i64 id] w fun e w' => ∃ v', e = .returned v' ∧ KidsO w.heap.size w' v' (elementsP l id) ∧ Below w.heap.size w w' := by
  have HI := hide (fun W (hb : Below w.heap.size w W) => owIsOf_any v l id _ is30 suisForm W (hv.below hb) hz (hT.below hb))
  have HRt := hide (fun W (hb : Below w.heap.size w W) => right_any v l W (hv.below hb) hz)
  cases ok : okB l is30 id with
  | false =>
    have E : Hid (elementsP l id = []) := by show _ = _; rw [elements_is, isK_not (.inl ok)]; rfl
    rw [ok] at HI
    clear ok
    obtain ⟨p, c, rfl⟩ := nds_formW hv
    have B0 : Hid (Below w.heap.size w w) := Below.refl _ _
    clear hv hz hT HRt
    go_enter Tryd.func52, Tryd.ntmps52
    go_wp2_with fail
    refine (HI.out _ B0.out).mono ?_
    rintro e w1 ⟨rfl, b1⟩
    go_wp2_with fail
    go_ret
    exact ⟨_, rfl, by rw [E.out]; exact World.ownsRow_nil _ _ _ _, chain B0.out b1⟩
  | true =>
    rw [ok] at HI
    cases rb : rightB l with
    | false =>
      have E : Hid (elementsP l id = []) := by show _ = _; rw [elements_is, isK_not (.inr rb)]; rfl
      rw [rb] at HRt
      clear ok rb
      obtain ⟨p, c, rfl⟩ := nds_formW hv
      have B0 : Hid (Below w.heap.size w w) := Below.refl _ _
      clear hv hz hT
      go_enter Tryd.func52, Tryd.ntmps52
      go_wp2_with fail
      refine (HI.out _ B0.out).mono ?_
      rintro e w1 ⟨rfl, b1⟩
      go_wp2_with fail
      refine (HRt.out _ (chain B0.out b1)).mono ?_
      rintro e w2 ⟨rfl, b2⟩
      go_wp2_with fail
      go_ret
      exact ⟨_, rfl, by rw [E.out]; exact World.ownsRow_nil _ _ _ _, chain (chain B0.out b1) b2⟩
    | true =>
      rw [rb] at HRt
      have hR := right_is.1 rb
      obtain ⟨m, rfl, hm⟩ := ok_rng ok
      have HO := hide (fun W (hb : Below w.heap.size w W) => owOwned_any v l m _ listB suListed W (hv.below hb) hz (hT.below hb) hR hm)
      have E : Hid (ownedP l listB (m : Int) = elementsP l (m : Int)) := by show _ = _; rw [elements_is, isK_yes ok rb]; rfl
      rw [E.out] at HO
      clear E
      obtain ⟨p, c, rfl⟩ := nds_formW hv
      have B0 : Hid (Below w.heap.size w w) := Below.refl _ _
      clear hv hz hT ok rb hR
      generalize elementsP l (m : Int) = z at *
      go_enter Tryd.func52, Tryd.ntmps52
      go_wp2_with fail
      refine (HI.out _ B0.out).mono ?_
      rintro e w1 ⟨rfl, b1⟩
      go_wp2_with fail
      refine (HRt.out _ (chain B0.out b1)).mono ?_
      rintro e w2 ⟨rfl, b2⟩
      have B2 := hide (chain (chain B0.out b1) b2)
      go_wp2_with fail
      refine (HO.out _ B2.out).mono ?_
      rintro e w3 ⟨v3, rfl, k3, b3⟩
      have K3 := hide (owns_mono k3 B2.out.size)
      obtain ⟨p3, c3, rfl, _⟩ := k3.ints
      clear k3
      go_wp2_with fail
      go_ret
      exact ⟨_, rfl, K3.out, chain B2.out b3⟩

end Go.Proofs.YtldbaoolddlacaaDoor
