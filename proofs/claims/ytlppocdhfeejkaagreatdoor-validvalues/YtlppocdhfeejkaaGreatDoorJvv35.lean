/- The program's Form, Elements, Default, Control, Disabled of layer 16. The program's find, has, submits, isWithin, canBeChanged, isBarred, Barred of layer 18. -/
import Derived.Test.YtlppocdhfeejkaaGreatDoorJvv30
import Derived.Laws.CopyRow
import Derived.Laws.EntriesVeiled

namespace Go.Proofs.YtlppocdhfeejkaaGreatDoor
open Go.RowKit
set_option maxRecDepth 100000
abbrev OwTabs (w : World) : Prop := KTabs w
theorem OwTabs.below {w w' : World} (h : OwTabs w) (hb : Below w.heap.size w w') : OwTabs w' := KTabs.below h hb
theorem ok_rng {l : List Nd} {q : Int → Bool} {id : Int} (h : okB l q id = true) : ∃ m : Nat, id = (m : Int) ∧ m < l.length := by
  have rg : 0 ≤ id ∧ id < (l.length : Int) := by
    apply Classical.byContradiction
    intro t
    rw [ok_out t] at h; cases h
  exact ⟨id.toNat, by omega, by omega⟩
theorem entDs1 : ∀ args w, (callFunc 147 args).run Tryz.prog w = .ok (.enter 147 args) w := Go.Proofs.enters_of Tryz.func147 (by kernel_rfl) rfl
set_option maxHeartbeats 8000000 in
theorem owDisabled1_any (v : Value) (l : List Nd) (a by_ : Nat) (Bl : Nat) (w : World) (hv : NodesV w v l) (hz : DocSz l) (hT : KTabs w) (ha : a < l.length) (x1 : w.cell? ⟨Bl, 0, none⟩ = some v) :
    Calls Tryz.prog 147 #[.int .i64 (a : Int), .int .i64 (by_ : Int), .pointer (some ⟨Bl, 0, none⟩)] w fun e w' => e = .returned (.bool (hldB l (a : Int) (by_ : Int))) ∧ Below w.heap.size w w' := by
  have nz := hz.nds _ (List.getElem_mem ha)
  have KL : l[a].kids.length ≤ 17592186044416 := nz.kids
  have BD : Hid (Below w.heap.size w w.drew) := ⟨rfl, rfl, rfl, Nat.le_refl _, fun _ _ => rfl⟩
  have E : Hid (hldB l (a : Int) (by_ : Int) = (hasA l[a] oDis && ((by_ : Int) != firB l is34 l[a].kids))) := by show _ = _; unfold hldB; rw [Int.toNat_natCast, nd_at ha]
  obtain ⟨p, c, rfl⟩ := nds_formW hv
  obtain ⟨b, o, va, pk, nk, ck, rfl, N⟩ := node_ofW hv ha
  have HF := hide (fun W (hb : Below w.heap.size w W) => owFirstOf_any _ _ l l[a].kids _ is34 suisLegend W (hv.below hb) (N.ks.below hb) hz (hT.below hb) KL)
  have HN := hide (fun W (hb : Below w.heap.size w W) => owHas_any l[a] va pk nk ck oDis W (N.at_.below hb) nz.attrs)
  rw [show oDis = ⟨#[100, 105, 115, 97, 98, 108, 101, 100]⟩ from rfl] at HN E
  obtain ⟨pa, ca, rfl, hxx⟩ := N.at_
  clear hxx
  have c0 := N.name
  have c1 := N.text
  have c2 := N.attrs
  have c3 := N.parent
  have c4 := N.kids
  have m0 : (0 : Int) ≤ (a : Int) := by omega
  have m1 : (a : Int) < (l.length : Int) := by omega
  clear N hv hz hT nz KL
  generalize hldB l (a : Int) (by_ : Int) = R at *
  generalize firB l is34 l[a].kids = z at *
  generalize hasA l[a] ⟨#[100, 105, 115, 97, 98, 108, 101, 100]⟩ = hb at *
  generalize l[a].name = n0 at *
  generalize l[a].text = n1 at *
  generalize l[a].parent = n3 at *
  generalize l[a].attrs.length = n5 at *
  have hu : undef = Value.tuple #[] := rfl
  cases hb with
  | false =>
    rw [Bool.false_and] at E
    clear HF
    go_enter Tryz.func147, Tryz.ntmps147
    go_wp2_with fail
    refine wp_region_held_drew (S := fun X : World => X.cell? ⟨Bl, 0, none⟩ = some (.slice (some ⟨b, o, none⟩) l.length c) ∧ X.cell? ⟨b, o + a * 5, none⟩ = some (.string n0) ∧ X.cell? ⟨b, o + a * 5 + 1, none⟩ = some (.string n1) ∧ X.cell? ⟨b, o + a * 5 + 2, none⟩ = some (.slice pa n5 ca) ∧ X.cell? ⟨b, o + a * 5 + 3, none⟩ = some (.int .i64 n3) ∧ X.cell? ⟨b, o + a * 5 + 4, none⟩ = some (.slice pk nk ck)) (by kernel_rfl) ?_ (fun hHeld => ?_)
    · exact ⟨x1, c0, c1, c2, c3, c4⟩
    refine wpAnyH_take (i := 0) (oi := { dst := some 6, op := Op.load 22 (Operand.tmp 2), type := 22, pos := "owner.go:56", after := #[], guard := none }) (v := ?_) rfl (by kernel_rfl) (by kernel_rfl) (by kernel_rfl) (fun _ _ _ h => h) (Or.inl ⟨by rfl, ?_⟩) (by assumption) ?_
    rotate_left
    · (intro w hSw; (try dsimp only at hSw); first | (go_simp; done) | (go_simp; with_reducible rfl))
    simp only [Act.put, List.setIfInBounds_toArray, List.set_cons_zero, List.set_cons_succ]
    refine wpAnyH_take (i := 1) (oi := { dst := some 7, op := Op.move (Operand.tmp 0), type := 3, pos := "owner.go:56", after := #[], guard := none }) (v := ?_) rfl (by kernel_rfl) (by kernel_rfl) (by kernel_rfl) (fun _ _ _ h => h) (Or.inl ⟨by rfl, ?_⟩) (by assumption) ?_
    rotate_left
    · (intro w hSw; (try dsimp only at hSw); first | (go_simp; done) | (go_simp; with_reducible rfl))
    simp only [Act.put, List.setIfInBounds_toArray, List.set_cons_zero, List.set_cons_succ]
    refine wpAnyH_take (i := 2) (oi := { dst := some 8, op := Op.indexAddr 22 (Operand.tmp 6) (Operand.tmp 7), type := 0, pos := "owner.go:56", after := #[{ on := 0, ground := Ground.data }, { on := 1, ground := Ground.data }], guard := none }) (v := ?_) rfl (by kernel_rfl) (by kernel_rfl) (by kernel_rfl) (fun _ _ _ h => h) (Or.inl ⟨by rfl, ?_⟩) (by assumption) ?_
    rotate_left
    · (intro w hSw; (try dsimp only at hSw); first | (go_simp; done) | (go_simp; with_reducible rfl))
    simp only [Act.put, List.setIfInBounds_toArray, List.set_cons_zero, List.set_cons_succ]
    refine wpAnyH_take (i := 3) (oi := { dst := some 9, op := Op.load 43 (Operand.tmp 8), type := 43, pos := "owner.go:56", after := #[{ on := 2, ground := Ground.data }], guard := none }) (v := ?_) rfl (by kernel_rfl) (by kernel_rfl) (by kernel_rfl) (fun _ _ _ h => h) (Or.inl ⟨by rfl, ?_⟩) (by assumption) ?_
    rotate_left
    · (intro w hSw; (try dsimp only at hSw); first | (go_simp; done) | (go_simp; with_reducible rfl))
    simp only [Act.put, List.setIfInBounds_toArray, List.set_cons_zero, List.set_cons_succ]
    refine wpAnyH_ready (rs := [4]) (by kernel_rfl) (by simp) ?_
    refine AllReadyH.cons (i := 4) (o := { dst := some 10, op := Op.call { callee := Callee.value (Operand.func 148), args := #[Operand.tmp 9, Operand.const (Value.string { data := #[100, 105, 115, 97, 98, 108, 101, 100] })], argTypes := #[43, 9] }, type := 4, pos := "owner.go:56", after := #[{ on := 3, ground := Ground.data }], guard := none }) rfl (fun K hK => ?_) AllReadyH.nil
    go_simp
    refine (HN.out _ BD.out).mono ?_
    rintro e w1 ⟨rfl, b1⟩
    have B1 := hide (chain BD.out b1)
    clear b1
    go_wp2_with fail
    refine hK.out _ _ ?_ (fun hHeld => ?_)
    · exact ⟨cell_below x1 B1.out, cell_below c0 B1.out, cell_below c1 B1.out, cell_below c2 B1.out, cell_below c3 B1.out, cell_below c4 B1.out⟩
    clear hK K
    refine wpAnyH_take (i := 5) (oi := { dst := some 11, op := Op.move (Operand.tmp 10), type := 4, pos := "owner.go:56", after := #[{ on := 4, ground := Ground.data }, { on := 4, ground := Ground.chain }], guard := none }) (v := ?_) rfl (by kernel_rfl) (by kernel_rfl) (by kernel_rfl) (fun _ _ _ h => h) (Or.inl ⟨by rfl, ?_⟩) (by assumption) ?_
    rotate_left
    · (intro w hSw; (try dsimp only at hSw); first | (go_simp; done) | (go_simp; with_reducible rfl))
    simp only [Act.put, List.setIfInBounds_toArray, List.set_cons_zero, List.set_cons_succ]
    refine wpAnyH_take (i := 6) (oi := { dst := some 12, op := Op.move (Operand.tmp 1), type := 3, pos := "owner.go:56", after := #[{ on := 5, ground := Ground.guard }], guard := some (5, true) }) (v := undef) rfl (by kernel_rfl) (by kernel_rfl) (by kernel_rfl) (fun _ _ _ h => h) (Or.inr ⟨by rfl, rfl⟩) (by assumption) ?_
    simp only [Act.put, List.setIfInBounds_toArray, List.set_cons_zero, List.set_cons_succ]
    refine wpAnyH_take (i := 7) (oi := { dst := some 13, op := Op.load 22 (Operand.tmp 2), type := 22, pos := "owner.go:56", after := #[{ on := 5, ground := Ground.guard }], guard := some (5, true) }) (v := undef) rfl (by kernel_rfl) (by kernel_rfl) (by kernel_rfl) (fun _ _ _ h => h) (Or.inr ⟨by rfl, rfl⟩) (by assumption) ?_
    simp only [Act.put, List.setIfInBounds_toArray, List.set_cons_zero, List.set_cons_succ]
    refine wpAnyH_take (i := 8) (oi := { dst := some 14, op := Op.load 22 (Operand.tmp 2), type := 22, pos := "owner.go:56", after := #[{ on := 5, ground := Ground.guard }], guard := some (5, true) }) (v := undef) rfl (by kernel_rfl) (by kernel_rfl) (by kernel_rfl) (fun _ _ _ h => h) (Or.inr ⟨by rfl, rfl⟩) (by assumption) ?_
    simp only [Act.put, List.setIfInBounds_toArray, List.set_cons_zero, List.set_cons_succ]
    refine wpAnyH_take (i := 9) (oi := { dst := some 15, op := Op.move (Operand.tmp 0), type := 3, pos := "owner.go:56", after := #[{ on := 5, ground := Ground.guard }], guard := some (5, true) }) (v := undef) rfl (by kernel_rfl) (by kernel_rfl) (by kernel_rfl) (fun _ _ _ h => h) (Or.inr ⟨by rfl, rfl⟩) (by assumption) ?_
    simp only [Act.put, List.setIfInBounds_toArray, List.set_cons_zero, List.set_cons_succ]
    refine wpAnyH_take (i := 10) (oi := { dst := some 16, op := Op.indexAddr 22 (Operand.tmp 14) (Operand.tmp 15), type := 0, pos := "owner.go:56", after := #[{ on := 8, ground := Ground.data }, { on := 9, ground := Ground.data }, { on := 5, ground := Ground.guard }], guard := some (5, true) }) (v := undef) rfl (by kernel_rfl) (by kernel_rfl) (by kernel_rfl) (fun _ _ _ h => h) (Or.inr ⟨by rfl, rfl⟩) (by assumption) ?_
    simp only [Act.put, List.setIfInBounds_toArray, List.set_cons_zero, List.set_cons_succ]
    refine wpAnyH_take (i := 11) (oi := { dst := some 17, op := Op.fieldAddr 43 (Operand.tmp 16) 4, type := 0, pos := "owner.go:56", after := #[{ on := 10, ground := Ground.data }, { on := 5, ground := Ground.guard }], guard := some (5, true) }) (v := undef) rfl (by kernel_rfl) (by kernel_rfl) (by kernel_rfl) (fun _ _ _ h => h) (Or.inr ⟨by rfl, rfl⟩) (by assumption) ?_
    simp only [Act.put, List.setIfInBounds_toArray, List.set_cons_zero, List.set_cons_succ]
    refine wpAnyH_take (i := 12) (oi := { dst := some 18, op := Op.load 41 (Operand.tmp 17), type := 41, pos := "owner.go:56", after := #[{ on := 11, ground := Ground.data }, { on := 5, ground := Ground.guard }], guard := some (5, true) }) (v := undef) rfl (by kernel_rfl) (by kernel_rfl) (by kernel_rfl) (fun _ _ _ h => h) (Or.inr ⟨by rfl, rfl⟩) (by assumption) ?_
    simp only [Act.put, List.setIfInBounds_toArray, List.set_cons_zero, List.set_cons_succ]
    refine wpAnyH_take (i := 13) (oi := { dst := some 19, op := Op.call { callee := Callee.value (Operand.func 149), args := #[Operand.tmp 13, Operand.tmp 18, Operand.func 150], argTypes := #[22, 41, 60] }, type := 3, pos := "owner.go:56", after := #[{ on := 7, ground := Ground.data }, { on := 12, ground := Ground.data }, { on := 5, ground := Ground.chain }, { on := 5, ground := Ground.guard }], guard := some (5, true) }) (v := undef) rfl (by kernel_rfl) (by kernel_rfl) (by kernel_rfl) (fun _ _ _ h => h) (Or.inr ⟨by rfl, rfl⟩) (by assumption) ?_
    simp only [Act.put, List.setIfInBounds_toArray, List.set_cons_zero, List.set_cons_succ]
    refine wpAnyH_take (i := 14) (oi := { dst := some 20, op := Op.binOp BinOp.neq 3 (Operand.tmp 12) (Operand.tmp 19) 3, type := 4, pos := "owner.go:56", after := #[{ on := 6, ground := Ground.data }, { on := 13, ground := Ground.data }, { on := 5, ground := Ground.guard }], guard := some (5, true) }) (v := undef) rfl (by kernel_rfl) (by kernel_rfl) (by kernel_rfl) (fun _ _ _ h => h) (Or.inr ⟨by rfl, rfl⟩) (by assumption) ?_
    simp only [Act.put, List.setIfInBounds_toArray, List.set_cons_zero, List.set_cons_succ]
    refine wpAnyH_take (i := 15) (oi := { dst := some 21, op := Op.pick (Operand.tmp 11) (Operand.tmp 20) (Operand.const (Value.bool false)), type := 4, pos := "owner.go:56", after := #[{ on := 5, ground := Ground.data }, { on := 14, ground := Ground.data }], guard := none }) (v := ?_) rfl (by kernel_rfl) (by kernel_rfl) (by kernel_rfl) (fun _ _ _ h => h) (Or.inl ⟨by rfl, ?_⟩) (by assumption) ?_
    rotate_left
    · (intro w hSw; (try dsimp only at hSw); first | (go_simp; done) | (go_simp; with_reducible rfl))
    simp only [Act.put, List.setIfInBounds_toArray, List.set_cons_zero, List.set_cons_succ]
    refine wpAnyH_take (i := 16) (oi := { dst := some 5, op := Op.assign (Operand.tmp 21), type := 4, pos := "owner.go:56", after := #[{ on := 15, ground := Ground.data }, { on := 13, ground := Ground.chain }, { on := 0, ground := Ground.phase }, { on := 1, ground := Ground.phase }, { on := 2, ground := Ground.phase }, { on := 3, ground := Ground.phase }, { on := 4, ground := Ground.phase }, { on := 5, ground := Ground.phase }, { on := 6, ground := Ground.phase }, { on := 7, ground := Ground.phase }, { on := 8, ground := Ground.phase }, { on := 9, ground := Ground.phase }, { on := 10, ground := Ground.phase }, { on := 11, ground := Ground.phase }, { on := 12, ground := Ground.phase }, { on := 13, ground := Ground.phase }, { on := 14, ground := Ground.phase }, { on := 15, ground := Ground.phase }], guard := none }) (v := ?_) rfl (by kernel_rfl) (by kernel_rfl) (by kernel_rfl) (fun _ _ _ h => h) (Or.inl ⟨by rfl, ?_⟩) (by assumption) ?_
    rotate_left
    · (intro w hSw; (try dsimp only at hSw); first | (go_simp; done) | (go_simp; with_reducible rfl))
    simp only [Act.put, List.setIfInBounds_toArray, List.set_cons_zero, List.set_cons_succ]
    refine wpAnyH_done (by kernel_rfl) ?_ _
    go_wp2_with fail
    go_ret
    exact ⟨ret_bool E.out.symm, B1.out⟩
  | true =>
    rw [Bool.true_and] at E
    go_enter Tryz.func147, Tryz.ntmps147
    go_wp2_with fail
    refine wp_region_held_drew (S := fun X : World => X.cell? ⟨Bl, 0, none⟩ = some (.slice (some ⟨b, o, none⟩) l.length c) ∧ X.cell? ⟨b, o + a * 5, none⟩ = some (.string n0) ∧ X.cell? ⟨b, o + a * 5 + 1, none⟩ = some (.string n1) ∧ X.cell? ⟨b, o + a * 5 + 2, none⟩ = some (.slice pa n5 ca) ∧ X.cell? ⟨b, o + a * 5 + 3, none⟩ = some (.int .i64 n3) ∧ X.cell? ⟨b, o + a * 5 + 4, none⟩ = some (.slice pk nk ck)) (by kernel_rfl) ?_ (fun hHeld => ?_)
    · exact ⟨x1, c0, c1, c2, c3, c4⟩
    refine wpAnyH_take (i := 0) (oi := { dst := some 6, op := Op.load 22 (Operand.tmp 2), type := 22, pos := "owner.go:56", after := #[], guard := none }) (v := ?_) rfl (by kernel_rfl) (by kernel_rfl) (by kernel_rfl) (fun _ _ _ h => h) (Or.inl ⟨by rfl, ?_⟩) (by assumption) ?_
    rotate_left
    · (intro w hSw; (try dsimp only at hSw); first | (go_simp; done) | (go_simp; with_reducible rfl))
    simp only [Act.put, List.setIfInBounds_toArray, List.set_cons_zero, List.set_cons_succ]
    refine wpAnyH_take (i := 1) (oi := { dst := some 7, op := Op.move (Operand.tmp 0), type := 3, pos := "owner.go:56", after := #[], guard := none }) (v := ?_) rfl (by kernel_rfl) (by kernel_rfl) (by kernel_rfl) (fun _ _ _ h => h) (Or.inl ⟨by rfl, ?_⟩) (by assumption) ?_
    rotate_left
    · (intro w hSw; (try dsimp only at hSw); first | (go_simp; done) | (go_simp; with_reducible rfl))
    simp only [Act.put, List.setIfInBounds_toArray, List.set_cons_zero, List.set_cons_succ]
    refine wpAnyH_take (i := 2) (oi := { dst := some 8, op := Op.indexAddr 22 (Operand.tmp 6) (Operand.tmp 7), type := 0, pos := "owner.go:56", after := #[{ on := 0, ground := Ground.data }, { on := 1, ground := Ground.data }], guard := none }) (v := ?_) rfl (by kernel_rfl) (by kernel_rfl) (by kernel_rfl) (fun _ _ _ h => h) (Or.inl ⟨by rfl, ?_⟩) (by assumption) ?_
    rotate_left
    · (intro w hSw; (try dsimp only at hSw); first | (go_simp; done) | (go_simp; with_reducible rfl))
    simp only [Act.put, List.setIfInBounds_toArray, List.set_cons_zero, List.set_cons_succ]
    refine wpAnyH_take (i := 3) (oi := { dst := some 9, op := Op.load 43 (Operand.tmp 8), type := 43, pos := "owner.go:56", after := #[{ on := 2, ground := Ground.data }], guard := none }) (v := ?_) rfl (by kernel_rfl) (by kernel_rfl) (by kernel_rfl) (fun _ _ _ h => h) (Or.inl ⟨by rfl, ?_⟩) (by assumption) ?_
    rotate_left
    · (intro w hSw; (try dsimp only at hSw); first | (go_simp; done) | (go_simp; with_reducible rfl))
    simp only [Act.put, List.setIfInBounds_toArray, List.set_cons_zero, List.set_cons_succ]
    refine wpAnyH_ready (rs := [4]) (by kernel_rfl) (by simp) ?_
    refine AllReadyH.cons (i := 4) (o := { dst := some 10, op := Op.call { callee := Callee.value (Operand.func 148), args := #[Operand.tmp 9, Operand.const (Value.string { data := #[100, 105, 115, 97, 98, 108, 101, 100] })], argTypes := #[43, 9] }, type := 4, pos := "owner.go:56", after := #[{ on := 3, ground := Ground.data }], guard := none }) rfl (fun K hK => ?_) AllReadyH.nil
    go_simp
    refine (HN.out _ BD.out).mono ?_
    rintro e w1 ⟨rfl, b1⟩
    have B1 := hide (chain BD.out b1)
    clear b1
    go_wp2_with fail
    refine hK.out _ _ ?_ (fun hHeld => ?_)
    · exact ⟨cell_below x1 B1.out, cell_below c0 B1.out, cell_below c1 B1.out, cell_below c2 B1.out, cell_below c3 B1.out, cell_below c4 B1.out⟩
    clear hK K
    refine wpAnyH_take (i := 5) (oi := { dst := some 11, op := Op.move (Operand.tmp 10), type := 4, pos := "owner.go:56", after := #[{ on := 4, ground := Ground.data }, { on := 4, ground := Ground.chain }], guard := none }) (v := ?_) rfl (by kernel_rfl) (by kernel_rfl) (by kernel_rfl) (fun _ _ _ h => h) (Or.inl ⟨by rfl, ?_⟩) (by assumption) ?_
    rotate_left
    · (intro w hSw; (try dsimp only at hSw); first | (go_simp; done) | (go_simp; with_reducible rfl))
    simp only [Act.put, List.setIfInBounds_toArray, List.set_cons_zero, List.set_cons_succ]
    refine wpAnyH_take (i := 6) (oi := { dst := some 12, op := Op.move (Operand.tmp 1), type := 3, pos := "owner.go:56", after := #[{ on := 5, ground := Ground.guard }], guard := some (5, true) }) (v := ?_) rfl (by kernel_rfl) (by kernel_rfl) (by kernel_rfl) (fun _ _ _ h => h) (Or.inl ⟨by rfl, ?_⟩) (by assumption) ?_
    rotate_left
    · (intro w hSw; (try dsimp only at hSw); first | (go_simp; done) | (go_simp; with_reducible rfl))
    simp only [Act.put, List.setIfInBounds_toArray, List.set_cons_zero, List.set_cons_succ]
    refine wpAnyH_take (i := 7) (oi := { dst := some 13, op := Op.load 22 (Operand.tmp 2), type := 22, pos := "owner.go:56", after := #[{ on := 5, ground := Ground.guard }], guard := some (5, true) }) (v := ?_) rfl (by kernel_rfl) (by kernel_rfl) (by kernel_rfl) (fun _ _ _ h => h) (Or.inl ⟨by rfl, ?_⟩) (by assumption) ?_
    rotate_left
    · (intro w hSw; (try dsimp only at hSw); first | (go_simp; done) | (go_simp; with_reducible rfl))
    simp only [Act.put, List.setIfInBounds_toArray, List.set_cons_zero, List.set_cons_succ]
    refine wpAnyH_take (i := 8) (oi := { dst := some 14, op := Op.load 22 (Operand.tmp 2), type := 22, pos := "owner.go:56", after := #[{ on := 5, ground := Ground.guard }], guard := some (5, true) }) (v := ?_) rfl (by kernel_rfl) (by kernel_rfl) (by kernel_rfl) (fun _ _ _ h => h) (Or.inl ⟨by rfl, ?_⟩) (by assumption) ?_
    rotate_left
    · (intro w hSw; (try dsimp only at hSw); first | (go_simp; done) | (go_simp; with_reducible rfl))
    simp only [Act.put, List.setIfInBounds_toArray, List.set_cons_zero, List.set_cons_succ]
    refine wpAnyH_take (i := 9) (oi := { dst := some 15, op := Op.move (Operand.tmp 0), type := 3, pos := "owner.go:56", after := #[{ on := 5, ground := Ground.guard }], guard := some (5, true) }) (v := ?_) rfl (by kernel_rfl) (by kernel_rfl) (by kernel_rfl) (fun _ _ _ h => h) (Or.inl ⟨by rfl, ?_⟩) (by assumption) ?_
    rotate_left
    · (intro w hSw; (try dsimp only at hSw); first | (go_simp; done) | (go_simp; with_reducible rfl))
    simp only [Act.put, List.setIfInBounds_toArray, List.set_cons_zero, List.set_cons_succ]
    refine wpAnyH_take (i := 10) (oi := { dst := some 16, op := Op.indexAddr 22 (Operand.tmp 14) (Operand.tmp 15), type := 0, pos := "owner.go:56", after := #[{ on := 8, ground := Ground.data }, { on := 9, ground := Ground.data }, { on := 5, ground := Ground.guard }], guard := some (5, true) }) (v := ?_) rfl (by kernel_rfl) (by kernel_rfl) (by kernel_rfl) (fun _ _ _ h => h) (Or.inl ⟨by rfl, ?_⟩) (by assumption) ?_
    rotate_left
    · (intro w hSw; (try dsimp only at hSw); first | (go_simp; done) | (go_simp; with_reducible rfl))
    simp only [Act.put, List.setIfInBounds_toArray, List.set_cons_zero, List.set_cons_succ]
    refine wpAnyH_take (i := 11) (oi := { dst := some 17, op := Op.fieldAddr 43 (Operand.tmp 16) 4, type := 0, pos := "owner.go:56", after := #[{ on := 10, ground := Ground.data }, { on := 5, ground := Ground.guard }], guard := some (5, true) }) (v := ?_) rfl (by kernel_rfl) (by kernel_rfl) (by kernel_rfl) (fun _ _ _ h => h) (Or.inl ⟨by rfl, ?_⟩) (by assumption) ?_
    rotate_left
    · (intro w hSw; (try dsimp only at hSw); first | (go_simp; done) | (go_simp; with_reducible rfl))
    simp only [Act.put, List.setIfInBounds_toArray, List.set_cons_zero, List.set_cons_succ]
    refine wpAnyH_take (i := 12) (oi := { dst := some 18, op := Op.load 41 (Operand.tmp 17), type := 41, pos := "owner.go:56", after := #[{ on := 11, ground := Ground.data }, { on := 5, ground := Ground.guard }], guard := some (5, true) }) (v := ?_) rfl (by kernel_rfl) (by kernel_rfl) (by kernel_rfl) (fun _ _ _ h => h) (Or.inl ⟨by rfl, ?_⟩) (by assumption) ?_
    rotate_left
    · (intro w hSw; (try dsimp only at hSw); first | (go_simp; done) | (go_simp; with_reducible rfl))
    simp only [Act.put, List.setIfInBounds_toArray, List.set_cons_zero, List.set_cons_succ]
    refine wpAnyH_ready (rs := [13]) (by kernel_rfl) (by simp) ?_
    refine AllReadyH.cons (i := 13) (o := { dst := some 19, op := Op.call { callee := Callee.value (Operand.func 149), args := #[Operand.tmp 13, Operand.tmp 18, Operand.func 150], argTypes := #[22, 41, 60] }, type := 3, pos := "owner.go:56", after := #[{ on := 7, ground := Ground.data }, { on := 12, ground := Ground.data }, { on := 5, ground := Ground.chain }, { on := 5, ground := Ground.guard }], guard := some (5, true) }) rfl (fun K hK => ?_) AllReadyH.nil
    go_simp
    refine (HF.out _ B1.out).mono ?_
    rintro e w2 ⟨rfl, b2⟩
    have B2 := hide (chain B1.out b2)
    clear b2
    go_wp2_with fail
    refine hK.out _ _ ?_ (fun hHeld => ?_)
    · exact ⟨cell_below x1 B2.out, cell_below c0 B2.out, cell_below c1 B2.out, cell_below c2 B2.out, cell_below c3 B2.out, cell_below c4 B2.out⟩
    clear hK K
    refine wpAnyH_take (i := 14) (oi := { dst := some 20, op := Op.binOp BinOp.neq 3 (Operand.tmp 12) (Operand.tmp 19) 3, type := 4, pos := "owner.go:56", after := #[{ on := 6, ground := Ground.data }, { on := 13, ground := Ground.data }, { on := 5, ground := Ground.guard }], guard := some (5, true) }) (v := ?_) rfl (by kernel_rfl) (by kernel_rfl) (by kernel_rfl) (fun _ _ _ h => h) (Or.inl ⟨by rfl, ?_⟩) (by assumption) ?_
    rotate_left
    · (intro w hSw; (try dsimp only at hSw); first | (go_simp; done) | (go_simp; with_reducible rfl))
    simp only [Act.put, List.setIfInBounds_toArray, List.set_cons_zero, List.set_cons_succ]
    refine wpAnyH_take (i := 15) (oi := { dst := some 21, op := Op.pick (Operand.tmp 11) (Operand.tmp 20) (Operand.const (Value.bool false)), type := 4, pos := "owner.go:56", after := #[{ on := 5, ground := Ground.data }, { on := 14, ground := Ground.data }], guard := none }) (v := ?_) rfl (by kernel_rfl) (by kernel_rfl) (by kernel_rfl) (fun _ _ _ h => h) (Or.inl ⟨by rfl, ?_⟩) (by assumption) ?_
    rotate_left
    · (intro w hSw; (try dsimp only at hSw); first | (go_simp; done) | (go_simp; with_reducible rfl))
    simp only [Act.put, List.setIfInBounds_toArray, List.set_cons_zero, List.set_cons_succ]
    refine wpAnyH_take (i := 16) (oi := { dst := some 5, op := Op.assign (Operand.tmp 21), type := 4, pos := "owner.go:56", after := #[{ on := 15, ground := Ground.data }, { on := 13, ground := Ground.chain }, { on := 0, ground := Ground.phase }, { on := 1, ground := Ground.phase }, { on := 2, ground := Ground.phase }, { on := 3, ground := Ground.phase }, { on := 4, ground := Ground.phase }, { on := 5, ground := Ground.phase }, { on := 6, ground := Ground.phase }, { on := 7, ground := Ground.phase }, { on := 8, ground := Ground.phase }, { on := 9, ground := Ground.phase }, { on := 10, ground := Ground.phase }, { on := 11, ground := Ground.phase }, { on := 12, ground := Ground.phase }, { on := 13, ground := Ground.phase }, { on := 14, ground := Ground.phase }, { on := 15, ground := Ground.phase }], guard := none }) (v := ?_) rfl (by kernel_rfl) (by kernel_rfl) (by kernel_rfl) (fun _ _ _ h => h) (Or.inl ⟨by rfl, ?_⟩) (by assumption) ?_
    rotate_left
    · (intro w hSw; (try dsimp only at hSw); first | (go_simp; done) | (go_simp; with_reducible rfl))
    simp only [Act.put, List.setIfInBounds_toArray, List.set_cons_zero, List.set_cons_succ]
    refine wpAnyH_done (by kernel_rfl) ?_ _
    go_wp2_with fail
    go_ret
    exact ⟨ret_bool E.out.symm, B2.out⟩
set_option maxHeartbeats 8000000 in
theorem owDisabled_any (v : Value) (l : List Nd) (id : Int) (w : World) (hv : NodesV w v l) (hz : DocSz l) (hT : OwTabs w) :
    Calls Tryz.prog 97 #[v, .int .i64 id] w fun e w' => e = .returned (.bool (disabledP l id)) ∧ Below w.heap.size w w' := by
  have HI := hide (fun W (hb : Below w.heap.size w W) => owIsOf_any v l id _ disK sucanBeDisabled W (hv.below hb) hz (hT.below hb))
  have HRt := hide (fun W (hb : Below w.heap.size w W) => right_any v l W (hv.below hb) hz)
  cases ok : okB l disK id with
  | false =>
    have E : Hid (disabledP l id = false) := by show _ = _; rw [disabled_is, ok]; rfl
    rw [ok] at HI
    clear ok
    obtain ⟨p, c, rfl⟩ := nds_formW hv
    have B0 : Hid (Below w.heap.size w (w.alloc (.cells #[.slice p l.length c] 22))) := (Below.refl _ w).alloc (Nat.le_refl _) _
    have KB := hide (Bk.new w [.slice p l.length c] 22)
    have x1 := KB.out.cell 0 rfl
    clear hv hz hT HRt
    go_enter Tryz.func97, Tryz.ntmps97
    go_wp2_with fail
    refine (HI.out _ B0.out).mono ?_
    rintro e w1 ⟨rfl, b1⟩
    go_wp2_with fail
    go_ret
    exact ⟨ret_bool E.out.symm, chain B0.out b1⟩
  | true =>
    rw [ok] at HI
    cases rb : rightB l with
    | false =>
      have E : Hid (disabledP l id = false) := by show _ = _; rw [disabled_is, rb, Bool.and_false]; rfl
      rw [rb] at HRt
      clear ok rb
      obtain ⟨p, c, rfl⟩ := nds_formW hv
      have B0 : Hid (Below w.heap.size w (w.alloc (.cells #[.slice p l.length c] 22))) := (Below.refl _ w).alloc (Nat.le_refl _) _
      have KB := hide (Bk.new w [.slice p l.length c] 22)
      have x1 := KB.out.cell 0 rfl
      clear hv hz hT
      go_enter Tryz.func97, Tryz.ntmps97
      go_wp2_with fail
      refine (HI.out _ B0.out).mono ?_
      rintro e w1 ⟨rfl, b1⟩
      have x1b := cell_below x1 b1
      go_wp2_with fail
      refine (HRt.out _ (chain B0.out b1)).mono ?_
      rintro e w2 ⟨rfl, b2⟩
      go_wp2_with fail
      go_ret
      exact ⟨ret_bool E.out.symm, chain (chain B0.out b1) b2⟩
    | true =>
      rw [rb] at HRt
      have hR := right_is.1 rb
      obtain ⟨m, rfl, hm⟩ := ok_rng ok
      have nz := hz.nds _ (List.getElem_mem hm)
      have HA := hide (fun Bl W (hb : Below w.heap.size w W) (x : W.cell? ⟨Bl, 0, none⟩ = some v) => owAbove_any v l m _ is29 suisFieldset 147 #[.pointer (some ⟨Bl, 0, none⟩)] entDs1 (hldB l) W (fun a b ha _ W' hb' => owDisabled1_any v l a b Bl W' ((hv.below hb).below hb') hz ((hT.below hb).below hb') ha (cell_below x hb')) (hv.below hb) hz (hT.below hb) hR hm)
      have E : Hid (disabledP l (m : Int) = (hasA l[m] oDis || (abvP l is29 (hldB l) (m : Int) != -1))) := by
        show _ = _
        rw [disabled_is, ok, rb]
        unfold disQ
        rw [Int.toNat_natCast, nd_at hm]; rfl
      obtain ⟨p, c, rfl⟩ := nds_formW hv
      obtain ⟨b, o, va, pk, nk, ck, rfl, N⟩ := node_ofW hv hm
      have HN := hide (fun W (hb : Below w.heap.size w W) => owHas_any l[m] va pk nk ck oDis W (N.at_.below hb) nz.attrs)
      rw [show oDis = ⟨#[100, 105, 115, 97, 98, 108, 101, 100]⟩ from rfl] at HN E
      obtain ⟨pa, ca, rfl, hxx⟩ := N.at_
      clear hxx
      have B0 : Hid (Below w.heap.size w (w.alloc (.cells #[.slice (some ⟨b, o, none⟩) l.length c] 22))) := (Below.refl _ w).alloc (Nat.le_refl _) _
      have KB := hide (Bk.new w [.slice (some ⟨b, o, none⟩) l.length c] 22)
      have x1 := KB.out.cell 0 rfl
      have m0 : (0 : Int) ≤ (m : Int) := by omega
      have m1 : (m : Int) < (l.length : Int) := by omega
      have NN := hide N
      clear hv hz hT ok rb hR nz N
      generalize disabledP l (m : Int) = R at *
      generalize abvP l is29 (hldB l) (m : Int) = z at *
      generalize hasA l[m] ⟨#[100, 105, 115, 97, 98, 108, 101, 100]⟩ = ha at *
      cases ha with
      | true =>
        rw [Bool.true_or] at E
        clear HA
        go_enter Tryz.func97, Tryz.ntmps97
        go_wp2_with fail
        refine (HI.out _ B0.out).mono ?_
        rintro e w1 ⟨rfl, b1⟩
        have x1b := cell_below x1 b1
        go_wp2_with fail
        refine (HRt.out _ (chain B0.out b1)).mono ?_
        rintro e w2 ⟨rfl, b2⟩
        have B2 := hide (chain (chain B0.out b1) b2)
        have x1c := cell_below x1b b2
        have KB2 := hide ((KB.out.below b1).below b2)
        have c0 := (NN.out.below B2.out).name
        have c1 := (NN.out.below B2.out).text
        have c2 := (NN.out.below B2.out).attrs
        have c3 := (NN.out.below B2.out).parent
        have c4 := (NN.out.below B2.out).kids
        go_wp2_with fail
        refine (HN.out _ B2.out).mono ?_
        rintro e w3 ⟨rfl, b3⟩
        go_wp2_with fail
        go_ret
        exact ⟨ret_bool E.out.symm, chain B2.out b3⟩
      | false =>
        rw [Bool.false_or] at E
        go_enter Tryz.func97, Tryz.ntmps97
        go_wp2_with fail
        refine (HI.out _ B0.out).mono ?_
        rintro e w1 ⟨rfl, b1⟩
        have x1b := cell_below x1 b1
        go_wp2_with fail
        refine (HRt.out _ (chain B0.out b1)).mono ?_
        rintro e w2 ⟨rfl, b2⟩
        have B2 := hide (chain (chain B0.out b1) b2)
        have x1c := cell_below x1b b2
        have KB2 := hide ((KB.out.below b1).below b2)
        have c0 := (NN.out.below B2.out).name
        have c1 := (NN.out.below B2.out).text
        have c2 := (NN.out.below B2.out).attrs
        have c3 := (NN.out.below B2.out).parent
        have c4 := (NN.out.below B2.out).kids
        go_wp2_with fail
        refine (HN.out _ B2.out).mono ?_
        rintro e w3 ⟨rfl, b3⟩
        have B3 := hide (chain B2.out b3)
        have x1d := (KB2.out.below b3).cell 0 rfl
        clear b3 B2 c0 c1 c2 c3 c4
        go_wp2_with fail
        refine (HA.out _ _ B3.out x1d).mono ?_
        rintro e w4 ⟨rfl, b4⟩
        go_wp2_with fail
        go_ret
        exact ⟨ret_bool E.out.symm, chain B3.out b4⟩
end Go.Proofs.YtlppocdhfeejkaaGreatDoor

namespace Go.Proofs.YtlppocdhfeejkaaGreatDoor
open Go.RowKit
set_option maxRecDepth 100000
theorem ret_fndV {a b : ByteArray} {c d : Bool} (h : a = b) (g : c = d) : Ending.returned (.tuple #[.string a, .bool c]) = .returned (.tuple #[.string b, .bool d]) := by rw [h, g]
set_option maxHeartbeats 4000000 in
theorem vaFind1_any (s : ByteArray) (B : Nat) (x : ByteArray × ByteArray) (W : World) (hc : W.cell? ⟨B, 0, none⟩ = some (.string s)) :
    Calls Tryz.prog 164 #[.agg #[.string x.1, .string x.2], .pointer (some ⟨B, 0, none⟩)] W fun e w' => e = .returned (.bool (isN s x)) ∧ Below W.heap.size W w' := by
  have hB := World.block_lt_of_cell? _ _ hc
  have hne : B ≠ W.heap.size := by have : B < W.heap.size := hB; omega
  have E := hide (txt_beq x.1 s)
  unfold isN
  generalize x.1 = a at *
  generalize x.2 = b at *
  generalize hR : decide (a = s) = R at *
  clear hR
  go_enter Tryz.func164, Tryz.ntmps164
  go_wp2_with fail
  go_ret
  exact ⟨ret_bool E.out, (Below.refl _ W).alloc (Nat.le_refl _) _⟩
theorem entersVaFind : ∀ args w, (callFunc 164 args).run Tryz.prog w = .ok (.enter 164 args) w := Go.Proofs.enters_of Tryz.func164 (by kernel_rfl) rfl
set_option maxHeartbeats 4000000 in
theorem vaFind_any (n : Nd) (va : Value) (pk : Option Addr) (nk ck : Nat) (s : ByteArray) (w : World) (hv : AttrsV w va n.attrs) (hl : n.attrs.length ≤ 4398046511104) :
    Calls Tryz.prog 114 #[.agg #[.string n.name, .string n.text, va, .int .i64 n.parent, .slice pk nk ck], .string s] w fun e w' => e = .returned (.tuple #[.string (fndS n.attrs s), .bool (hasA n s)]) ∧ Below w.heap.size w w' := by
  have B0 : Hid (Below w.heap.size w ((w.alloc (.cells #[.string n.name, .string n.text, va, .int .i64 n.parent, .slice pk nk ck] 43)).alloc (.cells #[.string s] 9))) := ((Below.refl _ w).alloc (Nat.le_refl _) _).alloc (by simp) _
  have PR : PredA 164 #[.pointer (some ⟨w.heap.size + 1, 0, none⟩)] (isN s) ((w.alloc (.cells #[.string n.name, .string n.text, va, .int .i64 n.parent, .slice pk nk ck] 43)).alloc (.cells #[.string s] 9)) := fun W x hb =>
    vaFind1_any s (w.heap.size + 1) x W ((hb.cell (by simp)).trans (by simp))
  have HC := hide (indexFuncA_any va n.attrs (isN s) 164 #[.pointer (some ⟨w.heap.size + 1, 0, none⟩)] entersVaFind ((w.alloc (.cells #[.string n.name, .string n.text, va, .int .i64 n.parent, .slice pk nk ck] 43)).alloc (.cells #[.string s] 9)) (hv.below B0.out) PR hl)
  have HIT := hide (fun k hk (h : n.attrs.findIdx? (isN s) = some k) => fnd_hit (ax := n.attrs) (n := s) (k := k) hk h)
  have MISS := hide (fun (h : n.attrs.findIdx? (isN s) = none) => fnd_miss (ax := n.attrs) (n := s) h)
  clear PR
  unfold hasA
  obtain ⟨p, c, rfl, hk⟩ := hv
  generalize fndS n.attrs s = R1 at *
  generalize (findA n.attrs s).isSome = R2 at *
  generalize n.name = n0 at *
  generalize n.text = n1 at *
  generalize n.parent = n3 at *
  generalize n.attrs = ax at *
  cases h : ax.findIdx? (isN s) with
  | none =>
    have E := hide (MISS.out h)
    rw [h, show findV none = -1 from rfl] at HC
    clear hk HIT MISS h
    go_enter Tryz.func114, Tryz.ntmps114
    go_wp2_with fail
    refine HC.out.mono ?_
    rintro e w1 ⟨rfl, b1⟩
    go_wp2_with fail
    go_ret2
    exact ⟨ret_fndV E.out.1.symm E.out.2.symm, chain B0.out b1⟩
  | some i =>
    obtain ⟨hi, _, _⟩ := List.findIdx?_eq_some_iff_getElem.1 h
    have E := hide (HIT.out i hi h)
    rw [h, show findV (some i) = (i : Int) from rfl] at HC
    have i0 : (0 : Int) ≤ (i : Int) := by omega
    have i1 : (i : Int) < (ax.length : Int) := by omega
    have i2 : ¬ (i : Int) < 0 := by omega
    obtain ⟨b, o, rfl, hc⟩ : ∃ b o, p = some ⟨b, o, none⟩ ∧ ∀ i (h : i < ax.length), w.cell? ⟨b, o + i * 2, none⟩ = some (.string ax[i].1) ∧ w.cell? ⟨b, o + i * 2 + 1, none⟩ = some (.string ax[i].2) := by
      rcases hk with t | t
      · rw [t] at hi; simp at hi
      · exact t
    have c1 := hide (hc i hi).2
    have CN := hide (show ((w.alloc (.cells #[.string n0, .string n1, .slice (some ⟨b, o, none⟩) ax.length c, .int .i64 n3, .slice pk nk ck] 43)).alloc (.cells #[.string s] 9)).cell? ⟨w.heap.size, 2, none⟩ = some (.slice (some ⟨b, o, none⟩) ax.length c) by simp)
    clear hc HIT MISS h
    generalize ax[i].2 = t at *
    go_enter Tryz.func114, Tryz.ntmps114
    go_wp2_with fail
    refine HC.out.mono ?_
    rintro e w1 ⟨rfl, b1⟩
    have y1 := cell_below (cell_below c1.out B0.out) b1
    have y2 := cell_below CN.out b1
    go_wp2_with fail
    go_ret2
    exact ⟨ret_fndV E.out.1.symm E.out.2.symm, chain B0.out b1⟩
set_option maxHeartbeats 4000000 in
theorem vaHas_any (n : Nd) (va : Value) (pk : Option Addr) (nk ck : Nat) (s : ByteArray) (w : World) (hv : AttrsV w va n.attrs) (hl : n.attrs.length ≤ 4398046511104) :
    Calls Tryz.prog 95 #[.agg #[.string n.name, .string n.text, va, .int .i64 n.parent, .slice pk nk ck], .string s] w fun e w' => e = .returned (.bool (hasA n s)) ∧ Below w.heap.size w w' := by
  have B0 : Hid (Below w.heap.size w (w.alloc (.cells #[.string n.name, .string n.text, va, .int .i64 n.parent, .slice pk nk ck] 43))) := (Below.refl _ w).alloc (Nat.le_refl _) _
  have HC := hide (vaFind_any n va pk nk ck s (w.alloc (.cells #[.string n.name, .string n.text, va, .int .i64 n.parent, .slice pk nk ck] 43)) (hv.below B0.out) hl)
  clear hl
  generalize fndS n.attrs s = R1 at *
  generalize hasA n s = R2 at *
  obtain ⟨p, c, rfl, hxx⟩ := hv
  clear hxx
  generalize n.name = n0 at *
  generalize n.text = n1 at *
  generalize n.parent = n3 at *
  generalize n.attrs.length = n5 at *
  go_enter Tryz.func95, Tryz.ntmps95
  go_wp2_with fail
  refine HC.out.mono ?_
  rintro e w1 ⟨rfl, b1⟩
  go_wp2_with fail
  go_ret
  exact ⟨rfl, chain B0.out b1⟩
set_option maxHeartbeats 8000000 in
theorem vaSubmits_any (v : Value) (l : List Nd) (id : Int) (w : World) (hv : NodesV w v l) (hz : DocSz l) (hT : KTabs w) :
    Calls Tryz.prog 22 #[v, .int .i64 id] w fun e w' => e = .returned (.bool (okB l subB id)) ∧ Below w.heap.size w w' := by
  obtain ⟨p, c, rfl⟩ := nds_formW hv
  by_cases h0 : 0 ≤ id
  · by_cases h1 : id < (l.length : Int)
    · obtain ⟨m, rfl⟩ : ∃ m : Nat, id = (m : Int) := ⟨id.toNat, by omega⟩
      have hm : m < l.length := by omega
      obtain ⟨b, o, va, pk, nk, ck, rfl, N⟩ := node_ofW hv hm
      have nz := hz.nds _ (List.getElem_mem hm)
      have HO := hide (fun W (hb : Below w.heap.size w W) => of_any l[m] va (.slice pk nk ck) W (hT.below hb) (N.at_.below hb) nz.attrs nz.tx)
      have EK : Hid (kOf l[m].name (tyOf l[m].attrs) = kI l (m : Int)) := by show _ = _; unfold kI kN; rw [Int.toNat_natCast, nd_at hm]
      rw [EK.out] at HO
      have E : Hid (okB l subB (m : Int) = subB (kI l (m : Int))) := ok_in ⟨h0, h1⟩
      have HS := hide (fun W => submits_any (kI l (m : Int)) W)
      obtain ⟨pa, ca, rfl, hxx⟩ := N.at_
      clear hxx
      have c0 := hide N.name
      have c1 := hide N.text
      have c2 := hide N.attrs
      have c3 := hide N.parent
      have c4 := hide N.kids
      have m0 : (0 : Int) ≤ (m : Int) := by omega
      have m1 : (m : Int) < (l.length : Int) := by omega
      clear N hv hz hT nz EK
      generalize subB (kI l (m : Int)) = R at *
      generalize kI l (m : Int) = kk at *
      generalize l[m].name = n0 at *
      generalize l[m].text = n1 at *
      generalize l[m].parent = n3 at *
      generalize l[m].attrs.length = n5 at *
      have B0 : Hid (Below w.heap.size w w) := Below.refl _ _
      have u0 := cell_below c0.out B0.out
      have u1 := cell_below c1.out B0.out
      have u2 := cell_below c2.out B0.out
      have u3 := cell_below c3.out B0.out
      have u4 := cell_below c4.out B0.out
      go_enter Tryz.func22, Tryz.ntmps22
      go_wp2_with fail
      refine (HO.out _ B0.out).mono ?_
      rintro e w1 ⟨rfl, b1⟩
      go_wp2_with fail
      refine (HS.out _).mono ?_
      rintro e w2 ⟨rfl, hu⟩
      obtain rfl : w1 = w2 := hu.symm
      go_wp2_with fail
      go_ret
      exact ⟨ret_bool E.out.symm, b1⟩
    · have E := hide (ok_out (l := l) (q := subB) (id := id) (fun t => h1 t.2))
      have d1 : decide (id < (l.length : Int)) = false := decide_eq_false h1
      clear hv hz hT
      go_enter Tryz.func22, Tryz.ntmps22
      go_wp2_with fail
      go_ret
      exact ⟨ret_bool E.out.symm, Below.refl _ _⟩
  · have E := hide (ok_out (l := l) (q := subB) (id := id) (fun t => h0 t.1))
    have d0 : decide (0 ≤ id) = false := decide_eq_false h0
    clear hv hz hT
    go_enter Tryz.func22, Tryz.ntmps22
    go_wp2_with fail
    go_ret
    exact ⟨ret_bool E.out.symm, Below.refl _ _⟩
set_option maxHeartbeats 8000000 in
theorem vaIsWithin_any (v : Value) (l : List Nd) (m0 : Nat) (kind : Int) (w : World) (hv : NodesV w v l) (hz : DocSz l) (hT : KTabs w) (hR : Right l) (h0 : m0 < l.length) :
    Calls Tryz.prog 53 #[v, .int .i64 (m0 : Int), .int .i64 kind] w fun e w' => e = .returned (.bool (winB l kind (m0 : Int))) ∧ Below w.heap.size w w' := by
  have HRt := hide hR
  have HC := hide (fun m hm W (hb : Below w.heap.size w W) => by
    obtain ⟨p, c, e⟩ := nds_formW hv
    have := hv.below hb
    rw [e] at this
    exact (⟨p, c, e, node_ofW (m := m) this hm⟩ : ∃ p c, v = .slice p l.length c ∧ ∃ b o va pk nk ck, p = some ⟨b, o, none⟩ ∧ NodeAt W b (o + m * 5) l[m] va (.slice pk nk ck)))
  have HK := hide (fun m (hm : m < l.length) va vk W (hb : Below w.heap.size w W) (ha : AttrsV W va l[m].attrs) => of_any l[m] va vk W (hT.below hb) ha (hz.nds _ (List.getElem_mem hm)).attrs (hz.nds _ (List.getElem_mem hm)).tx)
  obtain ⟨p, c, rfl⟩ := nds_formW hv
  obtain ⟨RES, hRES⟩ : ∃ R : Bool, winB l kind (m0 : Int) = R := ⟨_, rfl⟩
  rw [hRES]
  have EL : Hid ((anc l (parI l (m0 : Int))).any (fun x => kI l x == kind) = RES) := hRES
  obtain ⟨p', c', e', b, o, va, pk, nk, ck, rfl, N0⟩ := HC.out m0 h0 w (Below.refl _ _)
  cases e'
  have a3 := N0.parent
  have m1 : (m0 : Int) < (l.length : Int) := by omega
  have m0' : (0 : Int) ≤ (m0 : Int) := by omega
  have P0 : Hid (parI l (m0 : Int) = l[m0].parent) := parI_nat h0
  have pb0 := HRt.out.par m0 h0
  rw [nd_at h0] at pb0
  clear hRES hv hz hT hR N0
  generalize l[m0].parent = pr0 at *
  go_enter Tryz.func53, Tryz.ntmps53
  go_wp2_with fail
  go_loopw [7] (fun av wr => ∃ k : Int, (k = -1 ∨ (0 ≤ k ∧ k < (l.length : Int))) ∧ av = .int .i64 k ∧ Hid (RES = (anc l k).any (fun x => kI l x == kind)) ∧ Hid (Below w.heap.size w wr)) (fun av _ => hgt l (intOf av))
  case atStart => exact ⟨pr0, by omega, rfl, by show _ = _; rw [← P0.out]; exact EL.out.symm, Below.refl _ _⟩
  case round =>
    rename World => wr
    obtain ⟨k, hk, rfl, HE, BW⟩ := hrel
    clear EL P0 pb0 a3
    by_cases q1 : k = -1
    · have E1 : Hid (RES = false) := by show _ = _; rw [HE.out, anc_neg (by omega)]; rfl
      clear HK HC HE HRt hk
      subst q1
      go_wp2_with fail
      go_ret
      exact ⟨ret_bool E1.out.symm, BW.out⟩
    · obtain ⟨n, rfl⟩ : ∃ n : Nat, k = (n : Int) := ⟨k.toNat, by omega⟩
      have hn : n < l.length := by omega
      have f1 : ((n : Int) != -1) = true := by rw [bne_iff_ne]; omega
      have f2 : ((n : Int) == -1) = false := by rw [beq_eq_false_iff_ne]; omega
      have he := HRt.out.ende (show (n : Int) < (l.length : Int) by omega)
      have MS : Hid (hgt l (parI l (n : Int)) < hgt l (n : Int)) := by show _ < _; have := hgt_up he (by omega); omega
      have E0 : Hid (RES = ((kI l (n : Int) == kind) || (anc l (parI l (n : Int))).any (fun x => kI l x == kind))) := by show _ = _; rw [HE.out, anc_up he (by omega)]; rfl
      have pb := HRt.out.par n hn
      rw [nd_at hn] at pb
      obtain ⟨p2, c2, e2, b2, o2, va2, pk2, nk2, ck2, ep, N2⟩ := HC.out n hn wr BW.out
      cases e2
      cases ep
      have HO := hide (HK.out n hn va2 (.slice pk2 nk2 ck2) wr BW.out N2.at_)
      have EK : Hid (kOf l[n].name (tyOf l[n].attrs) = kI l (n : Int)) := by show _ = _; unfold kI kN; rw [Int.toNat_natCast, nd_at hn]
      rw [EK.out] at HO
      have P2 : Hid (parI l (n : Int) = l[n].parent) := parI_nat hn
      rw [P2.out] at MS E0
      have NN := hide N2
      obtain ⟨pa2, ca2, rfl, hxx⟩ := N2.at_
      clear hxx
      have c0 := N2.name
      have c1 := N2.text
      have c2 := N2.attrs
      have c3 := N2.parent
      have c4 := N2.kids
      have k0 : (0 : Int) ≤ (n : Int) := by omega
      have k1 : (n : Int) < (l.length : Int) := by omega
      clear HK HC HE HRt hk he P2 EK N2 q1
      cases hb : (kI l (n : Int) == kind) with
      | true =>
        rw [hb, Bool.true_or] at E0
        have hq : kI l (n : Int) = kind := by simpa using hb
        generalize kI l (n : Int) = kk at *
        generalize l[n].name = n0 at *
        generalize l[n].text = n1 at *
        generalize l[n].attrs.length = n5 at *
        clear NN MS pb
        generalize l[n].parent = n3 at *
        subst hq
        go_wp2_with fail
        refine HO.out.mono ?_
        rintro e w1 ⟨rfl, b1⟩
        go_wp2_with fail
        go_ret
        exact ⟨ret_bool E0.out.symm, chain BW.out b1⟩
      | false =>
        rw [hb, Bool.false_or] at E0
        have hq : ¬ kI l (n : Int) = kind := by simpa using hb
        have NP := hide (fun W (hb : Below wr.heap.size wr W) => (NN.out.below hb).parent)
        generalize kI l (n : Int) = kk at *
        generalize l[n].name = n0 at *
        generalize l[n].text = n1 at *
        generalize l[n].attrs.length = n5 at *
        clear NN
        generalize l[n].parent = n3 at *
        go_wp2_with fail
        refine HO.out.mono ?_
        rintro e w1 ⟨rfl, b1⟩
        have a5 := NP.out _ b1
        go_wp2_with fail
        go_round
        case rel => exact ⟨n3, by omega, rfl, E0, chain BW.out b1⟩
        case measure => exact MS.out
set_option maxHeartbeats 8000000 in
theorem vaCanBe_any (v : Value) (l : List Nd) (m : Nat) (w : World) (hv : NodesV w v l) (hz : DocSz l) (hT : KTabs w) (hm : m < l.length) :
    Calls Tryz.prog 52 #[v, .int .i64 (m : Int)] w fun e w' => e = .returned (.bool (!fixB l (m : Int))) ∧ Below w.heap.size w w' := by
  have HD := hide (fun W (hb : Below w.heap.size w W) => owDisabled_any v l (m : Int) W (hv.below hb) hz (hT.below hb))
  obtain ⟨p, c, rfl⟩ := nds_formW hv
  obtain ⟨b, o, va, pk, nk, ck, rfl, N⟩ := node_ofW hv hm
  have nz := hz.nds _ (List.getElem_mem hm)
  have HO := hide (fun W (hb : Below w.heap.size w W) => of_any l[m] va (.slice pk nk ck) W (hT.below hb) (N.at_.below hb) nz.attrs nz.tx)
  have EK : Hid (kOf l[m].name (tyOf l[m].attrs) = kI l (m : Int)) := by show _ = _; unfold kI kN; rw [Int.toNat_natCast, nd_at hm]
  rw [EK.out] at HO
  have HA := hide (fun W => applies_any (kI l (m : Int)) ⟨#[114, 101, 97, 100, 111, 110, 108, 121]⟩ W)
  have HH := hide (fun W (hb : Below w.heap.size w W) => vaHas_any l[m] va pk nk ck ⟨#[114, 101, 97, 100, 111, 110, 108, 121]⟩ W (N.at_.below hb) nz.attrs)
  have E : Hid ((!fixB l (m : Int)) = !((appB (kI l (m : Int)) ⟨#[114, 101, 97, 100, 111, 110, 108, 121]⟩ && hasA l[m] ⟨#[114, 101, 97, 100, 111, 110, 108, 121]⟩) || disabledP l (m : Int))) := by show _ = _; unfold fixB oRead; rw [Int.toNat_natCast, nd_at hm]
  obtain ⟨pa, ca, rfl, hxx⟩ := N.at_
  clear hxx
  have c0 := hide N.name
  have c1 := hide N.text
  have c2 := hide N.attrs
  have c3 := hide N.parent
  have c4 := hide N.kids
  have m0 : (0 : Int) ≤ (m : Int) := by omega
  have m1 : (m : Int) < (l.length : Int) := by omega
  clear N hv hz hT nz EK
  generalize (!fixB l (m : Int)) = RES at *
  generalize disabledP l (m : Int) = dis at *
  generalize appB (kI l (m : Int)) ⟨#[114, 101, 97, 100, 111, 110, 108, 121]⟩ = ap at *
  generalize hasA l[m] ⟨#[114, 101, 97, 100, 111, 110, 108, 121]⟩ = ha at *
  generalize kI l (m : Int) = kk at *
  generalize l[m].name = n0 at *
  generalize l[m].text = n1 at *
  generalize l[m].parent = n3 at *
  generalize l[m].attrs.length = n5 at *
  have B0 : Hid (Below w.heap.size w w) := Below.refl _ _
  have u0 := cell_below c0.out B0.out
  have u1 := cell_below c1.out B0.out
  have u2 := cell_below c2.out B0.out
  have u3 := cell_below c3.out B0.out
  have u4 := cell_below c4.out B0.out
  cases ha
  · rw [Bool.and_false, Bool.false_or] at E
    clear HO HA
    go_enter Tryz.func52, Tryz.ntmps52
    go_wp2_with fail
    refine (HH.out _ B0.out).mono ?_
    rintro e w1 ⟨rfl, b1⟩
    have B1 := hide (chain B0.out b1)
    clear b1 B0 u0 u1 u2 u3 u4
    go_wp2_with fail
    refine (HD.out _ B1.out).mono ?_
    rintro e w3 ⟨rfl, b3⟩
    go_wp2_with fail
    go_ret
    exact ⟨ret_bool E.out.symm, chain B1.out b3⟩
  · rw [Bool.and_true] at E
    cases ap
    · rw [Bool.false_or] at E
      go_enter Tryz.func52, Tryz.ntmps52
      go_wp2_with fail
      refine (HH.out _ B0.out).mono ?_
      rintro e w1 ⟨rfl, b1⟩
      have B1 := hide (chain B0.out b1)
      clear b1 B0 u0 u1 u2 u3 u4
      have u0 := cell_below c0.out B1.out
      have u1 := cell_below c1.out B1.out
      have u2 := cell_below c2.out B1.out
      have u3 := cell_below c3.out B1.out
      have u4 := cell_below c4.out B1.out
      go_wp2_with fail
      refine (HO.out _ B1.out).mono ?_
      rintro e w2 ⟨rfl, b2⟩
      have B2 := hide (chain B1.out b2)
      clear b2 B1 u0 u1 u2 u3 u4
      go_wp2_with fail
      refine (HA.out _).mono ?_
      rintro e u ⟨rfl, hu⟩
      obtain rfl : w2 = u := hu.symm
      go_wp2_with fail
      refine (HD.out _ B2.out).mono ?_
      rintro e w3 ⟨rfl, b3⟩
      go_wp2_with fail
      go_ret
      exact ⟨ret_bool E.out.symm, chain B2.out b3⟩
    · rw [Bool.true_or] at E
      clear HD
      go_enter Tryz.func52, Tryz.ntmps52
      go_wp2_with fail
      refine (HH.out _ B0.out).mono ?_
      rintro e w1 ⟨rfl, b1⟩
      have B1 := hide (chain B0.out b1)
      clear b1 B0 u0 u1 u2 u3 u4
      have u0 := cell_below c0.out B1.out
      have u1 := cell_below c1.out B1.out
      have u2 := cell_below c2.out B1.out
      have u3 := cell_below c3.out B1.out
      have u4 := cell_below c4.out B1.out
      go_wp2_with fail
      refine (HO.out _ B1.out).mono ?_
      rintro e w2 ⟨rfl, b2⟩
      have B2 := hide (chain B1.out b2)
      clear b2 B1 u0 u1 u2 u3 u4
      go_wp2_with fail
      refine (HA.out _).mono ?_
      rintro e u ⟨rfl, hu⟩
      obtain rfl : w2 = u := hu.symm
      go_wp2_with fail
      go_ret
      exact ⟨ret_bool E.out.symm, B2.out⟩
set_option maxHeartbeats 8000000 in
theorem vaIsBarred_any (v : Value) (l : List Nd) (m : Nat) (w : World) (hv : NodesV w v l) (hz : DocSz l) (hT : KTabs w) (hR : Right l) (hm : m < l.length) :
    Calls Tryz.prog 26 #[v, .int .i64 (m : Int)] w fun e w' => e = .returned (.bool (isBar l (m : Int))) ∧ Below w.heap.size w w' := by
  have HC := hide (fun W (hb : Below w.heap.size w W) => vaCanBe_any v l m W (hv.below hb) hz (hT.below hb) hm)
  have HW := hide (fun W (hb : Below w.heap.size w W) => vaIsWithin_any v l m 35 W (hv.below hb) hz (hT.below hb) hR hm)
  obtain ⟨p, c, rfl⟩ := nds_formW hv
  obtain ⟨b, o, va, pk, nk, ck, rfl, N⟩ := node_ofW hv hm
  have nz := hz.nds _ (List.getElem_mem hm)
  have HO := hide (fun W (hb : Below w.heap.size w W) => of_any l[m] va (.slice pk nk ck) W (hT.below hb) (N.at_.below hb) nz.attrs nz.tx)
  have EK : Hid (kOf l[m].name (tyOf l[m].attrs) = kI l (m : Int)) := by show _ = _; unfold kI kN; rw [Int.toNat_natCast, nd_at hm]
  rw [EK.out] at HO
  have E : Hid (isBar l (m : Int) = (((kI l (m : Int) == 1) || ((kI l (m : Int) == 21) || ((kI l (m : Int) == 22) || ((kI l (m : Int) == 26) || (kI l (m : Int) == 27))))) || (fixB l (m : Int) || winB l 35 (m : Int)))) := (rfl : _ = _)
  obtain ⟨pa, ca, rfl, hxx⟩ := N.at_
  clear hxx
  have c0 := hide N.name
  have c1 := hide N.text
  have c2 := hide N.attrs
  have c3 := hide N.parent
  have c4 := hide N.kids
  have m0 : (0 : Int) ≤ (m : Int) := by omega
  have m1 : (m : Int) < (l.length : Int) := by omega
  clear N hv hz hT nz EK hR
  generalize isBar l (m : Int) = RES at *
  generalize fixB l (m : Int) = fx at *
  generalize winB l 35 (m : Int) = wn at *
  generalize kI l (m : Int) = kk at *
  generalize l[m].name = n0 at *
  generalize l[m].text = n1 at *
  generalize l[m].parent = n3 at *
  generalize l[m].attrs.length = n5 at *
  have B0 : Hid (Below w.heap.size w w) := Below.refl _ _
  have u0 := cell_below c0.out B0.out
  have u1 := cell_below c1.out B0.out
  have u2 := cell_below c2.out B0.out
  have u3 := cell_below c3.out B0.out
  have u4 := cell_below c4.out B0.out
  by_cases hk : kk = 1 ∨ kk = 21 ∨ kk = 22 ∨ kk = 26 ∨ kk = 27
  · have E1 : Hid (RES = true) := by show _ = _; rw [E.out]; rcases hk with rfl | rfl | rfl | rfl | rfl <;> rfl
    clear E HC HW
    rcases hk with rfl | rfl | rfl | rfl | rfl
    all_goals
      go_enter Tryz.func26, Tryz.ntmps26
      go_wp2_with fail
      refine (HO.out _ B0.out).mono ?_
      rintro e w1 ⟨rfl, b1⟩
      go_wp2_with fail
      go_ret
      exact ⟨ret_bool E1.out.symm, b1⟩
  · have q1 : (kk == 1) = false := by rw [beq_eq_false_iff_ne]; omega
    have q2 : (kk == 21) = false := by rw [beq_eq_false_iff_ne]; omega
    have q3 : (kk == 22) = false := by rw [beq_eq_false_iff_ne]; omega
    have q4 : (kk == 26) = false := by rw [beq_eq_false_iff_ne]; omega
    have q5 : (kk == 27) = false := by rw [beq_eq_false_iff_ne]; omega
    have E1 : Hid (RES = (fx || wn)) := by show _ = _; rw [E.out, q1, q2, q3, q4, q5]; rfl
    have z1 : ¬ kk = 1 := by omega
    have z2 : ¬ kk = 21 := by omega
    have z3 : ¬ kk = 22 := by omega
    have z4 : ¬ kk = 26 := by omega
    have z5 : ¬ kk = 27 := by omega
    clear E hk
    go_enter Tryz.func26, Tryz.ntmps26
    go_wp2_with fail
    refine (HO.out _ B0.out).mono ?_
    rintro e w1 ⟨rfl, b1⟩
    go_wp2_with fail
    refine (HC.out _ b1).mono ?_
    rintro e w2 ⟨rfl, b2⟩
    have B2 := hide (chain b1 b2)
    clear b2 u0 u1 u2 u3 u4
    cases fx
    · rw [Bool.false_or] at E1
      go_wp2_with fail
      refine (HW.out _ B2.out).mono ?_
      rintro e w3 ⟨rfl, b3⟩
      go_wp2_with fail
      go_ret
      exact ⟨ret_bool E1.out.symm, chain B2.out b3⟩
    · rw [Bool.true_or] at E1
      go_wp2_with fail
      go_ret
      exact ⟨ret_bool E1.out.symm, B2.out⟩
set_option maxHeartbeats 8000000 in
theorem vaBarred_any (v : Value) (l : List Nd) (id : Int) (w : World) (hv : NodesV w v l) (hz : DocSz l) (hT : KTabs w) :
    Calls Tryz.prog 13 #[v, .int .i64 id] w fun e w' => e = .returned (.bool (barP l id)) ∧ Below w.heap.size w w' := by
  have HS := hide (fun W (hb : Below w.heap.size w W) => vaSubmits_any v l id W (hv.below hb) hz (hT.below hb))
  have HRt := hide (fun W (hb : Below w.heap.size w W) => right_any v l W (hv.below hb) hz)
  have E : Hid (barP l id = (!okB l subB id || (!rightB l || isBar l id))) := barP_is
  have HI := hide (fun (m : Nat) (hm : m < l.length) (hR : Right l) W (hb : Below w.heap.size w W) => vaIsBarred_any v l m W (hv.below hb) hz (hT.below hb) hR hm)
  obtain ⟨p, c, rfl⟩ := nds_formW hv
  clear hv hz hT
  generalize barP l id = RES at *
  cases hs : okB l subB id with
  | false =>
    rw [hs] at HS E
    clear HRt HI hs
    go_enter Tryz.func13, Tryz.ntmps13
    go_wp2_with fail
    refine (HS.out _ (Below.refl _ _)).mono ?_
    rintro e w1 ⟨rfl, b1⟩
    go_wp2_with fail
    go_ret
    exact ⟨ret_bool E.out.symm, b1⟩
  | true =>
    obtain ⟨m, em, hm⟩ := ok_rng hs
    rw [hs] at HS E
    cases hr : rightB l with
    | false =>
      rw [hr] at HRt E
      clear HI hr hs em hm
      go_enter Tryz.func13, Tryz.ntmps13
      go_wp2_with fail
      refine (HS.out _ (Below.refl _ _)).mono ?_
      rintro e w1 ⟨rfl, b1⟩
      go_wp2_with fail
      refine (HRt.out _ b1).mono ?_
      rintro e w2 ⟨rfl, b2⟩
      go_wp2_with fail
      go_ret
      exact ⟨ret_bool E.out.symm, chain b1 b2⟩
    | true =>
      have HJ := hide (HI.out m hm (right_is.1 hr))
      rw [hr] at HRt E
      subst em
      clear HI hr hs hm
      generalize isBar l (m : Int) = ib at *
      go_enter Tryz.func13, Tryz.ntmps13
      go_wp2_with fail
      refine (HS.out _ (Below.refl _ _)).mono ?_
      rintro e w1 ⟨rfl, b1⟩
      go_wp2_with fail
      refine (HRt.out _ b1).mono ?_
      rintro e w2 ⟨rfl, b2⟩
      have B2 := hide (chain b1 b2)
      go_wp2_with fail
      refine (HJ.out _ B2.out).mono ?_
      rintro e w3 ⟨rfl, b3⟩
      go_wp2_with fail
      go_ret
      exact ⟨ret_bool E.out.symm, chain B2.out b3⟩

end Go.Proofs.YtlppocdhfeejkaaGreatDoor
