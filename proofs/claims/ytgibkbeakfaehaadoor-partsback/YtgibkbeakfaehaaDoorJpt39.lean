/- The document's Told of layer 20. -/
import Derived.Test.YtgibkbeakfaehaaDoorJpt18
import Derived.Test.YtgibkbeakfaehaaDoorJpt23
import Derived.Test.YtgibkbeakfaehaaDoorJpt24
import Derived.Test.YtgibkbeakfaehaaDoorJpt28
import Derived.Test.YtgibkbeakfaehaaDoorJpt30
import Derived.Test.YtgibkbeakfaehaaDoorJpt32

namespace Go.Proofs.YtgibkbeakfaehaaDoor
open Go.RowKit
set_option maxRecDepth 100000
theorem told_take (l : List En) {k : Nat} (h : k < l.length) : (l.take (k + 1)).map toldE = (l.take k).map toldE ++ [toldE l[k]] := by
  rw [List.take_succ_eq_append_getElem h, List.map_append]; rfl
theorem told_len (l : List En) (k : Nat) (h : k ≤ l.length) : ((l.take k).map toldE).length = k := by rw [List.length_map, List.length_take]; omega
set_option maxHeartbeats 8000000 in
theorem refTold_any (n : Nat) (v : Value) (l : List En) (w : World) (hv : FilesV w v l) (hn : n ≤ 1000000) (hl : EnsOK n l) :
    Calls Tryd.prog 20 #[v] w fun e w' => ∃ v', e = .returned v' ∧ OwnR w.heap.size w' v' (l.map toldE) ∧ Below w.heap.size w w' := by
  have FV := hide hv
  have HZ := hide (ens_z hl hn)
  have l200 := hl.len
  obtain ⟨p, c, rfl⟩ := files_formP hv
  clear hv hl
  go_enter Tryd.func20, Tryd.ntmps20
  go_wp2_with fail
  go_loopw [3, 4] (fun ov iv wr => ∃ (k : Nat) (q : Option Addr) (cp : Nat), k ≤ l.length ∧ iv = .int .i64 k ∧ ov = .slice q k cp ∧ Hid (OwnR w.heap.size wr (.slice q k cp) ((l.take k).map toldE)) ∧ Hid (Below w.heap.size w wr)) (fun _ iv _ => l.length - (intOf iv).toNat)
  case atStart => exact ⟨0, none, 0, Nat.zero_le _, rfl, rfl, OwnR.nil _ _, Below.refl _ _⟩
  case round =>
    rename World => wr
    obtain ⟨k, q, cp, hk, rfl, rfl, OW, BW⟩ := hrel
    by_cases g : k < l.length
    · have k1 : (k : Int) < (l.length : Int) := by omega
      have k0 : (0 : Int) ≤ (k : Int) := by omega
      obtain ⟨b, o, rfl, EA0⟩ := en_of (FV.out.below BW.out) g
      have EA := hide EA0
      obtain ⟨z0, z1, z2, z3⟩ := HZ.out _ (List.getElem_mem g)
      have TK := hide (told_take l g)
      have PL := hide (told_len l k hk)
      have HN := hide (fun W => refName_any_PrtR1 l[k].name W (by omega))
      have ns := name_size (s := l[k].name)
      have HU := hide (fun W => refUnname_any (txt (nameL (bL l[k].name))) W (by omega))
      have HP := hide (fun W => refPairs_any l[k].val W (by omega))
      have HN2 := hide (fun W => refName_any_PrtR1 l[k].fname W (by omega))
      have ns2 := name_size (s := l[k].fname)
      have HU2 := hide (fun W => refUnname_any (txt (nameL (bL l[k].fname))) W (by omega))
      have HT := hide (fun W => refTypeP_any l[k].typ W (by omega))
      have ET : Hid (toldE l[k] = ⟨txt (unL (bL (txt (nameL (bL l[k].name))))), if l[k].file = true then l[k].val else pairsS l[k].val, l[k].file, if l[k].file = true then txt (unL (bL (txt (nameL (bL l[k].fname))))) else ⟨#[]⟩, if l[k].file = true then txt (typeL (bL l[k].typ)) else ⟨#[]⟩⟩) := by
        show _ = _
        unfold toldE valP
        cases l[k].file <;> rfl
      have a0 := EA.out.c0
      have a1 := EA.out.c1
      clear EA0 z0 z1 z2 z3 ns ns2 HZ
      generalize toldE l[k] = te at *
      generalize txt (unL (bL (txt (nameL (bL l[k].name))))) = u0 at *
      generalize txt (nameL (bL l[k].name)) = m0 at *
      generalize txt (unL (bL (txt (nameL (bL l[k].fname))))) = u2 at *
      generalize txt (nameL (bL l[k].fname)) = m2 at *
      generalize txt (typeL (bL l[k].typ)) = u4 at *
      generalize pairsS l[k].val = p1 at *
      generalize hek : l[k] = ek at *
      clear hek
      have BC : Hid (Below wr.heap.size wr wr.drew) := ⟨rfl, rfl, rfl, Nat.le_refl _, fun _ _ => rfl⟩
      go_upto_region 5 with fail
      go_cut [5] (fun sv wx => ∃ E : Nat, sv = .pointer (some ⟨E, 0, none⟩) ∧ Hid (Bk wx E [.string u0, .string p1, .bool false, .string ⟨#[]⟩, .string ⟨#[]⟩] 44) ∧ Hid (wr.heap.size ≤ E) ∧ Hid (Below wr.heap.size wr wx))
      case first =>
        refine wp_region_held_drew (S := fun X : World => X.cell? ⟨b, o + k * 5, none⟩ = some (.string ek.name) ∧ X.cell? ⟨b, o + k * 5 + 1, none⟩ = some (.string ek.val)) (by kernel_rfl) ?_ (fun hHeld => ?_)
        · exact ⟨a0, a1⟩
        refine wpAnyH_take (i := 0) (oi := { dst := some 12, op := Op.move (Operand.tmp 0), type := 22, pos := "ref.go:231", after := #[], guard := none }) (v := ?_) rfl (by kernel_rfl) (by kernel_rfl) (by kernel_rfl) (fun _ _ _ h => h) (Or.inl ⟨by rfl, ?_⟩) (by assumption) ?_
        rotate_left
        · (intro w hSw; (try dsimp only at hSw); first | (go_simp; done) | (go_simp; with_reducible rfl))
        simp only [Act.put, List.setIfInBounds_toArray, List.set_cons_zero, List.set_cons_succ]
        refine wpAnyH_take (i := 1) (oi := { dst := some 13, op := Op.move (Operand.tmp 4), type := 3, pos := "ref.go:231", after := #[], guard := none }) (v := ?_) rfl (by kernel_rfl) (by kernel_rfl) (by kernel_rfl) (fun _ _ _ h => h) (Or.inl ⟨by rfl, ?_⟩) (by assumption) ?_
        rotate_left
        · (intro w hSw; (try dsimp only at hSw); first | (go_simp; done) | (go_simp; with_reducible rfl))
        simp only [Act.put, List.setIfInBounds_toArray, List.set_cons_zero, List.set_cons_succ]
        refine wpAnyH_take (i := 2) (oi := { dst := some 14, op := Op.indexAddr 22 (Operand.tmp 12) (Operand.tmp 13), type := 0, pos := "ref.go:231", after := #[{ on := 0, ground := Ground.data }, { on := 1, ground := Ground.data }], guard := none }) (v := ?_) rfl (by kernel_rfl) (by kernel_rfl) (by kernel_rfl) (fun _ _ _ h => h) (Or.inl ⟨by rfl, ?_⟩) (by assumption) ?_
        rotate_left
        · (intro w hSw; (try dsimp only at hSw); first | (go_simp; done) | (go_simp; with_reducible rfl))
        simp only [Act.put, List.setIfInBounds_toArray, List.set_cons_zero, List.set_cons_succ]
        refine wpAnyH_take (i := 3) (oi := { dst := some 15, op := Op.fieldAddr 44 (Operand.tmp 14) 0, type := 0, pos := "ref.go:231", after := #[{ on := 2, ground := Ground.data }], guard := none }) (v := ?_) rfl (by kernel_rfl) (by kernel_rfl) (by kernel_rfl) (fun _ _ _ h => h) (Or.inl ⟨by rfl, ?_⟩) (by assumption) ?_
        rotate_left
        · (intro w hSw; (try dsimp only at hSw); first | (go_simp; done) | (go_simp; with_reducible rfl))
        simp only [Act.put, List.setIfInBounds_toArray, List.set_cons_zero, List.set_cons_succ]
        refine wpAnyH_take (i := 4) (oi := { dst := some 16, op := Op.load 9 (Operand.tmp 15), type := 9, pos := "ref.go:231", after := #[{ on := 3, ground := Ground.data }], guard := none }) (v := ?_) rfl (by kernel_rfl) (by kernel_rfl) (by kernel_rfl) (fun _ _ _ h => h) (Or.inl ⟨by rfl, ?_⟩) (by assumption) ?_
        rotate_left
        · (intro w hSw; (try dsimp only at hSw); first | (go_simp; done) | (go_simp; with_reducible rfl))
        simp only [Act.put, List.setIfInBounds_toArray, List.set_cons_zero, List.set_cons_succ]
        refine wpAnyH_take (i := 7) (oi := { dst := some 19, op := Op.move (Operand.tmp 0), type := 22, pos := "ref.go:231", after := #[], guard := none }) (v := ?_) rfl (by kernel_rfl) (by kernel_rfl) (by kernel_rfl) (fun _ _ _ h => h) (Or.inl ⟨by rfl, ?_⟩) (by assumption) ?_
        rotate_left
        · (intro w hSw; (try dsimp only at hSw); first | (go_simp; done) | (go_simp; with_reducible rfl))
        simp only [Act.put, List.setIfInBounds_toArray, List.set_cons_zero, List.set_cons_succ]
        refine wpAnyH_take (i := 8) (oi := { dst := some 20, op := Op.move (Operand.tmp 4), type := 3, pos := "ref.go:231", after := #[], guard := none }) (v := ?_) rfl (by kernel_rfl) (by kernel_rfl) (by kernel_rfl) (fun _ _ _ h => h) (Or.inl ⟨by rfl, ?_⟩) (by assumption) ?_
        rotate_left
        · (intro w hSw; (try dsimp only at hSw); first | (go_simp; done) | (go_simp; with_reducible rfl))
        simp only [Act.put, List.setIfInBounds_toArray, List.set_cons_zero, List.set_cons_succ]
        refine wpAnyH_take (i := 9) (oi := { dst := some 21, op := Op.indexAddr 22 (Operand.tmp 19) (Operand.tmp 20), type := 0, pos := "ref.go:231", after := #[{ on := 7, ground := Ground.data }, { on := 8, ground := Ground.data }], guard := none }) (v := ?_) rfl (by kernel_rfl) (by kernel_rfl) (by kernel_rfl) (fun _ _ _ h => h) (Or.inl ⟨by rfl, ?_⟩) (by assumption) ?_
        rotate_left
        · (intro w hSw; (try dsimp only at hSw); first | (go_simp; done) | (go_simp; with_reducible rfl))
        simp only [Act.put, List.setIfInBounds_toArray, List.set_cons_zero, List.set_cons_succ]
        refine wpAnyH_take (i := 10) (oi := { dst := some 22, op := Op.fieldAddr 44 (Operand.tmp 21) 1, type := 0, pos := "ref.go:231", after := #[{ on := 9, ground := Ground.data }], guard := none }) (v := ?_) rfl (by kernel_rfl) (by kernel_rfl) (by kernel_rfl) (fun _ _ _ h => h) (Or.inl ⟨by rfl, ?_⟩) (by assumption) ?_
        rotate_left
        · (intro w hSw; (try dsimp only at hSw); first | (go_simp; done) | (go_simp; with_reducible rfl))
        simp only [Act.put, List.setIfInBounds_toArray, List.set_cons_zero, List.set_cons_succ]
        refine wpAnyH_take (i := 11) (oi := { dst := some 23, op := Op.load 9 (Operand.tmp 22), type := 9, pos := "ref.go:231", after := #[{ on := 10, ground := Ground.data }], guard := none }) (v := ?_) rfl (by kernel_rfl) (by kernel_rfl) (by kernel_rfl) (fun _ _ _ h => h) (Or.inl ⟨by rfl, ?_⟩) (by assumption) ?_
        rotate_left
        · (intro w hSw; (try dsimp only at hSw); first | (go_simp; done) | (go_simp; with_reducible rfl))
        simp only [Act.put, List.setIfInBounds_toArray, List.set_cons_zero, List.set_cons_succ]
        refine wpAnyH_ready (rs := [5, 14]) (by kernel_rfl) (by simp) ?_
        refine AllReadyH.cons (i := 5) (o := { dst := some 17, op := Op.call { callee := Callee.value (Operand.func 41), args := #[Operand.tmp 16], argTypes := #[9] }, type := 9, pos := "ref.go:231", after := #[{ on := 4, ground := Ground.data }], guard := none }) rfl (fun K hK => ?_) (AllReadyH.cons (i := 14) (o := { dst := some 5, op := Op.alloc 44, type := 0, pos := "ref.go:231", after := #[], guard := none }) rfl (fun K hK => ?_) AllReadyH.nil)
        · go_simp
          refine (HN.out _).mono ?_
          rintro e wa ⟨rfl, bx⟩
          replace BC := hide (chain BC.out bx)
          try replace KE := hide (KE.out.below bx)
          clear bx
          go_wp2_with fail
          refine hK.out _ _ ?_ (fun hHeld => ?_)
          · exact ⟨(EA.out.below BC.out).c0, (EA.out.below BC.out).c1⟩
          clear hK K
          refine wpAnyH_ready (rs := [6, 14]) (by kernel_rfl) (by simp) ?_
          refine AllReadyH.cons (i := 6) (o := { dst := some 18, op := Op.call { callee := Callee.value (Operand.func 40), args := #[Operand.tmp 17], argTypes := #[9] }, type := 9, pos := "ref.go:231", after := #[{ on := 5, ground := Ground.data }, { on := 5, ground := Ground.chain }], guard := none }) rfl (fun K hK => ?_) (AllReadyH.cons (i := 14) (o := { dst := some 5, op := Op.alloc 44, type := 0, pos := "ref.go:231", after := #[], guard := none }) rfl (fun K hK => ?_) AllReadyH.nil)
          · go_simp
            refine (HU.out _).mono ?_
            rintro e wb ⟨rfl, bx⟩
            replace BC := hide (chain BC.out bx)
            try replace KE := hide (KE.out.below bx)
            clear bx
            go_wp2_with fail
            refine hK.out _ _ ?_ (fun hHeld => ?_)
            · exact ⟨(EA.out.below BC.out).c0, (EA.out.below BC.out).c1⟩
            clear hK K
            refine wpAnyH_ready (rs := [12, 14]) (by kernel_rfl) (by simp) ?_
            refine AllReadyH.cons (i := 12) (o := { dst := some 24, op := Op.call { callee := Callee.value (Operand.func 24), args := #[Operand.tmp 23], argTypes := #[9] }, type := 9, pos := "ref.go:231", after := #[{ on := 11, ground := Ground.data }, { on := 6, ground := Ground.chain }], guard := none }) rfl (fun K hK => ?_) (AllReadyH.cons (i := 14) (o := { dst := some 5, op := Op.alloc 44, type := 0, pos := "ref.go:231", after := #[], guard := none }) rfl (fun K hK => ?_) AllReadyH.nil)
            · go_simp
              refine (HP.out _).mono ?_
              rintro e wc ⟨rfl, bx⟩
              replace BC := hide (chain BC.out bx)
              try replace KE := hide (KE.out.below bx)
              clear bx
              go_wp2_with fail
              refine hK.out _ _ ?_ (fun hHeld => ?_)
              · exact ⟨(EA.out.below BC.out).c0, (EA.out.below BC.out).c1⟩
              clear hK K
              refine wpAnyH_take (i := 13) (oi := { dst := some 25, op := Op.build 44 #[(0, Operand.tmp 18), (1, Operand.tmp 24)], type := 44, pos := "ref.go:231", after := #[{ on := 6, ground := Ground.data }, { on := 12, ground := Ground.data }], guard := none }) (v := ?_) rfl (by kernel_rfl) (by kernel_rfl) (by kernel_rfl) (fun _ _ _ h => h) (Or.inl ⟨by rfl, ?_⟩) (by assumption) ?_
              rotate_left
              · (intro w hSw; (try dsimp only at hSw); first | (go_simp; done) | (go_simp; with_reducible rfl))
              simp only [Act.put, List.setIfInBounds_toArray, List.set_cons_zero, List.set_cons_succ]
              refine wpAnyH_ready (rs := [14]) (by kernel_rfl) (by simp) ?_
              refine AllReadyH.cons (i := 14) (o := { dst := some 5, op := Op.alloc 44, type := 0, pos := "ref.go:231", after := #[], guard := none }) rfl (fun K hK => ?_) AllReadyH.nil
              go_simp
              have KE := hide (Bk.new wc [.string ⟨#[]⟩, .string ⟨#[]⟩, .bool false, .string ⟨#[]⟩, .string ⟨#[]⟩] 44)
              have AZ : Below wc.heap.size wc (wc.alloc (.cells #[.string ⟨#[]⟩, .string ⟨#[]⟩, .bool false, .string ⟨#[]⟩, .string ⟨#[]⟩] 44)) := (Below.refl _ _).alloc (Nat.le_refl _) _
              have GE := hide BC.out.size
              replace BC := hide (chain BC.out AZ)
              clear AZ
              generalize wc.alloc (.cells #[.string ⟨#[]⟩, .string ⟨#[]⟩, .bool false, .string ⟨#[]⟩, .string ⟨#[]⟩] 44) = wz at *
              generalize wc.heap.size = E at *
              refine hK.out _ _ ?_ (fun hHeld => ?_)
              · exact ⟨(EA.out.below BC.out).c0, (EA.out.below BC.out).c1⟩
              clear hK K
              have g0 := KE.out.cell 0 rfl
              have f0 := KE.out.free 0
              have g1 := KE.out.cell 1 rfl
              have f1 := KE.out.free 1
              have g2 := KE.out.cell 2 rfl
              have f2 := KE.out.free 2
              have g3 := KE.out.cell 3 rfl
              have f3 := KE.out.free 3
              have g4 := KE.out.cell 4 rfl
              have f4 := KE.out.free 4
              have K5 := hide (((((KE.out.set 0 (.string u0)).set 1 (.string p1)).set 2 (.bool false)).set 3 (.string ⟨#[]⟩)).set 4 (.string ⟨#[]⟩))
              have B5 := hide (low5 BC.out GE.out (.string u0) (.string p1) (.bool false) (.string ⟨#[]⟩) (.string ⟨#[]⟩))
              refine wpAnyH_ready (rs := [15]) (by kernel_rfl) (by simp) ?_
              refine AllReadyH.cons (i := 15) (o := { dst := none, op := Op.store 44 (Operand.tmp 5) (Operand.tmp 25), type := 0, pos := "ref.go:231", after := #[{ on := 14, ground := Ground.data }, { on := 13, ground := Ground.data }, { on := 12, ground := Ground.chain }, { on := 0, ground := Ground.phase }, { on := 1, ground := Ground.phase }, { on := 2, ground := Ground.phase }, { on := 3, ground := Ground.phase }, { on := 4, ground := Ground.phase }, { on := 5, ground := Ground.phase }, { on := 6, ground := Ground.phase }, { on := 7, ground := Ground.phase }, { on := 8, ground := Ground.phase }, { on := 9, ground := Ground.phase }, { on := 10, ground := Ground.phase }, { on := 11, ground := Ground.phase }, { on := 12, ground := Ground.phase }, { on := 13, ground := Ground.phase }, { on := 14, ground := Ground.phase }], guard := none }) rfl (fun K hK => ?_) AllReadyH.nil
              go_simp
              refine hK.out _ _ ?_ (fun hHeld => ?_)
              · exact ⟨(EA.out.below B5.out).c0, (EA.out.below B5.out).c1⟩
              clear hK K
              refine wpAnyH_done (by kernel_rfl) ?_ _
              go_wp2_with fail
              go_meet
              case rel => exact ⟨_, rfl, K5, GE, B5⟩
            · go_simp
              have KE := hide (Bk.new wb [.string ⟨#[]⟩, .string ⟨#[]⟩, .bool false, .string ⟨#[]⟩, .string ⟨#[]⟩] 44)
              have AZ : Below wb.heap.size wb (wb.alloc (.cells #[.string ⟨#[]⟩, .string ⟨#[]⟩, .bool false, .string ⟨#[]⟩, .string ⟨#[]⟩] 44)) := (Below.refl _ _).alloc (Nat.le_refl _) _
              have GE := hide BC.out.size
              replace BC := hide (chain BC.out AZ)
              clear AZ
              generalize wb.alloc (.cells #[.string ⟨#[]⟩, .string ⟨#[]⟩, .bool false, .string ⟨#[]⟩, .string ⟨#[]⟩] 44) = wz at *
              generalize wb.heap.size = E at *
              refine hK.out _ _ ?_ (fun hHeld => ?_)
              · exact ⟨(EA.out.below BC.out).c0, (EA.out.below BC.out).c1⟩
              clear hK K
              refine wpAnyH_ready (rs := [12]) (by kernel_rfl) (by simp) ?_
              refine AllReadyH.cons (i := 12) (o := { dst := some 24, op := Op.call { callee := Callee.value (Operand.func 24), args := #[Operand.tmp 23], argTypes := #[9] }, type := 9, pos := "ref.go:231", after := #[{ on := 11, ground := Ground.data }, { on := 6, ground := Ground.chain }], guard := none }) rfl (fun K hK => ?_) AllReadyH.nil
              go_simp
              refine (HP.out _).mono ?_
              rintro e wc ⟨rfl, bx⟩
              replace BC := hide (chain BC.out bx)
              try replace KE := hide (KE.out.below bx)
              clear bx
              go_wp2_with fail
              refine hK.out _ _ ?_ (fun hHeld => ?_)
              · exact ⟨(EA.out.below BC.out).c0, (EA.out.below BC.out).c1⟩
              clear hK K
              refine wpAnyH_take (i := 13) (oi := { dst := some 25, op := Op.build 44 #[(0, Operand.tmp 18), (1, Operand.tmp 24)], type := 44, pos := "ref.go:231", after := #[{ on := 6, ground := Ground.data }, { on := 12, ground := Ground.data }], guard := none }) (v := ?_) rfl (by kernel_rfl) (by kernel_rfl) (by kernel_rfl) (fun _ _ _ h => h) (Or.inl ⟨by rfl, ?_⟩) (by assumption) ?_
              rotate_left
              · (intro w hSw; (try dsimp only at hSw); first | (go_simp; done) | (go_simp; with_reducible rfl))
              simp only [Act.put, List.setIfInBounds_toArray, List.set_cons_zero, List.set_cons_succ]
              have g0 := KE.out.cell 0 rfl
              have f0 := KE.out.free 0
              have g1 := KE.out.cell 1 rfl
              have f1 := KE.out.free 1
              have g2 := KE.out.cell 2 rfl
              have f2 := KE.out.free 2
              have g3 := KE.out.cell 3 rfl
              have f3 := KE.out.free 3
              have g4 := KE.out.cell 4 rfl
              have f4 := KE.out.free 4
              have K5 := hide (((((KE.out.set 0 (.string u0)).set 1 (.string p1)).set 2 (.bool false)).set 3 (.string ⟨#[]⟩)).set 4 (.string ⟨#[]⟩))
              have B5 := hide (low5 BC.out GE.out (.string u0) (.string p1) (.bool false) (.string ⟨#[]⟩) (.string ⟨#[]⟩))
              refine wpAnyH_ready (rs := [15]) (by kernel_rfl) (by simp) ?_
              refine AllReadyH.cons (i := 15) (o := { dst := none, op := Op.store 44 (Operand.tmp 5) (Operand.tmp 25), type := 0, pos := "ref.go:231", after := #[{ on := 14, ground := Ground.data }, { on := 13, ground := Ground.data }, { on := 12, ground := Ground.chain }, { on := 0, ground := Ground.phase }, { on := 1, ground := Ground.phase }, { on := 2, ground := Ground.phase }, { on := 3, ground := Ground.phase }, { on := 4, ground := Ground.phase }, { on := 5, ground := Ground.phase }, { on := 6, ground := Ground.phase }, { on := 7, ground := Ground.phase }, { on := 8, ground := Ground.phase }, { on := 9, ground := Ground.phase }, { on := 10, ground := Ground.phase }, { on := 11, ground := Ground.phase }, { on := 12, ground := Ground.phase }, { on := 13, ground := Ground.phase }, { on := 14, ground := Ground.phase }], guard := none }) rfl (fun K hK => ?_) AllReadyH.nil
              go_simp
              refine hK.out _ _ ?_ (fun hHeld => ?_)
              · exact ⟨(EA.out.below B5.out).c0, (EA.out.below B5.out).c1⟩
              clear hK K
              refine wpAnyH_done (by kernel_rfl) ?_ _
              go_wp2_with fail
              go_meet
              case rel => exact ⟨_, rfl, K5, GE, B5⟩
          · go_simp
            have KE := hide (Bk.new wa [.string ⟨#[]⟩, .string ⟨#[]⟩, .bool false, .string ⟨#[]⟩, .string ⟨#[]⟩] 44)
            have AZ : Below wa.heap.size wa (wa.alloc (.cells #[.string ⟨#[]⟩, .string ⟨#[]⟩, .bool false, .string ⟨#[]⟩, .string ⟨#[]⟩] 44)) := (Below.refl _ _).alloc (Nat.le_refl _) _
            have GE := hide BC.out.size
            replace BC := hide (chain BC.out AZ)
            clear AZ
            generalize wa.alloc (.cells #[.string ⟨#[]⟩, .string ⟨#[]⟩, .bool false, .string ⟨#[]⟩, .string ⟨#[]⟩] 44) = wz at *
            generalize wa.heap.size = E at *
            refine hK.out _ _ ?_ (fun hHeld => ?_)
            · exact ⟨(EA.out.below BC.out).c0, (EA.out.below BC.out).c1⟩
            clear hK K
            refine wpAnyH_ready (rs := [6]) (by kernel_rfl) (by simp) ?_
            refine AllReadyH.cons (i := 6) (o := { dst := some 18, op := Op.call { callee := Callee.value (Operand.func 40), args := #[Operand.tmp 17], argTypes := #[9] }, type := 9, pos := "ref.go:231", after := #[{ on := 5, ground := Ground.data }, { on := 5, ground := Ground.chain }], guard := none }) rfl (fun K hK => ?_) AllReadyH.nil
            go_simp
            refine (HU.out _).mono ?_
            rintro e wb ⟨rfl, bx⟩
            replace BC := hide (chain BC.out bx)
            try replace KE := hide (KE.out.below bx)
            clear bx
            go_wp2_with fail
            refine hK.out _ _ ?_ (fun hHeld => ?_)
            · exact ⟨(EA.out.below BC.out).c0, (EA.out.below BC.out).c1⟩
            clear hK K
            refine wpAnyH_ready (rs := [12]) (by kernel_rfl) (by simp) ?_
            refine AllReadyH.cons (i := 12) (o := { dst := some 24, op := Op.call { callee := Callee.value (Operand.func 24), args := #[Operand.tmp 23], argTypes := #[9] }, type := 9, pos := "ref.go:231", after := #[{ on := 11, ground := Ground.data }, { on := 6, ground := Ground.chain }], guard := none }) rfl (fun K hK => ?_) AllReadyH.nil
            go_simp
            refine (HP.out _).mono ?_
            rintro e wc ⟨rfl, bx⟩
            replace BC := hide (chain BC.out bx)
            try replace KE := hide (KE.out.below bx)
            clear bx
            go_wp2_with fail
            refine hK.out _ _ ?_ (fun hHeld => ?_)
            · exact ⟨(EA.out.below BC.out).c0, (EA.out.below BC.out).c1⟩
            clear hK K
            refine wpAnyH_take (i := 13) (oi := { dst := some 25, op := Op.build 44 #[(0, Operand.tmp 18), (1, Operand.tmp 24)], type := 44, pos := "ref.go:231", after := #[{ on := 6, ground := Ground.data }, { on := 12, ground := Ground.data }], guard := none }) (v := ?_) rfl (by kernel_rfl) (by kernel_rfl) (by kernel_rfl) (fun _ _ _ h => h) (Or.inl ⟨by rfl, ?_⟩) (by assumption) ?_
            rotate_left
            · (intro w hSw; (try dsimp only at hSw); first | (go_simp; done) | (go_simp; with_reducible rfl))
            simp only [Act.put, List.setIfInBounds_toArray, List.set_cons_zero, List.set_cons_succ]
            have g0 := KE.out.cell 0 rfl
            have f0 := KE.out.free 0
            have g1 := KE.out.cell 1 rfl
            have f1 := KE.out.free 1
            have g2 := KE.out.cell 2 rfl
            have f2 := KE.out.free 2
            have g3 := KE.out.cell 3 rfl
            have f3 := KE.out.free 3
            have g4 := KE.out.cell 4 rfl
            have f4 := KE.out.free 4
            have K5 := hide (((((KE.out.set 0 (.string u0)).set 1 (.string p1)).set 2 (.bool false)).set 3 (.string ⟨#[]⟩)).set 4 (.string ⟨#[]⟩))
            have B5 := hide (low5 BC.out GE.out (.string u0) (.string p1) (.bool false) (.string ⟨#[]⟩) (.string ⟨#[]⟩))
            refine wpAnyH_ready (rs := [15]) (by kernel_rfl) (by simp) ?_
            refine AllReadyH.cons (i := 15) (o := { dst := none, op := Op.store 44 (Operand.tmp 5) (Operand.tmp 25), type := 0, pos := "ref.go:231", after := #[{ on := 14, ground := Ground.data }, { on := 13, ground := Ground.data }, { on := 12, ground := Ground.chain }, { on := 0, ground := Ground.phase }, { on := 1, ground := Ground.phase }, { on := 2, ground := Ground.phase }, { on := 3, ground := Ground.phase }, { on := 4, ground := Ground.phase }, { on := 5, ground := Ground.phase }, { on := 6, ground := Ground.phase }, { on := 7, ground := Ground.phase }, { on := 8, ground := Ground.phase }, { on := 9, ground := Ground.phase }, { on := 10, ground := Ground.phase }, { on := 11, ground := Ground.phase }, { on := 12, ground := Ground.phase }, { on := 13, ground := Ground.phase }, { on := 14, ground := Ground.phase }], guard := none }) rfl (fun K hK => ?_) AllReadyH.nil
            go_simp
            refine hK.out _ _ ?_ (fun hHeld => ?_)
            · exact ⟨(EA.out.below B5.out).c0, (EA.out.below B5.out).c1⟩
            clear hK K
            refine wpAnyH_done (by kernel_rfl) ?_ _
            go_wp2_with fail
            go_meet
            case rel => exact ⟨_, rfl, K5, GE, B5⟩
        · go_simp
          have KE := hide (Bk.new wr [.string ⟨#[]⟩, .string ⟨#[]⟩, .bool false, .string ⟨#[]⟩, .string ⟨#[]⟩] 44).drewC
          have GE : Hid (wr.heap.size ≤ wr.heap.size) := Nat.le_refl _
          replace BC : Hid (Below wr.heap.size wr (wr.alloc (.cells #[.string ⟨#[]⟩, .string ⟨#[]⟩, .bool false, .string ⟨#[]⟩, .string ⟨#[]⟩] 44)).drew) := belDC ((Below.refl _ wr).alloc (Nat.le_refl _) _)
          generalize (wr.alloc (.cells #[.string ⟨#[]⟩, .string ⟨#[]⟩, .bool false, .string ⟨#[]⟩, .string ⟨#[]⟩] 44)).drew = wz at *
          refine hK.out _ _ ?_ (fun hHeld => ?_)
          · exact ⟨(EA.out.below BC.out).c0, (EA.out.below BC.out).c1⟩
          clear hK K
          refine wpAnyH_ready (rs := [5]) (by kernel_rfl) (by simp) ?_
          refine AllReadyH.cons (i := 5) (o := { dst := some 17, op := Op.call { callee := Callee.value (Operand.func 41), args := #[Operand.tmp 16], argTypes := #[9] }, type := 9, pos := "ref.go:231", after := #[{ on := 4, ground := Ground.data }], guard := none }) rfl (fun K hK => ?_) AllReadyH.nil
          go_simp
          refine (HN.out _).mono ?_
          rintro e wa ⟨rfl, bx⟩
          replace BC := hide (chain BC.out bx)
          try replace KE := hide (KE.out.below bx)
          clear bx
          go_wp2_with fail
          refine hK.out _ _ ?_ (fun hHeld => ?_)
          · exact ⟨(EA.out.below BC.out).c0, (EA.out.below BC.out).c1⟩
          clear hK K
          refine wpAnyH_ready (rs := [6]) (by kernel_rfl) (by simp) ?_
          refine AllReadyH.cons (i := 6) (o := { dst := some 18, op := Op.call { callee := Callee.value (Operand.func 40), args := #[Operand.tmp 17], argTypes := #[9] }, type := 9, pos := "ref.go:231", after := #[{ on := 5, ground := Ground.data }, { on := 5, ground := Ground.chain }], guard := none }) rfl (fun K hK => ?_) AllReadyH.nil
          go_simp
          refine (HU.out _).mono ?_
          rintro e wb ⟨rfl, bx⟩
          replace BC := hide (chain BC.out bx)
          try replace KE := hide (KE.out.below bx)
          clear bx
          go_wp2_with fail
          refine hK.out _ _ ?_ (fun hHeld => ?_)
          · exact ⟨(EA.out.below BC.out).c0, (EA.out.below BC.out).c1⟩
          clear hK K
          refine wpAnyH_ready (rs := [12]) (by kernel_rfl) (by simp) ?_
          refine AllReadyH.cons (i := 12) (o := { dst := some 24, op := Op.call { callee := Callee.value (Operand.func 24), args := #[Operand.tmp 23], argTypes := #[9] }, type := 9, pos := "ref.go:231", after := #[{ on := 11, ground := Ground.data }, { on := 6, ground := Ground.chain }], guard := none }) rfl (fun K hK => ?_) AllReadyH.nil
          go_simp
          refine (HP.out _).mono ?_
          rintro e wc ⟨rfl, bx⟩
          replace BC := hide (chain BC.out bx)
          try replace KE := hide (KE.out.below bx)
          clear bx
          go_wp2_with fail
          refine hK.out _ _ ?_ (fun hHeld => ?_)
          · exact ⟨(EA.out.below BC.out).c0, (EA.out.below BC.out).c1⟩
          clear hK K
          refine wpAnyH_take (i := 13) (oi := { dst := some 25, op := Op.build 44 #[(0, Operand.tmp 18), (1, Operand.tmp 24)], type := 44, pos := "ref.go:231", after := #[{ on := 6, ground := Ground.data }, { on := 12, ground := Ground.data }], guard := none }) (v := ?_) rfl (by kernel_rfl) (by kernel_rfl) (by kernel_rfl) (fun _ _ _ h => h) (Or.inl ⟨by rfl, ?_⟩) (by assumption) ?_
          rotate_left
          · (intro w hSw; (try dsimp only at hSw); first | (go_simp; done) | (go_simp; with_reducible rfl))
          simp only [Act.put, List.setIfInBounds_toArray, List.set_cons_zero, List.set_cons_succ]
          have g0 := KE.out.cell 0 rfl
          have f0 := KE.out.free 0
          have g1 := KE.out.cell 1 rfl
          have f1 := KE.out.free 1
          have g2 := KE.out.cell 2 rfl
          have f2 := KE.out.free 2
          have g3 := KE.out.cell 3 rfl
          have f3 := KE.out.free 3
          have g4 := KE.out.cell 4 rfl
          have f4 := KE.out.free 4
          have K5 := hide (((((KE.out.set 0 (.string u0)).set 1 (.string p1)).set 2 (.bool false)).set 3 (.string ⟨#[]⟩)).set 4 (.string ⟨#[]⟩))
          have B5 := hide (low5 BC.out GE.out (.string u0) (.string p1) (.bool false) (.string ⟨#[]⟩) (.string ⟨#[]⟩))
          refine wpAnyH_ready (rs := [15]) (by kernel_rfl) (by simp) ?_
          refine AllReadyH.cons (i := 15) (o := { dst := none, op := Op.store 44 (Operand.tmp 5) (Operand.tmp 25), type := 0, pos := "ref.go:231", after := #[{ on := 14, ground := Ground.data }, { on := 13, ground := Ground.data }, { on := 12, ground := Ground.chain }, { on := 0, ground := Ground.phase }, { on := 1, ground := Ground.phase }, { on := 2, ground := Ground.phase }, { on := 3, ground := Ground.phase }, { on := 4, ground := Ground.phase }, { on := 5, ground := Ground.phase }, { on := 6, ground := Ground.phase }, { on := 7, ground := Ground.phase }, { on := 8, ground := Ground.phase }, { on := 9, ground := Ground.phase }, { on := 10, ground := Ground.phase }, { on := 11, ground := Ground.phase }, { on := 12, ground := Ground.phase }, { on := 13, ground := Ground.phase }, { on := 14, ground := Ground.phase }], guard := none }) rfl (fun K hK => ?_) AllReadyH.nil
          go_simp
          refine hK.out _ _ ?_ (fun hHeld => ?_)
          · exact ⟨(EA.out.below B5.out).c0, (EA.out.below B5.out).c1⟩
          clear hK K
          refine wpAnyH_done (by kernel_rfl) ?_ _
          go_wp2_with fail
          go_meet
          case rel => exact ⟨_, rfl, K5, GE, B5⟩
      case rest =>
        obtain ⟨E, rfl, KE, GE, BX⟩ := hcut
        have EX := hide (EA.out.below BX.out)
        have OX := hide (OW.out.below BX.out)
        have c2 := EX.out.c2
        clear BC HN HU HP a0 a1
        cases fb : ek.file with
        | false =>
          rw [fb] at c2
          rw [fb, if_neg (by decide), if_neg (by decide), if_neg (by decide)] at ET
          clear fb HN2 HU2 HT
          have z0 := KE.out.cell 0 rfl
          have z1 := KE.out.cell 1 rfl
          have z2 := KE.out.cell 2 rfl
          have z3 := KE.out.cell 3 rfl
          have z4 := KE.out.cell 4 rfl
          have AL : Hid (Below wc.heap.size wc (wc.alloc (.cells #[.string u0, .string p1, .bool false, .string ⟨#[]⟩, .string ⟨#[]⟩] 44))) := (Below.refl _ _).alloc (Nat.le_refl _) _
          have F1 := hide (files_one wc ⟨u0, p1, false, ⟨#[]⟩, ⟨#[]⟩⟩)
          have O8 := hide (OX.out.below AL.out)
          have B8 := hide (chain (chain BW.out BX.out) AL.out)
          have SZ8 := hide B8.out.size
          have l72 : (((l.take k).map toldE).length + 1) * 72 ≤ 140737488355328 := by rw [PL.out]; omega
          go_wp2_with (at_builtin; refine wpList_append_en rfl _ _ rfl w.heap.size _ ((l.take k).map toldE) rfl O8.out _ [⟨u0, p1, false, ⟨#[]⟩, ⟨#[]⟩⟩] rfl F1.out l72 SZ8.out ?_; intro q8 c8 w8 o8 b8)
          have O9 : Hid (OwnR w.heap.size w8 (.slice q8 (k + 1) c8) ((l.take (k + 1)).map toldE)) := by
            show OwnR _ _ _ _
            rw [TK.out, ET.out]
            have := o8
            rw [PL.out] at this
            exact this
          have B9 := hide (B8.out.trans b8)
          clear PL o8 b8
          go_roundw
          case rel => exact ⟨k + 1, q8, c8, by omega, by go_num, rfl, O9, B9⟩
          case measure => simp [intOf]; omega
        | true =>
          rw [fb] at c2
          rw [fb, if_pos rfl, if_pos rfl, if_pos rfl] at ET
          clear fb
          have c1 := EX.out.c1
          have c3 := EX.out.c3
          have lb : b < wr.heap.size := World.block_lt_of_cell? _ _ EA.out.c0
          have ge := GE.out
          have ne1 : ¬ E = b := by omega
          have ne2 : ¬ b = E := by omega
          have e2 := KE.out.cell 2 rfl
          have f2 := KE.out.free 2
          have e1 := KE.out.cell 1 rfl
          have f1 := KE.out.free 1
          have ltE := KE.out.lt
          have K5 : Hid (Bk ((wc.setCell ⟨E, 2, none⟩ (.bool true)).setCell ⟨E, 1, none⟩ (.string ek.val)) E [.string u0, .string ek.val, .bool true, .string ⟨#[]⟩, .string ⟨#[]⟩] 44) := (KE.out.set 2 _).set 1 _
          have B5 : Hid (Below wr.heap.size wr ((wc.setCell ⟨E, 2, none⟩ (.bool true)).setCell ⟨E, 1, none⟩ (.string ek.val))) := (BX.out.setCell (p := ⟨E, 2, none⟩) ge _).setCell (p := ⟨E, 1, none⟩) ge _
          have d3 := (EA.out.below B5.out).c3
          go_wp2_with fail
          refine (HN2.out _).mono ?_
          rintro e w6 ⟨rfl, b6⟩
          have K6 := hide (K5.out.below b6)
          have B6 := hide (chain B5.out b6)
          clear b6 K5 B5 KE BX c1 c2 c3 d3 e1 e2 f1 f2 HN2
          go_wp2_with fail
          refine (HU2.out _).mono ?_
          rintro e w7 ⟨rfl, b7⟩
          have K7 := hide (K6.out.below b7)
          have B7 := hide (chain B6.out b7)
          have EX7 := hide (EA.out.below B7.out)
          clear b7 K6 B6 HU2
          have lt7 := K7.out.lt
          have e3 := K7.out.cell 3 rfl
          have f3 := K7.out.free 3
          have c4 := EX7.out.c4
          have K9 : Hid (Bk ((w7.setCell ⟨E, 3, none⟩ (.string u2)).setCell ⟨E, 4, none⟩ (.string u4)) E [.string u0, .string ek.val, .bool true, .string u2, .string u4] 44) := (K7.out.set 3 _).set 4 _
          have B9x : Hid (Below wr.heap.size wr ((w7.setCell ⟨E, 3, none⟩ (.string u2)).setCell ⟨E, 4, none⟩ (.string u4))) := (B7.out.setCell (p := ⟨E, 3, none⟩) ge _).setCell (p := ⟨E, 4, none⟩) ge _
          have O9x := hide (OW.out.below B9x.out)
          have K8 : Hid (Bk (w7.setCell ⟨E, 3, none⟩ (.string u2)) E [.string u0, .string ek.val, .bool true, .string u2, .string ⟨#[]⟩] 44) := K7.out.set 3 _
          have e4 := K8.out.cell 4 rfl
          have f4 := K8.out.free 4
          clear OX EX
          go_wp2_with fail
          refine (HT.out _).mono ?_
          rintro e w8 ⟨rfl, hu⟩
          obtain rfl : _ = w8 := hu.symm
          have z0 := K9.out.cell 0 rfl
          have z1 := K9.out.cell 1 rfl
          have z2 := K9.out.cell 2 rfl
          have z3 := K9.out.cell 3 rfl
          have z4 := K9.out.cell 4 rfl
          have AL : Hid (Below ((w7.setCell ⟨E, 3, none⟩ (.string u2)).setCell ⟨E, 4, none⟩ (.string u4)).heap.size ((w7.setCell ⟨E, 3, none⟩ (.string u2)).setCell ⟨E, 4, none⟩ (.string u4)) (((w7.setCell ⟨E, 3, none⟩ (.string u2)).setCell ⟨E, 4, none⟩ (.string u4)).alloc (.cells #[.string u0, .string ek.val, .bool true, .string u2, .string u4] 44))) := (Below.refl _ _).alloc (Nat.le_refl _) _
          have F1 := hide (files_one ((w7.setCell ⟨E, 3, none⟩ (.string u2)).setCell ⟨E, 4, none⟩ (.string u4)) ⟨u0, ek.val, true, u2, u4⟩)
          rw [World.size_setCell, World.size_setCell] at F1
          have O8 := hide (O9x.out.below AL.out)
          have B8 := hide (chain (chain BW.out B9x.out) AL.out)
          have SZ8 := hide B8.out.size
          have l72 : (((l.take k).map toldE).length + 1) * 72 ≤ 140737488355328 := by rw [PL.out]; omega
          go_wp2_with (at_builtin; refine wpList_append_en rfl _ _ rfl w.heap.size _ ((l.take k).map toldE) rfl O8.out _ [⟨u0, ek.val, true, u2, u4⟩] rfl F1.out l72 SZ8.out ?_; intro q8 c8 w8 o8 b8)
          have O9 : Hid (OwnR w.heap.size w8 (.slice q8 (k + 1) c8) ((l.take (k + 1)).map toldE)) := by
            show OwnR _ _ _ _
            rw [TK.out, ET.out]
            have := o8
            rw [PL.out] at this
            exact this
          have B9 := hide (B8.out.trans b8)
          clear PL o8 b8
          go_roundw
          case rel => exact ⟨k + 1, q8, c8, by omega, by go_num, rfl, O9, B9⟩
          case measure => simp [intOf]; omega
    · obtain rfl : k = l.length := by omega
      rw [List.take_length] at OW
      clear FV HZ
      go_wp2_with fail
      go_ret
      exact ⟨_, rfl, OW.out, BW.out⟩

end Go.Proofs.YtgibkbeakfaehaaDoor
