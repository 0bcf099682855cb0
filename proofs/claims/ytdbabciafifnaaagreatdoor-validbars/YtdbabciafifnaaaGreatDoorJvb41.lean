/- The program's step.Flags for a kind that doesn't count. The program's flagsOf of layer 18 for a control that is an empty line of text with an attribute required. The program's Flags and Valid of layer 18 at the chapter's two examples. Stage 18's own wakes. The walks of the statements ValidBars and ValidValues. -/
import Derived.Test.YtdbabciafifnaaaGreatDoorJvb33
import Derived.Test.YtdbabciafifnaaaGreatDoorJvb40
import Derived.Test.YtdbabciafifnaaaGreatDoorJvb42

namespace Go.Proofs.YtdbabciafifnaaaGreatDoor
open Go.RowKit
set_option maxRecDepth 100000
set_option maxHeartbeats 8000000 in
theorem stUnit_out (k : Int) (w : World) (hk : k < 8) :
    Calls Tryz.prog 131 #[.int .i64 k] w fun e w' => e = .returned (.agg #[.int .i64 0, .int .i64 0, .int .i64 0]) ∧ Below w.heap.size w w' := by
  go_enter Tryz.func131, Tryz.ntmps131
  go_wp2_with fail
  refine bodyPost_ret (v := .agg #[.int .i64 0, .int .i64 0, .int .i64 0]) (by simp [results, go_sem]) rfl ?_
  exact ⟨rfl, by first | exact Below.refl _ _ | exact (Below.refl _ w).alloc (Nat.le_refl _) _⟩
set_option maxHeartbeats 8000000 in
theorem stValue_out (k : Int) (s : ByteArray) (w : World) (hk : k < 8) :
    Calls Tryz.prog 76 #[.int .i64 k, .string s] w fun e w' => e = .returned (.tuple #[.int .i64 0, .bool false]) ∧ Below w.heap.size w w' := by
  have HU := hide (fun W => stUnit_out k W hk)
  clear hk
  go_enter Tryz.func76, Tryz.ntmps76
  go_wp2_with fail
  refine (HU.out _).mono ?_
  rintro e w1 ⟨rfl, b1⟩
  go_wp2_with fail
  go_ret2
  exact ⟨rfl, by first | exact b1 | exact b1.alloc b1.size _ | exact (b1.alloc b1.size _).alloc (Nat.le_trans b1.size (by simp)) _⟩
set_option maxHeartbeats 8000000 in
theorem stFlags_out (k : Int) (v : Value) (s : ByteArray) (w : World) (hk : k < 8) :
    Calls Tryz.prog 44 #[.int .i64 k, v, .string s] w fun e w' => e = .returned (.tuple #[.bool false, .bool false, .bool false]) ∧ Below w.heap.size w w' := by
  have HU := hide (fun W => stValue_out k s W hk)
  clear hk
  go_enter Tryz.func44, Tryz.ntmps44
  go_wp2_with fail
  refine (HU.out _).mono ?_
  rintro e w1 ⟨rfl, b1⟩
  go_wp2_with fail
  go_ret3
  exact ⟨rfl, b1⟩
end Go.Proofs.YtdbabciafifnaaaGreatDoor

namespace Go.Proofs.YtdbabciafifnaaaGreatDoor
open Go.RowKit
set_option maxRecDepth 100000
theorem bel_dV {B : Nat} {a w : World} (h : Below B a w) : Below B a w.drew := ⟨h.os, h.tape, h.output, h.size, h.block⟩
theorem Bk.drewV {w : World} {n : Nat} {cs : List Value} {t : TypeId} (h : Bk w n cs t) : Bk w.drew n cs t := ⟨h.lies⟩
theorem Bk.there {w : World} {n : Nat} {cs : List Value} {t : TypeId} (h : Bk w n cs t) : w.there n 0 cs.length := fun j hj =>
  ⟨by rw [Nat.zero_add, h.cell j (List.getElem?_eq_getElem hj)]; rfl, by rw [Nat.zero_add]; exact h.free j⟩
theorem bel_sets {B n : Nat} {a : World} (hn : B ≤ n) : ∀ (vs : List Value) (o : Nat) (w : World), Below B a w → Below B a (w.setCells n o vs)
  | [], _, _, h => h
  | v :: r, o, _, h => bel_sets hn r (o + 1) _ (h.setCell (p := ⟨n, o, none⟩) hn v)
set_option maxHeartbeats 8000000 in
theorem vaFlagsOf_text (nv cv : Value) (l : List Nd) (C : List Ct) (m : Nat) (w : World) (hD : DocV w nv cv l C) (hz : DocSz l) (hC : CsOK C) (hT : KTabs w) (hm : m < l.length) (hc : m < C.length) (fx : Bool) (ef : fixB l (m : Int) = fx) (hk : kI l (m : Int) = 2) (hv : valE l C (m : Int) = ⟨#[]⟩) (hcu : C[m].custom = ⟨#[]⟩)
    (rq : (findA l[m].attrs ⟨#[114, 101, 113, 117, 105, 114, 101, 100]⟩).isSome = true) (np : (findA l[m].attrs ⟨#[112, 97, 116, 116, 101, 114, 110]⟩).isSome = false) (nx : (findA l[m].attrs ⟨#[109, 97, 120, 108, 101, 110, 103, 116, 104]⟩).isSome = false) (nn : (findA l[m].attrs ⟨#[109, 105, 110, 108, 101, 110, 103, 116, 104]⟩).isSome = false) :
    Calls Tryz.prog 20 #[.agg #[nv, cv], .int .i64 (m : Int)] w fun e w' => e = .returned (.int .i64 (if fx = true then 0 else 1)) ∧ Below w.heap.size w w' := by
  obtain ⟨F, hF⟩ := hD.cts
  have HV := hide (fun W (hb : Below w.heap.size w W) => vaValueOf_any nv cv l C m W (hD.below hb) hz hC (hT.below hb) hm hc)
  rw [hv] at HV
  have HC := hide (fun W (hb : Below w.heap.size w W) => hD.nds.below hb)
  have TT := hide (fun W (hb : Below w.heap.size w W) => hT.below hb)
  have ZZ := hide hz
  have FI := hide (hF.1.at_ m hc)
  obtain ⟨_, pc, kc, rfl, hcs⟩ := hF
  obtain ⟨bc, oc, rfl, hct⟩ : ∃ b o, pc = some ⟨b, o, none⟩ ∧ ∀ i (h : i < C.length), CtAt w b (o + i * 10) C[i] (fvAt F i) := by
    rcases hcs with t | t
    · rw [t] at hc; simp at hc
    · exact t
  have CT := hide (hct m hc)
  have hl := hz.len
  have hl2 := hC.len
  obtain ⟨p, c, rfl⟩ := nds_formW hD.nds
  obtain ⟨b, o, va, pvk, n6, cvk, rfl, N⟩ := node_ofW hD.nds hm
  have nz := hz.nds _ (List.getElem_mem hm)
  have HO := hide (fun W (hb : Below w.heap.size w W) => of_any l[m] va (.slice pvk n6 cvk) W (hT.below hb) (N.at_.below hb) nz.attrs nz.tx)
  have EK : kOf l[m].name (tyOf l[m].attrs) = 2 := by rw [← hk]; unfold kI kN; rw [Int.toNat_natCast, nd_at hm]
  rw [EK] at HO
  have NL := hide nz.attrs
  have NA := hide N.at_
  obtain ⟨pva, cva, rfl, hxx⟩ := N.at_
  clear hxx
  have c0 := N.name
  have c1 := N.text
  have c2 := N.attrs
  have c3 := N.parent
  have c4 := N.kids
  have m0 : (0 : Int) ≤ (m : Int) := by omega
  have m1 : (m : Int) < (l.length : Int) := by omega
  have m2 : (m : Int) < (C.length : Int) := by omega
  obtain ⟨fp, fc, efv, hxx⟩ := FI.out
  clear hxx
  rw [efv] at CT
  have AT := hide (fun W (hb : Below w.heap.size w W) => NA.out.below hb)
  have e0 : C[m].val = ⟨#[]⟩ := by
    have : valE l C (m : Int) = C[m].val := by
      unfold valE
      rw [if_neg (by rw [hk]; decide), hk, Int.toNat_natCast, nd_at hm, st_nat hc]; rfl
    rw [← this]; exact hv
  have B0 : Hid (Below w.heap.size w (w.alloc (.cells #[.slice (some ⟨b, o, none⟩) l.length c, .slice (some ⟨bc, oc, none⟩) C.length kc] 28))) := (Below.refl _ w).alloc (Nat.le_refl _) _
  have ND := hide (Bk.new w [.slice (some ⟨b, o, none⟩) l.length c, .slice (some ⟨bc, oc, none⟩) C.length kc] 28)
  have u0 := cell_below c0 B0.out
  have u1 := cell_below c1 B0.out
  have u2 := cell_below c2 B0.out
  have u3 := cell_below c3 B0.out
  have u4 := cell_below c4 B0.out
  have y0 := CT.out.below B0.out 0 _ rfl
  have y1 := CT.out.below B0.out 1 _ rfl
  have y2 := CT.out.below B0.out 2 _ rfl
  have y3 := CT.out.below B0.out 3 _ rfl
  have y4 := CT.out.below B0.out 4 _ rfl
  have y5 := CT.out.below B0.out 5 _ rfl
  have y6 := CT.out.below B0.out 6 _ rfl
  have y7 := CT.out.below B0.out 7 _ rfl
  have y8 := CT.out.below B0.out 8 _ rfl
  have y9 := CT.out.below B0.out 9 _ rfl
  rw [Nat.add_zero] at y0
  rw [e0] at y0
  rw [hcu] at y8
  have RQ1 := hide rq
  have NP := hide np
  have NX := hide nx
  have NN := hide nn
  have EF := hide ef
  have HM := hide hm
  clear hD hz hT hC hct hcs CT FI N EK NA efv e0 hcu hv hk rq np nx nn ef nz c0 c1 c2 c3 c4
  generalize l[m].name = n0 at *
  generalize l[m].text = n1 at *
  generalize l[m].parent = n3 at *
  generalize eax : l[m].attrs = ax at *
  clear eax
  generalize C[m].dirty = z1 at *
  generalize C[m].typed = z2 at *
  generalize C[m].chk = z3 at *
  generalize C[m].dchk = z4 at *
  generalize C[m].mixed = z5 at *
  generalize C[m].sel = z6 at *
  generalize C[m].dsel = z7 at *
  generalize C[m].files.length = z9 at *
  go_enter Tryz.func20, Tryz.ntmps20
  go_upto_region 1 with fail
  have d0 := ND.out.cell 0 rfl
  have d1 := ND.out.cell 1 rfl
  generalize (w.alloc (.cells #[.slice (some ⟨b, o, none⟩) l.length c, .slice (some ⟨bc, oc, none⟩) C.length kc] 28)) = w0 at *
  have LB : Hid (w.heap.size ≤ w0.heap.size) := B0.out.size
  have HOz := hide (fun W (hb : Below w0.heap.size w0 W) => HO.out W (chain B0.out hb))
  have HVz := hide (fun W (hb : Below w0.heap.size w0 W) => HV.out W (chain B0.out hb))
  have BC : Hid (Below w0.heap.size w0 w0.drew) := ⟨rfl, rfl, rfl, Nat.le_refl _, fun _ _ => rfl⟩
  clear HO HV ND
  go_cut [5] (fun sv wx => ∃ E : Nat, sv = .pointer (some ⟨E, 0, none⟩) ∧ Hid (wx.rangeAt E 0 [.slice (some ⟨b, o, none⟩) l.length c, .slice (some ⟨bc, oc, none⟩) C.length kc, .int .i64 (m : Int), .int .i64 2, .string n0, .string n1, .slice pva ax.length cva, .int .i64 n3, .slice pvk n6 cvk, .string ⟨#[]⟩, .bool z1, .bool z2, .bool z3, .bool z4, .bool z5, .bool z6, .bool z7, .string ⟨#[]⟩, .slice fp z9 fc, .string ⟨#[]⟩]) ∧ Hid (Below w.heap.size w wx))
  case first =>
    refine wp_region_held_drew (S := fun X : World => X.cell? ⟨w.heap.size, 0, none⟩ = some (.slice (some ⟨b, o, none⟩) l.length c) ∧ X.cell? ⟨w.heap.size, 1, none⟩ = some (.slice (some ⟨bc, oc, none⟩) C.length kc) ∧ X.cell? ⟨b, o + m * 5, none⟩ = some (.string n0) ∧ X.cell? ⟨b, o + m * 5 + 1, none⟩ = some (.string n1) ∧ X.cell? ⟨b, o + m * 5 + 2, none⟩ = some (.slice pva ax.length cva) ∧ X.cell? ⟨b, o + m * 5 + 3, none⟩ = some (.int .i64 n3) ∧ X.cell? ⟨b, o + m * 5 + 4, none⟩ = some (.slice pvk n6 cvk) ∧ X.cell? ⟨bc, oc + m * 10, none⟩ = some (.string ⟨#[]⟩) ∧ X.cell? ⟨bc, oc + m * 10 + 1, none⟩ = some (.bool z1) ∧ X.cell? ⟨bc, oc + m * 10 + 2, none⟩ = some (.bool z2) ∧ X.cell? ⟨bc, oc + m * 10 + 3, none⟩ = some (.bool z3) ∧ X.cell? ⟨bc, oc + m * 10 + 4, none⟩ = some (.bool z4) ∧ X.cell? ⟨bc, oc + m * 10 + 5, none⟩ = some (.bool z5) ∧ X.cell? ⟨bc, oc + m * 10 + 6, none⟩ = some (.bool z6) ∧ X.cell? ⟨bc, oc + m * 10 + 7, none⟩ = some (.bool z7) ∧ X.cell? ⟨bc, oc + m * 10 + 8, none⟩ = some (.string ⟨#[]⟩) ∧ X.cell? ⟨bc, oc + m * 10 + 9, none⟩ = some (.slice fp z9 fc)) (by kernel_rfl) ?_ (fun hHeld => ?_)
    · exact ⟨d0, d1, u0, u1, u2, u3, u4, y0, y1, y2, y3, y4, y5, y6, y7, y8, y9⟩
    refine wpAnyH_take (i := 0) (oi := { dst := some 11, op := Op.load 28 (Operand.tmp 2), type := 28, pos := "valid.go:123", after := #[], guard := none }) (v := ?_) rfl (by kernel_rfl) (by kernel_rfl) (by kernel_rfl) (fun _ _ _ h => h) (Or.inl ⟨by rfl, ?_⟩) (by assumption) ?_
    rotate_left
    · (intro w hSw; (try dsimp only at hSw); first | (go_simp; done) | (go_simp; with_reducible rfl))
    simp only [Act.put, List.setIfInBounds_toArray, List.set_cons_zero, List.set_cons_succ]
    refine wpAnyH_take (i := 1) (oi := { dst := some 12, op := Op.move (Operand.tmp 1), type := 3, pos := "valid.go:123", after := #[], guard := none }) (v := ?_) rfl (by kernel_rfl) (by kernel_rfl) (by kernel_rfl) (fun _ _ _ h => h) (Or.inl ⟨by rfl, ?_⟩) (by assumption) ?_
    rotate_left
    · (intro w hSw; (try dsimp only at hSw); first | (go_simp; done) | (go_simp; with_reducible rfl))
    simp only [Act.put, List.setIfInBounds_toArray, List.set_cons_zero, List.set_cons_succ]
    refine wpAnyH_take (i := 2) (oi := { dst := some 13, op := Op.fieldAddr 28 (Operand.tmp 2) 0, type := 0, pos := "valid.go:123", after := #[], guard := none }) (v := ?_) rfl (by kernel_rfl) (by kernel_rfl) (by kernel_rfl) (fun _ _ _ h => h) (Or.inl ⟨by rfl, ?_⟩) (by assumption) ?_
    rotate_left
    · (intro w hSw; (try dsimp only at hSw); first | (go_simp; done) | (go_simp; with_reducible rfl))
    simp only [Act.put, List.setIfInBounds_toArray, List.set_cons_zero, List.set_cons_succ]
    refine wpAnyH_take (i := 3) (oi := { dst := some 14, op := Op.load 22 (Operand.tmp 13), type := 22, pos := "valid.go:123", after := #[{ on := 2, ground := Ground.data }], guard := none }) (v := ?_) rfl (by kernel_rfl) (by kernel_rfl) (by kernel_rfl) (fun _ _ _ h => h) (Or.inl ⟨by rfl, ?_⟩) (by assumption) ?_
    rotate_left
    · (intro w hSw; (try dsimp only at hSw); first | (go_simp; done) | (go_simp; with_reducible rfl))
    simp only [Act.put, List.setIfInBounds_toArray, List.set_cons_zero, List.set_cons_succ]
    refine wpAnyH_take (i := 4) (oi := { dst := some 15, op := Op.move (Operand.tmp 1), type := 3, pos := "valid.go:123", after := #[], guard := none }) (v := ?_) rfl (by kernel_rfl) (by kernel_rfl) (by kernel_rfl) (fun _ _ _ h => h) (Or.inl ⟨by rfl, ?_⟩) (by assumption) ?_
    rotate_left
    · (intro w hSw; (try dsimp only at hSw); first | (go_simp; done) | (go_simp; with_reducible rfl))
    simp only [Act.put, List.setIfInBounds_toArray, List.set_cons_zero, List.set_cons_succ]
    refine wpAnyH_take (i := 5) (oi := { dst := some 16, op := Op.indexAddr 22 (Operand.tmp 14) (Operand.tmp 15), type := 0, pos := "valid.go:123", after := #[{ on := 3, ground := Ground.data }, { on := 4, ground := Ground.data }], guard := none }) (v := ?_) rfl (by kernel_rfl) (by kernel_rfl) (by kernel_rfl) (fun _ _ _ h => h) (Or.inl ⟨by rfl, ?_⟩) (by assumption) ?_
    rotate_left
    · (intro w hSw; (try dsimp only at hSw); first | (go_simp; done) | (go_simp; with_reducible rfl))
    simp only [Act.put, List.setIfInBounds_toArray, List.set_cons_zero, List.set_cons_succ]
    refine wpAnyH_take (i := 6) (oi := { dst := some 17, op := Op.load 38 (Operand.tmp 16), type := 38, pos := "valid.go:123", after := #[{ on := 5, ground := Ground.data }], guard := none }) (v := ?_) rfl (by kernel_rfl) (by kernel_rfl) (by kernel_rfl) (fun _ _ _ h => h) (Or.inl ⟨by rfl, ?_⟩) (by assumption) ?_
    rotate_left
    · (intro w hSw; (try dsimp only at hSw); first | (go_simp; done) | (go_simp; with_reducible rfl))
    simp only [Act.put, List.setIfInBounds_toArray, List.set_cons_zero, List.set_cons_succ]
    refine wpAnyH_take (i := 8) (oi := { dst := some 19, op := Op.fieldAddr 28 (Operand.tmp 2) 0, type := 0, pos := "valid.go:123", after := #[], guard := none }) (v := ?_) rfl (by kernel_rfl) (by kernel_rfl) (by kernel_rfl) (fun _ _ _ h => h) (Or.inl ⟨by rfl, ?_⟩) (by assumption) ?_
    rotate_left
    · (intro w hSw; (try dsimp only at hSw); first | (go_simp; done) | (go_simp; with_reducible rfl))
    simp only [Act.put, List.setIfInBounds_toArray, List.set_cons_zero, List.set_cons_succ]
    refine wpAnyH_take (i := 9) (oi := { dst := some 20, op := Op.load 22 (Operand.tmp 19), type := 22, pos := "valid.go:123", after := #[{ on := 8, ground := Ground.data }], guard := none }) (v := ?_) rfl (by kernel_rfl) (by kernel_rfl) (by kernel_rfl) (fun _ _ _ h => h) (Or.inl ⟨by rfl, ?_⟩) (by assumption) ?_
    rotate_left
    · (intro w hSw; (try dsimp only at hSw); first | (go_simp; done) | (go_simp; with_reducible rfl))
    simp only [Act.put, List.setIfInBounds_toArray, List.set_cons_zero, List.set_cons_succ]
    refine wpAnyH_take (i := 10) (oi := { dst := some 21, op := Op.move (Operand.tmp 1), type := 3, pos := "valid.go:123", after := #[], guard := none }) (v := ?_) rfl (by kernel_rfl) (by kernel_rfl) (by kernel_rfl) (fun _ _ _ h => h) (Or.inl ⟨by rfl, ?_⟩) (by assumption) ?_
    rotate_left
    · (intro w hSw; (try dsimp only at hSw); first | (go_simp; done) | (go_simp; with_reducible rfl))
    simp only [Act.put, List.setIfInBounds_toArray, List.set_cons_zero, List.set_cons_succ]
    refine wpAnyH_take (i := 11) (oi := { dst := some 22, op := Op.indexAddr 22 (Operand.tmp 20) (Operand.tmp 21), type := 0, pos := "valid.go:123", after := #[{ on := 9, ground := Ground.data }, { on := 10, ground := Ground.data }], guard := none }) (v := ?_) rfl (by kernel_rfl) (by kernel_rfl) (by kernel_rfl) (fun _ _ _ h => h) (Or.inl ⟨by rfl, ?_⟩) (by assumption) ?_
    rotate_left
    · (intro w hSw; (try dsimp only at hSw); first | (go_simp; done) | (go_simp; with_reducible rfl))
    simp only [Act.put, List.setIfInBounds_toArray, List.set_cons_zero, List.set_cons_succ]
    refine wpAnyH_take (i := 12) (oi := { dst := some 23, op := Op.load 38 (Operand.tmp 22), type := 38, pos := "valid.go:123", after := #[{ on := 11, ground := Ground.data }], guard := none }) (v := ?_) rfl (by kernel_rfl) (by kernel_rfl) (by kernel_rfl) (fun _ _ _ h => h) (Or.inl ⟨by rfl, ?_⟩) (by assumption) ?_
    rotate_left
    · (intro w hSw; (try dsimp only at hSw); first | (go_simp; done) | (go_simp; with_reducible rfl))
    simp only [Act.put, List.setIfInBounds_toArray, List.set_cons_zero, List.set_cons_succ]
    refine wpAnyH_take (i := 13) (oi := { dst := some 24, op := Op.fieldAddr 28 (Operand.tmp 2) 1, type := 0, pos := "valid.go:123", after := #[], guard := none }) (v := ?_) rfl (by kernel_rfl) (by kernel_rfl) (by kernel_rfl) (fun _ _ _ h => h) (Or.inl ⟨by rfl, ?_⟩) (by assumption) ?_
    rotate_left
    · (intro w hSw; (try dsimp only at hSw); first | (go_simp; done) | (go_simp; with_reducible rfl))
    simp only [Act.put, List.setIfInBounds_toArray, List.set_cons_zero, List.set_cons_succ]
    refine wpAnyH_take (i := 14) (oi := { dst := some 25, op := Op.load 26 (Operand.tmp 24), type := 26, pos := "valid.go:123", after := #[{ on := 13, ground := Ground.data }], guard := none }) (v := ?_) rfl (by kernel_rfl) (by kernel_rfl) (by kernel_rfl) (fun _ _ _ h => h) (Or.inl ⟨by rfl, ?_⟩) (by assumption) ?_
    rotate_left
    · (intro w hSw; (try dsimp only at hSw); first | (go_simp; done) | (go_simp; with_reducible rfl))
    simp only [Act.put, List.setIfInBounds_toArray, List.set_cons_zero, List.set_cons_succ]
    refine wpAnyH_take (i := 15) (oi := { dst := some 26, op := Op.move (Operand.tmp 1), type := 3, pos := "valid.go:123", after := #[], guard := none }) (v := ?_) rfl (by kernel_rfl) (by kernel_rfl) (by kernel_rfl) (fun _ _ _ h => h) (Or.inl ⟨by rfl, ?_⟩) (by assumption) ?_
    rotate_left
    · (intro w hSw; (try dsimp only at hSw); first | (go_simp; done) | (go_simp; with_reducible rfl))
    simp only [Act.put, List.setIfInBounds_toArray, List.set_cons_zero, List.set_cons_succ]
    refine wpAnyH_take (i := 16) (oi := { dst := some 27, op := Op.indexAddr 26 (Operand.tmp 25) (Operand.tmp 26), type := 0, pos := "valid.go:123", after := #[{ on := 14, ground := Ground.data }, { on := 15, ground := Ground.data }], guard := none }) (v := ?_) rfl (by kernel_rfl) (by kernel_rfl) (by kernel_rfl) (fun _ _ _ h => h) (Or.inl ⟨by rfl, ?_⟩) (by assumption) ?_
    rotate_left
    · (intro w hSw; (try dsimp only at hSw); first | (go_simp; done) | (go_simp; with_reducible rfl))
    simp only [Act.put, List.setIfInBounds_toArray, List.set_cons_zero, List.set_cons_succ]
    refine wpAnyH_take (i := 17) (oi := { dst := some 28, op := Op.load 55 (Operand.tmp 27), type := 55, pos := "valid.go:123", after := #[{ on := 16, ground := Ground.data }], guard := none }) (v := ?_) rfl (by kernel_rfl) (by kernel_rfl) (by kernel_rfl) (fun _ _ _ h => h) (Or.inl ⟨by rfl, ?_⟩) (by assumption) ?_
    rotate_left
    · (intro w hSw; (try dsimp only at hSw); first | (go_simp; done) | (go_simp; with_reducible rfl))
    simp only [Act.put, List.setIfInBounds_toArray, List.set_cons_zero, List.set_cons_succ]
    refine wpAnyH_take (i := 18) (oi := { dst := some 29, op := Op.load 28 (Operand.tmp 2), type := 28, pos := "valid.go:123", after := #[], guard := none }) (v := ?_) rfl (by kernel_rfl) (by kernel_rfl) (by kernel_rfl) (fun _ _ _ h => h) (Or.inl ⟨by rfl, ?_⟩) (by assumption) ?_
    rotate_left
    · (intro w hSw; (try dsimp only at hSw); first | (go_simp; done) | (go_simp; with_reducible rfl))
    simp only [Act.put, List.setIfInBounds_toArray, List.set_cons_zero, List.set_cons_succ]
    refine wpAnyH_take (i := 19) (oi := { dst := some 30, op := Op.move (Operand.tmp 1), type := 3, pos := "valid.go:123", after := #[], guard := none }) (v := ?_) rfl (by kernel_rfl) (by kernel_rfl) (by kernel_rfl) (fun _ _ _ h => h) (Or.inl ⟨by rfl, ?_⟩) (by assumption) ?_
    rotate_left
    · (intro w hSw; (try dsimp only at hSw); first | (go_simp; done) | (go_simp; with_reducible rfl))
    simp only [Act.put, List.setIfInBounds_toArray, List.set_cons_zero, List.set_cons_succ]
    refine wpAnyH_ready (rs := [7, 22]) (by kernel_rfl) (by simp) ?_
    refine AllReadyH.cons (i := 7) (o := { dst := some 18, op := Op.call { callee := Callee.value (Operand.func 23), args := #[Operand.tmp 17], argTypes := #[38] }, type := 3, pos := "valid.go:123", after := #[{ on := 6, ground := Ground.data }], guard := none }) rfl (fun K hK => ?_) (AllReadyH.cons (i := 22) (o := { dst := some 5, op := Op.alloc 58, type := 0, pos := "valid.go:123", after := #[], guard := none }) rfl (fun K hK => ?_) AllReadyH.nil)
    · go_simp
      refine (HOz.out _ BC.out).mono ?_
      rintro e wa ⟨rfl, bx⟩
      replace BC := hide (chain BC.out bx)
      try replace KE := hide (KE.out.below bx)
      clear bx
      go_wp2_with fail
      refine hK.out _ _ ?_ (fun hHeld => ?_)
      · exact ⟨cell_below d0 BC.out, cell_below d1 BC.out, cell_below u0 BC.out, cell_below u1 BC.out, cell_below u2 BC.out, cell_below u3 BC.out, cell_below u4 BC.out, cell_below y0 BC.out, cell_below y1 BC.out, cell_below y2 BC.out, cell_below y3 BC.out, cell_below y4 BC.out, cell_below y5 BC.out, cell_below y6 BC.out, cell_below y7 BC.out, cell_below y8 BC.out, cell_below y9 BC.out⟩
      clear hK K
      refine wpAnyH_ready (rs := [20, 22]) (by kernel_rfl) (by simp) ?_
      refine AllReadyH.cons (i := 20) (o := { dst := some 31, op := Op.call { callee := Callee.value (Operand.func 37), args := #[Operand.tmp 29, Operand.tmp 30], argTypes := #[28, 3] }, type := 9, pos := "valid.go:123", after := #[{ on := 18, ground := Ground.data }, { on := 19, ground := Ground.data }, { on := 7, ground := Ground.chain }], guard := none }) rfl (fun K hK => ?_) (AllReadyH.cons (i := 22) (o := { dst := some 5, op := Op.alloc 58, type := 0, pos := "valid.go:123", after := #[], guard := none }) rfl (fun K hK => ?_) AllReadyH.nil)
      · go_simp
        refine (HVz.out _ BC.out).mono ?_
        rintro e wb ⟨rfl, bx⟩
        replace BC := hide (chain BC.out bx)
        try replace KE := hide (KE.out.below bx)
        clear bx
        go_wp2_with fail
        refine hK.out _ _ ?_ (fun hHeld => ?_)
        · exact ⟨cell_below d0 BC.out, cell_below d1 BC.out, cell_below u0 BC.out, cell_below u1 BC.out, cell_below u2 BC.out, cell_below u3 BC.out, cell_below u4 BC.out, cell_below y0 BC.out, cell_below y1 BC.out, cell_below y2 BC.out, cell_below y3 BC.out, cell_below y4 BC.out, cell_below y5 BC.out, cell_below y6 BC.out, cell_below y7 BC.out, cell_below y8 BC.out, cell_below y9 BC.out⟩
        clear hK K
        refine wpAnyH_take (i := 21) (oi := { dst := some 32, op := Op.build 58 #[(0, Operand.tmp 11), (1, Operand.tmp 12), (2, Operand.tmp 18), (3, Operand.tmp 23), (4, Operand.tmp 28), (5, Operand.tmp 31)], type := 58, pos := "valid.go:123", after := #[{ on := 0, ground := Ground.data }, { on := 1, ground := Ground.data }, { on := 7, ground := Ground.data }, { on := 12, ground := Ground.data }, { on := 17, ground := Ground.data }, { on := 20, ground := Ground.data }], guard := none }) (v := ?_) rfl (by kernel_rfl) (by kernel_rfl) (by kernel_rfl) (fun _ _ _ h => h) (Or.inl ⟨by rfl, ?_⟩) (by assumption) ?_
        rotate_left
        · (intro w hSw; (try dsimp only at hSw); first | (go_simp; done) | (go_simp; with_reducible rfl))
        simp only [Act.put, List.setIfInBounds_toArray, List.set_cons_zero, List.set_cons_succ]
        refine wpAnyH_ready (rs := [22]) (by kernel_rfl) (by simp) ?_
        refine AllReadyH.cons (i := 22) (o := { dst := some 5, op := Op.alloc 58, type := 0, pos := "valid.go:123", after := #[], guard := none }) rfl (fun K hK => ?_) AllReadyH.nil
        go_simp
        have KE := hide (Bk.new wb [.slice none 0 0, .slice none 0 0, .int .i64 0, .int .i64 0, .string ⟨#[]⟩, .string ⟨#[]⟩, .slice none 0 0, .int .i64 0, .slice none 0 0, .string ⟨#[]⟩, .bool false, .bool false, .bool false, .bool false, .bool false, .bool false, .bool false, .string ⟨#[]⟩, .slice none 0 0, .string ⟨#[]⟩] 58)
        have AZ : Below wb.heap.size wb (wb.alloc (.cells #[.slice none 0 0, .slice none 0 0, .int .i64 0, .int .i64 0, .string ⟨#[]⟩, .string ⟨#[]⟩, .slice none 0 0, .int .i64 0, .slice none 0 0, .string ⟨#[]⟩, .bool false, .bool false, .bool false, .bool false, .bool false, .bool false, .bool false, .string ⟨#[]⟩, .slice none 0 0, .string ⟨#[]⟩] 58)) := (Below.refl _ _).alloc (Nat.le_refl _) _
        have GE := hide BC.out.size
        replace BC := hide (chain BC.out AZ)
        clear AZ
        generalize wb.alloc (.cells #[.slice none 0 0, .slice none 0 0, .int .i64 0, .int .i64 0, .string ⟨#[]⟩, .string ⟨#[]⟩, .slice none 0 0, .int .i64 0, .slice none 0 0, .string ⟨#[]⟩, .bool false, .bool false, .bool false, .bool false, .bool false, .bool false, .bool false, .string ⟨#[]⟩, .slice none 0 0, .string ⟨#[]⟩] 58) = wz at *
        generalize wb.heap.size = E at *
        refine hK.out _ _ ?_ (fun hHeld => ?_)
        · exact ⟨cell_below d0 BC.out, cell_below d1 BC.out, cell_below u0 BC.out, cell_below u1 BC.out, cell_below u2 BC.out, cell_below u3 BC.out, cell_below u4 BC.out, cell_below y0 BC.out, cell_below y1 BC.out, cell_below y2 BC.out, cell_below y3 BC.out, cell_below y4 BC.out, cell_below y5 BC.out, cell_below y6 BC.out, cell_below y7 BC.out, cell_below y8 BC.out, cell_below y9 BC.out⟩
        clear hK K
        refine wpAnyH_ready (rs := [23]) (by kernel_rfl) (by simp) ?_
        refine AllReadyH.cons (i := 23) (o := { dst := none, op := Op.store 58 (Operand.tmp 5) (Operand.tmp 32), type := 0, pos := "valid.go:123", after := #[{ on := 22, ground := Ground.data }, { on := 21, ground := Ground.data }, { on := 20, ground := Ground.chain }, { on := 0, ground := Ground.phase }, { on := 1, ground := Ground.phase }, { on := 2, ground := Ground.phase }, { on := 3, ground := Ground.phase }, { on := 4, ground := Ground.phase }, { on := 5, ground := Ground.phase }, { on := 6, ground := Ground.phase }, { on := 7, ground := Ground.phase }, { on := 8, ground := Ground.phase }, { on := 9, ground := Ground.phase }, { on := 10, ground := Ground.phase }, { on := 11, ground := Ground.phase }, { on := 12, ground := Ground.phase }, { on := 13, ground := Ground.phase }, { on := 14, ground := Ground.phase }, { on := 15, ground := Ground.phase }, { on := 16, ground := Ground.phase }, { on := 17, ground := Ground.phase }, { on := 18, ground := Ground.phase }, { on := 19, ground := Ground.phase }, { on := 20, ground := Ground.phase }, { on := 21, ground := Ground.phase }, { on := 22, ground := Ground.phase }], guard := none }) rfl (fun K hK => ?_) AllReadyH.nil
        rw [if_pos (by rfl)]
        have B5 := hide (bel_sets GE.out [.slice (some ⟨b, o, none⟩) l.length c, .slice (some ⟨bc, oc, none⟩) C.length kc, .int .i64 (m : Int), .int .i64 2, .string n0, .string n1, .slice pva ax.length cva, .int .i64 n3, .slice pvk n6 cvk, .string ⟨#[]⟩, .bool z1, .bool z2, .bool z3, .bool z4, .bool z5, .bool z6, .bool z7, .string ⟨#[]⟩, .slice fp z9 fc, .string ⟨#[]⟩] 0 _ BC.out)
        refine wp_store_mid 58 _ _ rfl _ 0 #[.slice (some ⟨b, o, none⟩) l.length c, .slice (some ⟨bc, oc, none⟩) C.length kc, .int .i64 (m : Int), .int .i64 2, .string n0, .string n1, .slice pva ax.length cva, .int .i64 n3, .slice pvk n6 cvk, .string ⟨#[]⟩, .bool z1, .bool z2, .bool z3, .bool z4, .bool z5, .bool z6, .bool z7, .string ⟨#[]⟩, .slice fp z9 fc, .string ⟨#[]⟩] rfl rfl KE.out.there (by rfl) (by simp [Value.oneCell']) ?_
        refine hK.out _ _ ?_ (fun hHeld => ?_)
        · exact ⟨cell_below d0 B5.out, cell_below d1 B5.out, cell_below u0 B5.out, cell_below u1 B5.out, cell_below u2 B5.out, cell_below u3 B5.out, cell_below u4 B5.out, cell_below y0 B5.out, cell_below y1 B5.out, cell_below y2 B5.out, cell_below y3 B5.out, cell_below y4 B5.out, cell_below y5 B5.out, cell_below y6 B5.out, cell_below y7 B5.out, cell_below y8 B5.out, cell_below y9 B5.out⟩
        clear hK K
        refine wpAnyH_done (by kernel_rfl) ?_ _
        go_wp2_with fail
        go_meet
        case rel => exact ⟨_, rfl, World.rangeAt_setCells_same _ _ _ _ KE.out.there, chain B0.out B5.out⟩
      · go_simp
        have KE := hide (Bk.new wa [.slice none 0 0, .slice none 0 0, .int .i64 0, .int .i64 0, .string ⟨#[]⟩, .string ⟨#[]⟩, .slice none 0 0, .int .i64 0, .slice none 0 0, .string ⟨#[]⟩, .bool false, .bool false, .bool false, .bool false, .bool false, .bool false, .bool false, .string ⟨#[]⟩, .slice none 0 0, .string ⟨#[]⟩] 58)
        have AZ : Below wa.heap.size wa (wa.alloc (.cells #[.slice none 0 0, .slice none 0 0, .int .i64 0, .int .i64 0, .string ⟨#[]⟩, .string ⟨#[]⟩, .slice none 0 0, .int .i64 0, .slice none 0 0, .string ⟨#[]⟩, .bool false, .bool false, .bool false, .bool false, .bool false, .bool false, .bool false, .string ⟨#[]⟩, .slice none 0 0, .string ⟨#[]⟩] 58)) := (Below.refl _ _).alloc (Nat.le_refl _) _
        have GE := hide BC.out.size
        replace BC := hide (chain BC.out AZ)
        clear AZ
        generalize wa.alloc (.cells #[.slice none 0 0, .slice none 0 0, .int .i64 0, .int .i64 0, .string ⟨#[]⟩, .string ⟨#[]⟩, .slice none 0 0, .int .i64 0, .slice none 0 0, .string ⟨#[]⟩, .bool false, .bool false, .bool false, .bool false, .bool false, .bool false, .bool false, .string ⟨#[]⟩, .slice none 0 0, .string ⟨#[]⟩] 58) = wz at *
        generalize wa.heap.size = E at *
        refine hK.out _ _ ?_ (fun hHeld => ?_)
        · exact ⟨cell_below d0 BC.out, cell_below d1 BC.out, cell_below u0 BC.out, cell_below u1 BC.out, cell_below u2 BC.out, cell_below u3 BC.out, cell_below u4 BC.out, cell_below y0 BC.out, cell_below y1 BC.out, cell_below y2 BC.out, cell_below y3 BC.out, cell_below y4 BC.out, cell_below y5 BC.out, cell_below y6 BC.out, cell_below y7 BC.out, cell_below y8 BC.out, cell_below y9 BC.out⟩
        clear hK K
        refine wpAnyH_ready (rs := [20]) (by kernel_rfl) (by simp) ?_
        refine AllReadyH.cons (i := 20) (o := { dst := some 31, op := Op.call { callee := Callee.value (Operand.func 37), args := #[Operand.tmp 29, Operand.tmp 30], argTypes := #[28, 3] }, type := 9, pos := "valid.go:123", after := #[{ on := 18, ground := Ground.data }, { on := 19, ground := Ground.data }, { on := 7, ground := Ground.chain }], guard := none }) rfl (fun K hK => ?_) AllReadyH.nil
        go_simp
        refine (HVz.out _ BC.out).mono ?_
        rintro e wb ⟨rfl, bx⟩
        replace BC := hide (chain BC.out bx)
        try replace KE := hide (KE.out.below bx)
        clear bx
        go_wp2_with fail
        refine hK.out _ _ ?_ (fun hHeld => ?_)
        · exact ⟨cell_below d0 BC.out, cell_below d1 BC.out, cell_below u0 BC.out, cell_below u1 BC.out, cell_below u2 BC.out, cell_below u3 BC.out, cell_below u4 BC.out, cell_below y0 BC.out, cell_below y1 BC.out, cell_below y2 BC.out, cell_below y3 BC.out, cell_below y4 BC.out, cell_below y5 BC.out, cell_below y6 BC.out, cell_below y7 BC.out, cell_below y8 BC.out, cell_below y9 BC.out⟩
        clear hK K
        refine wpAnyH_take (i := 21) (oi := { dst := some 32, op := Op.build 58 #[(0, Operand.tmp 11), (1, Operand.tmp 12), (2, Operand.tmp 18), (3, Operand.tmp 23), (4, Operand.tmp 28), (5, Operand.tmp 31)], type := 58, pos := "valid.go:123", after := #[{ on := 0, ground := Ground.data }, { on := 1, ground := Ground.data }, { on := 7, ground := Ground.data }, { on := 12, ground := Ground.data }, { on := 17, ground := Ground.data }, { on := 20, ground := Ground.data }], guard := none }) (v := ?_) rfl (by kernel_rfl) (by kernel_rfl) (by kernel_rfl) (fun _ _ _ h => h) (Or.inl ⟨by rfl, ?_⟩) (by assumption) ?_
        rotate_left
        · (intro w hSw; (try dsimp only at hSw); first | (go_simp; done) | (go_simp; with_reducible rfl))
        simp only [Act.put, List.setIfInBounds_toArray, List.set_cons_zero, List.set_cons_succ]
        refine wpAnyH_ready (rs := [23]) (by kernel_rfl) (by simp) ?_
        refine AllReadyH.cons (i := 23) (o := { dst := none, op := Op.store 58 (Operand.tmp 5) (Operand.tmp 32), type := 0, pos := "valid.go:123", after := #[{ on := 22, ground := Ground.data }, { on := 21, ground := Ground.data }, { on := 20, ground := Ground.chain }, { on := 0, ground := Ground.phase }, { on := 1, ground := Ground.phase }, { on := 2, ground := Ground.phase }, { on := 3, ground := Ground.phase }, { on := 4, ground := Ground.phase }, { on := 5, ground := Ground.phase }, { on := 6, ground := Ground.phase }, { on := 7, ground := Ground.phase }, { on := 8, ground := Ground.phase }, { on := 9, ground := Ground.phase }, { on := 10, ground := Ground.phase }, { on := 11, ground := Ground.phase }, { on := 12, ground := Ground.phase }, { on := 13, ground := Ground.phase }, { on := 14, ground := Ground.phase }, { on := 15, ground := Ground.phase }, { on := 16, ground := Ground.phase }, { on := 17, ground := Ground.phase }, { on := 18, ground := Ground.phase }, { on := 19, ground := Ground.phase }, { on := 20, ground := Ground.phase }, { on := 21, ground := Ground.phase }, { on := 22, ground := Ground.phase }], guard := none }) rfl (fun K hK => ?_) AllReadyH.nil
        rw [if_pos (by rfl)]
        have B5 := hide (bel_sets GE.out [.slice (some ⟨b, o, none⟩) l.length c, .slice (some ⟨bc, oc, none⟩) C.length kc, .int .i64 (m : Int), .int .i64 2, .string n0, .string n1, .slice pva ax.length cva, .int .i64 n3, .slice pvk n6 cvk, .string ⟨#[]⟩, .bool z1, .bool z2, .bool z3, .bool z4, .bool z5, .bool z6, .bool z7, .string ⟨#[]⟩, .slice fp z9 fc, .string ⟨#[]⟩] 0 _ BC.out)
        refine wp_store_mid 58 _ _ rfl _ 0 #[.slice (some ⟨b, o, none⟩) l.length c, .slice (some ⟨bc, oc, none⟩) C.length kc, .int .i64 (m : Int), .int .i64 2, .string n0, .string n1, .slice pva ax.length cva, .int .i64 n3, .slice pvk n6 cvk, .string ⟨#[]⟩, .bool z1, .bool z2, .bool z3, .bool z4, .bool z5, .bool z6, .bool z7, .string ⟨#[]⟩, .slice fp z9 fc, .string ⟨#[]⟩] rfl rfl KE.out.there (by rfl) (by simp [Value.oneCell']) ?_
        refine hK.out _ _ ?_ (fun hHeld => ?_)
        · exact ⟨cell_below d0 B5.out, cell_below d1 B5.out, cell_below u0 B5.out, cell_below u1 B5.out, cell_below u2 B5.out, cell_below u3 B5.out, cell_below u4 B5.out, cell_below y0 B5.out, cell_below y1 B5.out, cell_below y2 B5.out, cell_below y3 B5.out, cell_below y4 B5.out, cell_below y5 B5.out, cell_below y6 B5.out, cell_below y7 B5.out, cell_below y8 B5.out, cell_below y9 B5.out⟩
        clear hK K
        refine wpAnyH_done (by kernel_rfl) ?_ _
        go_wp2_with fail
        go_meet
        case rel => exact ⟨_, rfl, World.rangeAt_setCells_same _ _ _ _ KE.out.there, chain B0.out B5.out⟩
    · go_simp
      have KE := hide (Bk.new w0 [.slice none 0 0, .slice none 0 0, .int .i64 0, .int .i64 0, .string ⟨#[]⟩, .string ⟨#[]⟩, .slice none 0 0, .int .i64 0, .slice none 0 0, .string ⟨#[]⟩, .bool false, .bool false, .bool false, .bool false, .bool false, .bool false, .bool false, .string ⟨#[]⟩, .slice none 0 0, .string ⟨#[]⟩] 58).drewV
      have GE : Hid (w0.heap.size ≤ w0.heap.size) := Nat.le_refl _
      replace BC : Hid (Below w0.heap.size w0 (w0.alloc (.cells #[.slice none 0 0, .slice none 0 0, .int .i64 0, .int .i64 0, .string ⟨#[]⟩, .string ⟨#[]⟩, .slice none 0 0, .int .i64 0, .slice none 0 0, .string ⟨#[]⟩, .bool false, .bool false, .bool false, .bool false, .bool false, .bool false, .bool false, .string ⟨#[]⟩, .slice none 0 0, .string ⟨#[]⟩] 58)).drew) := bel_dV ((Below.refl _ w0).alloc (Nat.le_refl _) _)
      generalize (w0.alloc (.cells #[.slice none 0 0, .slice none 0 0, .int .i64 0, .int .i64 0, .string ⟨#[]⟩, .string ⟨#[]⟩, .slice none 0 0, .int .i64 0, .slice none 0 0, .string ⟨#[]⟩, .bool false, .bool false, .bool false, .bool false, .bool false, .bool false, .bool false, .string ⟨#[]⟩, .slice none 0 0, .string ⟨#[]⟩] 58)).drew = wz at *
      refine hK.out _ _ ?_ (fun hHeld => ?_)
      · exact ⟨cell_below d0 BC.out, cell_below d1 BC.out, cell_below u0 BC.out, cell_below u1 BC.out, cell_below u2 BC.out, cell_below u3 BC.out, cell_below u4 BC.out, cell_below y0 BC.out, cell_below y1 BC.out, cell_below y2 BC.out, cell_below y3 BC.out, cell_below y4 BC.out, cell_below y5 BC.out, cell_below y6 BC.out, cell_below y7 BC.out, cell_below y8 BC.out, cell_below y9 BC.out⟩
      clear hK K
      refine wpAnyH_ready (rs := [7]) (by kernel_rfl) (by simp) ?_
      refine AllReadyH.cons (i := 7) (o := { dst := some 18, op := Op.call { callee := Callee.value (Operand.func 23), args := #[Operand.tmp 17], argTypes := #[38] }, type := 3, pos := "valid.go:123", after := #[{ on := 6, ground := Ground.data }], guard := none }) rfl (fun K hK => ?_) AllReadyH.nil
      go_simp
      refine (HOz.out _ BC.out).mono ?_
      rintro e wa ⟨rfl, bx⟩
      replace BC := hide (chain BC.out bx)
      try replace KE := hide (KE.out.below bx)
      clear bx
      go_wp2_with fail
      refine hK.out _ _ ?_ (fun hHeld => ?_)
      · exact ⟨cell_below d0 BC.out, cell_below d1 BC.out, cell_below u0 BC.out, cell_below u1 BC.out, cell_below u2 BC.out, cell_below u3 BC.out, cell_below u4 BC.out, cell_below y0 BC.out, cell_below y1 BC.out, cell_below y2 BC.out, cell_below y3 BC.out, cell_below y4 BC.out, cell_below y5 BC.out, cell_below y6 BC.out, cell_below y7 BC.out, cell_below y8 BC.out, cell_below y9 BC.out⟩
      clear hK K
      refine wpAnyH_ready (rs := [20]) (by kernel_rfl) (by simp) ?_
      refine AllReadyH.cons (i := 20) (o := { dst := some 31, op := Op.call { callee := Callee.value (Operand.func 37), args := #[Operand.tmp 29, Operand.tmp 30], argTypes := #[28, 3] }, type := 9, pos := "valid.go:123", after := #[{ on := 18, ground := Ground.data }, { on := 19, ground := Ground.data }, { on := 7, ground := Ground.chain }], guard := none }) rfl (fun K hK => ?_) AllReadyH.nil
      go_simp
      refine (HVz.out _ BC.out).mono ?_
      rintro e wb ⟨rfl, bx⟩
      replace BC := hide (chain BC.out bx)
      try replace KE := hide (KE.out.below bx)
      clear bx
      go_wp2_with fail
      refine hK.out _ _ ?_ (fun hHeld => ?_)
      · exact ⟨cell_below d0 BC.out, cell_below d1 BC.out, cell_below u0 BC.out, cell_below u1 BC.out, cell_below u2 BC.out, cell_below u3 BC.out, cell_below u4 BC.out, cell_below y0 BC.out, cell_below y1 BC.out, cell_below y2 BC.out, cell_below y3 BC.out, cell_below y4 BC.out, cell_below y5 BC.out, cell_below y6 BC.out, cell_below y7 BC.out, cell_below y8 BC.out, cell_below y9 BC.out⟩
      clear hK K
      refine wpAnyH_take (i := 21) (oi := { dst := some 32, op := Op.build 58 #[(0, Operand.tmp 11), (1, Operand.tmp 12), (2, Operand.tmp 18), (3, Operand.tmp 23), (4, Operand.tmp 28), (5, Operand.tmp 31)], type := 58, pos := "valid.go:123", after := #[{ on := 0, ground := Ground.data }, { on := 1, ground := Ground.data }, { on := 7, ground := Ground.data }, { on := 12, ground := Ground.data }, { on := 17, ground := Ground.data }, { on := 20, ground := Ground.data }], guard := none }) (v := ?_) rfl (by kernel_rfl) (by kernel_rfl) (by kernel_rfl) (fun _ _ _ h => h) (Or.inl ⟨by rfl, ?_⟩) (by assumption) ?_
      rotate_left
      · (intro w hSw; (try dsimp only at hSw); first | (go_simp; done) | (go_simp; with_reducible rfl))
      simp only [Act.put, List.setIfInBounds_toArray, List.set_cons_zero, List.set_cons_succ]
      refine wpAnyH_ready (rs := [23]) (by kernel_rfl) (by simp) ?_
      refine AllReadyH.cons (i := 23) (o := { dst := none, op := Op.store 58 (Operand.tmp 5) (Operand.tmp 32), type := 0, pos := "valid.go:123", after := #[{ on := 22, ground := Ground.data }, { on := 21, ground := Ground.data }, { on := 20, ground := Ground.chain }, { on := 0, ground := Ground.phase }, { on := 1, ground := Ground.phase }, { on := 2, ground := Ground.phase }, { on := 3, ground := Ground.phase }, { on := 4, ground := Ground.phase }, { on := 5, ground := Ground.phase }, { on := 6, ground := Ground.phase }, { on := 7, ground := Ground.phase }, { on := 8, ground := Ground.phase }, { on := 9, ground := Ground.phase }, { on := 10, ground := Ground.phase }, { on := 11, ground := Ground.phase }, { on := 12, ground := Ground.phase }, { on := 13, ground := Ground.phase }, { on := 14, ground := Ground.phase }, { on := 15, ground := Ground.phase }, { on := 16, ground := Ground.phase }, { on := 17, ground := Ground.phase }, { on := 18, ground := Ground.phase }, { on := 19, ground := Ground.phase }, { on := 20, ground := Ground.phase }, { on := 21, ground := Ground.phase }, { on := 22, ground := Ground.phase }], guard := none }) rfl (fun K hK => ?_) AllReadyH.nil
      rw [if_pos (by rfl)]
      have B5 := hide (bel_sets GE.out [.slice (some ⟨b, o, none⟩) l.length c, .slice (some ⟨bc, oc, none⟩) C.length kc, .int .i64 (m : Int), .int .i64 2, .string n0, .string n1, .slice pva ax.length cva, .int .i64 n3, .slice pvk n6 cvk, .string ⟨#[]⟩, .bool z1, .bool z2, .bool z3, .bool z4, .bool z5, .bool z6, .bool z7, .string ⟨#[]⟩, .slice fp z9 fc, .string ⟨#[]⟩] 0 _ BC.out)
      refine wp_store_mid 58 _ _ rfl _ 0 #[.slice (some ⟨b, o, none⟩) l.length c, .slice (some ⟨bc, oc, none⟩) C.length kc, .int .i64 (m : Int), .int .i64 2, .string n0, .string n1, .slice pva ax.length cva, .int .i64 n3, .slice pvk n6 cvk, .string ⟨#[]⟩, .bool z1, .bool z2, .bool z3, .bool z4, .bool z5, .bool z6, .bool z7, .string ⟨#[]⟩, .slice fp z9 fc, .string ⟨#[]⟩] rfl rfl KE.out.there (by rfl) (by simp [Value.oneCell']) ?_
      refine hK.out _ _ ?_ (fun hHeld => ?_)
      · exact ⟨cell_below d0 B5.out, cell_below d1 B5.out, cell_below u0 B5.out, cell_below u1 B5.out, cell_below u2 B5.out, cell_below u3 B5.out, cell_below u4 B5.out, cell_below y0 B5.out, cell_below y1 B5.out, cell_below y2 B5.out, cell_below y3 B5.out, cell_below y4 B5.out, cell_below y5 B5.out, cell_below y6 B5.out, cell_below y7 B5.out, cell_below y8 B5.out, cell_below y9 B5.out⟩
      clear hK K
      refine wpAnyH_done (by kernel_rfl) ?_ _
      go_wp2_with fail
      go_meet
      case rel => exact ⟨_, rfl, World.rangeAt_setCells_same _ _ _ _ KE.out.there, chain B0.out B5.out⟩
  case rest =>
    rename World => wx
    obtain ⟨E, rfl, KE, BX⟩ := hcut
    clear HOz HVz BC LB B0 u0 u1 u2 u3 u4 y0 y1 y2 y3 y4 y5 y6 y7 y8 y9 d0 d1
    have HM1 := hide (fun W (hb : Below w.heap.size w W) => vaMissing_text (some ⟨b, o, none⟩) (some ⟨bc, oc, none⟩) pva pvk fp l.length c C.length kc ax.length cva n6 cvk z9 fc (m : Int) 2 n3 n0 n1 ⟨#[]⟩ ⟨#[]⟩ ⟨#[]⟩ z1 z2 z3 z4 z5 z6 z7 W fx l m ax (AT.out W hb) NL.out (HC.out W hb) ZZ.out (TT.out W hb) HM.out rfl EF.out (by decide) (by kernel_rfl) RQ1.out rfl)
    have HM2 := hide (fun W (hb : Below w.heap.size w W) => vaOffType_empty (some ⟨b, o, none⟩) (some ⟨bc, oc, none⟩) pva pvk fp l.length c C.length kc ax.length cva n6 cvk z9 fc (m : Int) 2 n3 n0 n1 ⟨#[]⟩ ⟨#[]⟩ ⟨#[]⟩ z1 z2 z3 z4 z5 z6 z7 W rfl)
    have HM3 := hide (fun W (hb : Below w.heap.size w W) => vaOffPattern_no (some ⟨b, o, none⟩) (some ⟨bc, oc, none⟩) pva pvk fp l.length c C.length kc ax.length cva n6 cvk z9 fc (m : Int) 2 n3 n0 n1 ⟨#[]⟩ ⟨#[]⟩ ⟨#[]⟩ z1 z2 z3 z4 z5 z6 z7 W ax (AT.out W hb) NL.out (by rw [NP.out, Bool.and_false]))
    have HM4 := hide (fun W (hb : Below w.heap.size w W) => vaTooLong_no (some ⟨b, o, none⟩) (some ⟨bc, oc, none⟩) pva pvk fp l.length c C.length kc ax.length cva n6 cvk z9 fc (m : Int) 2 n3 n0 n1 ⟨#[]⟩ ⟨#[]⟩ ⟨#[]⟩ z1 z2 z3 z4 z5 z6 z7 W ax (AT.out W hb) NL.out (by rw [NX.out, Bool.and_false]))
    have HM5 := hide (fun W (hb : Below w.heap.size w W) => vaTooShort_no (some ⟨b, o, none⟩) (some ⟨bc, oc, none⟩) pva pvk fp l.length c C.length kc ax.length cva n6 cvk z9 fc (m : Int) 2 n3 n0 n1 ⟨#[]⟩ ⟨#[]⟩ ⟨#[]⟩ z1 z2 z3 z4 z5 z6 z7 W ax (AT.out W hb) NL.out (by rw [NN.out, Bool.and_false]))
    have HS := hide (fun v s W => stFlags_out 2 v s W (by decide))
    have F0 : Hid (FlW w (wx.alloc (.cells #[.int .i64 0] 3)) E wx.heap.size [.slice (some ⟨b, o, none⟩) l.length c, .slice (some ⟨bc, oc, none⟩) C.length kc, .int .i64 (m : Int), .int .i64 2, .string n0, .string n1, .slice pva ax.length cva, .int .i64 n3, .slice pvk n6 cvk, .string ⟨#[]⟩, .bool z1, .bool z2, .bool z3, .bool z4, .bool z5, .bool z6, .bool z7, .string ⟨#[]⟩, .slice fp z9 fc, .string ⟨#[]⟩] 0) := ⟨World.rangeAt_alloc KE.out _, Bk.new wx [.int .i64 0] 3, BX.out.alloc BX.out.size _, BX.out.size, fun e => by
      have := World.block_lt_of_cell? _ _ (KE.out 0 _ rfl)
      rw [e] at this; exact Nat.lt_irrefl _ this⟩
    clear KE BX AT HC TT ZZ HM RQ1 NP NX NN EF NL
    cases fx
    all_goals
      go_upto_region 4 with fail
      generalize wx.alloc (.cells #[.int .i64 0] 3) = s0 at *
      generalize wx.heap.size = Fb at *
      go_wp2_with (refine wpList_load_mid rfl 58 _ rfl _ 0 rfl _ _ F0.out.ask Tryz.underlying58 rfl rfl ?_)
      refine (HM1.out _ F0.out.bel).mono ?_
      rintro e t1 ⟨rfl, b1⟩
      have G1 := hide (F0.out.step b1)
      clear F0 b1
      go_wp2_with fail
      refine (vaPut_any _ _ _ _ _ G1.out).mono ?_
      rintro e s1 ⟨rfl, f1⟩
      have F1 := hide f1
      clear G1 f1 HM1
      go_wp2_with (refine wpList_load_mid rfl 58 _ rfl _ 0 rfl _ _ F1.out.ask Tryz.underlying58 rfl rfl ?_)
      refine (HM2.out _ F1.out.bel).mono ?_
      rintro e t2 ⟨rfl, b2⟩
      have G2 := hide (F1.out.step b2)
      clear F1 b2
      go_wp2_with fail
      refine (vaPut_any _ _ _ _ _ G2.out).mono ?_
      rintro e s2 ⟨rfl, f2⟩
      have F2 := hide f2
      clear G2 f2 HM2
      go_wp2_with (refine wpList_load_mid rfl 58 _ rfl _ 0 rfl _ _ F2.out.ask Tryz.underlying58 rfl rfl ?_)
      refine (HM3.out _ F2.out.bel).mono ?_
      rintro e t3 ⟨rfl, b3⟩
      have G3 := hide (F2.out.step b3)
      clear F2 b3
      go_wp2_with fail
      refine (vaPut_any _ _ _ _ _ G3.out).mono ?_
      rintro e s3 ⟨rfl, f3⟩
      have F3 := hide f3
      clear G3 f3 HM3
      go_wp2_with (refine wpList_load_mid rfl 58 _ rfl _ 0 rfl _ _ F3.out.ask Tryz.underlying58 rfl rfl ?_)
      refine (HM4.out _ F3.out.bel).mono ?_
      rintro e t4 ⟨rfl, b4⟩
      have G4 := hide (F3.out.step b4)
      clear F3 b4
      go_wp2_with fail
      refine (vaPut_any _ _ _ _ _ G4.out).mono ?_
      rintro e s4 ⟨rfl, f4⟩
      have F4 := hide f4
      clear G4 f4 HM4
      go_wp2_with (refine wpList_load_mid rfl 58 _ rfl _ 0 rfl _ _ F4.out.ask Tryz.underlying58 rfl rfl ?_)
      refine (HM5.out _ F4.out.bel).mono ?_
      rintro e t5 ⟨rfl, b5⟩
      have G5 := hide (F4.out.step b5)
      clear F4 b5
      go_wp2_with fail
      refine (vaPut_any _ _ _ _ _ G5.out).mono ?_
      rintro e s5 ⟨rfl, f5⟩
      have F5 := hide f5
      clear G5 f5 HM5
      have x3 : _ = some (Value.int .i64 2) := F5.out.ask 3 _ rfl
      have x6 : _ = some (Value.slice pva ax.length cva) := F5.out.ask 6 _ rfl
      have x19 : _ = some (Value.string ⟨#[]⟩) := F5.out.ask 19 _ rfl
      rw [Nat.zero_add] at x3 x6 x19
      go_wp2_with fail
      refine (HS.out _ _ _).mono ?_
      rintro e t6 ⟨rfl, b6⟩
      have G6 := hide (F5.out.step b6)
      clear F5 b6 x3 x6 x19
      go_wp2_with fail
      refine (vaPut_any _ _ _ _ _ G6.out).mono ?_
      rintro e s6 ⟨rfl, f6⟩
      have F6 := hide f6
      clear G6 f6
      go_wp2_with fail
      refine (vaPut_any _ _ _ _ _ F6.out).mono ?_
      rintro e s7 ⟨rfl, f7⟩
      have F7 := hide f7
      clear F6 f7
      go_wp2_with fail
      refine (vaPut_any _ _ _ _ _ F7.out).mono ?_
      rintro e s8 ⟨rfl, f8⟩
      have F8 := hide f8
      clear F7 f8
      have x17 : _ = some (Value.string ⟨#[]⟩) := F8.out.ask 17 _ rfl
      rw [Nat.zero_add] at x17
      go_wp2_with fail
      refine (vaPut_any _ _ _ _ _ F8.out).mono ?_
      rintro e s9 ⟨rfl, f9⟩
      have F9 := hide f9
      clear F8 f9 x17
      have y0 := F9.out.fl.cell 0 rfl
      go_wp2_with fail
      go_ret
      exact ⟨ret_int (by kernel_rfl), F9.out.bel⟩
end Go.Proofs.YtdbabciafifnaaaGreatDoor

namespace Go.Proofs.YtdbabciafifnaaaGreatDoor
open Go.RowKit
set_option maxRecDepth 100000
theorem one_szA : DocSz (oneL axA) := ⟨by decide, fun n q => by
  simp only [oneL, List.mem_cons, List.not_mem_nil, or_false] at q
  rcases q with rfl | rfl
  · exact ⟨by decide, by decide, (fun a q => by cases q), by decide, by decide, (fun a q => by cases q)⟩
  · refine ⟨by decide, by decide, fun a q => ?_, by decide, by decide, fun a q => ?_⟩
    all_goals
      simp only [axA, List.mem_cons, List.not_mem_nil, or_false] at q
      rcases q with rfl <;> first | decide | exact ⟨by decide, by decide⟩⟩
theorem one_szB : DocSz (oneL axB) := ⟨by decide, fun n q => by
  simp only [oneL, List.mem_cons, List.not_mem_nil, or_false] at q
  rcases q with rfl | rfl
  · exact ⟨by decide, by decide, (fun a q => by cases q), by decide, by decide, (fun a q => by cases q)⟩
  · refine ⟨by decide, by decide, fun a q => ?_, by decide, by decide, fun a q => ?_⟩
    all_goals
      simp only [axB, List.mem_cons, List.not_mem_nil, or_false] at q
      rcases q with rfl | rfl <;> first | decide | exact ⟨by decide, by decide⟩⟩
theorem one_ok : CsOK oneC := ⟨by decide, fun c q => by
  simp only [oneC, List.mem_cons, List.not_mem_nil, or_false] at q
  rcases q with rfl | rfl <;> exact ct0_ok.files, fun c q => by
  simp only [oneC, List.mem_cons, List.not_mem_nil, or_false] at q
  rcases q with rfl | rfl <;> exact ⟨by decide, by decide⟩⟩
abbrev VaTabs (w : World) : Prop := KTabs w
theorem VaTabs.below {w w' : World} (h : VaTabs w) (hb : Below w.heap.size w w') : VaTabs w' := KTabs.below h hb
theorem vaFlagsOfA_any (nv cv : Value) (w : World) (hD : DocV w nv cv (oneL axA) oneC) (hT : VaTabs w) :
    Calls Tryz.prog 20 #[.agg #[nv, cv], .int .i64 1] w fun e w' => e = .returned (.int .i64 1) ∧ Below w.heap.size w w' :=
  vaFlagsOf_text nv cv (oneL axA) oneC 1 w hD one_szA one_ok hT (by decide) (by decide) false (by kernel_rfl) (by kernel_rfl) (by kernel_rfl) rfl (by kernel_rfl) (by kernel_rfl) (by kernel_rfl) (by kernel_rfl)
theorem vaFlagsOfB_any (nv cv : Value) (w : World) (hD : DocV w nv cv (oneL axB) oneC) (hT : VaTabs w) :
    Calls Tryz.prog 20 #[.agg #[nv, cv], .int .i64 1] w fun e w' => e = .returned (.int .i64 0) ∧ Below w.heap.size w w' :=
  vaFlagsOf_text nv cv (oneL axB) oneC 1 w hD one_szB one_ok hT (by decide) (by decide) true (by kernel_rfl) (by kernel_rfl) (by kernel_rfl) rfl (by kernel_rfl) (by kernel_rfl) (by kernel_rfl) (by kernel_rfl)
set_option maxHeartbeats 8000000 in
theorem vaWrongA_any (nv cv : Value) (w : World) (hD : DocV w nv cv (oneL axA) oneC) (hT : VaTabs w) :
    Calls Tryz.prog 21 #[.agg #[nv, cv], .int .i64 1] w fun e w' => e = .returned (.bool true) ∧ Below w.heap.size w w' := by
  have HFl := hide (fun W (hb : Below w.heap.size w W) => vaFlagsOfA_any nv cv W (hD.below hb) (hT.below hb))
  have HBa : Hid (∀ W, Below w.heap.size w W → Calls Tryz.prog 13 #[nv, .int .i64 1] W fun e w' => e = .returned (.bool false) ∧ Below W.heap.size W w') := fun W hb => vaIsBarred_any nv (oneL axA) 1 W (hD.nds.below hb) one_szA (hT.below hb) (right_is.1 (by kernel_rfl)) (by decide)
  have E0 := hide (OEnv.new w nv cv)
  obtain ⟨p, c, rfl⟩ := nds_formW hD.nds
  obtain ⟨_, _, pc, kc, rfl, _⟩ := hD.cts
  clear hD hT
  have d0 := E0.out.doc.cell 0 rfl
  have d1 := E0.out.doc.cell 1 rfl
  go_enter Tryz.func21, Tryz.ntmps21
  go_wp2_with fail
  refine (HFl.out _ E0.out.bel).mono ?_
  rintro e w1 ⟨rfl, b1⟩
  have E1 := hide (E0.out.step b1)
  clear b1 d0 d1 E0
  have d0 := E1.out.doc.cell 0 rfl
  have d1 := E1.out.doc.cell 1 rfl
  go_wp2_with fail
  refine (HBa.out _ E1.out.bel).mono ?_
  rintro e w2 ⟨rfl, b2⟩
  have E2 := hide (E1.out.step b2)
  clear b2 d0 d1 E1
  have d0 := E2.out.doc.cell 0 rfl
  have d1 := E2.out.doc.cell 1 rfl
  go_wp2_with fail
  go_ret
  exact ⟨rfl, E2.out.bel⟩
set_option maxHeartbeats 8000000 in
theorem vaValidA_any (nv cv : Value) (w : World) (hD : DocV w nv cv (oneL axA) oneC) (hT : VaTabs w) :
    Calls Tryz.prog 10 #[.agg #[nv, cv], .int .i64 1] w fun e w' => e = .returned (.bool false) ∧ Below w.heap.size w w' := by
  have HSu : Hid (∀ W, Below w.heap.size w W → Calls Tryz.prog 11 #[nv, .int .i64 1] W fun e w' => e = .returned (.bool true) ∧ Below W.heap.size W w') := fun W hb => vaSubmits_any nv (oneL axA) 1 W (hD.nds.below hb) one_szA (hT.below hb)
  have HRt : Hid (∀ W, Below w.heap.size w W → Calls Tryz.prog 19 #[.agg #[nv, cv]] W fun e w' => e = .returned (.bool true) ∧ Below W.heap.size W w') := fun W hb => opRightG_any nv cv (oneL axA) oneC W (hD.below hb) one_szA
  have HWr := hide (fun W (hb : Below w.heap.size w W) => vaWrongA_any nv cv W (hD.below hb) (hT.below hb))
  have E0 := hide (OEnv.new w nv cv)
  obtain ⟨p, c, rfl⟩ := nds_formW hD.nds
  obtain ⟨_, _, pc, kc, rfl, _⟩ := hD.cts
  clear hD hT
  have d0 := E0.out.doc.cell 0 rfl
  have d1 := E0.out.doc.cell 1 rfl
  go_enter Tryz.func10, Tryz.ntmps10
  go_wp2_with fail
  refine (HSu.out _ E0.out.bel).mono ?_
  rintro e w1 ⟨rfl, b1⟩
  have E1 := hide (E0.out.step b1)
  clear b1 d0 d1 E0
  have d0 := E1.out.doc.cell 0 rfl
  have d1 := E1.out.doc.cell 1 rfl
  go_wp2_with fail
  refine (HRt.out _ E1.out.bel).mono ?_
  rintro e w2 ⟨rfl, b2⟩
  have E2 := hide (E1.out.step b2)
  clear b2 d0 d1 E1
  have d0 := E2.out.doc.cell 0 rfl
  have d1 := E2.out.doc.cell 1 rfl
  go_wp2_with fail
  refine (HWr.out _ E2.out.bel).mono ?_
  rintro e w3 ⟨rfl, b3⟩
  have E3 := hide (E2.out.step b3)
  clear b3 d0 d1 E2
  have d0 := E3.out.doc.cell 0 rfl
  have d1 := E3.out.doc.cell 1 rfl
  go_wp2_with fail
  go_ret
  exact ⟨rfl, E3.out.bel⟩
set_option maxHeartbeats 8000000 in
theorem vaWrongB_any (nv cv : Value) (w : World) (hD : DocV w nv cv (oneL axB) oneC) (hT : VaTabs w) :
    Calls Tryz.prog 21 #[.agg #[nv, cv], .int .i64 1] w fun e w' => e = .returned (.bool false) ∧ Below w.heap.size w w' := by
  have HFl := hide (fun W (hb : Below w.heap.size w W) => vaFlagsOfB_any nv cv W (hD.below hb) (hT.below hb))
  have E0 := hide (OEnv.new w nv cv)
  obtain ⟨p, c, rfl⟩ := nds_formW hD.nds
  obtain ⟨_, _, pc, kc, rfl, _⟩ := hD.cts
  clear hD hT
  have d0 := E0.out.doc.cell 0 rfl
  have d1 := E0.out.doc.cell 1 rfl
  go_enter Tryz.func21, Tryz.ntmps21
  go_wp2_with fail
  refine (HFl.out _ E0.out.bel).mono ?_
  rintro e w1 ⟨rfl, b1⟩
  have E1 := hide (E0.out.step b1)
  clear b1 d0 d1 E0
  have d0 := E1.out.doc.cell 0 rfl
  have d1 := E1.out.doc.cell 1 rfl
  go_wp2_with fail
  go_ret
  exact ⟨rfl, E1.out.bel⟩
set_option maxHeartbeats 8000000 in
theorem vaValidB_any (nv cv : Value) (w : World) (hD : DocV w nv cv (oneL axB) oneC) (hT : VaTabs w) :
    Calls Tryz.prog 10 #[.agg #[nv, cv], .int .i64 1] w fun e w' => e = .returned (.bool true) ∧ Below w.heap.size w w' := by
  have HSu : Hid (∀ W, Below w.heap.size w W → Calls Tryz.prog 11 #[nv, .int .i64 1] W fun e w' => e = .returned (.bool true) ∧ Below W.heap.size W w') := fun W hb => vaSubmits_any nv (oneL axB) 1 W (hD.nds.below hb) one_szB (hT.below hb)
  have HRt : Hid (∀ W, Below w.heap.size w W → Calls Tryz.prog 19 #[.agg #[nv, cv]] W fun e w' => e = .returned (.bool true) ∧ Below W.heap.size W w') := fun W hb => opRightG_any nv cv (oneL axB) oneC W (hD.below hb) one_szB
  have HWr := hide (fun W (hb : Below w.heap.size w W) => vaWrongB_any nv cv W (hD.below hb) (hT.below hb))
  have E0 := hide (OEnv.new w nv cv)
  obtain ⟨p, c, rfl⟩ := nds_formW hD.nds
  obtain ⟨_, _, pc, kc, rfl, _⟩ := hD.cts
  clear hD hT
  have d0 := E0.out.doc.cell 0 rfl
  have d1 := E0.out.doc.cell 1 rfl
  go_enter Tryz.func10, Tryz.ntmps10
  go_wp2_with fail
  refine (HSu.out _ E0.out.bel).mono ?_
  rintro e w1 ⟨rfl, b1⟩
  have E1 := hide (E0.out.step b1)
  clear b1 d0 d1 E0
  have d0 := E1.out.doc.cell 0 rfl
  have d1 := E1.out.doc.cell 1 rfl
  go_wp2_with fail
  refine (HRt.out _ E1.out.bel).mono ?_
  rintro e w2 ⟨rfl, b2⟩
  have E2 := hide (E1.out.step b2)
  clear b2 d0 d1 E1
  have d0 := E2.out.doc.cell 0 rfl
  have d1 := E2.out.doc.cell 1 rfl
  go_wp2_with fail
  refine (HWr.out _ E2.out.bel).mono ?_
  rintro e w3 ⟨rfl, b3⟩
  have E3 := hide (E2.out.step b3)
  clear b3 d0 d1 E2
  have d0 := E3.out.doc.cell 0 rfl
  have d1 := E3.out.doc.cell 1 rfl
  go_wp2_with fail
  go_ret
  exact ⟨rfl, E3.out.bel⟩
set_option maxHeartbeats 8000000 in
theorem vaFlagsA_any (nv cv : Value) (w : World) (hD : DocV w nv cv (oneL axA) oneC) (hT : VaTabs w) :
    Calls Tryz.prog 9 #[.agg #[nv, cv], .int .i64 1] w fun e w' => e = .returned (.int .i64 1) ∧ Below w.heap.size w w' := by
  have HSu : Hid (∀ W, Below w.heap.size w W → Calls Tryz.prog 11 #[nv, .int .i64 1] W fun e w' => e = .returned (.bool true) ∧ Below W.heap.size W w') := fun W hb => vaSubmits_any nv (oneL axA) 1 W (hD.nds.below hb) one_szA (hT.below hb)
  have HRt : Hid (∀ W, Below w.heap.size w W → Calls Tryz.prog 19 #[.agg #[nv, cv]] W fun e w' => e = .returned (.bool true) ∧ Below W.heap.size W w') := fun W hb => opRightG_any nv cv (oneL axA) oneC W (hD.below hb) one_szA
  have HFl := hide (fun W (hb : Below w.heap.size w W) => vaFlagsOfA_any nv cv W (hD.below hb) (hT.below hb))
  have E0 := hide (OEnv.new w nv cv)
  obtain ⟨p, c, rfl⟩ := nds_formW hD.nds
  obtain ⟨_, _, pc, kc, rfl, _⟩ := hD.cts
  clear hD hT
  have d0 := E0.out.doc.cell 0 rfl
  have d1 := E0.out.doc.cell 1 rfl
  go_enter Tryz.func9, Tryz.ntmps9
  go_wp2_with fail
  refine (HSu.out _ E0.out.bel).mono ?_
  rintro e w1 ⟨rfl, b1⟩
  have E1 := hide (E0.out.step b1)
  clear b1 d0 d1 E0
  have d0 := E1.out.doc.cell 0 rfl
  have d1 := E1.out.doc.cell 1 rfl
  go_wp2_with fail
  refine (HRt.out _ E1.out.bel).mono ?_
  rintro e w2 ⟨rfl, b2⟩
  have E2 := hide (E1.out.step b2)
  clear b2 d0 d1 E1
  have d0 := E2.out.doc.cell 0 rfl
  have d1 := E2.out.doc.cell 1 rfl
  go_wp2_with fail
  refine (HFl.out _ E2.out.bel).mono ?_
  rintro e w3 ⟨rfl, b3⟩
  have E3 := hide (E2.out.step b3)
  clear b3 d0 d1 E2
  have d0 := E3.out.doc.cell 0 rfl
  have d1 := E3.out.doc.cell 1 rfl
  go_wp2_with fail
  go_ret
  exact ⟨rfl, E3.out.bel⟩
end Go.Proofs.YtdbabciafifnaaaGreatDoor

namespace Go.Proofs.YtdbabciafifnaaaGreatDoor
open Go.RowKit
set_option maxRecDepth 100000
theorem one_barred : barP (oneL axB) 1 = true := by kernel_rfl
theorem attrs_A {w : World} {b : Nat} (h : Bk w b [.string ⟨#[114, 101, 113, 117, 105, 114, 101, 100]⟩, .string ⟨#[]⟩] 31) : AttrsV w (.slice (some ⟨b, 0, none⟩) 1 1) axA :=
  ⟨_, 1, rfl, .inr ⟨b, 0, rfl, fun i hi => by
    match i, hi with
    | 0, _ => exact ⟨h.cell 0 rfl, h.cell 1 rfl⟩⟩⟩
theorem attrs_B {w : World} {b : Nat} (h : Bk w b [.string ⟨#[114, 101, 113, 117, 105, 114, 101, 100]⟩, .string ⟨#[]⟩, .string ⟨#[100, 105, 115, 97, 98, 108, 101, 100]⟩, .string ⟨#[]⟩] 31) : AttrsV w (.slice (some ⟨b, 0, none⟩) 2 2) axB :=
  ⟨_, 2, rfl, .inr ⟨b, 0, rfl, fun i hi => by
    match i, hi with
    | 0, _ => exact ⟨h.cell 0 rfl, h.cell 1 rfl⟩
    | 1, _ => exact ⟨h.cell 2 rfl, h.cell 3 rfl⟩⟩⟩
theorem cap_eqO {p : Option Addr} {n : Nat} : CapOK (.slice p n n) := fun p n c e => by cases e; exact Nat.le_refl _
set_option maxHeartbeats 8000000 in
theorem vaWakes_any (w : World) (hT : VaTabs w) :
    Calls Tryz.prog 4 #[] w fun e w' => e = .returned (.bool true) ∧ Below w.heap.size w w' := by
  have HT := hide hT
  have HS := hide vaOne_any
  have H1 := hide (fun nv cv W (hb : Below w.heap.size w W) (hD : DocV W nv cv (oneL axA) oneC) => vaFlagsA_any nv cv W hD (HT.out.below hb))
  have H2 := hide (fun nv cv W (hb : Below w.heap.size w W) (hD : DocV W nv cv (oneL axA) oneC) => vaValidA_any nv cv W hD (HT.out.below hb))
  have H3 := hide (fun nv W (hb : Below w.heap.size w W) (hD : NodesV W nv (oneL axB)) => vaBarred_any nv (oneL axB) 1 W hD one_szB (HT.out.below hb))
  rw [one_barred] at H3
  have H4 := hide (fun nv cv W (hb : Below w.heap.size w W) (hD : DocV W nv cv (oneL axB) oneC) => vaValidB_any nv cv W hD (HT.out.below hb))
  have NA := hide (Bk.new w [.string ⟨#[114, 101, 113, 117, 105, 114, 101, 100]⟩, .string ⟨#[]⟩] 31)
  have B0 : Hid (Below w.heap.size w (w.alloc (.cells #[.string ⟨#[114, 101, 113, 117, 105, 114, 101, 100]⟩, .string ⟨#[]⟩] 31))) := (Below.refl _ w).alloc (Nat.le_refl _) _
  clear hT
  go_enter Tryz.func4, Tryz.ntmps4
  go_wp2_with fail
  refine (HS.out _ axA _ (attrs_A NA.out) cap_eqO).mono ?_
  rintro e w1 ⟨n1, c1, rfl, d1, b1⟩
  have D1 := hide d1
  obtain ⟨p1, k1, rfl⟩ := nds_form d1.nds
  obtain ⟨q1, m1, rfl⟩ := cts_form d1.cts
  have B1 := hide (chain B0.out b1)
  have NB := hide (Bk.new w1 [.string ⟨#[114, 101, 113, 117, 105, 114, 101, 100]⟩, .string ⟨#[]⟩, .string ⟨#[100, 105, 115, 97, 98, 108, 101, 100]⟩, .string ⟨#[]⟩] 31)
  have U1 : Hid (Below w1.heap.size w1 (w1.alloc (.cells #[.string ⟨#[114, 101, 113, 117, 105, 114, 101, 100]⟩, .string ⟨#[]⟩, .string ⟨#[100, 105, 115, 97, 98, 108, 101, 100]⟩, .string ⟨#[]⟩] 31))) := (Below.refl _ w1).alloc (Nat.le_refl _) _
  clear d1 b1 B0 NA
  go_wp2_with fail
  refine (HS.out _ axB _ (attrs_B NB.out) cap_eqO).mono ?_
  rintro e w2 ⟨n2, c2, rfl, d2, b2⟩
  have D2 := hide d2
  obtain ⟨p2, k2, rfl⟩ := nds_form d2.nds
  obtain ⟨q2, m2, rfl⟩ := cts_form d2.cts
  have C2 := hide (chain U1.out b2)
  have B2 := hide (chain B1.out C2.out)
  have E2 := hide (D1.out.below C2.out)
  clear d2 b2 B1 NB U1 C2 D1 HS
  go_upto_region 2 with fail
  have KA := hide ((Bk.new w2 [.slice p1 (oneL axA).length k1, .slice q1 oneC.length m1] 28).below ((Below.refl _ (w2.alloc (.cells #[.slice p1 (oneL axA).length k1, .slice q1 oneC.length m1] 28))).alloc (Nat.le_refl _) (.cells #[.slice p2 (oneL axB).length k2, .slice q2 oneC.length m2] 28)))
  have KB : Hid (Bk ((w2.alloc (.cells #[.slice p1 (oneL axA).length k1, .slice q1 oneC.length m1] 28)).alloc (.cells #[.slice p2 (oneL axB).length k2, .slice q2 oneC.length m2] 28)) (w2.heap.size + 1) [.slice p2 (oneL axB).length k2, .slice q2 oneC.length m2] 28) := Bk.at' (bk_next rfl)
  have C3 : Hid (Below w2.heap.size w2 ((w2.alloc (.cells #[.slice p1 (oneL axA).length k1, .slice q1 oneC.length m1] 28)).alloc (.cells #[.slice p2 (oneL axB).length k2, .slice q2 oneC.length m2] 28))) := ((Below.refl _ w2).alloc (Nat.le_refl _) _).alloc ((Below.refl _ w2).alloc (Nat.le_refl _) (.cells #[.slice p1 (oneL axA).length k1, .slice q1 oneC.length m1] 28)).size _
  generalize ((w2.alloc (.cells #[.slice p1 (oneL axA).length k1, .slice q1 oneC.length m1] 28)).alloc (.cells #[.slice p2 (oneL axB).length k2, .slice q2 oneC.length m2] 28)) = w3 at *
  have B3 := hide (chain B2.out C3.out)
  have E3 := hide (E2.out.below C3.out)
  have D3 := hide (D2.out.below C3.out)
  clear B2 E2 D2 C3
  have x0 := KA.out.cell 0 rfl
  have x1 := KA.out.cell 1 rfl
  have y0 := KB.out.cell 0 rfl
  have y1 := KB.out.cell 1 rfl
  go_wp2_with fail
  refine (H1.out _ _ _ B3.out E3.out).mono ?_
  rintro e w4 ⟨rfl, b4⟩
  have B4 := hide (chain B3.out b4)
  have E4 := hide (E3.out.below b4)
  have D4 := hide (D3.out.below b4)
  replace KA := hide (KA.out.below b4)
  replace KB := hide (KB.out.below b4)
  clear B3 E3 D3 b4 x0 x1 y0 y1
  have x0 := KA.out.cell 0 rfl
  have x1 := KA.out.cell 1 rfl
  have y0 := KB.out.cell 0 rfl
  have y1 := KB.out.cell 1 rfl
  go_wp2_with fail
  refine (H2.out _ _ _ B4.out E4.out).mono ?_
  rintro e w5 ⟨rfl, b5⟩
  have B5 := hide (chain B4.out b5)
  have E5 := hide (E4.out.below b5)
  have D5 := hide (D4.out.below b5)
  replace KA := hide (KA.out.below b5)
  replace KB := hide (KB.out.below b5)
  clear B4 E4 D4 b5 x0 x1 y0 y1
  have x0 := KA.out.cell 0 rfl
  have x1 := KA.out.cell 1 rfl
  have y0 := KB.out.cell 0 rfl
  have y1 := KB.out.cell 1 rfl
  go_wp2_with fail
  refine (H3.out _ _ B5.out D5.out.nds).mono ?_
  rintro e w6 ⟨rfl, b6⟩
  have B6 := hide (chain B5.out b6)
  have E6 := hide (E5.out.below b6)
  have D6 := hide (D5.out.below b6)
  replace KA := hide (KA.out.below b6)
  replace KB := hide (KB.out.below b6)
  clear B5 E5 D5 b6 x0 x1 y0 y1
  have x0 := KA.out.cell 0 rfl
  have x1 := KA.out.cell 1 rfl
  have y0 := KB.out.cell 0 rfl
  have y1 := KB.out.cell 1 rfl
  go_wp2_with fail
  refine (H4.out _ _ _ B6.out D6.out).mono ?_
  rintro e w7 ⟨rfl, b7⟩
  have B7 := hide (chain B6.out b7)
  have E7 := hide (E6.out.below b7)
  have D7 := hide (D6.out.below b7)
  replace KA := hide (KA.out.below b7)
  replace KB := hide (KB.out.below b7)
  clear B6 E6 D6 b7 x0 x1 y0 y1
  clear KA KB E7 D7
  go_wp2_with fail
  go_ret
  exact ⟨rfl, B7.out⟩
end Go.Proofs.YtdbabciafifnaaaGreatDoor

namespace Go.Proofs.YtdbabciafifnaaaGreatDoor
open Go.RowKit
set_option maxRecDepth 100000
set_option maxHeartbeats 8000000 in
theorem validBars_walk (v : Value) (l : List Nd) (id : Int) (w : World) (hv : NodesV w v l) (hz : DocSz l) (hT : VaTabs w) :
    Calls Tryz.prog 3 #[v, .int .i64 id] w fun e w' => e = .returned (.bool true) ∧ Below w.heap.size w w' := by
  have HW := hide (vaWakes_any w hT)
  have HC := hide (fun W (hb : Below w.heap.size w W) => refCopied_any v l W (hv.below hb) hz)
  have H1 := hide (fun u W (hb : Below w.heap.size w W) (hu : NodesV W u l) => vaBarred_any u l id W hu hz (hT.below hb))
  have H2 := hide (fun W (hb : Below w.heap.size w W) => refBarred_any v l id W (hv.below hb) hz)
  generalize barP l id = q at *
  obtain ⟨p, k, rfl⟩ := nds_form hv
  clear hv hz hT
  go_enter Tryz.func3, Tryz.ntmps3
  go_wp2_with fail
  refine HW.out.mono ?_
  rintro e w1 ⟨rfl, b1⟩
  go_wp2_with fail
  refine (HC.out _ b1).mono ?_
  rintro e w2 ⟨v2, L2, rfl, o2, e2, b2⟩
  have N2 : Hid (NodesV w2 v2 l) := by show NodesV _ _ _; rw [← e2]; exact o2.nodes
  obtain ⟨p2, k2, rfl⟩ := own_form o2 e2
  have B2 := hide (chain b1 b2)
  clear o2 e2 b1 b2
  go_wp2_with fail
  refine (H1.out _ _ B2.out N2.out).mono ?_
  rintro e w3 ⟨rfl, b3⟩
  have B3 := hide (chain B2.out b3)
  clear b3 B2
  go_wp2_with fail
  refine (H2.out _ B3.out).mono ?_
  rintro e w4 ⟨rfl, b4⟩
  go_wp2_with fail
  go_ret
  exact ⟨by simp, chain B3.out b4⟩

end Go.Proofs.YtdbabciafifnaaaGreatDoor
