/- append to an empty row that was made just before it. Stage 24's law SubmitMakes, walked. -/
import Derived.Test.YtnojgejcmaajmaaGreatDoorJsb32
import Derived.Test.YtnojgejcmaajmaaGreatDoorJsb33
import Derived.Test.YtnojgejcmaajmaaGreatDoorJsb42
import Derived.Test.YtnojgejcmaajmaaGreatDoorJsb43

namespace Go.Proofs.YtnojgejcmaajmaaGreatDoor
open Go.RowKit
theorem run_append_first {P : Program} (w : World) (t ty e : TypeId) (i : TypeInfo) (z : Value) (size bytes : Nat) (ht : P.underlying t = some (.slice e)) (hi : P.info? e = some i) (hz : i.zero = some z)
    (hsize : i.size = size) (hby : i.bytes = bytes) (hzs : z.cells.size = size) (hsz : 0 < size) (b : Addr)
    (sv : Value) (m : Nat) (news : List Value) (hraw : Raw w size sv m news) (h63 : m ≤ maxLen) (hbytes : m * bytes ≤ 140737488355328) :
    ∃ q cp w', (Builtin.append_ #[t, t] ty #[.slice (some b) 0 0, sv]).run P w = .ok (.slice q m cp) w' ∧ (m = 0 ∨ w'.ownsRow w.heap.size e size (.slice q m cp) m news) ∧ Below w.heap.size w w' := by
  obtain ⟨hl, p, c, rfl, hr⟩ := hraw
  by_cases hm : m = 0
  · subst hm
    have hn : news = [] := List.eq_nil_of_length_eq_zero (by rw [hl]; omega)
    subst hn
    refine ⟨some b, 0, w, ?_, .inl rfl, Below.refl _ _⟩
    cases p with
    | none => simp [Builtin.append_, run_underlying ht, sizeOf, typeInfo, hi, Builtin.lenOf, run_firstCells_none, storeCells]
    | some x =>
      have hf := run_firstCells_some (P := P) w i.size 0 x 0 c [] (by simp) (fun j u hu => by simp at hu)
      simp [Builtin.append_, run_underlying ht, sizeOf, typeInfo, hi, Builtin.lenOf, hf, storeCells]
  · obtain ⟨bb, oo, rfl, h⟩ : ∃ b o, p = some ⟨b, o, none⟩ ∧ ∀ j u, news[j]? = some u → w.cell? ⟨b, o + j, none⟩ = some u := by
      rcases hr with q | q
      · exact absurd q hm
      · exact q
    have hnews : ∀ j u, news[j]? = some u → w.cell? ((⟨bb, oo, none⟩ : Addr).add j) = some u := by
      intro j u hu
      have hadd : (⟨bb, oo, none⟩ : Addr).add j = ⟨bb, oo + j, none⟩ := by unfold Addr.add; split <;> simp_all
      rw [hadd]; exact h j u hu
    obtain ⟨v', w', hrun, own, gr⟩ := run_append_arg_grows (P := P) w t ty e i z size bytes ht hi hz hsize hby hzs hsz b 0 0 [] (by simp) (fun j u hu => by simp at hu) ⟨bb, oo, none⟩ m c news hl hnews (by omega) (by omega) (by rw [Nat.zero_add]; exact hbytes)
    rw [Nat.zero_add, List.nil_append] at own
    have B : Below w.heap.size w w' := rowGrown_below (Below.refl _ _) (Nat.le_refl _) gr (fun k hk => by cases hk)
    rcases own.2 with ⟨_, q⟩ | ⟨g, cap, cur, rfl, _⟩
    · exact absurd q hm
    · exact ⟨_, cap, w', hrun, .inr own, B⟩
theorem step_append_first {P : Program} {ops : Array Oper} {o : Oper} {a : Act} {w : World} {K : Act → World → Prop} {Q : Exit → Act → World → Prop} {E : Prop} (hgd : o.guard = none) (s x : Operand) (t : TypeId)
    (ho : o.op = .call { callee := .builtin .append, args := #[s, x], argTypes := #[t, t] })
    (e : TypeId) (i : TypeInfo) (z : Value) (size bytes : Nat) (ht : P.underlying t = some (.slice e)) (hi : P.info? e = some i) (hz : i.zero = some z)
    (hsize : i.size = size) (hby : i.bytes = bytes) (hzs : z.cells.size = size) (hsz : 0 < size) (b : Addr) (hs : a.eval s = .slice (some b) 0 0)
    (sv : Value) (m : Nat) (news : List Value) (hx : a.eval x = sv) (hraw : Raw w size sv m news) (h63 : m ≤ maxLen) (hbytes : m * bytes ≤ 140737488355328)
    (h : ∀ q cp w', (m = 0 ∨ w'.ownsRow w.heap.size e size (.slice q m cp) m news) → Below w.heap.size w w' → K (a.put o.dst (.slice q m cp)) w') :
    if Region.wanted o (yielded ops a.tmps) = true then Oper.wp P o a w K Q else E := by
  have hw : Region.wanted o (yielded ops a.tmps) = true := by simp [Region.wanted, hgd]
  rw [if_pos hw]
  obtain ⟨q, cp, w', hr, h2, h3⟩ := run_append_first (P := P) w t o.type e i z size bytes ht hi hz hsize hby hzs hsz b sv m news hraw h63 hbytes
  unfold Oper.wp execOp
  simp only [ho, resolve, invoke, builtin, Sem.run_bind, Sem.run_pure, Result.andThen_ok, List.map_toArray, List.map_cons, List.map_nil, hs, hx, hr]
  exact h q cp w' h2 h3
end Go.Proofs.YtnojgejcmaajmaaGreatDoor

namespace Go.Proofs.YtnojgejcmaajmaaGreatDoor
open Go.RowKit
set_option maxRecDepth 100000
theorem pl_eq (p : Pl) : p.me.toList == p.me.toList ∧ p.ac.toList == p.ac.toList ∧ p.ta.toList == p.ta.toList ∧ p.bo.toList == p.bo.toList ∧ p.ty.toList == p.ty.toList := by simp
theorem files_first {w w' : World} {q : Option Addr} {cp : Nat} {es : List En} (h : es.length = 0 ∨ w'.ownsRow w.heap.size 76 5 (.slice q es.length cp) es.length (cellsE es)) : FilesV w' (.slice q es.length cp) es := by
  rcases h with h | h
  · exact ⟨q, cp, rfl, .inl (List.eq_nil_of_length_eq_zero h)⟩
  · exact OwnR.files h
theorem draws_first {w w' : World} {q : Option Addr} {cp : Nat} {ds : List ByteArray} (h : ds.length = 0 ∨ w'.ownsRow w.heap.size 9 1 (.slice q ds.length cp) ds.length (ds.map Value.string)) : DrawsV w' (.slice q ds.length cp) ds := by
  rcases h with h | h
  · exact ⟨q, cp, rfl, .inl (List.eq_nil_of_length_eq_zero h), by omega⟩
  · exact draws_own h
theorem step_first_en {ops : Array Oper} {o : Oper} {a : Act} {w : World} {K : Act → World → Prop} {Q : Exit → Act → World → Prop} {E : Prop} (hgd : o.guard = none) (s x : Operand)
    (ho : o.op = .call { callee := .builtin .append, args := #[s, x], argTypes := #[29, 29] }) (b : Addr) (hs : a.eval s = .slice (some b) 0 0)
    (sv : Value) (es : List En) (hx : a.eval x = sv) (hv : FilesV w sv es) (hl : es.length ≤ 60)
    (h : ∀ q cp w', FilesV w' (.slice q es.length cp) es → Below w.heap.size w w' → K (a.put o.dst (.slice q es.length cp)) w') :
    if Region.wanted o (yielded ops a.tmps) = true then Oper.wp Tryz.prog o a w K Q else E := by
  obtain ⟨i, hi, hz⟩ := Option.map_eq_some_iff.1 info_en
  have h0 : i.zero = some (.agg #[.string ⟨#[]⟩, .string ⟨#[]⟩, .bool false, .string ⟨#[]⟩, .string ⟨#[]⟩]) := congrArg Prod.fst hz
  have h1 : i.size = 5 := congrArg (fun p => p.2.1) hz
  have h2 : i.bytes = 72 := congrArg (fun p => p.2.2) hz
  exact step_append_first hgd s x _ ho 76 i _ 5 72 Tryz.underlying29 hi h0 h1 h2 rfl (by omega) b hs sv es.length (cellsE es) hx hv.raw (by unfold maxLen; omega) (by omega) fun q cp w' hq bq => h q cp w' (files_first hq) bq
theorem step_first_tx {ops : Array Oper} {o : Oper} {a : Act} {w : World} {K : Act → World → Prop} {Q : Exit → Act → World → Prop} {E : Prop} (hgd : o.guard = none) (s x : Operand)
    (ho : o.op = .call { callee := .builtin .append, args := #[s, x], argTypes := #[26, 26] }) (b : Addr) (hs : a.eval s = .slice (some b) 0 0)
    (sv : Value) (ds : List ByteArray) (hx : a.eval x = sv) (hv : DrawsV w sv ds) (hl : ds.length ≤ 20)
    (h : ∀ q cp w', DrawsV w' (.slice q ds.length cp) ds → Below w.heap.size w w' → K (a.put o.dst (.slice q ds.length cp)) w') :
    if Region.wanted o (yielded ops a.tmps) = true then Oper.wp Tryz.prog o a w K Q else E := by
  obtain ⟨i, hi, hz⟩ := Option.map_eq_some_iff.1 info_tx
  have h0 : i.zero = some (.string ⟨#[]⟩) := congrArg Prod.fst hz
  have h1 : i.size = 1 := congrArg (fun p => p.2.1) hz
  have h2 : i.bytes = 16 := congrArg (fun p => p.2.2) hz
  exact step_append_first hgd s x _ ho 9 i _ 1 16 Tryz.underlying26 hi h0 h1 h2 rfl (by omega) b hs sv ds.length (ds.map Value.string) hx (draws_raw hv) (by unfold maxLen; omega) (by omega) fun q cp w' hq bq => h q cp w' (draws_first hq) bq
set_option maxHeartbeats 8000000 in
theorem submitMakes_walk (nv cv v dv : Value) (l : List Nd) (C : List Ct) (form sub : Int) (es : List En) (ds : List ByteArray) (w : World) (hD : DocV w nv cv l C) (hz : DocSz l) (hC : CsOK C) (hv : FilesV w v es) (hf : es.length ≤ 4398046511104) (hd : DrawsV w dv ds) (h16 : ds.length * 16 ≤ 140737488355328) (hzd : ∀ d ∈ ds, d.size ≤ maxLen) (hT : SbTabs w) :
    Calls Tryz.prog 3 #[.agg #[nv, cv], .agg #[.int .i64 form, .int .i64 sub, dv], v] w fun e w' => e = .returned (.bool true) ∧ Below w.heap.size w w' := by
  have DV := hide hd
  have FV := hide hv
  have DD := hide hD
  have B0 : Hid (Below w.heap.size w ((w.alloc (.cells #[nv, cv] 25)).alloc (.cells #[.int .i64 form, .int .i64 sub, dv] 28))) := ((Below.refl _ w).alloc (Nat.le_refl _) _).alloc ((Below.refl _ w).alloc (Nat.le_refl _) (.cells #[nv, cv] 25)).size _
  have ND := hide ((Bk.new w [nv, cv] 25).below ((Below.refl _ (w.alloc (.cells #[nv, cv] 25))).alloc (Nat.le_refl _) (.cells #[.int .i64 form, .int .i64 sub, dv] 28)))
  have NA : Hid (Bk ((w.alloc (.cells #[nv, cv] 25)).alloc (.cells #[.int .i64 form, .int .i64 sub, dv] 28)) (w.heap.size + 1) [.int .i64 form, .int .i64 sub, dv] 28) := Bk.at' (bk_next rfl)
  have HW := hide (fun W (hb : Below w.heap.size w W) => sbWakes_any W (hT.below hb).mx)
  have HLo := hide (fun W (hb : Below w.heap.size w W) => sbLong_any v dv es ds W (FV.out.below hb) hf (DV.out.below hb) (by omega) hzd)
  obtain ⟨p, c, rfl⟩ := files_formP hv
  obtain ⟨pd, cd, rfl⟩ := draws_formS hd
  obtain ⟨pn, kn, rfl⟩ := nds_form hD.nds
  obtain ⟨pc, kc, rfl⟩ := cts_form hD.cts
  clear hD hv hd
  cases lg : lngS es ds with
  | true =>
    rw [lg] at HLo
    clear lg hz hC hf hzd hT DV FV DD h16
    go_enter Tryz.func3, Tryz.ntmps3
    go_upto_region 1 with fail
    generalize (w.alloc (.cells #[.slice pn l.length kn, .slice pc C.length kc] 25)).alloc (.cells #[.int .i64 form, .int .i64 sub, .slice pd ds.length cd] 28) = w0 at *
    go_wp2_with fail
    refine (HW.out _ B0.out).mono ?_
    rintro e w1 ⟨rfl, b1⟩
    have B1 := hide (chain B0.out b1)
    replace ND := hide (ND.out.below b1)
    replace NA := hide (NA.out.below b1)
    have x0 := NA.out.cell 2 rfl
    clear b1 B0
    go_wp2_with fail
    refine (HLo.out _ B1.out).mono ?_
    rintro e w2 ⟨rfl, hu⟩
    obtain rfl : w1 = w2 := hu.symm
    go_wp2_with fail
    go_ret
    exact ⟨rfl, B1.out⟩
  | false =>
    rw [lg] at HLo
    obtain ⟨g1, g2, g3⟩ := lngS_out lg
    obtain ⟨l60, hok⟩ := long_ok g1
    have HCo := hide (fun W (hb : Below w.heap.size w W) => sbCopied_any (.slice pn l.length kn) (.slice pc C.length kc) l C W (DD.out.below hb) hz hC)
    have HMk := hide (fun nv' cv' v' dv' W (hb : Below w.heap.size w W) (hD : DocV W nv' cv' l C) (hv : FilesV W v' es) (hd : DrawsV W dv' ds) => sbMake_any 2000 nv' cv' v' dv' l C form sub es ds W hD hz hC hv hd (by omega) hok g3 (hT.below hb))
    have HRm := hide (fun W (hb : Below w.heap.size w W) => refMakeS_any 2000 (.slice pn l.length kn) (.slice pc C.length kc) (.slice p es.length c) (.slice pd ds.length cd) l C form sub es ds W (DD.out.below hb) hz hC (FV.out.below hb) (DV.out.below hb) (by omega) hok g3)
    have BQ := hide (pl_eq (makP l C form sub es ds).1)
    have EQ : Hid (((makP l C form sub es ds).2 == (makP l C form sub es ds).2) = true) := by show _ = _; simp
    have L60 := hide l60
    have L20 := hide g2
    clear lg hz hC hf hzd hT g1 g2 g3 l60 hok DD h16
    generalize (makP l C form sub es ds).1 = P at *
    generalize (makP l C form sub es ds).2 = pe at *
    go_enter Tryz.func3, Tryz.ntmps3
    go_upto_region 1 with fail
    generalize (w.alloc (.cells #[.slice pn l.length kn, .slice pc C.length kc] 25)).alloc (.cells #[.int .i64 form, .int .i64 sub, .slice pd ds.length cd] 28) = w0 at *
    go_wp2_with fail
    refine (HW.out _ B0.out).mono ?_
    rintro e w1 ⟨rfl, b1⟩
    have B1 := hide (chain B0.out b1)
    replace ND := hide (ND.out.below b1)
    replace NA := hide (NA.out.below b1)
    have x0 := NA.out.cell 2 rfl
    clear b1 B0
    go_wp2_with fail
    refine (HLo.out _ B1.out).mono ?_
    rintro e w2 ⟨rfl, hu⟩
    obtain rfl : w1 = w2 := hu.symm
    go_upto_region 5 with fail
    have BZ : Hid (Below w.heap.size w w1.drew) := bel_drw B1.out
    have NZ : Hid (Bk w1.drew w.heap.size [.slice pn l.length kn, .slice pc C.length kc] 25) := ⟨ND.out.lies⟩
    have AZ : Hid (Bk w1.drew (w.heap.size + 1) [.int .i64 form, .int .i64 sub, .slice pd ds.length cd] 28) := ⟨NA.out.lies⟩
    clear B1 ND NA x0 HW HLo
    have QQ : ∀ z : World, z = w1.drew → z = w1.drew := fun z h => h
    generalize hwz : w1.drew = wz at BZ NZ AZ
    have SK : Hid (∀ W, Below wz.heap.size wz W → (fun X : World => X.cell? ⟨w.heap.size, 0, none⟩ = some (.slice pn l.length kn) ∧ X.cell? ⟨w.heap.size, 1, none⟩ = some (.slice pc C.length kc) ∧ X.cell? ⟨w.heap.size + 1, 0, none⟩ = some (.int .i64 form) ∧ X.cell? ⟨w.heap.size + 1, 1, none⟩ = some (.int .i64 sub) ∧ X.cell? ⟨w.heap.size + 1, 2, none⟩ = some (.slice pd ds.length cd)) W) := fun W hb => ⟨((NZ.out.below hb).cell 0 rfl), ((NZ.out.below hb).cell 1 rfl), ((AZ.out.below hb).cell 0 rfl), ((AZ.out.below hb).cell 1 rfl), ((AZ.out.below hb).cell 2 rfl)⟩
    refine wp_region_held_drew (S := fun X : World => X.cell? ⟨w.heap.size, 0, none⟩ = some (.slice pn l.length kn) ∧ X.cell? ⟨w.heap.size, 1, none⟩ = some (.slice pc C.length kc) ∧ X.cell? ⟨w.heap.size + 1, 0, none⟩ = some (.int .i64 form) ∧ X.cell? ⟨w.heap.size + 1, 1, none⟩ = some (.int .i64 sub) ∧ X.cell? ⟨w.heap.size + 1, 2, none⟩ = some (.slice pd ds.length cd)) (by kernel_rfl) (by rw [hwz]; exact SK.out _ (Below.refl _ _)) (fun hHeld => ?_)
    rw [hwz] at hHeld ⊢
    clear QQ hwz w1
    refine wpAnyH_take (i := 0) (oi := { dst := some 18, op := Op.load 25 (Operand.tmp 3), type := 25, pos := "law.go:75", after := #[], guard := none }) (v := ?_) rfl (by kernel_rfl) (by kernel_rfl) (by kernel_rfl) (fun _ _ _ h => h) (Or.inl ⟨by rfl, ?_⟩) (by assumption) ?_
    rotate_left
    · (intro w hSw; (try dsimp only at hSw); first | (go_simp; done) | (go_simp; with_reducible rfl))
    simp only [Act.put, List.setIfInBounds_toArray, List.set_cons_zero, List.set_cons_succ]
    refine wpAnyH_take (i := 2) (oi := { dst := some 20, op := Op.fieldAddr 28 (Operand.tmp 4) 0, type := 0, pos := "law.go:75", after := #[], guard := none }) (v := ?_) rfl (by kernel_rfl) (by kernel_rfl) (by kernel_rfl) (fun _ _ _ h => h) (Or.inl ⟨by rfl, ?_⟩) (by assumption) ?_
    rotate_left
    · (intro w hSw; (try dsimp only at hSw); first | (go_simp; done) | (go_simp; with_reducible rfl))
    simp only [Act.put, List.setIfInBounds_toArray, List.set_cons_zero, List.set_cons_succ]
    refine wpAnyH_take (i := 3) (oi := { dst := some 21, op := Op.load 3 (Operand.tmp 20), type := 3, pos := "law.go:75", after := #[{ on := 2, ground := Ground.data }], guard := none }) (v := ?_) rfl (by kernel_rfl) (by kernel_rfl) (by kernel_rfl) (fun _ _ _ h => h) (Or.inl ⟨by rfl, ?_⟩) (by assumption) ?_
    rotate_left
    · (intro w hSw; (try dsimp only at hSw); first | (go_simp; done) | (go_simp; with_reducible rfl))
    simp only [Act.put, List.setIfInBounds_toArray, List.set_cons_zero, List.set_cons_succ]
    refine wpAnyH_take (i := 4) (oi := { dst := some 22, op := Op.fieldAddr 28 (Operand.tmp 4) 1, type := 0, pos := "law.go:75", after := #[], guard := none }) (v := ?_) rfl (by kernel_rfl) (by kernel_rfl) (by kernel_rfl) (fun _ _ _ h => h) (Or.inl ⟨by rfl, ?_⟩) (by assumption) ?_
    rotate_left
    · (intro w hSw; (try dsimp only at hSw); first | (go_simp; done) | (go_simp; with_reducible rfl))
    simp only [Act.put, List.setIfInBounds_toArray, List.set_cons_zero, List.set_cons_succ]
    refine wpAnyH_take (i := 5) (oi := { dst := some 23, op := Op.load 3 (Operand.tmp 22), type := 3, pos := "law.go:75", after := #[{ on := 4, ground := Ground.data }], guard := none }) (v := ?_) rfl (by kernel_rfl) (by kernel_rfl) (by kernel_rfl) (fun _ _ _ h => h) (Or.inl ⟨by rfl, ?_⟩) (by assumption) ?_
    rotate_left
    · (intro w hSw; (try dsimp only at hSw); first | (go_simp; done) | (go_simp; with_reducible rfl))
    simp only [Act.put, List.setIfInBounds_toArray, List.set_cons_zero, List.set_cons_succ]
    refine wpAnyH_take (i := 7) (oi := { dst := some 25, op := Op.move (Operand.tmp 2), type := 29, pos := "law.go:75", after := #[], guard := none }) (v := ?_) rfl (by kernel_rfl) (by kernel_rfl) (by kernel_rfl) (fun _ _ _ h => h) (Or.inl ⟨by rfl, ?_⟩) (by assumption) ?_
    rotate_left
    · (intro w hSw; (try dsimp only at hSw); first | (go_simp; done) | (go_simp; with_reducible rfl))
    simp only [Act.put, List.setIfInBounds_toArray, List.set_cons_zero, List.set_cons_succ]
    refine wpAnyH_take (i := 10) (oi := { dst := some 28, op := Op.fieldAddr 28 (Operand.tmp 4) 2, type := 0, pos := "law.go:75", after := #[], guard := none }) (v := ?_) rfl (by kernel_rfl) (by kernel_rfl) (by kernel_rfl) (fun _ _ _ h => h) (Or.inl ⟨by rfl, ?_⟩) (by assumption) ?_
    rotate_left
    · (intro w hSw; (try dsimp only at hSw); first | (go_simp; done) | (go_simp; with_reducible rfl))
    simp only [Act.put, List.setIfInBounds_toArray, List.set_cons_zero, List.set_cons_succ]
    refine wpAnyH_take (i := 11) (oi := { dst := some 29, op := Op.load 26 (Operand.tmp 28), type := 26, pos := "law.go:75", after := #[{ on := 10, ground := Ground.data }], guard := none }) (v := ?_) rfl (by kernel_rfl) (by kernel_rfl) (by kernel_rfl) (fun _ _ _ h => h) (Or.inl ⟨by rfl, ?_⟩) (by assumption) ?_
    rotate_left
    · (intro w hSw; (try dsimp only at hSw); first | (go_simp; done) | (go_simp; with_reducible rfl))
    simp only [Act.put, List.setIfInBounds_toArray, List.set_cons_zero, List.set_cons_succ]
    refine wpAnyH_inv (fun listed a W => ∃ d1 d6 d8 d9 d12 d13 d14 d15 d16 d17 d18 d19 : Bool, ∃ x1 x6 x8 x9 x12 x13 x14 x15 x16 x17 x19 : Value, listed = #[true, d1, true, true, true, true, d6, true, d8, d9, true, true, d12, d13, d14, d15, d16, d17, d18, d19] ∧ a = { tmps := #[.agg #[.slice pn l.length kn, .slice pc C.length kc], .agg #[.int .i64 form, .int .i64 sub, .slice pd ds.length cd], .slice p es.length c, .pointer (some ⟨w.heap.size, 0, none⟩), .pointer (some ⟨w.heap.size + 1, 0, none⟩), undef, .bool false, x17, x19, undef, undef, .bool true, .bool false, .slice p es.length c, .pointer (some ⟨w.heap.size + 1, 2, none⟩), .slice pd ds.length cd, .bool false, x14, .agg #[.slice pn l.length kn, .slice pc C.length kc], x1, .pointer (some ⟨w.heap.size + 1, 0, none⟩), .int .i64 form, .pointer (some ⟨w.heap.size + 1, 1, none⟩), .int .i64 sub, x6, .slice p es.length c, x8, x9, .pointer (some ⟨w.heap.size + 1, 2, none⟩), .slice pd ds.length cd, x12, x13, x15, x16, undef, undef, undef, undef, undef, undef, undef, undef, undef, undef, undef, undef, undef, undef, undef, undef, undef, undef, undef, undef], defers := [] } ∧ MkI wz W l C es ds P.vals pe d1 d6 d8 d9 d12 d13 d14 d15 d16 d17 d18 d19 x1 x6 x8 x9 x12 x13 x14 x15 x16 x17 x19) ?hs ?he _ _ _ _ (by decide) ⟨false, false, false, false, false, false, false, false, false, false, false, false, undef, undef, undef, undef, undef, undef, undef, undef, undef, undef, undef, rfl, rfl, ?hi⟩ hHeld
    case hi => exact ⟨Below.refl _ _, fun t => (by cases t), fun t => (by cases t), fun t => (by cases t), fun t => (by cases t), fun t => (by cases t), fun t => (by cases t), fun t => (by cases t), fun t => (by cases t), fun t => (by cases t), fun t => (by cases t), fun t => (by cases t), fun t => (by cases t)⟩
    case hs =>
      intro listed a W i o hI hS ho hu hd K hK
      obtain ⟨d1, d6, d8, d9, d12, d13, d14, d15, d16, d17, d18, d19, x1, x6, x8, x9, x12, x13, x14, x15, x16, x17, x19, rfl, rfl, H⟩ := hI
      (try dsimp only at hS)
      obtain ⟨y0, y1, y2, y3, y4⟩ := hS
      rcases i with _|_|_|_|_|_|_|_|_|_|_|_|_|_|_|_|_|_|_|_|i
      · exact nomatch (show true = false from hu)
      · obtain rfl : d1 = false := hu
        obtain rfl : { dst := some 19, op := Op.call { callee := Callee.value (Operand.func 9), args := #[Operand.tmp 18], argTypes := #[25] }, type := 25, pos := "law.go:75", after := #[{ on := 0, ground := Ground.data }], guard := none } = o := Option.some.inj ho
        go_simp
        refine (HCo.out _ (chain BZ.out H.bel)).mono ?_
        rintro e wn ⟨nv', cv', rfl, hDn, bn⟩
        go_wp2_with fail
        have HN := H.below bn
        refine hK.out _ _ (SK.out _ HN.bel) ⟨true, d6, d8, d9, d12, d13, d14, d15, d16, d17, d18, d19, .agg #[nv', cv'], x6, x8, x9, x12, x13, x14, x15, x16, x17, x19, rfl, rfl, { HN with f1 := fun _ _ => ⟨nv', cv', rfl, hDn⟩ }⟩
      · exact nomatch (show true = false from hu)
      · exact nomatch (show true = false from hu)
      · exact nomatch (show true = false from hu)
      · exact nomatch (show true = false from hu)
      · obtain rfl : d6 = false := hu
        obtain rfl : { dst := some 24, op := Op.buildSlice 29 0 #[], type := 29, pos := "law.go:75", after := #[], guard := none } = o := Option.some.inj ho
        have bn : Below W.heap.size W (W.alloc (.cells #[] 76)) := (Below.refl _ _).alloc (Nat.le_refl _) _
        go_simp
        have HN := H.below bn
        refine hK.out _ _ (SK.out _ HN.bel) ⟨d1, true, d8, d9, d12, d13, d14, d15, d16, d17, d18, d19, x1, _, x8, x9, x12, x13, x14, x15, x16, x17, x19, rfl, rfl, { HN with f6 := fun _ => ⟨_, rfl⟩ }⟩
      · exact nomatch (show true = false from hu)
      · obtain rfl : d8 = false := hu
        obtain rfl : { dst := some 26, op := Op.call { callee := Callee.builtin Builtin.append, args := #[Operand.tmp 24, Operand.tmp 25], argTypes := #[29, 29] }, type := 29, pos := "law.go:75", after := #[{ on := 6, ground := Ground.data }, { on := 7, ground := Ground.data }, { on := 1, ground := Ground.chain }], guard := none } = o := Option.some.inj ho
        have e6 : d6 = true := hd ⟨6, .data⟩ (by simp) rfl
        subst e6
        obtain ⟨E, rfl⟩ := H.f6 rfl
        refine step_first_en rfl _ _ rfl ⟨E, 0, none⟩ rfl _ es rfl ((FV.out.below BZ.out).below H.bel) L60.out ?_
        intro q cp wn hn bn
        have HN := H.below bn
        refine hK.out _ _ (SK.out _ HN.bel) ⟨d1, true, true, d9, d12, d13, d14, d15, d16, d17, d18, d19, x1, _, _, x9, x12, x13, x14, x15, x16, x17, x19, rfl, rfl, { HN with f8 := fun _ _ => hn }⟩
      · obtain rfl : d9 = false := hu
        obtain rfl : { dst := some 27, op := Op.buildSlice 26 0 #[], type := 26, pos := "law.go:75", after := #[], guard := none } = o := Option.some.inj ho
        have bn : Below W.heap.size W (W.alloc (.cells #[] 9)) := (Below.refl _ _).alloc (Nat.le_refl _) _
        go_simp
        have HN := H.below bn
        refine hK.out _ _ (SK.out _ HN.bel) ⟨d1, d6, d8, true, d12, d13, d14, d15, d16, d17, d18, d19, x1, x6, x8, _, x12, x13, x14, x15, x16, x17, x19, rfl, rfl, { HN with f9 := fun _ => ⟨_, rfl⟩ }⟩
      · exact nomatch (show true = false from hu)
      · exact nomatch (show true = false from hu)
      · obtain rfl : d12 = false := hu
        obtain rfl : { dst := some 30, op := Op.call { callee := Callee.builtin Builtin.append, args := #[Operand.tmp 27, Operand.tmp 29], argTypes := #[26, 26] }, type := 26, pos := "law.go:75", after := #[{ on := 9, ground := Ground.data }, { on := 11, ground := Ground.data }, { on := 8, ground := Ground.chain }], guard := none } = o := Option.some.inj ho
        have e9 : d9 = true := hd ⟨9, .data⟩ (by simp) rfl
        subst e9
        obtain ⟨E, rfl⟩ := H.f9 rfl
        refine step_first_tx rfl _ _ rfl ⟨E, 0, none⟩ rfl _ ds rfl ((DV.out.below BZ.out).below H.bel) L20.out ?_
        intro q cp wn hn bn
        have HN := H.below bn
        refine hK.out _ _ (SK.out _ HN.bel) ⟨d1, d6, d8, true, true, d13, d14, d15, d16, d17, d18, d19, x1, x6, x8, _, _, x13, x14, x15, x16, x17, x19, rfl, rfl, { HN with f12 := fun _ _ => hn }⟩
      · obtain rfl : d13 = false := hu
        obtain rfl : { dst := some 31, op := Op.call { callee := Callee.value (Operand.func 8), args := #[Operand.tmp 19, Operand.tmp 21, Operand.tmp 23, Operand.tmp 26, Operand.tmp 30], argTypes := #[25, 3, 3, 29, 26] }, type := 35, pos := "law.go:75", after := #[{ on := 1, ground := Ground.data }, { on := 3, ground := Ground.data }, { on := 5, ground := Ground.data }, { on := 8, ground := Ground.data }, { on := 12, ground := Ground.data }, { on := 12, ground := Ground.chain }], guard := none } = o := Option.some.inj ho
        have e1 : d1 = true := hd ⟨1, .data⟩ (by simp) rfl
        have e8 : d8 = true := hd ⟨8, .data⟩ (by simp) rfl
        have e12 : d12 = true := hd ⟨12, .data⟩ (by simp) rfl
        subst e1
        subst e8
        subst e12
        obtain ⟨nv', cv', rfl, hDn⟩ := H.f1 rfl rfl
        have h8 := H.f8 rfl rfl
        have h12 := H.f12 rfl rfl
        go_simp
        refine (HMk.out _ _ _ _ _ (chain BZ.out H.bel) hDn h8 h12).mono ?_
        rintro e wn ⟨rfl, bn⟩
        go_wp2_with fail
        have HN := H.below bn
        refine hK.out _ _ (SK.out _ HN.bel) ⟨true, d6, true, d9, true, true, d14, d15, d16, d17, d18, d19, _, x6, x8, x9, x12, _, x14, x15, x16, x17, x19, rfl, rfl, { HN with f1 := fun _ t => (by cases t), f8 := fun _ t => (by cases t), f12 := fun _ t => (by cases t), f13 := fun _ => rfl }⟩
      · obtain rfl : d14 = false := hu
        obtain rfl : { dst := some 17, op := Op.move (Operand.tmp 31), type := 35, pos := "law.go:75", after := #[{ on := 13, ground := Ground.data }], guard := none } = o := Option.some.inj ho
        have e13 : d13 = true := hd ⟨13, .data⟩ (by simp) rfl
        subst e13
        obtain rfl := H.f13 rfl
        go_simp
        refine hK.out _ _ (SK.out _ H.bel) ⟨d1, d6, d8, d9, d12, true, true, d15, d16, d17, d18, d19, x1, x6, x8, x9, x12, _, _, x15, x16, x17, x19, rfl, rfl, { H with f14 := fun _ => rfl }⟩
      · obtain rfl : d15 = false := hu
        obtain rfl : { dst := some 32, op := Op.extract (Operand.tmp 17) 0, type := 33, pos := "law.go:75", after := #[{ on := 14, ground := Ground.data }], guard := none } = o := Option.some.inj ho
        have e14 : d14 = true := hd ⟨14, .data⟩ (by simp) rfl
        subst e14
        obtain rfl := H.f14 rfl
        go_simp
        refine hK.out _ _ (SK.out _ H.bel) ⟨d1, d6, d8, d9, d12, d13, true, true, d16, d17, d18, d19, x1, x6, x8, x9, x12, x13, _, _, x16, x17, x19, rfl, rfl, { H with f15 := fun _ => rfl }⟩
      · obtain rfl : d16 = false := hu
        obtain rfl : { dst := some 33, op := Op.extract (Operand.tmp 17) 1, type := 34, pos := "law.go:75", after := #[{ on := 14, ground := Ground.data }, { on := 18, ground := Ground.gcOnly Departure.lateStores }], guard := none } = o := Option.some.inj ho
        have e14 : d14 = true := hd ⟨14, .data⟩ (by simp) rfl
        subst e14
        obtain rfl := H.f14 rfl
        go_simp
        refine hK.out _ _ (SK.out _ H.bel) ⟨d1, d6, d8, d9, d12, d13, true, d15, true, d17, d18, d19, x1, x6, x8, x9, x12, x13, _, x15, _, x17, x19, rfl, rfl, { H with f16 := fun _ => rfl }⟩
      · obtain rfl : d17 = false := hu
        obtain rfl : { dst := some 7, op := Op.alloc 33, type := 0, pos := "law.go:75", after := #[], guard := none } = o := Option.some.inj ho
        have e18 : d18 = false := by
          cases d18 with
          | false => rfl
          | true => exact absurd (H.s18 rfl) (by simp)
        subst e18
        have bn : Below W.heap.size W (W.alloc (.cells #[.string ⟨#[]⟩, .string ⟨#[]⟩, .string ⟨#[]⟩, .string ⟨#[]⟩, .string ⟨#[]⟩] 33)) := (Below.refl _ _).alloc (Nat.le_refl _) _
        have kn' := Bk.new W [.string ⟨#[]⟩, .string ⟨#[]⟩, .string ⟨#[]⟩, .string ⟨#[]⟩, .string ⟨#[]⟩] 33
        have ge := H.bel.size
        go_simp
        have HN := H.below bn
        refine hK.out _ _ (SK.out _ HN.bel) ⟨d1, d6, d8, d9, d12, d13, d14, d15, d16, true, false, d19, x1, x6, x8, x9, x12, x13, x14, x15, x16, _, x19, rfl, rfl, { HN with f17 := fun _ => ⟨_, ge, rfl, kn'⟩, s18 := fun t => (by cases t) }⟩
      · obtain rfl : d18 = false := hu
        obtain rfl : { dst := none, op := Op.store 33 (Operand.tmp 7) (Operand.tmp 32), type := 0, pos := "law.go:75", after := #[{ on := 17, ground := Ground.data }, { on := 15, ground := Ground.data }, { on := 13, ground := Ground.chain }, { on := 0, ground := Ground.phase }, { on := 1, ground := Ground.phase }, { on := 2, ground := Ground.phase }, { on := 3, ground := Ground.phase }, { on := 4, ground := Ground.phase }, { on := 5, ground := Ground.phase }, { on := 6, ground := Ground.phase }, { on := 7, ground := Ground.phase }, { on := 8, ground := Ground.phase }, { on := 9, ground := Ground.phase }, { on := 10, ground := Ground.phase }, { on := 11, ground := Ground.phase }, { on := 12, ground := Ground.phase }, { on := 13, ground := Ground.phase }, { on := 14, ground := Ground.phase }, { on := 15, ground := Ground.phase }, { on := 16, ground := Ground.textOnly Departure.lateStores }, { on := 17, ground := Ground.phase }], guard := none } = o := Option.some.inj ho
        have e17 : d17 = true := hd ⟨17, .data⟩ (by simp) rfl
        have e15 : d15 = true := hd ⟨15, .data⟩ (by simp) rfl
        have e13 : d13 = true := hd ⟨13, .chain⟩ (by simp) rfl
        subst e17
        subst e15
        subst e13
        obtain ⟨E, ge, rfl, KE⟩ := H.f17 rfl
        obtain rfl := H.f15 rfl
        have g0 := KE.cell 0 rfl
        have q0 := KE.free 0
        have g1 := KE.cell 1 rfl
        have q1 := KE.free 1
        have g2 := KE.cell 2 rfl
        have q2 := KE.free 2
        have g3 := KE.cell 3 rfl
        have q3 := KE.free 3
        have g4 := KE.cell 4 rfl
        have q4 := KE.free 4
        have K5 : Bk (((((W.setCell ⟨E, 0, none⟩ (.string P.me)).setCell ⟨E, 1, none⟩ (.string P.ac)).setCell ⟨E, 2, none⟩ (.string P.ta)).setCell ⟨E, 3, none⟩ (.string P.bo)).setCell ⟨E, 4, none⟩ (.string P.ty)) E P.vals 33 := ((((KE.set 0 _).set 1 _).set 2 _).set 3 _).set 4 _
        have b5 : Below wz.heap.size wz (((((W.setCell ⟨E, 0, none⟩ (.string P.me)).setCell ⟨E, 1, none⟩ (.string P.ac)).setCell ⟨E, 2, none⟩ (.string P.ta)).setCell ⟨E, 3, none⟩ (.string P.bo)).setCell ⟨E, 4, none⟩ (.string P.ty)) := ((((H.bel.setCell ge _).setCell ge _).setCell ge _).setCell ge _).setCell ge _
        simp only [Pl.vals]
        go_simp
        refine hK.out _ _ (SK.out _ b5) ⟨d1, d6, d8, d9, d12, true, d14, true, d16, true, true, d19, x1, x6, x8, x9, x12, x13, x14, _, x16, _, x19, rfl, rfl, ?_⟩
        exact { H with bel := b5, f1 := fun _ t => (by cases t), f8 := fun _ t => (by cases t), f12 := fun _ t => (by cases t), f17 := fun _ => ⟨E, ge, rfl, K5⟩, s18 := fun _ => rfl }
      · obtain rfl : d19 = false := hu
        obtain rfl : { dst := some 8, op := Op.assign (Operand.tmp 33), type := 34, pos := "law.go:75", after := #[{ on := 16, ground := Ground.data }, { on := 18, ground := Ground.chain }, { on := 0, ground := Ground.phase }, { on := 1, ground := Ground.phase }, { on := 2, ground := Ground.phase }, { on := 3, ground := Ground.phase }, { on := 4, ground := Ground.phase }, { on := 5, ground := Ground.phase }, { on := 6, ground := Ground.phase }, { on := 7, ground := Ground.phase }, { on := 8, ground := Ground.phase }, { on := 9, ground := Ground.phase }, { on := 10, ground := Ground.phase }, { on := 11, ground := Ground.phase }, { on := 12, ground := Ground.phase }, { on := 13, ground := Ground.phase }, { on := 14, ground := Ground.phase }, { on := 15, ground := Ground.phase }, { on := 16, ground := Ground.phase }, { on := 17, ground := Ground.phase }, { on := 18, ground := Ground.phase }], guard := none } = o := Option.some.inj ho
        have e16 : d16 = true := hd ⟨16, .data⟩ (by simp) rfl
        subst e16
        obtain rfl := H.f16 rfl
        go_simp
        refine hK.out _ _ (SK.out _ H.bel) ⟨d1, d6, d8, d9, d12, d13, d14, d15, true, d17, d18, true, x1, x6, x8, x9, x12, x13, x14, x15, _, x17, _, rfl, rfl, { H with f19 := fun _ => rfl }⟩
      · exact nomatch (show true = false from hu)
    case he =>
      intro listed a W hI hS hr
      obtain ⟨d1, d6, d8, d9, d12, d13, d14, d15, d16, d17, d18, d19, x1, x6, x8, x9, x12, x13, x14, x15, x16, x17, x19, rfl, rfl, H⟩ := hI
      clear hS
      obtain rfl : d1 = true := rdy (i := 1) hr rfl (by simp [Region.binds])
      obtain rfl : d6 = true := rdy (i := 6) hr rfl (by simp [Region.binds])
      obtain rfl : d8 = true := rdy (i := 8) hr rfl (by simp [Region.binds])
      obtain rfl : d9 = true := rdy (i := 9) hr rfl (by simp [Region.binds])
      obtain rfl : d12 = true := rdy (i := 12) hr rfl (by simp [Region.binds])
      obtain rfl : d13 = true := rdy (i := 13) hr rfl (by simp [Region.binds])
      obtain rfl : d14 = true := rdy (i := 14) hr rfl (by simp [Region.binds])
      obtain rfl : d15 = true := rdy (i := 15) hr rfl (by simp [Region.binds])
      obtain rfl : d17 = true := rdy (i := 17) hr rfl (by simp [Region.binds])
      obtain rfl : d18 = true := rdy (i := 18) hr rfl (by simp [Region.binds])
      obtain rfl : d16 = true := rdy (i := 16) hr rfl (by simp [Region.binds])
      obtain rfl : d19 = true := rdy (i := 19) hr rfl (by simp [Region.binds])
      obtain rfl := H.f19 rfl
      obtain ⟨E, ge, rfl, KE⟩ := H.f17 rfl
      have BW := hide (chain BZ.out H.bel)
      have KP := hide KE
      have NW := hide (NZ.out.below H.bel)
      have AW := hide (AZ.out.below H.bel)
      clear H KE hr ge SK NZ AZ BZ HCo HMk
      have y0 := NW.out.cell 0 rfl
      have y1 := NW.out.cell 1 rfl
      have z0 := AW.out.cell 0 rfl
      have z1 := AW.out.cell 1 rfl
      have z2 := AW.out.cell 2 rfl
      go_wp2_with fail
      refine (HRm.out _ BW.out).mono ?_
      rintro e wn ⟨rfl, bn⟩
      replace KP := hide (KP.out.below bn)
      replace BW := hide (chain BW.out bn)
      clear y0 y1 z0 z1 z2 bn HRm NW AW
      have AN : Below wn.heap.size wn (wn.alloc (.cells #[.string P.me, .string P.ac, .string P.ta, .string P.bo, .string P.ty] 33)) := (Below.refl _ _).alloc (Nat.le_refl _) _
      have k0 := (KP.out.below AN).cell 0 rfl
      have k1 := (KP.out.below AN).cell 1 rfl
      have k2 := (KP.out.below AN).cell 2 rfl
      have k3 := (KP.out.below AN).cell 3 rfl
      have k4 := (KP.out.below AN).cell 4 rfl
      replace BW := hide (chain BW.out AN)
      clear AN
      obtain ⟨t0, t1, t2, t3, t4⟩ := BQ.out
      have t5 := EQ.out
      simp only [Pl.vals]
      go_wp2_with fail
      go_ret
      exact ⟨rfl, BW.out⟩

end Go.Proofs.YtnojgejcmaajmaaGreatDoor
