/- The program's Form, Elements, Default, Control, Disabled of layer 16. -/
import Derived.Test.YtnojgejcmaajmaaGreatDoorJsb7
import Derived.Test.YtnojgejcmaajmaaGreatDoorJsb60

namespace Go.Proofs.YtnojgejcmaajmaaGreatDoor
open Go.RowKit
set_option maxRecDepth 100000
theorem isK_not {l : List Nd} {k id : Int} (h : okB l (fun x => x == k) id = false ∨ rightB l = false) : isK l id k = false := by
  rw [← ok_right]
  rcases h with h | h <;> rw [h]
  · rfl
  · rw [Bool.and_false]
theorem isK_yes {l : List Nd} {k id : Int} (h : okB l (fun x => x == k) id = true) (hr : rightB l = true) : isK l id k = true := by rw [← ok_right, h, hr]; rfl
theorem ok_rng {l : List Nd} {q : Int → Bool} {id : Int} (h : okB l q id = true) : ∃ m : Nat, id = (m : Int) ∧ m < l.length := by
  have rg : 0 ≤ id ∧ id < (l.length : Int) := by
    apply Classical.byContradiction
    intro t
    rw [ok_out t] at h; cases h
  exact ⟨id.toNat, by omega, by omega⟩
theorem entFm1 : ∀ args w, (callFunc 118 args).run Tryz.prog w = .ok (.enter 118 args) w := Go.Proofs.enters_of Tryz.func118 (by kernel_rfl) rfl
theorem entDs1 : ∀ args w, (callFunc 110 args).run Tryz.prog w = .ok (.enter 110 args) w := Go.Proofs.enters_of Tryz.func110 (by kernel_rfl) rfl
set_option maxHeartbeats 8000000 in
theorem owForm1_any (v : Value) (l : List Nd) (s : ByteArray) (Bl : Nat) (w : World) (hv : NodesV w v l) (hz : DocSz l) (hr : rightB l = true) (x1 : w.cell? ⟨Bl, 0, none⟩ = some v) :
    Calls Tryz.prog 118 #[.string s, .pointer (some ⟨Bl, 0, none⟩)] w fun e w' => e = .returned (.int .i64 (namedP l s)) ∧ Below w.heap.size w w' := by
  have HN := hide (named_any v l s w hv hz)
  rw [show namedQ l s = namedP l s from if_pos hr] at HN
  obtain ⟨p, c, rfl⟩ := nds_formW hv
  clear hv hz hr
  go_enter Tryz.func118, Tryz.ntmps118
  go_wp2_with fail
  refine HN.out.mono ?_
  rintro e w1 ⟨rfl, b1⟩
  go_wp2_with fail
  go_ret
  exact ⟨rfl, b1⟩
theorem form_none {l : List Nd} {id : Int} (h : okB l belK id = false ∨ rightB l = false) : formP l id = -1 := by
  unfold formP
  rw [if_neg]
  rintro ⟨t1, t2⟩
  unfold hasN at t1
  rw [Bool.and_eq_true, decide_eq_true_eq] at t1
  rcases h with h | h
  · rw [ok_in t1.1] at h
    unfold belongs at t2
    rw [dec_beq] at t2
    have : belK (kI l id) = true := t2
    rw [h] at this; cases this
  · rw [h] at t1; cases t1.2
set_option maxHeartbeats 8000000 in
theorem owForm_any (v : Value) (l : List Nd) (id : Int) (w : World) (hv : NodesV w v l) (hz : DocSz l) (hT : OwTabs w) :
    Calls Tryz.prog 59 #[v, .int .i64 id] w fun e w' => e = .returned (.int .i64 (formP l id)) ∧ Below w.heap.size w w' := by
  have HI := hide (fun W (hb : Below w.heap.size w W) => owIsOf_any v l id _ belK subelongs W (hv.below hb) hz (hT.below hb))
  have HRt := hide (fun W (hb : Below w.heap.size w W) => right_any v l W (hv.below hb) hz)
  cases ok : okB l belK id with
  | false =>
    have E : Hid (formP l id = -1) := form_none (.inl ok)
    rw [ok] at HI
    clear ok
    obtain ⟨p, c, rfl⟩ := nds_formW hv
    have B0 : Hid (Below w.heap.size w (w.alloc (.cells #[.slice p l.length c] 22))) := (Below.refl _ w).alloc (Nat.le_refl _) _
    have KB := hide (Bk.new w [.slice p l.length c] 22)
    have x1 := KB.out.cell 0 rfl
    clear hv hz hT HRt
    go_enter Tryz.func59, Tryz.ntmps59
    go_wp2_with fail
    refine (HI.out _ B0.out).mono ?_
    rintro e w1 ⟨rfl, b1⟩
    go_wp2_with fail
    go_ret
    exact ⟨ret_int E.out.symm, chain B0.out b1⟩
  | true =>
    rw [ok] at HI
    cases rb : rightB l with
    | false =>
      have E : Hid (formP l id = -1) := form_none (.inr rb)
      rw [rb] at HRt
      clear ok rb
      obtain ⟨p, c, rfl⟩ := nds_formW hv
      have B0 : Hid (Below w.heap.size w (w.alloc (.cells #[.slice p l.length c] 22))) := (Below.refl _ w).alloc (Nat.le_refl _) _
      have KB := hide (Bk.new w [.slice p l.length c] 22)
      have x1 := KB.out.cell 0 rfl
      clear hv hz hT
      go_enter Tryz.func59, Tryz.ntmps59
      go_wp2_with fail
      refine (HI.out _ B0.out).mono ?_
      rintro e w1 ⟨rfl, b1⟩
      have x1b := cell_below x1 b1
      go_wp2_with fail
      refine (HRt.out _ (chain B0.out b1)).mono ?_
      rintro e w2 ⟨rfl, b2⟩
      go_wp2_with fail
      go_ret
      exact ⟨ret_int E.out.symm, chain (chain B0.out b1) b2⟩
    | true =>
      rw [rb] at HRt
      have hR := right_is.1 rb
      obtain ⟨m, rfl, hm⟩ := ok_rng ok
      have HF := hide (fun Bl W (hb : Below w.heap.size w W) (x : W.cell? ⟨Bl, 0, none⟩ = some v) => owFormOf_any v l m 118 #[.pointer (some ⟨Bl, 0, none⟩)] entFm1 (namedP l) W (fun s W' hb' => owForm1_any v l s Bl W' ((hv.below hb).below hb') hz rb (cell_below x hb')) (hv.below hb) hz (hT.below hb) hR hm)
      have E : Hid (frmP l (namedP l) (m : Int) = formP l (m : Int)) := by
        show _ = _
        rw [frm_is hR (by omega) (by omega), form_pos hR (by omega) (by omega)]
        rw [ok_at hm] at ok
        unfold kI
        rw [Int.toNat_natCast, nd_at hm]; exact ok
      rw [E.out] at HF
      clear E
      obtain ⟨p, c, rfl⟩ := nds_formW hv
      have B0 : Hid (Below w.heap.size w (w.alloc (.cells #[.slice p l.length c] 22))) := (Below.refl _ w).alloc (Nat.le_refl _) _
      have KB := hide (Bk.new w [.slice p l.length c] 22)
      have x1 := KB.out.cell 0 rfl
      clear hv hz hT ok rb hR
      generalize formP l (m : Int) = z at *
      go_enter Tryz.func59, Tryz.ntmps59
      go_wp2_with fail
      refine (HI.out _ B0.out).mono ?_
      rintro e w1 ⟨rfl, b1⟩
      have x1b := cell_below x1 b1
      go_wp2_with fail
      refine (HRt.out _ (chain B0.out b1)).mono ?_
      rintro e w2 ⟨rfl, b2⟩
      have B2 := hide (chain (chain B0.out b1) b2)
      have x1c := cell_below x1b b2
      have KB2 := hide ((KB.out.below b1).below b2)
      go_wp2_with fail
      refine (HF.out _ _ B2.out x1c).mono ?_
      rintro e w3 ⟨rfl, b3⟩
      go_wp2_with fail
      go_ret
      exact ⟨rfl, chain B2.out b3⟩
set_option maxHeartbeats 8000000 in
theorem owElementsK_any (v : Value) (l : List Nd) (id : Int) (w : World) (hv : NodesV w v l) (hz : DocSz l) (hT : OwTabs w) :
    Calls Tryz.prog 63 #[v, .int .i64 id] w fun e w' => ∃ v', e = .returned v' ∧ KidsO w.heap.size w' v' (elementsP l id) ∧ Below w.heap.size w w' := by
  have HI := hide (fun W (hb : Below w.heap.size w W) => owIsOf_any v l id _ is30 suisForm W (hv.below hb) hz (hT.below hb))
  have HRt := hide (fun W (hb : Below w.heap.size w W) => right_any v l W (hv.below hb) hz)
  cases ok : okB l is30 id with
  | false =>
    have E : Hid (elementsP l id = []) := by show _ = _; rw [elements_is, isK_not (.inl ok)]; rfl
    rw [ok] at HI
    clear ok
    obtain ⟨p, c, rfl⟩ := nds_formW hv
    have B0 : Hid (Below w.heap.size w w) := Below.refl _ _
    clear hv hz hT HRt
    go_enter Tryz.func63, Tryz.ntmps63
    go_wp2_with fail
    refine (HI.out _ B0.out).mono ?_
    rintro e w1 ⟨rfl, b1⟩
    go_wp2_with fail
    go_ret
    exact ⟨_, rfl, by rw [E.out]; exact World.ownsRow_nil _ _ _ _, chain B0.out b1⟩
  | true =>
    rw [ok] at HI
    cases rb : rightB l with
    | false =>
      have E : Hid (elementsP l id = []) := by show _ = _; rw [elements_is, isK_not (.inr rb)]; rfl
      rw [rb] at HRt
      clear ok rb
      obtain ⟨p, c, rfl⟩ := nds_formW hv
      have B0 : Hid (Below w.heap.size w w) := Below.refl _ _
      clear hv hz hT
      go_enter Tryz.func63, Tryz.ntmps63
      go_wp2_with fail
      refine (HI.out _ B0.out).mono ?_
      rintro e w1 ⟨rfl, b1⟩
      go_wp2_with fail
      refine (HRt.out _ (chain B0.out b1)).mono ?_
      rintro e w2 ⟨rfl, b2⟩
      go_wp2_with fail
      go_ret
      exact ⟨_, rfl, by rw [E.out]; exact World.ownsRow_nil _ _ _ _, chain (chain B0.out b1) b2⟩
    | true =>
      rw [rb] at HRt
      have hR := right_is.1 rb
      obtain ⟨m, rfl, hm⟩ := ok_rng ok
      have HO := hide (fun W (hb : Below w.heap.size w W) => owOwned_any v l m _ listB suListed W (hv.below hb) hz (hT.below hb) hR hm)
      have E : Hid (ownedP l listB (m : Int) = elementsP l (m : Int)) := by show _ = _; rw [elements_is, isK_yes ok rb]; rfl
      rw [E.out] at HO
      clear E
      obtain ⟨p, c, rfl⟩ := nds_formW hv
      have B0 : Hid (Below w.heap.size w w) := Below.refl _ _
      clear hv hz hT ok rb hR
      generalize elementsP l (m : Int) = z at *
      go_enter Tryz.func63, Tryz.ntmps63
      go_wp2_with fail
      refine (HI.out _ B0.out).mono ?_
      rintro e w1 ⟨rfl, b1⟩
      go_wp2_with fail
      refine (HRt.out _ (chain B0.out b1)).mono ?_
      rintro e w2 ⟨rfl, b2⟩
      have B2 := hide (chain (chain B0.out b1) b2)
      go_wp2_with fail
      refine (HO.out _ B2.out).mono ?_
      rintro e w3 ⟨v3, rfl, k3, b3⟩
      have K3 := hide (owns_mono k3 B2.out.size)
      obtain ⟨p3, c3, rfl, _⟩ := k3.ints
      clear k3
      go_wp2_with fail
      go_ret
      exact ⟨_, rfl, K3.out, chain B2.out b3⟩
theorem owElements_any (v : Value) (l : List Nd) (id : Int) (w : World) (hv : NodesV w v l) (hz : DocSz l) (hT : OwTabs w) :
    Calls Tryz.prog 63 #[v, .int .i64 id] w fun e w' => ∃ v', e = .returned v' ∧ IntsV w' v' (elementsP l id) ∧ Below w.heap.size w w' :=
  (owElementsK_any v l id w hv hz hT).mono fun _ _ ⟨v', h1, h2, h3⟩ => ⟨v', h1, h2.ints, h3⟩
set_option maxHeartbeats 8000000 in
theorem owDefault_any (v : Value) (l : List Nd) (id : Int) (w : World) (hv : NodesV w v l) (hz : DocSz l) (hT : OwTabs w) :
    Calls Tryz.prog 60 #[v, .int .i64 id] w fun e w' => e = .returned (.int .i64 (defaultP l id)) ∧ Below w.heap.size w w' := by
  have HI := hide (fun W (hb : Below w.heap.size w W) => owIsOf_any v l id _ is30 suisForm W (hv.below hb) hz (hT.below hb))
  have HRt := hide (fun W (hb : Below w.heap.size w W) => right_any v l W (hv.below hb) hz)
  cases ok : okB l is30 id with
  | false =>
    have E : Hid (defaultP l id = -1) := by show _ = _; rw [default_is, isK_not (.inl ok)]; rfl
    rw [ok] at HI
    clear ok
    obtain ⟨p, c, rfl⟩ := nds_formW hv
    have B0 : Hid (Below w.heap.size w w) := Below.refl _ _
    clear hv hz hT HRt
    go_enter Tryz.func60, Tryz.ntmps60
    go_wp2_with fail
    refine (HI.out _ B0.out).mono ?_
    rintro e w1 ⟨rfl, b1⟩
    go_wp2_with fail
    go_ret
    exact ⟨ret_int E.out.symm, chain B0.out b1⟩
  | true =>
    rw [ok] at HI
    cases rb : rightB l with
    | false =>
      have E : Hid (defaultP l id = -1) := by show _ = _; rw [default_is, isK_not (.inr rb)]; rfl
      rw [rb] at HRt
      clear ok rb
      obtain ⟨p, c, rfl⟩ := nds_formW hv
      have B0 : Hid (Below w.heap.size w w) := Below.refl _ _
      clear hv hz hT
      go_enter Tryz.func60, Tryz.ntmps60
      go_wp2_with fail
      refine (HI.out _ B0.out).mono ?_
      rintro e w1 ⟨rfl, b1⟩
      go_wp2_with fail
      refine (HRt.out _ (chain B0.out b1)).mono ?_
      rintro e w2 ⟨rfl, b2⟩
      go_wp2_with fail
      go_ret
      exact ⟨ret_int E.out.symm, chain (chain B0.out b1) b2⟩
    | true =>
      rw [rb] at HRt
      have hR := right_is.1 rb
      obtain ⟨m, rfl, hm⟩ := ok_rng ok
      have HO := hide (fun W (hb : Below w.heap.size w W) => owOwned_any v l m _ fireB suFires W (hv.below hb) hz (hT.below hb) hR hm)
      have OL : Hid ((ownedP l fireB (m : Int)).length ≤ 17592186044416) := by
        show _ ≤ _
        have tr := top_rng hR (k := (m : Int)) (by omega) (by omega)
        have h1 : (ownedP l fireB (m : Int)).length ≤ (orderP l (topP l (m : Int))).length := List.length_filter_le _ _
        rw [order_down hR tr] at h1
        have := down_few hR tr
        omega
      have HF := hide (fun vk W (hb : Below w.heap.size w W) (hk : IntsV W vk (ownedP l fireB (m : Int))) => owFirstOf_any v vk l _ _ fireB suFires W (hv.below hb) hk hz (hT.below hb) OL.out)
      have E : Hid (firB l fireB (ownedP l fireB (m : Int)) = defaultP l (m : Int)) := by show _ = _; rw [default_is, isK_yes ok rb]; rfl
      rw [E.out] at HF
      clear E
      obtain ⟨p, c, rfl⟩ := nds_formW hv
      have B0 : Hid (Below w.heap.size w w) := Below.refl _ _
      clear hv hz hT ok rb hR OL
      generalize defaultP l (m : Int) = z at *
      generalize ownedP l fireB (m : Int) = ks at *
      go_enter Tryz.func60, Tryz.ntmps60
      go_wp2_with fail
      refine (HI.out _ B0.out).mono ?_
      rintro e w1 ⟨rfl, b1⟩
      go_wp2_with fail
      refine (HRt.out _ (chain B0.out b1)).mono ?_
      rintro e w2 ⟨rfl, b2⟩
      have B2 := hide (chain (chain B0.out b1) b2)
      go_wp2_with fail
      refine (HO.out _ B2.out).mono ?_
      rintro e w3 ⟨v3, rfl, k3, b3⟩
      have I3 := hide k3.ints
      have B3 := hide (chain B2.out b3)
      obtain ⟨p3, c3, rfl, _⟩ := k3.ints
      clear k3 b3 B2 HO
      go_wp2_with fail
      refine (HF.out _ _ B3.out I3.out).mono ?_
      rintro e w4 ⟨rfl, b4⟩
      go_wp2_with fail
      go_ret
      exact ⟨rfl, chain B3.out b4⟩
set_option maxHeartbeats 8000000 in
theorem owDisabled1_any (v : Value) (l : List Nd) (a by_ : Nat) (Bl : Nat) (w : World) (hv : NodesV w v l) (hz : DocSz l) (hT : KTabs w) (ha : a < l.length) (x1 : w.cell? ⟨Bl, 0, none⟩ = some v) :
    Calls Tryz.prog 110 #[.int .i64 (a : Int), .int .i64 (by_ : Int), .pointer (some ⟨Bl, 0, none⟩)] w fun e w' => e = .returned (.bool (hldB l (a : Int) (by_ : Int))) ∧ Below w.heap.size w w' := by
  have nz := hz.nds _ (List.getElem_mem ha)
  have KL : l[a].kids.length ≤ 17592186044416 := nz.kids
  have BD : Hid (Below w.heap.size w w.drew) := ⟨rfl, rfl, rfl, Nat.le_refl _, fun _ _ => rfl⟩
  have E : Hid (hldB l (a : Int) (by_ : Int) = (hasA l[a] oDis && ((by_ : Int) != firB l is34 l[a].kids))) := by show _ = _; unfold hldB; rw [Int.toNat_natCast, nd_at ha]
  obtain ⟨p, c, rfl⟩ := nds_formW hv
  obtain ⟨b, o, va, pk, nk, ck, rfl, N⟩ := node_ofW hv ha
  have HF := hide (fun W (hb : Below w.heap.size w W) => owFirstOf_any _ _ l l[a].kids _ is34 suisLegend W (hv.below hb) (N.ks.below hb) hz (hT.below hb) KL)
  have HN := hide (fun W (hb : Below w.heap.size w W) => owHas_any l[a] va pk nk ck oDis W (N.at_.below hb) nz.attrs)
  rw [show oDis = ⟨#[100, 105, 115, 97, 98, 108, 101, 100]⟩ from rfl] at HN E
  obtain ⟨pa, ca, rfl, hxx⟩ := N.at_
  clear hxx
  have c0 := N.name
  have c1 := N.text
  have c2 := N.attrs
  have c3 := N.parent
  have c4 := N.kids
  have m0 : (0 : Int) ≤ (a : Int) := by omega
  have m1 : (a : Int) < (l.length : Int) := by omega
  clear N hv hz hT nz KL
  generalize hldB l (a : Int) (by_ : Int) = R at *
  generalize firB l is34 l[a].kids = z at *
  generalize hasA l[a] ⟨#[100, 105, 115, 97, 98, 108, 101, 100]⟩ = hb at *
  generalize l[a].name = n0 at *
  generalize l[a].text = n1 at *
  generalize l[a].parent = n3 at *
  generalize l[a].attrs.length = n5 at *
  have hu : undef = Value.tuple #[] := rfl
  cases hb with
  | false =>
    rw [Bool.false_and] at E
    clear HF
    go_enter Tryz.func110, Tryz.ntmps110
    go_wp2_with fail
    refine wp_region_held_drew (S := fun X : World => X.cell? ⟨Bl, 0, none⟩ = some (.slice (some ⟨b, o, none⟩) l.length c) ∧ X.cell? ⟨b, o + a * 5, none⟩ = some (.string n0) ∧ X.cell? ⟨b, o + a * 5 + 1, none⟩ = some (.string n1) ∧ X.cell? ⟨b, o + a * 5 + 2, none⟩ = some (.slice pa n5 ca) ∧ X.cell? ⟨b, o + a * 5 + 3, none⟩ = some (.int .i64 n3) ∧ X.cell? ⟨b, o + a * 5 + 4, none⟩ = some (.slice pk nk ck)) (by kernel_rfl) ?_ (fun hHeld => ?_)
    · exact ⟨x1, c0, c1, c2, c3, c4⟩
    refine wpAnyH_take (i := 0) (oi := { dst := some 6, op := Op.load 22 (Operand.tmp 2), type := 22, pos := "owner.go:56", after := #[], guard := none }) (v := ?_) rfl (by kernel_rfl) (by kernel_rfl) (by kernel_rfl) (fun _ _ _ h => h) (Or.inl ⟨by rfl, ?_⟩) (by assumption) ?_
    rotate_left
    · (intro w hSw; (try dsimp only at hSw); first | (go_simp; done) | (go_simp; with_reducible rfl))
    simp only [Act.put, List.setIfInBounds_toArray, List.set_cons_zero, List.set_cons_succ]
    refine wpAnyH_take (i := 1) (oi := { dst := some 7, op := Op.move (Operand.tmp 0), type := 3, pos := "owner.go:56", after := #[], guard := none }) (v := ?_) rfl (by kernel_rfl) (by kernel_rfl) (by kernel_rfl) (fun _ _ _ h => h) (Or.inl ⟨by rfl, ?_⟩) (by assumption) ?_
    rotate_left
    · (intro w hSw; (try dsimp only at hSw); first | (go_simp; done) | (go_simp; with_reducible rfl))
    simp only [Act.put, List.setIfInBounds_toArray, List.set_cons_zero, List.set_cons_succ]
    refine wpAnyH_take (i := 2) (oi := { dst := some 8, op := Op.indexAddr 22 (Operand.tmp 6) (Operand.tmp 7), type := 0, pos := "owner.go:56", after := #[{ on := 0, ground := Ground.data }, { on := 1, ground := Ground.data }], guard := none }) (v := ?_) rfl (by kernel_rfl) (by kernel_rfl) (by kernel_rfl) (fun _ _ _ h => h) (Or.inl ⟨by rfl, ?_⟩) (by assumption) ?_
    rotate_left
    · (intro w hSw; (try dsimp only at hSw); first | (go_simp; done) | (go_simp; with_reducible rfl))
    simp only [Act.put, List.setIfInBounds_toArray, List.set_cons_zero, List.set_cons_succ]
    refine wpAnyH_take (i := 3) (oi := { dst := some 9, op := Op.load 57 (Operand.tmp 8), type := 57, pos := "owner.go:56", after := #[{ on := 2, ground := Ground.data }], guard := none }) (v := ?_) rfl (by kernel_rfl) (by kernel_rfl) (by kernel_rfl) (fun _ _ _ h => h) (Or.inl ⟨by rfl, ?_⟩) (by assumption) ?_
    rotate_left
    · (intro w hSw; (try dsimp only at hSw); first | (go_simp; done) | (go_simp; with_reducible rfl))
    simp only [Act.put, List.setIfInBounds_toArray, List.set_cons_zero, List.set_cons_succ]
    refine wpAnyH_ready (rs := [4]) (by kernel_rfl) (by simp) ?_
    refine AllReadyH.cons (i := 4) (o := { dst := some 10, op := Op.call { callee := Callee.value (Operand.func 111), args := #[Operand.tmp 9, Operand.const (Value.string { data := #[100, 105, 115, 97, 98, 108, 101, 100] })], argTypes := #[57, 9] }, type := 4, pos := "owner.go:56", after := #[{ on := 3, ground := Ground.data }], guard := none }) rfl (fun K hK => ?_) AllReadyH.nil
    go_simp
    refine (HN.out _ BD.out).mono ?_
    rintro e w1 ⟨rfl, b1⟩
    have B1 := hide (chain BD.out b1)
    clear b1
    go_wp2_with fail
    refine hK.out _ _ ?_ (fun hHeld => ?_)
    · exact ⟨cell_below x1 B1.out, cell_below c0 B1.out, cell_below c1 B1.out, cell_below c2 B1.out, cell_below c3 B1.out, cell_below c4 B1.out⟩
    clear hK K
    refine wpAnyH_take (i := 5) (oi := { dst := some 11, op := Op.move (Operand.tmp 10), type := 4, pos := "owner.go:56", after := #[{ on := 4, ground := Ground.data }, { on := 4, ground := Ground.chain }], guard := none }) (v := ?_) rfl (by kernel_rfl) (by kernel_rfl) (by kernel_rfl) (fun _ _ _ h => h) (Or.inl ⟨by rfl, ?_⟩) (by assumption) ?_
    rotate_left
    · (intro w hSw; (try dsimp only at hSw); first | (go_simp; done) | (go_simp; with_reducible rfl))
    simp only [Act.put, List.setIfInBounds_toArray, List.set_cons_zero, List.set_cons_succ]
    refine wpAnyH_take (i := 6) (oi := { dst := some 12, op := Op.move (Operand.tmp 1), type := 3, pos := "owner.go:56", after := #[{ on := 5, ground := Ground.guard }], guard := some (5, true) }) (v := undef) rfl (by kernel_rfl) (by kernel_rfl) (by kernel_rfl) (fun _ _ _ h => h) (Or.inr ⟨by rfl, rfl⟩) (by assumption) ?_
    simp only [Act.put, List.setIfInBounds_toArray, List.set_cons_zero, List.set_cons_succ]
    refine wpAnyH_take (i := 7) (oi := { dst := some 13, op := Op.load 22 (Operand.tmp 2), type := 22, pos := "owner.go:56", after := #[{ on := 5, ground := Ground.guard }], guard := some (5, true) }) (v := undef) rfl (by kernel_rfl) (by kernel_rfl) (by kernel_rfl) (fun _ _ _ h => h) (Or.inr ⟨by rfl, rfl⟩) (by assumption) ?_
    simp only [Act.put, List.setIfInBounds_toArray, List.set_cons_zero, List.set_cons_succ]
    refine wpAnyH_take (i := 8) (oi := { dst := some 14, op := Op.load 22 (Operand.tmp 2), type := 22, pos := "owner.go:56", after := #[{ on := 5, ground := Ground.guard }], guard := some (5, true) }) (v := undef) rfl (by kernel_rfl) (by kernel_rfl) (by kernel_rfl) (fun _ _ _ h => h) (Or.inr ⟨by rfl, rfl⟩) (by assumption) ?_
    simp only [Act.put, List.setIfInBounds_toArray, List.set_cons_zero, List.set_cons_succ]
    refine wpAnyH_take (i := 9) (oi := { dst := some 15, op := Op.move (Operand.tmp 0), type := 3, pos := "owner.go:56", after := #[{ on := 5, ground := Ground.guard }], guard := some (5, true) }) (v := undef) rfl (by kernel_rfl) (by kernel_rfl) (by kernel_rfl) (fun _ _ _ h => h) (Or.inr ⟨by rfl, rfl⟩) (by assumption) ?_
    simp only [Act.put, List.setIfInBounds_toArray, List.set_cons_zero, List.set_cons_succ]
    refine wpAnyH_take (i := 10) (oi := { dst := some 16, op := Op.indexAddr 22 (Operand.tmp 14) (Operand.tmp 15), type := 0, pos := "owner.go:56", after := #[{ on := 8, ground := Ground.data }, { on := 9, ground := Ground.data }, { on := 5, ground := Ground.guard }], guard := some (5, true) }) (v := undef) rfl (by kernel_rfl) (by kernel_rfl) (by kernel_rfl) (fun _ _ _ h => h) (Or.inr ⟨by rfl, rfl⟩) (by assumption) ?_
    simp only [Act.put, List.setIfInBounds_toArray, List.set_cons_zero, List.set_cons_succ]
    refine wpAnyH_take (i := 11) (oi := { dst := some 17, op := Op.fieldAddr 57 (Operand.tmp 16) 4, type := 0, pos := "owner.go:56", after := #[{ on := 10, ground := Ground.data }, { on := 5, ground := Ground.guard }], guard := some (5, true) }) (v := undef) rfl (by kernel_rfl) (by kernel_rfl) (by kernel_rfl) (fun _ _ _ h => h) (Or.inr ⟨by rfl, rfl⟩) (by assumption) ?_
    simp only [Act.put, List.setIfInBounds_toArray, List.set_cons_zero, List.set_cons_succ]
    refine wpAnyH_take (i := 12) (oi := { dst := some 18, op := Op.load 55 (Operand.tmp 17), type := 55, pos := "owner.go:56", after := #[{ on := 11, ground := Ground.data }, { on := 5, ground := Ground.guard }], guard := some (5, true) }) (v := undef) rfl (by kernel_rfl) (by kernel_rfl) (by kernel_rfl) (fun _ _ _ h => h) (Or.inr ⟨by rfl, rfl⟩) (by assumption) ?_
    simp only [Act.put, List.setIfInBounds_toArray, List.set_cons_zero, List.set_cons_succ]
    refine wpAnyH_take (i := 13) (oi := { dst := some 19, op := Op.call { callee := Callee.value (Operand.func 112), args := #[Operand.tmp 13, Operand.tmp 18, Operand.func 113], argTypes := #[22, 55, 87] }, type := 3, pos := "owner.go:56", after := #[{ on := 7, ground := Ground.data }, { on := 12, ground := Ground.data }, { on := 5, ground := Ground.chain }, { on := 5, ground := Ground.guard }], guard := some (5, true) }) (v := undef) rfl (by kernel_rfl) (by kernel_rfl) (by kernel_rfl) (fun _ _ _ h => h) (Or.inr ⟨by rfl, rfl⟩) (by assumption) ?_
    simp only [Act.put, List.setIfInBounds_toArray, List.set_cons_zero, List.set_cons_succ]
    refine wpAnyH_take (i := 14) (oi := { dst := some 20, op := Op.binOp BinOp.neq 3 (Operand.tmp 12) (Operand.tmp 19) 3, type := 4, pos := "owner.go:56", after := #[{ on := 6, ground := Ground.data }, { on := 13, ground := Ground.data }, { on := 5, ground := Ground.guard }], guard := some (5, true) }) (v := undef) rfl (by kernel_rfl) (by kernel_rfl) (by kernel_rfl) (fun _ _ _ h => h) (Or.inr ⟨by rfl, rfl⟩) (by assumption) ?_
    simp only [Act.put, List.setIfInBounds_toArray, List.set_cons_zero, List.set_cons_succ]
    refine wpAnyH_take (i := 15) (oi := { dst := some 21, op := Op.pick (Operand.tmp 11) (Operand.tmp 20) (Operand.const (Value.bool false)), type := 4, pos := "owner.go:56", after := #[{ on := 5, ground := Ground.data }, { on := 14, ground := Ground.data }], guard := none }) (v := ?_) rfl (by kernel_rfl) (by kernel_rfl) (by kernel_rfl) (fun _ _ _ h => h) (Or.inl ⟨by rfl, ?_⟩) (by assumption) ?_
    rotate_left
    · (intro w hSw; (try dsimp only at hSw); first | (go_simp; done) | (go_simp; with_reducible rfl))
    simp only [Act.put, List.setIfInBounds_toArray, List.set_cons_zero, List.set_cons_succ]
    refine wpAnyH_take (i := 16) (oi := { dst := some 5, op := Op.assign (Operand.tmp 21), type := 4, pos := "owner.go:56", after := #[{ on := 15, ground := Ground.data }, { on := 13, ground := Ground.chain }, { on := 0, ground := Ground.phase }, { on := 1, ground := Ground.phase }, { on := 2, ground := Ground.phase }, { on := 3, ground := Ground.phase }, { on := 4, ground := Ground.phase }, { on := 5, ground := Ground.phase }, { on := 6, ground := Ground.phase }, { on := 7, ground := Ground.phase }, { on := 8, ground := Ground.phase }, { on := 9, ground := Ground.phase }, { on := 10, ground := Ground.phase }, { on := 11, ground := Ground.phase }, { on := 12, ground := Ground.phase }, { on := 13, ground := Ground.phase }, { on := 14, ground := Ground.phase }, { on := 15, ground := Ground.phase }], guard := none }) (v := ?_) rfl (by kernel_rfl) (by kernel_rfl) (by kernel_rfl) (fun _ _ _ h => h) (Or.inl ⟨by rfl, ?_⟩) (by assumption) ?_
    rotate_left
    · (intro w hSw; (try dsimp only at hSw); first | (go_simp; done) | (go_simp; with_reducible rfl))
    simp only [Act.put, List.setIfInBounds_toArray, List.set_cons_zero, List.set_cons_succ]
    refine wpAnyH_done (by kernel_rfl) ?_ _
    go_wp2_with fail
    go_ret
    exact ⟨ret_bool E.out.symm, B1.out⟩
  | true =>
    rw [Bool.true_and] at E
    go_enter Tryz.func110, Tryz.ntmps110
    go_wp2_with fail
    refine wp_region_held_drew (S := fun X : World => X.cell? ⟨Bl, 0, none⟩ = some (.slice (some ⟨b, o, none⟩) l.length c) ∧ X.cell? ⟨b, o + a * 5, none⟩ = some (.string n0) ∧ X.cell? ⟨b, o + a * 5 + 1, none⟩ = some (.string n1) ∧ X.cell? ⟨b, o + a * 5 + 2, none⟩ = some (.slice pa n5 ca) ∧ X.cell? ⟨b, o + a * 5 + 3, none⟩ = some (.int .i64 n3) ∧ X.cell? ⟨b, o + a * 5 + 4, none⟩ = some (.slice pk nk ck)) (by kernel_rfl) ?_ (fun hHeld => ?_)
    · exact ⟨x1, c0, c1, c2, c3, c4⟩
    refine wpAnyH_take (i := 0) (oi := { dst := some 6, op := Op.load 22 (Operand.tmp 2), type := 22, pos := "owner.go:56", after := #[], guard := none }) (v := ?_) rfl (by kernel_rfl) (by kernel_rfl) (by kernel_rfl) (fun _ _ _ h => h) (Or.inl ⟨by rfl, ?_⟩) (by assumption) ?_
    rotate_left
    · (intro w hSw; (try dsimp only at hSw); first | (go_simp; done) | (go_simp; with_reducible rfl))
    simp only [Act.put, List.setIfInBounds_toArray, List.set_cons_zero, List.set_cons_succ]
    refine wpAnyH_take (i := 1) (oi := { dst := some 7, op := Op.move (Operand.tmp 0), type := 3, pos := "owner.go:56", after := #[], guard := none }) (v := ?_) rfl (by kernel_rfl) (by kernel_rfl) (by kernel_rfl) (fun _ _ _ h => h) (Or.inl ⟨by rfl, ?_⟩) (by assumption) ?_
    rotate_left
    · (intro w hSw; (try dsimp only at hSw); first | (go_simp; done) | (go_simp; with_reducible rfl))
    simp only [Act.put, List.setIfInBounds_toArray, List.set_cons_zero, List.set_cons_succ]
    refine wpAnyH_take (i := 2) (oi := { dst := some 8, op := Op.indexAddr 22 (Operand.tmp 6) (Operand.tmp 7), type := 0, pos := "owner.go:56", after := #[{ on := 0, ground := Ground.data }, { on := 1, ground := Ground.data }], guard := none }) (v := ?_) rfl (by kernel_rfl) (by kernel_rfl) (by kernel_rfl) (fun _ _ _ h => h) (Or.inl ⟨by rfl, ?_⟩) (by assumption) ?_
    rotate_left
    · (intro w hSw; (try dsimp only at hSw); first | (go_simp; done) | (go_simp; with_reducible rfl))
    simp only [Act.put, List.setIfInBounds_toArray, List.set_cons_zero, List.set_cons_succ]
    refine wpAnyH_take (i := 3) (oi := { dst := some 9, op := Op.load 57 (Operand.tmp 8), type := 57, pos := "owner.go:56", after := #[{ on := 2, ground := Ground.data }], guard := none }) (v := ?_) rfl (by kernel_rfl) (by kernel_rfl) (by kernel_rfl) (fun _ _ _ h => h) (Or.inl ⟨by rfl, ?_⟩) (by assumption) ?_
    rotate_left
    · (intro w hSw; (try dsimp only at hSw); first | (go_simp; done) | (go_simp; with_reducible rfl))
    simp only [Act.put, List.setIfInBounds_toArray, List.set_cons_zero, List.set_cons_succ]
    refine wpAnyH_ready (rs := [4]) (by kernel_rfl) (by simp) ?_
    refine AllReadyH.cons (i := 4) (o := { dst := some 10, op := Op.call { callee := Callee.value (Operand.func 111), args := #[Operand.tmp 9, Operand.const (Value.string { data := #[100, 105, 115, 97, 98, 108, 101, 100] })], argTypes := #[57, 9] }, type := 4, pos := "owner.go:56", after := #[{ on := 3, ground := Ground.data }], guard := none }) rfl (fun K hK => ?_) AllReadyH.nil
    go_simp
    refine (HN.out _ BD.out).mono ?_
    rintro e w1 ⟨rfl, b1⟩
    have B1 := hide (chain BD.out b1)
    clear b1
    go_wp2_with fail
    refine hK.out _ _ ?_ (fun hHeld => ?_)
    · exact ⟨cell_below x1 B1.out, cell_below c0 B1.out, cell_below c1 B1.out, cell_below c2 B1.out, cell_below c3 B1.out, cell_below c4 B1.out⟩
    clear hK K
    refine wpAnyH_take (i := 5) (oi := { dst := some 11, op := Op.move (Operand.tmp 10), type := 4, pos := "owner.go:56", after := #[{ on := 4, ground := Ground.data }, { on := 4, ground := Ground.chain }], guard := none }) (v := ?_) rfl (by kernel_rfl) (by kernel_rfl) (by kernel_rfl) (fun _ _ _ h => h) (Or.inl ⟨by rfl, ?_⟩) (by assumption) ?_
    rotate_left
    · (intro w hSw; (try dsimp only at hSw); first | (go_simp; done) | (go_simp; with_reducible rfl))
    simp only [Act.put, List.setIfInBounds_toArray, List.set_cons_zero, List.set_cons_succ]
    refine wpAnyH_take (i := 6) (oi := { dst := some 12, op := Op.move (Operand.tmp 1), type := 3, pos := "owner.go:56", after := #[{ on := 5, ground := Ground.guard }], guard := some (5, true) }) (v := ?_) rfl (by kernel_rfl) (by kernel_rfl) (by kernel_rfl) (fun _ _ _ h => h) (Or.inl ⟨by rfl, ?_⟩) (by assumption) ?_
    rotate_left
    · (intro w hSw; (try dsimp only at hSw); first | (go_simp; done) | (go_simp; with_reducible rfl))
    simp only [Act.put, List.setIfInBounds_toArray, List.set_cons_zero, List.set_cons_succ]
    refine wpAnyH_take (i := 7) (oi := { dst := some 13, op := Op.load 22 (Operand.tmp 2), type := 22, pos := "owner.go:56", after := #[{ on := 5, ground := Ground.guard }], guard := some (5, true) }) (v := ?_) rfl (by kernel_rfl) (by kernel_rfl) (by kernel_rfl) (fun _ _ _ h => h) (Or.inl ⟨by rfl, ?_⟩) (by assumption) ?_
    rotate_left
    · (intro w hSw; (try dsimp only at hSw); first | (go_simp; done) | (go_simp; with_reducible rfl))
    simp only [Act.put, List.setIfInBounds_toArray, List.set_cons_zero, List.set_cons_succ]
    refine wpAnyH_take (i := 8) (oi := { dst := some 14, op := Op.load 22 (Operand.tmp 2), type := 22, pos := "owner.go:56", after := #[{ on := 5, ground := Ground.guard }], guard := some (5, true) }) (v := ?_) rfl (by kernel_rfl) (by kernel_rfl) (by kernel_rfl) (fun _ _ _ h => h) (Or.inl ⟨by rfl, ?_⟩) (by assumption) ?_
    rotate_left
    · (intro w hSw; (try dsimp only at hSw); first | (go_simp; done) | (go_simp; with_reducible rfl))
    simp only [Act.put, List.setIfInBounds_toArray, List.set_cons_zero, List.set_cons_succ]
    refine wpAnyH_take (i := 9) (oi := { dst := some 15, op := Op.move (Operand.tmp 0), type := 3, pos := "owner.go:56", after := #[{ on := 5, ground := Ground.guard }], guard := some (5, true) }) (v := ?_) rfl (by kernel_rfl) (by kernel_rfl) (by kernel_rfl) (fun _ _ _ h => h) (Or.inl ⟨by rfl, ?_⟩) (by assumption) ?_
    rotate_left
    · (intro w hSw; (try dsimp only at hSw); first | (go_simp; done) | (go_simp; with_reducible rfl))
    simp only [Act.put, List.setIfInBounds_toArray, List.set_cons_zero, List.set_cons_succ]
    refine wpAnyH_take (i := 10) (oi := { dst := some 16, op := Op.indexAddr 22 (Operand.tmp 14) (Operand.tmp 15), type := 0, pos := "owner.go:56", after := #[{ on := 8, ground := Ground.data }, { on := 9, ground := Ground.data }, { on := 5, ground := Ground.guard }], guard := some (5, true) }) (v := ?_) rfl (by kernel_rfl) (by kernel_rfl) (by kernel_rfl) (fun _ _ _ h => h) (Or.inl ⟨by rfl, ?_⟩) (by assumption) ?_
    rotate_left
    · (intro w hSw; (try dsimp only at hSw); first | (go_simp; done) | (go_simp; with_reducible rfl))
    simp only [Act.put, List.setIfInBounds_toArray, List.set_cons_zero, List.set_cons_succ]
    refine wpAnyH_take (i := 11) (oi := { dst := some 17, op := Op.fieldAddr 57 (Operand.tmp 16) 4, type := 0, pos := "owner.go:56", after := #[{ on := 10, ground := Ground.data }, { on := 5, ground := Ground.guard }], guard := some (5, true) }) (v := ?_) rfl (by kernel_rfl) (by kernel_rfl) (by kernel_rfl) (fun _ _ _ h => h) (Or.inl ⟨by rfl, ?_⟩) (by assumption) ?_
    rotate_left
    · (intro w hSw; (try dsimp only at hSw); first | (go_simp; done) | (go_simp; with_reducible rfl))
    simp only [Act.put, List.setIfInBounds_toArray, List.set_cons_zero, List.set_cons_succ]
    refine wpAnyH_take (i := 12) (oi := { dst := some 18, op := Op.load 55 (Operand.tmp 17), type := 55, pos := "owner.go:56", after := #[{ on := 11, ground := Ground.data }, { on := 5, ground := Ground.guard }], guard := some (5, true) }) (v := ?_) rfl (by kernel_rfl) (by kernel_rfl) (by kernel_rfl) (fun _ _ _ h => h) (Or.inl ⟨by rfl, ?_⟩) (by assumption) ?_
    rotate_left
    · (intro w hSw; (try dsimp only at hSw); first | (go_simp; done) | (go_simp; with_reducible rfl))
    simp only [Act.put, List.setIfInBounds_toArray, List.set_cons_zero, List.set_cons_succ]
    refine wpAnyH_ready (rs := [13]) (by kernel_rfl) (by simp) ?_
    refine AllReadyH.cons (i := 13) (o := { dst := some 19, op := Op.call { callee := Callee.value (Operand.func 112), args := #[Operand.tmp 13, Operand.tmp 18, Operand.func 113], argTypes := #[22, 55, 87] }, type := 3, pos := "owner.go:56", after := #[{ on := 7, ground := Ground.data }, { on := 12, ground := Ground.data }, { on := 5, ground := Ground.chain }, { on := 5, ground := Ground.guard }], guard := some (5, true) }) rfl (fun K hK => ?_) AllReadyH.nil
    go_simp
    refine (HF.out _ B1.out).mono ?_
    rintro e w2 ⟨rfl, b2⟩
    have B2 := hide (chain B1.out b2)
    clear b2
    go_wp2_with fail
    refine hK.out _ _ ?_ (fun hHeld => ?_)
    · exact ⟨cell_below x1 B2.out, cell_below c0 B2.out, cell_below c1 B2.out, cell_below c2 B2.out, cell_below c3 B2.out, cell_below c4 B2.out⟩
    clear hK K
    refine wpAnyH_take (i := 14) (oi := { dst := some 20, op := Op.binOp BinOp.neq 3 (Operand.tmp 12) (Operand.tmp 19) 3, type := 4, pos := "owner.go:56", after := #[{ on := 6, ground := Ground.data }, { on := 13, ground := Ground.data }, { on := 5, ground := Ground.guard }], guard := some (5, true) }) (v := ?_) rfl (by kernel_rfl) (by kernel_rfl) (by kernel_rfl) (fun _ _ _ h => h) (Or.inl ⟨by rfl, ?_⟩) (by assumption) ?_
    rotate_left
    · (intro w hSw; (try dsimp only at hSw); first | (go_simp; done) | (go_simp; with_reducible rfl))
    simp only [Act.put, List.setIfInBounds_toArray, List.set_cons_zero, List.set_cons_succ]
    refine wpAnyH_take (i := 15) (oi := { dst := some 21, op := Op.pick (Operand.tmp 11) (Operand.tmp 20) (Operand.const (Value.bool false)), type := 4, pos := "owner.go:56", after := #[{ on := 5, ground := Ground.data }, { on := 14, ground := Ground.data }], guard := none }) (v := ?_) rfl (by kernel_rfl) (by kernel_rfl) (by kernel_rfl) (fun _ _ _ h => h) (Or.inl ⟨by rfl, ?_⟩) (by assumption) ?_
    rotate_left
    · (intro w hSw; (try dsimp only at hSw); first | (go_simp; done) | (go_simp; with_reducible rfl))
    simp only [Act.put, List.setIfInBounds_toArray, List.set_cons_zero, List.set_cons_succ]
    refine wpAnyH_take (i := 16) (oi := { dst := some 5, op := Op.assign (Operand.tmp 21), type := 4, pos := "owner.go:56", after := #[{ on := 15, ground := Ground.data }, { on := 13, ground := Ground.chain }, { on := 0, ground := Ground.phase }, { on := 1, ground := Ground.phase }, { on := 2, ground := Ground.phase }, { on := 3, ground := Ground.phase }, { on := 4, ground := Ground.phase }, { on := 5, ground := Ground.phase }, { on := 6, ground := Ground.phase }, { on := 7, ground := Ground.phase }, { on := 8, ground := Ground.phase }, { on := 9, ground := Ground.phase }, { on := 10, ground := Ground.phase }, { on := 11, ground := Ground.phase }, { on := 12, ground := Ground.phase }, { on := 13, ground := Ground.phase }, { on := 14, ground := Ground.phase }, { on := 15, ground := Ground.phase }], guard := none }) (v := ?_) rfl (by kernel_rfl) (by kernel_rfl) (by kernel_rfl) (fun _ _ _ h => h) (Or.inl ⟨by rfl, ?_⟩) (by assumption) ?_
    rotate_left
    · (intro w hSw; (try dsimp only at hSw); first | (go_simp; done) | (go_simp; with_reducible rfl))
    simp only [Act.put, List.setIfInBounds_toArray, List.set_cons_zero, List.set_cons_succ]
    refine wpAnyH_done (by kernel_rfl) ?_ _
    go_wp2_with fail
    go_ret
    exact ⟨ret_bool E.out.symm, B2.out⟩
set_option maxHeartbeats 8000000 in
theorem owDisabled_any (v : Value) (l : List Nd) (id : Int) (w : World) (hv : NodesV w v l) (hz : DocSz l) (hT : OwTabs w) :
    Calls Tryz.prog 58 #[v, .int .i64 id] w fun e w' => e = .returned (.bool (disabledP l id)) ∧ Below w.heap.size w w' := by
  have HI := hide (fun W (hb : Below w.heap.size w W) => owIsOf_any v l id _ disK sucanBeDisabled W (hv.below hb) hz (hT.below hb))
  have HRt := hide (fun W (hb : Below w.heap.size w W) => right_any v l W (hv.below hb) hz)
  cases ok : okB l disK id with
  | false =>
    have E : Hid (disabledP l id = false) := by show _ = _; rw [disabled_is, ok]; rfl
    rw [ok] at HI
    clear ok
    obtain ⟨p, c, rfl⟩ := nds_formW hv
    have B0 : Hid (Below w.heap.size w (w.alloc (.cells #[.slice p l.length c] 22))) := (Below.refl _ w).alloc (Nat.le_refl _) _
    have KB := hide (Bk.new w [.slice p l.length c] 22)
    have x1 := KB.out.cell 0 rfl
    clear hv hz hT HRt
    go_enter Tryz.func58, Tryz.ntmps58
    go_wp2_with fail
    refine (HI.out _ B0.out).mono ?_
    rintro e w1 ⟨rfl, b1⟩
    go_wp2_with fail
    go_ret
    exact ⟨ret_bool E.out.symm, chain B0.out b1⟩
  | true =>
    rw [ok] at HI
    cases rb : rightB l with
    | false =>
      have E : Hid (disabledP l id = false) := by show _ = _; rw [disabled_is, rb, Bool.and_false]; rfl
      rw [rb] at HRt
      clear ok rb
      obtain ⟨p, c, rfl⟩ := nds_formW hv
      have B0 : Hid (Below w.heap.size w (w.alloc (.cells #[.slice p l.length c] 22))) := (Below.refl _ w).alloc (Nat.le_refl _) _
      have KB := hide (Bk.new w [.slice p l.length c] 22)
      have x1 := KB.out.cell 0 rfl
      clear hv hz hT
      go_enter Tryz.func58, Tryz.ntmps58
      go_wp2_with fail
      refine (HI.out _ B0.out).mono ?_
      rintro e w1 ⟨rfl, b1⟩
      have x1b := cell_below x1 b1
      go_wp2_with fail
      refine (HRt.out _ (chain B0.out b1)).mono ?_
      rintro e w2 ⟨rfl, b2⟩
      go_wp2_with fail
      go_ret
      exact ⟨ret_bool E.out.symm, chain (chain B0.out b1) b2⟩
    | true =>
      rw [rb] at HRt
      have hR := right_is.1 rb
      obtain ⟨m, rfl, hm⟩ := ok_rng ok
      have nz := hz.nds _ (List.getElem_mem hm)
      have HA := hide (fun Bl W (hb : Below w.heap.size w W) (x : W.cell? ⟨Bl, 0, none⟩ = some v) => owAbove_any v l m _ is29 suisFieldset 110 #[.pointer (some ⟨Bl, 0, none⟩)] entDs1 (hldB l) W (fun a b ha _ W' hb' => owDisabled1_any v l a b Bl W' ((hv.below hb).below hb') hz ((hT.below hb).below hb') ha (cell_below x hb')) (hv.below hb) hz (hT.below hb) hR hm)
      have E : Hid (disabledP l (m : Int) = (hasA l[m] oDis || (abvP l is29 (hldB l) (m : Int) != -1))) := by
        show _ = _
        rw [disabled_is, ok, rb]
        unfold disQ
        rw [Int.toNat_natCast, nd_at hm]; rfl
      obtain ⟨p, c, rfl⟩ := nds_formW hv
      obtain ⟨b, o, va, pk, nk, ck, rfl, N⟩ := node_ofW hv hm
      have HN := hide (fun W (hb : Below w.heap.size w W) => owHas_any l[m] va pk nk ck oDis W (N.at_.below hb) nz.attrs)
      rw [show oDis = ⟨#[100, 105, 115, 97, 98, 108, 101, 100]⟩ from rfl] at HN E
      obtain ⟨pa, ca, rfl, hxx⟩ := N.at_
      clear hxx
      have B0 : Hid (Below w.heap.size w (w.alloc (.cells #[.slice (some ⟨b, o, none⟩) l.length c] 22))) := (Below.refl _ w).alloc (Nat.le_refl _) _
      have KB := hide (Bk.new w [.slice (some ⟨b, o, none⟩) l.length c] 22)
      have x1 := KB.out.cell 0 rfl
      have m0 : (0 : Int) ≤ (m : Int) := by omega
      have m1 : (m : Int) < (l.length : Int) := by omega
      have NN := hide N
      clear hv hz hT ok rb hR nz N
      generalize disabledP l (m : Int) = R at *
      generalize abvP l is29 (hldB l) (m : Int) = z at *
      generalize hasA l[m] ⟨#[100, 105, 115, 97, 98, 108, 101, 100]⟩ = ha at *
      cases ha with
      | true =>
        rw [Bool.true_or] at E
        clear HA
        go_enter Tryz.func58, Tryz.ntmps58
        go_wp2_with fail
        refine (HI.out _ B0.out).mono ?_
        rintro e w1 ⟨rfl, b1⟩
        have x1b := cell_below x1 b1
        go_wp2_with fail
        refine (HRt.out _ (chain B0.out b1)).mono ?_
        rintro e w2 ⟨rfl, b2⟩
        have B2 := hide (chain (chain B0.out b1) b2)
        have x1c := cell_below x1b b2
        have KB2 := hide ((KB.out.below b1).below b2)
        have c0 := (NN.out.below B2.out).name
        have c1 := (NN.out.below B2.out).text
        have c2 := (NN.out.below B2.out).attrs
        have c3 := (NN.out.below B2.out).parent
        have c4 := (NN.out.below B2.out).kids
        go_wp2_with fail
        refine (HN.out _ B2.out).mono ?_
        rintro e w3 ⟨rfl, b3⟩
        go_wp2_with fail
        go_ret
        exact ⟨ret_bool E.out.symm, chain B2.out b3⟩
      | false =>
        rw [Bool.false_or] at E
        go_enter Tryz.func58, Tryz.ntmps58
        go_wp2_with fail
        refine (HI.out _ B0.out).mono ?_
        rintro e w1 ⟨rfl, b1⟩
        have x1b := cell_below x1 b1
        go_wp2_with fail
        refine (HRt.out _ (chain B0.out b1)).mono ?_
        rintro e w2 ⟨rfl, b2⟩
        have B2 := hide (chain (chain B0.out b1) b2)
        have x1c := cell_below x1b b2
        have KB2 := hide ((KB.out.below b1).below b2)
        have c0 := (NN.out.below B2.out).name
        have c1 := (NN.out.below B2.out).text
        have c2 := (NN.out.below B2.out).attrs
        have c3 := (NN.out.below B2.out).parent
        have c4 := (NN.out.below B2.out).kids
        go_wp2_with fail
        refine (HN.out _ B2.out).mono ?_
        rintro e w3 ⟨rfl, b3⟩
        have B3 := hide (chain B2.out b3)
        have x1d := (KB2.out.below b3).cell 0 rfl
        clear b3 B2 c0 c1 c2 c3 c4
        go_wp2_with fail
        refine (HA.out _ _ B3.out x1d).mono ?_
        rintro e w4 ⟨rfl, b4⟩
        go_wp2_with fail
        go_ret
        exact ⟨ret_bool E.out.symm, chain B3.out b4⟩

end Go.Proofs.YtnojgejcmaajmaaGreatDoor
