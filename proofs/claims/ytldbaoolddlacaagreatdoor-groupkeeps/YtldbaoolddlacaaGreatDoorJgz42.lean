/- Radio buttons that stand together. Stage 17's own copied. Stage 17's laws GroupSettles, GroupKeeps, walked. -/
import Derived.Test.YtldbaoolddlacaaGreatDoorJgz33
import Derived.Test.YtldbaoolddlacaaGreatDoorJgz36

namespace Go.Proofs.YtldbaoolddlacaaGreatDoor
open Go.RowKit
theorem filter_mono {f g : Int → Bool} : ∀ {xs : List Int}, (∀ x ∈ xs, g x = true → f x = true) → (xs.filter g).length ≤ (xs.filter f).length
  | [], _ => Nat.le_refl _
  | x :: xs, h => by
    have ih := filter_mono (xs := xs) (fun y hy => h y (List.mem_cons_of_mem _ hy))
    rw [List.filter_cons, List.filter_cons]
    by_cases q : g x = true
    · rw [if_pos q, if_pos (h x List.mem_cons_self q)]
      simp only [List.length_cons]; omega
    · rw [if_neg q]
      split
      · simp only [List.length_cons]; omega
      · exact ih
theorem st_setC {C : List Ct} {i x : Int} {c : Ct} (h0 : 0 ≤ i) (hi : i < (C.length : Int)) (x0 : 0 ≤ x) : st (setC C i c) x = if x = i then c else st C x := by
  unfold st setC
  by_cases e : x = i
  · subst e
    rw [if_pos rfl, List.getD_eq_getElem?_getD, List.getElem?_set_self (by omega), Option.getD_some]
  · rw [if_neg e, List.getD_eq_getElem?_getD, List.getElem?_set_ne (by omega), ← List.getD_eq_getElem?_getD]
/-- What checking keeps: of each group at most one. -/
theorem check_one {l : List Nd} {C : List Ct} {id : Int} {on : Bool} (h : Right l) (hl : C.length = l.length) (hid : 0 ≤ id ∧ id < (l.length : Int)) (ho : oneB l C = true) : oneB l (checkC l C id on) = true := by
  have hi : id < ((chkU l C id on).length : Int) := by rw [chkU_len, hl]; exact hid.2
  unfold oneB
  rw [List.all_eq_true]
  intro i hir
  have hir := List.mem_range.1 hir
  refine decide_eq_true ?_
  have old := cntK_le ho hir
  have pos : ∀ x ∈ membersP l (i : Int), 0 ≤ x ∧ x < (C.length : Int) := fun x hx => by have := ((mem_mem h).1 hx).2.1; rw [hl]; exact this
  have ST : ∀ x, 0 ≤ x → st (checkC l C id on) x = if x = id then { st (chkU l C id on) id with chk := on, dchk := true } else st (chkU l C id on) x := fun x hx => st_setC hid.1 hi hx
  by_cases hm : id ∈ membersP l (i : Int)
  · have mm := (mem_mem h).1 hm
    have hr : kI l id = 17 := of_decide_eq_true mm.2.2.2.1
    have hK := isK_rad h hid mm.2.2.2.1
    cases on with
    | true =>
      refine filter_one (p := id) (mem_nodup h) (fun x hx q => ?_)
      apply Classical.byContradiction
      intro ne
      have x0 := (pos x hx).1
      rw [ST x x0, if_neg ne] at q
      have xr : x ∈ radsP l id := (rads_mem h hK).2 (by rw [mem_same h hm]; exact hx)
      unfold chkU at q
      rw [if_pos ⟨rfl, hr⟩, st_upd x0 (pos x hx).2, if_pos xr] at q
      cases q
    | false =>
      refine Nat.le_trans (filter_mono (f := fun i => (st C i).chk) (fun x hx q => ?_)) old
      have x0 := (pos x hx).1
      rw [ST x x0] at q
      by_cases e : x = id
      · rw [if_pos e] at q; cases q
      · rw [if_neg e] at q
        unfold chkU at q
        rw [if_neg (fun t => by cases t.1)] at q
        exact q
  · refine Nat.le_trans (filter_mono (f := fun i => (st C i).chk) (fun x hx q => ?_)) old
    have x0 := (pos x hx).1
    have ne : ¬ x = id := fun e => hm (by rw [← e]; exact hx)
    rw [ST x x0, if_neg ne] at q
    unfold chkU at q
    split at q
    · rw [st_upd x0 (pos x hx).2] at q
      split at q
      · cases q
      · exact q
    · exact q
end Go.Proofs.YtldbaoolddlacaaGreatDoor

namespace Go.Proofs.YtldbaoolddlacaaGreatDoor
open Go.RowKit
set_option maxRecDepth 100000
theorem checkO_ok {l : List Nd} {C : List Ct} {id : Int} {on : Bool} (h : CsOK C) : CsOK (checkO l C id on).1 := by
  unfold checkO
  split
  · split
    · have U : ∀ i (h1 : i < C.length) (h2 : i < (chkU l C id on).length), (chkU l C id on)[i].files = C[i].files ∧ (chkU l C id on)[i].val = C[i].val ∧ (chkU l C id on)[i].custom = C[i].custom := by
        unfold chkU
        split
        · intro i h1 h2
          rw [upd_at h1]
          split <;> exact ⟨rfl, rfl, rfl⟩
        · exact fun i _ _ => ⟨rfl, rfl, rfl⟩
      refine csok_same (csok_same h (chkU_len ..) U) (by rw [check_len, chkU_len]) (fun i h1 h2 => ?_)
      have e := List.getElem_set (l := chkU l C id on) (i := id.toNat) (j := i) (a := { st (chkU l C id on) id with chk := on, dchk := true }) (by simpa using h1)
      have e' : (checkC l C id on)[i] = _ := e
      rw [e']
      split
      · rename_i q
        have es : st (chkU l C id on) id = (chkU l C id on)[i] := by
          unfold st
          rw [List.getD_eq_getElem?_getD, q, List.getElem?_eq_getElem h1, Option.getD_some]
        exact ⟨by show (st (chkU l C id on) id).files = _; rw [es], by show (st (chkU l C id on) id).val = _; rw [es], by show (st (chkU l C id on) id).custom = _; rw [es]⟩
      · exact ⟨rfl, rfl, rfl⟩
    · exact csok_nil
  · exact csok_nil
end Go.Proofs.YtldbaoolddlacaaGreatDoor

namespace Go.Proofs.YtldbaoolddlacaaGreatDoor
open Go.RowKit
set_option maxRecDepth 100000
theorem keeps_one {l : List Nd} {C : List Ct} {id : Int} {on : Bool} (he : (checkO l C id on).2 = 0) (ho : oneO l C = true) : oneO l (checkO l C id on).1 = true := by
  unfold checkO at he ⊢
  by_cases q : rightD l C = true ∧ hasN l id = true
  · rw [if_pos q] at he ⊢
    by_cases k : kI l id = 17 ∨ kI l id = 16
    · rw [if_pos k] at he ⊢
      obtain ⟨R, hl⟩ := rdK q.1
      have hid : 0 ≤ id ∧ id < (l.length : Int) := by
        have := q.2
        unfold hasN at this
        rw [Bool.and_eq_true, decide_eq_true_eq] at this
        exact this.1
      unfold oneO at ho ⊢
      rw [Bool.and_eq_true] at ho ⊢
      refine ⟨?_, check_one R hl hid ho.2⟩
      have := q.1
      unfold rightD at this ⊢
      rw [check_len]; exact this
    · rw [if_neg k] at he
      exact absurd he (by decide)
  · rw [if_neg q] at he
    exact absurd he (by decide)
set_option maxHeartbeats 8000000 in
theorem groupKeeps_walk (nv cv : Value) (l : List Nd) (C : List Ct) (id : Int) (on : Bool) (w : World) (hD : DocV w nv cv l C) (hz : DocSz l) (hC : CsOK C) (hT : GpTabs w) :
    Calls Tryz.prog 4 #[.agg #[nv, cv], .int .i64 id, .bool on] w fun e w' => e = .returned (.bool true) ∧ Below w.heap.size w w' := by
  have HD := hide hD
  have HZ := hide hz
  have HO := hide hC
  have HT := hide hT
  have HW := hide (fun W (hb : Below w.heap.size w W) => gpWakes_any W (HT.out.below hb))
  have HC := hide (fun W (hb : Below w.heap.size w W) => gpCopied_any nv cv l C W (HD.out.below hb) HZ.out HO.out)
  have HOne := hide (fun W (hb : Below w.heap.size w W) => refOneG_any nv cv l C W (HD.out.below hb) HZ.out HO.out)
  have H1 := hide (fun nv cv W (hb : Below w.heap.size w W) (hd : DocV W nv cv l C) => gpCheck_any nv cv l C id on W hd HZ.out HO.out (HT.out.below hb))
  have H2 := hide (fun cv W (hb : Below w.heap.size w W) (hc : CtsV W cv (checkO l C id on).1) => gpOne_any nv cv l (checkO l C id on).1 W ⟨HD.out.nds.below hb, hc⟩ HZ.out (checkO_ok HO.out) (HT.out.below hb))
  have KP := hide (fun h => keeps_one (l := l) (C := C) (id := id) (on := on) h)
  generalize checkO l C id on = CO at *
  obtain ⟨RC, er⟩ := CO
  generalize oneO l C = ob at *
  obtain ⟨pn, kn, rfl⟩ := nds_form hD.nds
  obtain ⟨pc, kc, rfl⟩ := cts_form hD.cts
  have B0 : Hid (Below w.heap.size w (w.alloc (.cells #[.slice pn l.length kn, .slice pc C.length kc] 25))) := (Below.refl _ w).alloc (Nat.le_refl _) _
  have ND := hide (Bk.new w [.slice pn l.length kn, .slice pc C.length kc] 25)
  clear hD hz hC hT HD HZ HO HT
  go_enter Tryz.func4, Tryz.ntmps4
  go_wp2_with fail
  refine (HW.out _ B0.out).mono ?_
  rintro e w1 ⟨rfl, b1⟩
  have B1 := hide (chain B0.out b1)
  replace ND := hide (ND.out.below b1)
  clear b1 B0
  have x0 := ND.out.cell 0 rfl
  have x1 := ND.out.cell 1 rfl
  go_wp2_with fail
  refine (HC.out _ B1.out).mono ?_
  rintro e w2 ⟨n2, c2, rfl, d2, b2⟩
  have D2 := hide d2
  obtain ⟨p2, k2, rfl⟩ := nds_form d2.nds
  obtain ⟨q2, m2, rfl⟩ := cts_form d2.cts
  have B2 := hide (chain B1.out b2)
  replace ND := hide (ND.out.below b2)
  clear d2 B1 b2 x0 x1
  go_wp2_with fail
  refine (H1.out _ _ _ B2.out D2.out).mono ?_
  rintro e w3 ⟨v3, rfl, g3, b3⟩
  have G3 := hide g3
  obtain ⟨p3, k3, rfl⟩ := cts_form g3
  have B3 := hide (chain B2.out b3)
  replace ND := hide (ND.out.below b3)
  clear g3 b3 B2 D2 H1
  have x0 := ND.out.cell 0 rfl
  have x1 := ND.out.cell 1 rfl
  by_cases he : er = 0
  · subst he
    cases ob with
    | true =>
      have KK := hide (KP.out rfl rfl)
      have HK := hide (fun W hb => H2.out (.slice p3 RC.length k3) W hb)
      have eo : oneO l RC = true := KK.out
      rw [eo] at HK
      clear eo KK KP H2
      go_wp2_with fail
      refine (HOne.out _ B3.out).mono ?_
      rintro e w4 ⟨rfl, b4⟩
      have B4 := hide (chain B3.out b4)
      have G4 := hide (G3.out.below b4)
      replace ND := hide (ND.out.below b4)
      clear x0 x1 b4 B3 G3
      have x0 := ND.out.cell 0 rfl
      go_wp2_with fail
      refine (HK.out _ B4.out G4.out).mono ?_
      rintro e w5 ⟨rfl, b5⟩
      go_wp2_with fail
      go_ret
      exact ⟨rfl, chain B4.out b5⟩
    | false =>
      clear KP H2
      go_wp2_with fail
      refine (HOne.out _ B3.out).mono ?_
      rintro e w4 ⟨rfl, b4⟩
      go_wp2_with fail
      go_ret
      exact ⟨rfl, chain B3.out b4⟩
  · have d1 : (er != 0) = true := bne_iff_ne.2 he
    clear KP H2 he
    go_wp2_with fail
    go_ret
    exact ⟨rfl, B3.out⟩

end Go.Proofs.YtldbaoolddlacaaGreatDoor
