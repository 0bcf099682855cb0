/- The program's isOff, selectOf, Right, Off, Size of layer 15. The program's Members, Check of layer 17. The program's Settle, One of layer 17. The program's functions of layer 17, as its laws ask for them. -/
import Derived.Test.YtldbaoolddlacaaGreatDoorJgz28
import Derived.Test.YtldbaoolddlacaaGreatDoorJgz30

namespace Go.Proofs.YtldbaoolddlacaaGreatDoor
open Go.RowKit
set_option maxRecDepth 100000
theorem rd_eq {l : List Nd} {C : List Ct} : rightD l C = (((C.length : Int) == (l.length : Int)) && rightB l) := by
  unfold rightD
  rw [Bool.and_comm]
  congr 1
  rw [Bool.eq_iff_iff, decide_eq_true_iff, beq_iff_eq]
  omega
theorem nds_formG {w : World} {v : Value} {l : List Nd} (h : NodesV w v l) : ∃ p c, v = .slice p l.length c := by
  obtain ⟨p, c, e, _⟩ := h
  exact ⟨p, c, e⟩
theorem cts_formG {w : World} {v : Value} {C : List Ct} (h : CtsV w v C) : ∃ p c, v = .slice p C.length c := by
  obtain ⟨_, _, p, c, e, _⟩ := h
  exact ⟨p, c, e⟩
set_option maxHeartbeats 4000000 in
theorem opRightG_any (nv cv : Value) (l : List Nd) (C : List Ct) (w : World) (hD : DocV w nv cv l C) (hz : DocSz l) :
    Calls Tryz.prog 16 #[.agg #[nv, cv]] w fun e w' => e = .returned (.bool (rightD l C)) ∧ Below w.heap.size w w' := by
  have B0 : Hid (Below w.heap.size w (w.alloc (.cells #[nv, cv] 25))) := (Below.refl _ w).alloc (Nat.le_refl _) _
  have HR := hide (right_any nv l (w.alloc (.cells #[nv, cv] 25)) (hD.nds.below B0.out) hz)
  obtain ⟨p, c, rfl⟩ := nds_formG hD.nds
  obtain ⟨pc, cc, rfl⟩ := cts_formG hD.cts
  have EQ := hide (rd_eq (l := l) (C := C))
  clear hD hz
  generalize rightD l C = R at *
  generalize rightB l = rb at *
  cases q : ((C.length : Int) == (l.length : Int)) with
  | true =>
    have q' : (C.length : Int) = (l.length : Int) := by simpa using q
    rw [q] at EQ
    go_enter Tryz.func16, Tryz.ntmps16
    go_wp2_with fail
    refine HR.out.mono ?_
    rintro e w1 ⟨rfl, b1⟩
    go_wp2_with fail
    go_ret
    exact ⟨ret_bool (by rw [EQ.out]; rfl), chain B0.out b1⟩
  | false =>
    rw [q] at EQ
    clear HR
    go_enter Tryz.func16, Tryz.ntmps16
    go_wp2_with fail
    go_ret
    exact ⟨ret_bool (by rw [EQ.out]; rfl), B0.out⟩
end Go.Proofs.YtldbaoolddlacaaGreatDoor

namespace Go.Proofs.YtldbaoolddlacaaGreatDoor
open Go.RowKit
set_option maxRecDepth 100000
theorem isA_17 {l : List Nd} {id : Int} (ha : isAB l id 17 = true) (hr : rightB l = true) : isK l id 17 = true := by rw [← isA_K, ha, hr]; rfl
theorem all_few {l : List Nd} (h : Right l) {g : List Int} (hg : g ∈ allG l) : g.length ≤ l.length := by
  have a := nodup_sub (allG_nodup h hg) (B := (List.range l.length).map fun i : Nat => (i : Int)) (fun x hx => by
    have := all_rng h hg hx
    rw [List.mem_map]
    exact ⟨x.toNat, List.mem_range.2 (by omega), by omega⟩)
  rw [List.length_map, List.length_range] at a
  exact a
theorem isA_not {l : List Nd} {id k : Int} (h : isAB l id k = false ∨ rightB l = false) : isK l id k = false := by
  rw [← isA_K]
  rcases h with h | h
  · rw [h]; rfl
  · rw [h, Bool.and_false]
set_option maxHeartbeats 8000000 in
theorem gpMembersK_any (v : Value) (l : List Nd) (id : Int) (w : World) (hv : NodesV w v l) (hz : DocSz l) (hT : KTabs w) :
    Calls Tryz.prog 15 #[v, .int .i64 id] w fun e w' => ∃ v', e = .returned v' ∧ KidsO w.heap.size w' v' (membersP l id) ∧ Below w.heap.size w w' := by
  have HI := hide (fun W (hb : Below w.heap.size w W) => gpIsA_any v l id 17 W (hv.below hb) hz (hT.below hb))
  have HRt := hide (fun W (hb : Below w.heap.size w W) => right_any v l W (hv.below hb) hz)
  have B0 : Hid (Below w.heap.size w w) := Below.refl _ _
  cases ok : isAB l id 17 with
  | false =>
    have E : Hid (membersP l id = []) := by show _ = _; unfold membersP; rw [isA_not (.inl ok)]; rfl
    rw [ok] at HI
    clear ok HRt
    obtain ⟨p, c, rfl⟩ := nds_formW hv
    clear hv hz hT
    go_enter Tryz.func15, Tryz.ntmps15
    go_wp2_with fail
    refine (HI.out _ B0.out).mono ?_
    rintro e w1 ⟨rfl, b1⟩
    go_wp2_with fail
    go_ret
    exact ⟨_, rfl, by rw [E.out]; exact World.ownsRow_nil _ _ _ _, chain B0.out b1⟩
  | true =>
    rw [ok] at HI
    cases rb : rightB l with
    | false =>
      have E : Hid (membersP l id = []) := by show _ = _; unfold membersP; rw [isA_not (.inr rb)]; rfl
      rw [rb] at HRt
      clear ok rb
      obtain ⟨p, c, rfl⟩ := nds_formW hv
      clear hv hz hT
      go_enter Tryz.func15, Tryz.ntmps15
      go_wp2_with fail
      refine (HI.out _ B0.out).mono ?_
      rintro e w1 ⟨rfl, b1⟩
      go_wp2_with fail
      refine (HRt.out _ (chain B0.out b1)).mono ?_
      rintro e w2 ⟨rfl, b2⟩
      go_wp2_with fail
      go_ret
      exact ⟨_, rfl, by rw [E.out]; exact World.ownsRow_nil _ _ _ _, chain (chain B0.out b1) b2⟩
    | true =>
      rw [rb] at HRt
      have hR := right_is.1 rb
      have hk := isA_17 ok rb
      have HG := hide (fun W (hb : Below w.heap.size w W) => gpGroups_any v l W (hv.below hb) hz (hT.below hb) hR)
      have FD : Hid (∀ k (h : k < (allG l).length), id ∈ (allG l)[k] → membersP l id = (allG l)[k]) := fun k h => all_find hR h
      have FN : Hid ((∀ i (h : i < (allG l).length), id ∉ (allG l)[i]) → False) := fun h => by
        obtain ⟨i, hi, e⟩ := List.getElem_of_mem (all_has hk)
        exact h i hi (e ▸ mem_self hR hk)
      have GE : Hid (∀ k (h : k < (allG l).length), (allG l)[k].length ≤ 400) := fun k h => Nat.le_trans (all_few hR (List.getElem_mem h)) hR.len.2
      have GLn : (allG l).length ≤ 160000 := by
        show (grpG l (idsG l l.length)).length ≤ _
        rw [grp_len]
        exact Nat.le_trans (keys_few _) (Nat.le_trans (ids_len hR _ (Nat.le_refl _)) (by have := hR.len.2; omega))
      obtain ⟨p, c, rfl⟩ := nds_formW hv
      clear hv hz hT ok rb hR hk
      generalize membersP l id = MP at *
      generalize allG l = GG at *
      go_enter Tryz.func15, Tryz.ntmps15
      go_wp2_with fail
      refine (HI.out _ B0.out).mono ?_
      rintro e w1 ⟨rfl, b1⟩
      go_wp2_with fail
      refine (HRt.out _ (chain B0.out b1)).mono ?_
      rintro e w2 ⟨rfl, b2⟩
      have B2 := hide (chain (chain B0.out b1) b2)
      clear b1 b2 HI HRt
      go_wp2_with fail
      refine (HG.out _ B2.out).mono ?_
      rintro e w3 ⟨q3, k3, V, rfl, RO, b3⟩
      have RW := hide RO
      have B3 := hide (chain B2.out b3)
      have hb23 := B2.out.size
      clear RO b3 HG B2
      go_wp2_with fail
      go_loopw [19] (fun iv wr => ∃ k : Nat, k ≤ GG.length ∧ iv = .int .i64 k ∧ Hid (∀ i (h : i < GG.length), i < k → id ∉ GG[i]) ∧ wr = w3) (fun iv _ => GG.length - (intOf iv).toNat)
      case atStart => exact ⟨0, Nat.zero_le _, rfl, fun i h q => by omega, rfl⟩
      case round =>
        rename World => wr
        obtain ⟨k, hk, rfl, ND, ew⟩ := hrel
        obtain rfl : w3 = wr := ew.symm
        by_cases h : k < GG.length
        · have i1 : (k : Int) < (GG.length : Int) := by omega
          have i0 : (0 : Int) ≤ (k : Int) := by omega
          obtain ⟨g, cpg, ev, eb, _⟩ := owns_at RW.out.row (by omega)
          obtain ⟨rfl, rfl⟩ : q3 = some ⟨g, 0, none⟩ ∧ k3 = cpg := by cases ev; exact ⟨rfl, rfl⟩
          have KA := RW.out.at_ k h
          obtain ⟨pv, cv, evp⟩ := KA.formG
          have x0 : w3.cell? ⟨g, k, none⟩ = some (.slice pv GG[k].length cv) := by rw [← evp]; exact owns_cell RW.out.row rfl (vAt_at (by rw [RW.out.len]; exact h))
          rw [evp] at KA
          have HC := hide (containsI_any _ GG[k] id w3 KA.ints (by have := GE.out k h; omega))
          have KA := hide KA
          have FK := hide (FD.out k h)
          have NK := hide (fun q : id ∉ GG[k] => (fun i (hi : i < GG.length) (r : i < k + 1) => by
            rcases Nat.lt_or_ge i k with t | t
            · exact ND.out i hi t
            · obtain rfl : i = k := by omega
              exact q : ∀ i (hi : i < GG.length), i < k + 1 → id ∉ GG[i]))
          clear ND FN FD GE ev eb RW
          obtain ⟨gk, hgk⟩ : ∃ gk, GG[k] = gk := ⟨_, rfl⟩
          rw [hgk] at x0 HC KA FK NK
          clear hgk evp
          by_cases q : id ∈ gk
          · rw [decide_eq_true q] at HC
            have E := hide (FK.out q)
            clear FK NK q
            go_wp2_with fail
            refine HC.out.mono ?_
            rintro e w4 ⟨rfl, hw⟩
            obtain rfl : w3 = w4 := hw.symm
            go_wp2_with fail
            go_ret
            exact ⟨_, rfl, by rw [E.out]; exact owns_mono KA.out hb23, B3.out⟩
          · rw [decide_eq_false q] at HC
            have E := hide (NK.out q)
            clear FK NK q
            go_wp2_with fail
            refine HC.out.mono ?_
            rintro e w4 ⟨rfl, hw⟩
            obtain rfl : w3 = w4 := hw.symm
            go_wp2_with fail
            go_roundw
            case rel => exact ⟨k + 1, by omega, by go_num, E, trivial⟩
            case measure => simp [intOf]; omega
        · exact (FN.out (fun i hi => ND.out i hi (by omega))).elim
theorem ctdchk_set (c : Ct) (fv : Value) (b : Bool) : (ctCells c fv).set 4 (.bool b) = ctCells { c with dchk := b } fv := rfl
/-- What checking answers, parted. -/
theorem checkO_out {l : List Nd} {C : List Ct} {id : Int} {on : Bool} (h : ¬ (0 ≤ id ∧ id < (l.length : Int)) ∨ rightD l C = false) : checkO l C id on = ([], 4) := by
  unfold checkO
  rw [if_neg]
  rintro ⟨a, b⟩
  rcases h with h | h
  · unfold hasN at b
    rw [Bool.and_eq_true, decide_eq_true_eq] at b
    exact h b.1
  · rw [h] at a; cases a
theorem checkO_in {l : List Nd} {C : List Ct} {id : Int} {on : Bool} (h : 0 ≤ id ∧ id < (l.length : Int)) (hr : rightD l C = true) : checkO l C id on = if isAB l id 17 = true ∨ isAB l id 16 = true then (checkC l C id on, 0) else ([], 3) := by
  have R := (rightD_is hr).1
  have hn : hasN l id = true := by unfold hasN; rw [decide_eq_true h, right_is.2 R]; rfl
  unfold checkO
  rw [if_pos ⟨hr, hn⟩]
  have e : ∀ k, isAB l id k = true ↔ kI l id = k := fun k => by
    unfold isAB kI
    rw [decide_eq_true h, Bool.true_and, decide_eq_true_eq]
  simp only [e]
theorem chkC_same {l : List Nd} {C : List Ct} {id : Nat} {on : Bool} (hid : id < C.length) : (checkC l C (id : Int) on).length = C.length ∧ ∀ i (_ : i < C.length) (_ : i < (checkC l C (id : Int) on).length), (checkC l C (id : Int) on)[i].files = C[i].files := by
  refine ⟨check_len .., fun i h1 h2 => ?_⟩
  have U : ∀ i (_ : i < C.length) (_ : i < (chkU l C (id : Int) on).length), (chkU l C (id : Int) on)[i].files = C[i].files := by
    unfold chkU
    split
    · intro i h1 h2
      rw [upd_at h1]
      split <;> rfl
    · exact fun i _ _ => rfl
  have e := List.getElem_set (l := chkU l C (id : Int) on) (i := (id : Int).toNat) (j := i) (a := { st (chkU l C (id : Int) on) (id : Int) with chk := on, dchk := true }) (by rw [List.length_set, chkU_len]; exact h1)
  have e' : (checkC l C (id : Int) on)[i] = _ := e
  rw [e']
  simp only [Int.toNat_natCast]
  have hu : id < (chkU l C (id : Int) on).length := by rw [chkU_len]; exact hid
  split
  · rename_i q
    subst q
    have es : st (chkU l C (id : Int) on) (id : Int) = (chkU l C (id : Int) on)[id] := by
      unfold st
      rw [Int.toNat_natCast, List.getD_eq_getElem?_getD, List.getElem?_eq_getElem hu, Option.getD_some]
    show (st (chkU l C (id : Int) on) (id : Int)).files = _
    rw [es]
    exact U _ h1 hu
  · exact U i h1 (by rw [chkU_len]; exact h1)
theorem retCk {v : Value} {a b : Int} (h : b = a) : Ending.returned (.tuple #[v, .int .i64 a]) = .returned (.tuple #[v, .int .i64 b]) := by rw [h]
set_option maxHeartbeats 8000000 in
theorem gpCheck_any (nv cv : Value) (l : List Nd) (C : List Ct) (id : Int) (on : Bool) (w : World) (hD : DocV w nv cv l C) (hz : DocSz l) (hC : CsOK C) (hT : KTabs w) :
    Calls Tryz.prog 13 #[.agg #[nv, cv], .int .i64 id, .bool on] w fun e w' => ∃ v', e = .returned (.tuple #[v', .int .i64 (checkO l C id on).2]) ∧ CtsV w' v' (checkO l C id on).1 ∧ Below w.heap.size w w' := by
  obtain ⟨pn, kn, rfl⟩ := nds_formW hD.nds
  obtain ⟨pc, kc, rfl⟩ := cts_formG hD.cts
  have B0 : Hid (Below w.heap.size w (w.alloc (.cells #[.slice pn l.length kn, .slice pc C.length kc] 25))) := (Below.refl _ w).alloc (Nat.le_refl _) _
  have K0 := hide (Bk.new w [.slice pn l.length kn, .slice pc C.length kc] 25)
  have HRt := hide (fun W (hb : Below w.heap.size w W) => opRightG_any _ _ l C W (hD.below hb) hz)
  have HI := hide (fun k W (hb : Below w.heap.size w W) => gpIsA_any _ l id k W (hD.nds.below hb) hz (hT.below hb))
  have HF := hide (fun W (hb : Below w.heap.size w W) => freshCtls_any _ C W (hD.cts.below hb) hC)
  have HM := hide (fun W (hb : Below w.heap.size w W) => gpMembersK_any _ l id W (hD.nds.below hb) hz (hT.below hb))
  have hlz := hz.len
  by_cases h0 : 0 ≤ id
  · by_cases h1 : id < (l.length : Int)
    · cases rd : rightD l C with
      | false =>
        have E := hide (checkO_out (on := on) (id := id) (.inr rd))
        rw [rd] at HRt
        have c0 := K0.out.cell 0 rfl
        have c1 := K0.out.cell 1 rfl
        clear HI HF HM hz hC hT hD rd
        go_enter Tryz.func13, Tryz.ntmps13
        go_wp2_with fail
        refine (HRt.out _ B0.out).mono ?_
        rintro e w1 ⟨rfl, b1⟩
        go_wp2_with fail
        go_ret2
        exact ⟨_, retCk (congrArg Prod.snd E.out), by rw [E.out]; exact cts_nil _, chain B0.out b1⟩
      | true =>
        have E := hide (checkO_in (on := on) ⟨h0, h1⟩ rd)
        rw [rd] at HRt
        obtain ⟨hR, hlC⟩ := rightD_is rd
        obtain ⟨m, rfl⟩ : ∃ m : Nat, id = (m : Int) := ⟨id.toNat, by omega⟩
        have hm : m < l.length := by omega
        have hmC : m < C.length := by omega
        have CI := hide (fun c hc => check_is (C := C) hR hlC.symm hm on c hc)
        have MR : Hid (∀ x ∈ membersP l (m : Int), 0 ≤ x ∧ x < (C.length : Int)) := fun x hx => by
          have := ((mem_mem hR).1 hx).2.1
          omega
        have MN := hide (mem_nodup hR (id := (m : Int)))
        have ML : Hid ((membersP l (m : Int)).length ≤ 17592186044416) := by
          show _ ≤ _
          by_cases q : isK l (m : Int) 17 = true
          · have := all_few hR (all_has q)
            have := hR.len.2
            omega
          · have : membersP l (m : Int) = [] := if_neg q
            rw [this]; exact Nat.zero_le _
        have c0 := K0.out.cell 0 rfl
        have c1 := K0.out.cell 1 rfl
        have I17 := hide (HI.out 17)
        have I16 := hide (HI.out 16)
        have dm1 : decide ((m : Int) < 0) = false := decide_eq_false (by omega)
        clear HI hz hC hT hD rd hR hlC
        have E0 : Hid (isAB l (m : Int) 17 = true ∨ isAB l (m : Int) 16 = true → checkO l C (m : Int) on = (checkC l C (m : Int) on, 0)) := fun q => by rw [E.out, if_pos q]
        have CF := hide (chkC_same (l := l) (C := C) (on := on) hmC)
        cases a17 : isAB l (m : Int) 17 with
        | true =>
          clear E
          cases on with
          | true =>
            have E := hide (E0.out (by exact .inl a17))
            have SD : Hid (∀ c, c = { st (updP (chkF (m : Int)) (membersP l (m : Int)) C) (m : Int) with chk := true, dchk := true } → (updP (chkF (m : Int)) (membersP l (m : Int)) C).set m c = checkC l C (m : Int) true) := CI.out
            rw [a17] at I17
            clear E0 CI a17 I16
            go_enter Tryz.func13, Tryz.ntmps13
            go_wp2_with fail
            refine (HRt.out _ B0.out).mono ?_
            rintro e w1 ⟨rfl, b1⟩
            have B1 := hide (chain B0.out b1)
            replace K0 := hide (K0.out.below b1)
            clear c0 c1
            have c0 := K0.out.cell 0 rfl
            have c1 := K0.out.cell 1 rfl
            clear b1 B0 HRt
            go_wp2_with fail
            refine (I17.out _ B1.out).mono ?_
            rintro e w2 ⟨rfl, b2⟩
            have B2 := hide (chain B1.out b2)
            replace K0 := hide (K0.out.below b2)
            clear c0 c1
            have c0 := K0.out.cell 0 rfl
            have c1 := K0.out.cell 1 rfl
            clear b2 B1 I17
            go_wp2_with fail
            refine (HF.out _ B2.out).mono ?_
            rintro e w4 ⟨ov, F, rfl, O4, F4, b4⟩
            obtain ⟨po, ko, rfl⟩ := O4.formG
            have hs4 := B2.out.size
            replace O4 := hide O4
            replace F4 := hide F4
            have B4 := hide (chain B2.out b4)
            replace K0 := hide (K0.out.below b4)
            clear c0 c1
            have c0 := K0.out.cell 0 rfl
            have c1 := K0.out.cell 1 rfl
            clear b4 B2 HF
            go_wp2_with fail
            refine (HM.out _ B4.out).mono ?_
            rintro e w5 ⟨vm, rfl, KM, b5⟩
            obtain ⟨pm, km, rfl⟩ := KM.formG
            have O5 : Hid (CtsO _ w5 _ C F) := O4.out.kept b5
            have F5 := hide (F4.out.below b5)
            have B5 := hide (chain B4.out b5)
            have HCk := hide (gpCheckOnly_any _ _ _ _ C F _ (m : Int) w5 O5.out KM MR.out MN.out ML.out)
            have BLO : Hid (∀ k ∈ (Value.slice po C.length ko).ownBlock.toList, w.heap.size ≤ k) := fun k hk => Nat.le_trans hs4 (World.ownsRow.lt O5.out.row k (opt_mem.1 hk)).1
            clear KM b5 B4 O4 F4 HM c0 c1 K0 MR MN ML
            generalize (membersP l (m : Int)).length = nm at *
            go_wp2_with fail
            refine HCk.out.mono ?_
            rintro e w6 ⟨rfl, o6, ch6⟩
            have O6 := hide o6
            have F6 := hide (F5.out.chg O5.out.row ch6)
            have B6 : Hid (Below w.heap.size w w6) := B5.out.trans (ch6.below B5.out.size BLO.out)
            clear o6 ch6 HCk O5 F5 B5 BLO
            have DL : (updP (chkF (m : Int)) (membersP l (m : Int)) C).length = C.length := by rw [updC_len]
            obtain ⟨DD, hDD⟩ : ∃ DD, updP (chkF (m : Int)) (membersP l (m : Int)) C = DD := ⟨_, rfl⟩
            rw [hDD] at O6 SD DL
            clear hDD
            have hmD : m < DD.length := by omega
            have es : st DD (m : Int) = DD[m] := by unfold st; rw [Int.toNat_natCast, List.getD_eq_getElem?_getD, List.getElem?_eq_getElem hmD]; rfl
            obtain ⟨g, cpg, ev, eb, g0, g1, _⟩ := owns_at O6.out.row (by omega)
            obtain ⟨rfl, rfl⟩ : po = some ⟨g, 0, none⟩ ∧ ko = cpg := by rw [DL] at ev; cases ev; exact ⟨rfl, rfl⟩
            have z3 := O6.out.at_ rfl hmD 3 _ rfl
            have z4 := O6.out.at_ rfl hmD 4 _ rfl
            have f3 : w6.frozen? ⟨g, m * 10 + 3, none⟩ = false := owns_free O6.out.row rfl _
            have f4 : w6.frozen? ⟨g, m * 10 + 4, none⟩ = false := owns_free O6.out.row rfl _
            have P1 := O6.out.put (c' := { DD[m] with chk := true }) rfl hmD (j := 3) (by omega) (u := .bool true) (ctchk_set _ _ _)
            have P2 := P1.put (i := m) (c' := { DD[m] with chk := true, dchk := true }) rfl (by rw [List.length_set]; exact hmD) (j := 4) (by omega) (u := .bool true) (by rw [List.getElem_set_self]; exact ctdchk_set _ _ _)
            rw [List.set_set, SD.out _ (by rw [es])] at P2
            replace P2 := hide P2
            have CG : Hid (Chg [g] w6 ((w6.setCell ⟨g, m * 10 + 3, none⟩ (.bool true)).setCell ⟨g, m * 10 + 4, none⟩ (.bool true))) := (Chg.setB _ _ _ _).trans (Chg.setB _ _ _ _)
            have FE := hide (((F6.out.chg O6.out.row CG.out).files).other CF.out.1 CF.out.2)
            have BE : Hid (Below w.heap.size w ((w6.setCell ⟨g, m * 10 + 3, none⟩ (.bool true)).setCell ⟨g, m * 10 + 4, none⟩ (.bool true))) := (B6.out.setCell (show _ ≤ g by omega) _).setCell (show _ ≤ g by omega) _
            have q0 : (0 : Int) ≤ (m : Int) := by omega
            have q1 : (m : Int) < (C.length : Int) := by omega
            generalize DD[m].chk = oc at *
            generalize DD[m].dchk = od at *
            clear P1 es CG SD CF ev eb O6 F6 B6
            go_wp2_with fail
            go_ret2
            exact ⟨_, retCk (congrArg Prod.snd E.out), by rw [E.out]; exact P2.out.cts FE.out, BE.out⟩
          | false =>
            have E := hide (E0.out (by exact .inl a17))
            have SD : Hid (∀ c, c = { st (C) (m : Int) with chk := false, dchk := true } → (C).set m c = checkC l C (m : Int) false) := CI.out
            rw [a17] at I17
            clear E0 CI a17 I16
            go_enter Tryz.func13, Tryz.ntmps13
            go_wp2_with fail
            refine (HRt.out _ B0.out).mono ?_
            rintro e w1 ⟨rfl, b1⟩
            have B1 := hide (chain B0.out b1)
            replace K0 := hide (K0.out.below b1)
            clear c0 c1
            have c0 := K0.out.cell 0 rfl
            have c1 := K0.out.cell 1 rfl
            clear b1 B0 HRt
            go_wp2_with fail
            refine (I17.out _ B1.out).mono ?_
            rintro e w2 ⟨rfl, b2⟩
            have B2 := hide (chain B1.out b2)
            replace K0 := hide (K0.out.below b2)
            clear c0 c1
            have c0 := K0.out.cell 0 rfl
            have c1 := K0.out.cell 1 rfl
            clear b2 B1 I17
            go_wp2_with fail
            refine (HF.out _ B2.out).mono ?_
            rintro e w4 ⟨ov, F, rfl, O4, F4, b4⟩
            obtain ⟨po, ko, rfl⟩ := O4.formG
            have hs4 := B2.out.size
            replace O4 := hide O4
            replace F4 := hide F4
            have B4 := hide (chain B2.out b4)
            replace K0 := hide (K0.out.below b4)
            clear c0 c1
            have c0 := K0.out.cell 0 rfl
            have c1 := K0.out.cell 1 rfl
            clear b4 B2 HF
            have hmD : m < C.length := by omega
            have es : st C (m : Int) = C[m] := by unfold st; rw [Int.toNat_natCast, List.getD_eq_getElem?_getD, List.getElem?_eq_getElem hmD]; rfl
            obtain ⟨g, cpg, ev, eb, g0, g1, _⟩ := owns_at O4.out.row (by omega)
            obtain ⟨rfl, rfl⟩ : po = some ⟨g, 0, none⟩ ∧ ko = cpg := by cases ev; exact ⟨rfl, rfl⟩
            have z3 := O4.out.at_ rfl hmD 3 _ rfl
            have z4 := O4.out.at_ rfl hmD 4 _ rfl
            have f3 : w4.frozen? ⟨g, m * 10 + 3, none⟩ = false := owns_free O4.out.row rfl _
            have f4 : w4.frozen? ⟨g, m * 10 + 4, none⟩ = false := owns_free O4.out.row rfl _
            have P1 := O4.out.put (c' := { C[m] with chk := false }) rfl hmD (j := 3) (by omega) (u := .bool false) (ctchk_set _ _ _)
            have P2 := P1.put (i := m) (c' := { C[m] with chk := false, dchk := true }) rfl (by rw [List.length_set]; exact hmD) (j := 4) (by omega) (u := .bool true) (by rw [List.getElem_set_self]; exact ctdchk_set _ _ _)
            rw [List.set_set, SD.out _ (by rw [es])] at P2
            replace P2 := hide P2
            have CG : Hid (Chg [g] w4 ((w4.setCell ⟨g, m * 10 + 3, none⟩ (.bool false)).setCell ⟨g, m * 10 + 4, none⟩ (.bool true))) := (Chg.setB _ _ _ _).trans (Chg.setB _ _ _ _)
            have FE := hide (((F4.out.chg O4.out.row CG.out).files).other CF.out.1 CF.out.2)
            have BE : Hid (Below w.heap.size w ((w4.setCell ⟨g, m * 10 + 3, none⟩ (.bool false)).setCell ⟨g, m * 10 + 4, none⟩ (.bool true))) := (B4.out.setCell (show _ ≤ g by omega) _).setCell (show _ ≤ g by omega) _
            have q0 : (0 : Int) ≤ (m : Int) := by omega
            have q1 : (m : Int) < (C.length : Int) := by omega
            generalize C[m].chk = oc at *
            generalize C[m].dchk = od at *
            clear P1 es CG SD CF ev eb O4 F4 B4
            go_wp2_with fail
            go_ret2
            exact ⟨_, retCk (congrArg Prod.snd E.out), by rw [E.out]; exact P2.out.cts FE.out, BE.out⟩
        | false =>
          cases a16 : isAB l (m : Int) 16 with
          | true =>
            clear E
            cases on with
            | true =>
              have E := hide (E0.out (by exact .inr a16))
              have SD : Hid (∀ c, c = { st (updP (chkF (m : Int)) (membersP l (m : Int)) C) (m : Int) with chk := true, dchk := true } → (updP (chkF (m : Int)) (membersP l (m : Int)) C).set m c = checkC l C (m : Int) true) := CI.out
              rw [a17] at I17
              rw [a16] at I16
              clear E0 CI a17 a16
              go_enter Tryz.func13, Tryz.ntmps13
              go_wp2_with fail
              refine (HRt.out _ B0.out).mono ?_
              rintro e w1 ⟨rfl, b1⟩
              have B1 := hide (chain B0.out b1)
              replace K0 := hide (K0.out.below b1)
              clear c0 c1
              have c0 := K0.out.cell 0 rfl
              have c1 := K0.out.cell 1 rfl
              clear b1 B0 HRt
              go_wp2_with fail
              refine (I17.out _ B1.out).mono ?_
              rintro e w2 ⟨rfl, b2⟩
              have B2 := hide (chain B1.out b2)
              replace K0 := hide (K0.out.below b2)
              clear c0 c1
              have c0 := K0.out.cell 0 rfl
              have c1 := K0.out.cell 1 rfl
              clear b2 B1 I17
              go_wp2_with fail
              refine (I16.out _ B2.out).mono ?_
              rintro e w3 ⟨rfl, b3⟩
              have B3 := hide (chain B2.out b3)
              replace K0 := hide (K0.out.below b3)
              clear c0 c1
              have c0 := K0.out.cell 0 rfl
              have c1 := K0.out.cell 1 rfl
              clear b3 B2 I16
              go_wp2_with fail
              refine (HF.out _ B3.out).mono ?_
              rintro e w4 ⟨ov, F, rfl, O4, F4, b4⟩
              obtain ⟨po, ko, rfl⟩ := O4.formG
              have hs4 := B3.out.size
              replace O4 := hide O4
              replace F4 := hide F4
              have B4 := hide (chain B3.out b4)
              replace K0 := hide (K0.out.below b4)
              clear c0 c1
              have c0 := K0.out.cell 0 rfl
              have c1 := K0.out.cell 1 rfl
              clear b4 B3 HF
              go_wp2_with fail
              refine (HM.out _ B4.out).mono ?_
              rintro e w5 ⟨vm, rfl, KM, b5⟩
              obtain ⟨pm, km, rfl⟩ := KM.formG
              have O5 : Hid (CtsO _ w5 _ C F) := O4.out.kept b5
              have F5 := hide (F4.out.below b5)
              have B5 := hide (chain B4.out b5)
              have HCk := hide (gpCheckOnly_any _ _ _ _ C F _ (m : Int) w5 O5.out KM MR.out MN.out ML.out)
              have BLO : Hid (∀ k ∈ (Value.slice po C.length ko).ownBlock.toList, w.heap.size ≤ k) := fun k hk => Nat.le_trans hs4 (World.ownsRow.lt O5.out.row k (opt_mem.1 hk)).1
              clear KM b5 B4 O4 F4 HM c0 c1 K0 MR MN ML
              generalize (membersP l (m : Int)).length = nm at *
              go_wp2_with fail
              refine HCk.out.mono ?_
              rintro e w6 ⟨rfl, o6, ch6⟩
              have O6 := hide o6
              have F6 := hide (F5.out.chg O5.out.row ch6)
              have B6 : Hid (Below w.heap.size w w6) := B5.out.trans (ch6.below B5.out.size BLO.out)
              clear o6 ch6 HCk O5 F5 B5 BLO
              have DL : (updP (chkF (m : Int)) (membersP l (m : Int)) C).length = C.length := by rw [updC_len]
              obtain ⟨DD, hDD⟩ : ∃ DD, updP (chkF (m : Int)) (membersP l (m : Int)) C = DD := ⟨_, rfl⟩
              rw [hDD] at O6 SD DL
              clear hDD
              have hmD : m < DD.length := by omega
              have es : st DD (m : Int) = DD[m] := by unfold st; rw [Int.toNat_natCast, List.getD_eq_getElem?_getD, List.getElem?_eq_getElem hmD]; rfl
              obtain ⟨g, cpg, ev, eb, g0, g1, _⟩ := owns_at O6.out.row (by omega)
              obtain ⟨rfl, rfl⟩ : po = some ⟨g, 0, none⟩ ∧ ko = cpg := by rw [DL] at ev; cases ev; exact ⟨rfl, rfl⟩
              have z3 := O6.out.at_ rfl hmD 3 _ rfl
              have z4 := O6.out.at_ rfl hmD 4 _ rfl
              have f3 : w6.frozen? ⟨g, m * 10 + 3, none⟩ = false := owns_free O6.out.row rfl _
              have f4 : w6.frozen? ⟨g, m * 10 + 4, none⟩ = false := owns_free O6.out.row rfl _
              have P1 := O6.out.put (c' := { DD[m] with chk := true }) rfl hmD (j := 3) (by omega) (u := .bool true) (ctchk_set _ _ _)
              have P2 := P1.put (i := m) (c' := { DD[m] with chk := true, dchk := true }) rfl (by rw [List.length_set]; exact hmD) (j := 4) (by omega) (u := .bool true) (by rw [List.getElem_set_self]; exact ctdchk_set _ _ _)
              rw [List.set_set, SD.out _ (by rw [es])] at P2
              replace P2 := hide P2
              have CG : Hid (Chg [g] w6 ((w6.setCell ⟨g, m * 10 + 3, none⟩ (.bool true)).setCell ⟨g, m * 10 + 4, none⟩ (.bool true))) := (Chg.setB _ _ _ _).trans (Chg.setB _ _ _ _)
              have FE := hide (((F6.out.chg O6.out.row CG.out).files).other CF.out.1 CF.out.2)
              have BE : Hid (Below w.heap.size w ((w6.setCell ⟨g, m * 10 + 3, none⟩ (.bool true)).setCell ⟨g, m * 10 + 4, none⟩ (.bool true))) := (B6.out.setCell (show _ ≤ g by omega) _).setCell (show _ ≤ g by omega) _
              have q0 : (0 : Int) ≤ (m : Int) := by omega
              have q1 : (m : Int) < (C.length : Int) := by omega
              generalize DD[m].chk = oc at *
              generalize DD[m].dchk = od at *
              clear P1 es CG SD CF ev eb O6 F6 B6
              go_wp2_with fail
              go_ret2
              exact ⟨_, retCk (congrArg Prod.snd E.out), by rw [E.out]; exact P2.out.cts FE.out, BE.out⟩
            | false =>
              have E := hide (E0.out (by exact .inr a16))
              have SD : Hid (∀ c, c = { st (C) (m : Int) with chk := false, dchk := true } → (C).set m c = checkC l C (m : Int) false) := CI.out
              rw [a17] at I17
              rw [a16] at I16
              clear E0 CI a17 a16
              go_enter Tryz.func13, Tryz.ntmps13
              go_wp2_with fail
              refine (HRt.out _ B0.out).mono ?_
              rintro e w1 ⟨rfl, b1⟩
              have B1 := hide (chain B0.out b1)
              replace K0 := hide (K0.out.below b1)
              clear c0 c1
              have c0 := K0.out.cell 0 rfl
              have c1 := K0.out.cell 1 rfl
              clear b1 B0 HRt
              go_wp2_with fail
              refine (I17.out _ B1.out).mono ?_
              rintro e w2 ⟨rfl, b2⟩
              have B2 := hide (chain B1.out b2)
              replace K0 := hide (K0.out.below b2)
              clear c0 c1
              have c0 := K0.out.cell 0 rfl
              have c1 := K0.out.cell 1 rfl
              clear b2 B1 I17
              go_wp2_with fail
              refine (I16.out _ B2.out).mono ?_
              rintro e w3 ⟨rfl, b3⟩
              have B3 := hide (chain B2.out b3)
              replace K0 := hide (K0.out.below b3)
              clear c0 c1
              have c0 := K0.out.cell 0 rfl
              have c1 := K0.out.cell 1 rfl
              clear b3 B2 I16
              go_wp2_with fail
              refine (HF.out _ B3.out).mono ?_
              rintro e w4 ⟨ov, F, rfl, O4, F4, b4⟩
              obtain ⟨po, ko, rfl⟩ := O4.formG
              have hs4 := B3.out.size
              replace O4 := hide O4
              replace F4 := hide F4
              have B4 := hide (chain B3.out b4)
              replace K0 := hide (K0.out.below b4)
              clear c0 c1
              have c0 := K0.out.cell 0 rfl
              have c1 := K0.out.cell 1 rfl
              clear b4 B3 HF
              have hmD : m < C.length := by omega
              have es : st C (m : Int) = C[m] := by unfold st; rw [Int.toNat_natCast, List.getD_eq_getElem?_getD, List.getElem?_eq_getElem hmD]; rfl
              obtain ⟨g, cpg, ev, eb, g0, g1, _⟩ := owns_at O4.out.row (by omega)
              obtain ⟨rfl, rfl⟩ : po = some ⟨g, 0, none⟩ ∧ ko = cpg := by cases ev; exact ⟨rfl, rfl⟩
              have z3 := O4.out.at_ rfl hmD 3 _ rfl
              have z4 := O4.out.at_ rfl hmD 4 _ rfl
              have f3 : w4.frozen? ⟨g, m * 10 + 3, none⟩ = false := owns_free O4.out.row rfl _
              have f4 : w4.frozen? ⟨g, m * 10 + 4, none⟩ = false := owns_free O4.out.row rfl _
              have P1 := O4.out.put (c' := { C[m] with chk := false }) rfl hmD (j := 3) (by omega) (u := .bool false) (ctchk_set _ _ _)
              have P2 := P1.put (i := m) (c' := { C[m] with chk := false, dchk := true }) rfl (by rw [List.length_set]; exact hmD) (j := 4) (by omega) (u := .bool true) (by rw [List.getElem_set_self]; exact ctdchk_set _ _ _)
              rw [List.set_set, SD.out _ (by rw [es])] at P2
              replace P2 := hide P2
              have CG : Hid (Chg [g] w4 ((w4.setCell ⟨g, m * 10 + 3, none⟩ (.bool false)).setCell ⟨g, m * 10 + 4, none⟩ (.bool true))) := (Chg.setB _ _ _ _).trans (Chg.setB _ _ _ _)
              have FE := hide (((F4.out.chg O4.out.row CG.out).files).other CF.out.1 CF.out.2)
              have BE : Hid (Below w.heap.size w ((w4.setCell ⟨g, m * 10 + 3, none⟩ (.bool false)).setCell ⟨g, m * 10 + 4, none⟩ (.bool true))) := (B4.out.setCell (show _ ≤ g by omega) _).setCell (show _ ≤ g by omega) _
              have q0 : (0 : Int) ≤ (m : Int) := by omega
              have q1 : (m : Int) < (C.length : Int) := by omega
              generalize C[m].chk = oc at *
              generalize C[m].dchk = od at *
              clear P1 es CG SD CF ev eb O4 F4 B4
              go_wp2_with fail
              go_ret2
              exact ⟨_, retCk (congrArg Prod.snd E.out), by rw [E.out]; exact P2.out.cts FE.out, BE.out⟩
          | false =>
            replace E : Hid (checkO l C (m : Int) on = ([], 3)) := by show _ = _; rw [E.out, if_neg (by rw [a17, a16]; decide)]
            rw [a17] at I17
            rw [a16] at I16
            clear E0 CI CF HF HM MR MN ML
            go_enter Tryz.func13, Tryz.ntmps13
            go_wp2_with fail
            refine (HRt.out _ B0.out).mono ?_
            rintro e w1 ⟨rfl, b1⟩
            have B1 := hide (chain B0.out b1)
            replace K0 := hide (K0.out.below b1)
            clear c0 c1
            have c0 := K0.out.cell 0 rfl
            have c1 := K0.out.cell 1 rfl
            clear b1 B0 HRt
            go_wp2_with fail
            refine (I17.out _ B1.out).mono ?_
            rintro e w2 ⟨rfl, b2⟩
            have B2 := hide (chain B1.out b2)
            replace K0 := hide (K0.out.below b2)
            clear c0 c1
            have c0 := K0.out.cell 0 rfl
            have c1 := K0.out.cell 1 rfl
            clear b2 B1 I17
            go_wp2_with fail
            refine (I16.out _ B2.out).mono ?_
            rintro e w3 ⟨rfl, b3⟩
            go_wp2_with fail
            go_ret2
            exact ⟨_, retCk (congrArg Prod.snd E.out), by rw [E.out]; exact cts_nil _, chain B2.out b3⟩
    · have E := hide (checkO_out (l := l) (C := C) (on := on) (id := id) (.inl (fun t => h1 t.2)))
      have d1 : decide ((l.length : Int) ≤ id) = true := decide_eq_true (by omega)
      have d0 : decide (id < 0) = false := decide_eq_false (by omega)
      have c0 := K0.out.cell 0 rfl
      have c1 := K0.out.cell 1 rfl
      clear HRt HI HF HM hz hC hT hD
      go_enter Tryz.func13, Tryz.ntmps13
      go_wp2_with fail
      go_ret2
      exact ⟨_, retCk (congrArg Prod.snd E.out), by rw [E.out]; exact cts_nil _, B0.out⟩
  · have E := hide (checkO_out (l := l) (C := C) (on := on) (id := id) (.inl (fun t => h0 t.1)))
    have d0 : decide (id < 0) = true := decide_eq_true (by omega)
    clear HRt HI HF HM hz hC hT hD
    go_enter Tryz.func13, Tryz.ntmps13
    go_wp2_with fail
    go_ret2
    exact ⟨_, retCk (congrArg Prod.snd E.out), by rw [E.out]; exact cts_nil _, B0.out⟩
end Go.Proofs.YtldbaoolddlacaaGreatDoor

namespace Go.Proofs.YtldbaoolddlacaaGreatDoor
open Go.RowKit
set_option maxRecDepth 100000
set_option maxHeartbeats 8000000 in
theorem indexFuncR_any (B : Nat) (v : Value) (GG : List (List Int)) (V : List Value) (p : List Int → Bool) (g : Nat) (lb : Array Value) (eg : ∀ args w, (callFunc g args).run Tryz.prog w = .ok (.enter g args) w) (w : World) (hv : RowsO B w v GG V) (hp : ∀ i (h : i < GG.length) W, Below w.heap.size w W → Calls Tryz.prog g (#[vAt V i] ++ lb) W fun e w' => e = .returned (.bool (p GG[i])) ∧ Below W.heap.size W w') (hl : GG.length ≤ 160000) :
    Calls Tryz.prog 44 #[v, .func (.func g) #[] lb] w fun e w' => ∃ z : Int, e = .returned (.int .i64 z) ∧ decide (0 ≤ z) = GG.any p ∧ Below w.heap.size w w' := by
  obtain ⟨q, c, rfl⟩ := hv.form
  have HV := hide hv
  have HP := hide hp
  have YES : Hid (∀ k (h : k < GG.length), p GG[k] = true → GG.any p = true) := fun k h q => List.any_eq_true.2 ⟨_, List.getElem_mem h, q⟩
  have NO : Hid ((∀ i (h : i < GG.length), p GG[i] = false) → GG.any p = false) := fun h => List.any_eq_false.2 fun x hx => by
    obtain ⟨i, hi, rfl⟩ := List.getElem_of_mem hx
    rw [h i hi]; decide
  generalize GG.any p = R at *
  clear hv hp
  go_enter Tryz.func44, Tryz.ntmps44
  go_wp2_with fail
  go_loopw [8] (fun iv wr => ∃ k : Nat, k ≤ GG.length ∧ iv = .int .i64 k ∧ Hid (∀ i (h : i < GG.length), i < k → p GG[i] = false) ∧ Hid (Below w.heap.size w wr)) (fun iv _ => GG.length - (intOf iv).toNat)
  case atStart => exact ⟨0, Nat.zero_le _, rfl, fun i _ q => by omega, Below.refl _ _⟩
  case round =>
    rename World => wr
    obtain ⟨k, hk, rfl, ND, BW⟩ := hrel
    by_cases h : k < GG.length
    · have i1 : (k : Int) < (GG.length : Int) := by omega
      have i0 : (0 : Int) ≤ (k : Int) := by omega
      obtain ⟨gb, cpg, ev, eb, _⟩ := owns_at HV.out.row (by omega)
      obtain ⟨rfl, rfl⟩ : q = some ⟨gb, 0, none⟩ ∧ c = cpg := by cases ev; exact ⟨rfl, rfl⟩
      have x0 : wr.cell? ⟨gb, k, none⟩ = some (vAt V k) := cell_below (owns_cell HV.out.row rfl (vAt_at (by rw [HV.out.len]; exact h))) BW.out
      obtain ⟨pv, cv, evp⟩ := (HV.out.at_ k h).formG
      have HC := hide (HP.out k h wr BW.out)
      rw [evp] at x0 HC
      have YK := hide (YES.out k h)
      have NK := hide (fun q : p GG[k] = false => (fun i (hi : i < GG.length) (r : i < k + 1) => by
        rcases Nat.lt_or_ge i k with t | t
        · exact ND.out i hi t
        · obtain rfl : i = k := by omega
          exact q : ∀ i (hi : i < GG.length), i < k + 1 → p GG[i] = false))
      clear HV HP YES NO ND ev eb evp
      generalize GG[k].length = gn at *
      cases q : p GG[k] with
      | true =>
        have E := hide (YK.out q)
        rw [q] at HC
        clear YK NK q
        go_wp2_with fail
        refine HC.out.mono ?_
        rintro e w' ⟨rfl, hb'⟩
        go_wp2_with fail
        go_ret
        exact ⟨_, rfl, by rw [E.out]; exact decide_eq_true (by omega), chain BW.out hb'⟩
      | false =>
        have E := hide (NK.out q)
        rw [q] at HC
        clear YK NK q
        go_wp2_with fail
        refine HC.out.mono ?_
        rintro e w' ⟨rfl, hb'⟩
        go_wp2_with fail
        go_roundw
        case rel => exact ⟨k + 1, by omega, by go_num, E, chain BW.out hb'⟩
        case measure => simp [intOf]; omega
    · have E := hide (NO.out (fun i hi => ND.out i hi (by omega)))
      obtain rfl : k = GG.length := by omega
      clear HV HP YES NO ND
      go_wp2_with fail
      go_ret
      exact ⟨_, rfl, by rw [E.out]; rfl, BW.out⟩
set_option maxHeartbeats 8000000 in
theorem containsFuncR_any (B : Nat) (v : Value) (GG : List (List Int)) (V : List Value) (p : List Int → Bool) (g : Nat) (lb : Array Value) (eg : ∀ args w, (callFunc g args).run Tryz.prog w = .ok (.enter g args) w) (w : World) (hv : RowsO B w v GG V) (hp : ∀ i (h : i < GG.length) W, Below w.heap.size w W → Calls Tryz.prog g (#[vAt V i] ++ lb) W fun e w' => e = .returned (.bool (p GG[i])) ∧ Below W.heap.size W w') (hl : GG.length ≤ 160000) :
    Calls Tryz.prog 26 #[v, .func (.func g) #[] lb] w fun e w' => e = .returned (.bool (GG.any p)) ∧ Below w.heap.size w w' := by
  have HI := hide (indexFuncR_any B v GG V p g lb eg w hv hp hl)
  obtain ⟨q, c, rfl⟩ := hv.form
  generalize GG.any p = R at *
  clear hv hp
  go_enter Tryz.func26, Tryz.ntmps26
  go_wp2_with fail
  refine HI.out.mono ?_
  rintro e w1 ⟨z, rfl, hz, b1⟩
  have E := hide hz
  clear hz
  go_wp2_with fail
  go_ret
  exact ⟨ret_bool E.out, b1⟩
set_option maxHeartbeats 8000000 in
theorem gpOne1_any (cv vl : Value) (C : List Ct) (ks : List Int) (Bd : Nat) (w : World) (hc : CtsV w cv C) (hk : IntsV w vl ks) (hr : ∀ i ∈ ks, 0 ≤ i ∧ i < (C.length : Int)) (hn : ¬ ks = []) (hl : ks.length ≤ 400) (x1 : w.cell? ⟨Bd, 1, none⟩ = some cv) :
    Calls Tryz.prog 25 #[vl, .pointer (some ⟨Bd, 0, none⟩)] w fun e w' => e = .returned (.bool (decide (1 < (ks.filter fun i => (st C i).chk).length))) ∧ Below w.heap.size w w' := by
  have HC := hide (gpChecked_any cv vl C ks w hc hk hr hn (by omega))
  obtain ⟨pk, kk, rfl, _⟩ := hk
  obtain ⟨F, _, pc, kc, rfl, _⟩ := hc
  have fl : (ks.filter fun i => (st C i).chk).length ≤ 400 := Nat.le_trans (List.length_filter_le _ _) hl
  generalize (ks.filter fun i => (st C i).chk) = fs at *
  have E : Hid (decide (1 < fs.length) = decide ((1 : Int) < (fs.length : Int))) := by
    show _ = _
    rw [Bool.eq_iff_iff, decide_eq_true_eq, decide_eq_true_eq]
    omega
  generalize decide (1 < fs.length) = R at *
  clear hr hn
  go_enter Tryz.func25, Tryz.ntmps25
  go_wp2_with fail
  refine HC.out.mono ?_
  rintro e w1 ⟨q1, k1, rfl, _, b1⟩
  go_wp2_with fail
  go_ret
  exact ⟨ret_bool E.out.symm, b1⟩
theorem entGpOne : ∀ args w, (callFunc 25 args).run Tryz.prog w = .ok (.enter 25 args) w := Go.Proofs.enters_of Tryz.func25 (by kernel_rfl) rfl
set_option maxHeartbeats 8000000 in
theorem gpOne_any (nv cv : Value) (l : List Nd) (C : List Ct) (w : World) (hD : DocV w nv cv l C) (hz : DocSz l) (_hC : CsOK C) (hT : KTabs w) :
    Calls Tryz.prog 10 #[.agg #[nv, cv]] w fun e w' => e = .returned (.bool (oneO l C)) ∧ Below w.heap.size w w' := by
  obtain ⟨pn, kn, rfl⟩ := nds_formW hD.nds
  obtain ⟨pc, kc, rfl⟩ := cts_formG hD.cts
  have B0 : Hid (Below w.heap.size w (w.alloc (.cells #[.slice pn l.length kn, .slice pc C.length kc] 25))) := (Below.refl _ w).alloc (Nat.le_refl _) _
  have K0 := hide (Bk.new w [.slice pn l.length kn, .slice pc C.length kc] 25)
  have HRt := hide (fun W (hb : Below w.heap.size w W) => opRightG_any _ _ l C W (hD.below hb) hz)
  have c0 := K0.out.cell 0 rfl
  have c1 := K0.out.cell 1 rfl
  cases rd : rightD l C with
  | false =>
    have E : Hid (oneO l C = false) := by show _ = _; unfold oneO; rw [rd]; rfl
    rw [rd] at HRt
    clear hz _hC hT hD rd
    go_enter Tryz.func10, Tryz.ntmps10
    go_wp2_with fail
    refine (HRt.out _ B0.out).mono ?_
    rintro e w1 ⟨rfl, b1⟩
    go_wp2_with fail
    go_ret
    exact ⟨ret_bool E.out.symm, chain B0.out b1⟩
  | true =>
    obtain ⟨hR, hlC⟩ := rightD_is rd
    have E : Hid (oneO l C = !((allG l).any fun g => decide (1 < (g.filter fun i => (st C i).chk).length))) := by show _ = _; unfold oneO; rw [rd, Bool.true_and]; exact one_all hR
    rw [rd] at HRt
    have HG := hide (fun W (hb : Below w.heap.size w W) => gpGroups_any _ l W (hD.nds.below hb) hz (hT.below hb) hR)
    have GLn : (allG l).length ≤ 160000 := by
      show (grpG l (idsG l l.length)).length ≤ _
      rw [grp_len]
      exact Nat.le_trans (keys_few _) (Nat.le_trans (ids_len hR _ (Nat.le_refl _)) (by have := hR.len.2; omega))
    have HO := hide (fun k (h : k < (allG l).length) vl Bd W (hb : Below w.heap.size w W) (hq : IntsV W vl (allG l)[k]) (x1 : W.cell? ⟨Bd, 1, none⟩ = some (.slice pc C.length kc)) => gpOne1_any _ vl C (allG l)[k] Bd W (hD.cts.below hb) hq (fun i hi => by have := all_rng hR (List.getElem_mem h) hi; omega) (all_some hR (List.getElem_mem h)) (Nat.le_trans (all_few hR (List.getElem_mem h)) hR.len.2) x1)
    clear hz _hC hT hD rd hR hlC
    generalize allG l = GG at *
    go_enter Tryz.func10, Tryz.ntmps10
    go_wp2_with fail
    refine (HRt.out _ B0.out).mono ?_
    rintro e w1 ⟨rfl, b1⟩
    have B1 := hide (chain B0.out b1)
    replace K0 := hide (K0.out.below b1)
    clear c0 c1
    have c0 := K0.out.cell 0 rfl
    have c1 := K0.out.cell 1 rfl
    clear b1 B0 HRt
    go_wp2_with fail
    refine (HG.out _ B1.out).mono ?_
    rintro e w3 ⟨q3, k3, V, rfl, RO, b3⟩
    have B3 := hide (chain B1.out b3)
    have HCf := hide (containsFuncR_any _ _ GG V (fun g => decide (1 < (g.filter fun i => (st C i).chk).length)) 25 #[.pointer (some ⟨w.heap.size, 0, none⟩)] entGpOne w3 RO (fun i h W hb => HO.out i h _ _ W (chain B3.out hb) ((RO.at_ i h).ints.below hb) (((K0.out.below b3).below hb).cell 1 rfl)) GLn)
    clear RO b3 HG B1 HO
    generalize (GG.any fun g => decide (1 < (g.filter fun i => (st C i).chk).length)) = R at *
    go_wp2_with fail
    refine HCf.out.mono ?_
    rintro e w4 ⟨rfl, b4⟩
    go_wp2_with fail
    go_ret
    exact ⟨ret_bool E.out.symm, chain B3.out b4⟩
end Go.Proofs.YtldbaoolddlacaaGreatDoor

namespace Go.Proofs.YtldbaoolddlacaaGreatDoor
open Go.RowKit
abbrev GpTabs (w : World) : Prop := KTabs w
theorem GpTabs.below {w w' : World} (h : GpTabs w) (hb : Below w.heap.size w w') : GpTabs w' := KTabs.below h hb
theorem gpMembers_any (v : Value) (l : List Nd) (id : Int) (w : World) (hv : NodesV w v l) (hz : DocSz l) (hT : GpTabs w) :
    Calls Tryz.prog 15 #[v, .int .i64 id] w fun e w' => ∃ v', e = .returned v' ∧ IntsV w' v' (membersP l id) ∧ Below w.heap.size w w' :=
  (gpMembersK_any v l id w hv hz hT).mono fun _ _ ⟨v', h1, h2, h3⟩ => ⟨v', h1, h2.ints, h3⟩

end Go.Proofs.YtldbaoolddlacaaGreatDoor
