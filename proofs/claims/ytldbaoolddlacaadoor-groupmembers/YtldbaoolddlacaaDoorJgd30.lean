/- The program's isOff, selectOf, Right, Off, Size of layer 15. The program's Members, Check of layer 17. The program's functions of layer 17, as its laws ask for them. Stage 17's wakes and its law GroupMembers, walked. -/
import Derived.Test.YtldbaoolddlacaaDoorJgd29
import Derived.Test.YtldbaoolddlacaaDoorJgd31
import Derived.Test.YtldbaoolddlacaaDoorJgd33
import Derived.Test.YtldbaoolddlacaaDoorJgd34
import Derived.Deep.DrawnRows

namespace Go.Proofs.YtldbaoolddlacaaDoor
open Go.RowKit
set_option maxRecDepth 100000
theorem rd_eq {l : List Nd} {C : List Ct} : rightD l C = (((C.length : Int) == (l.length : Int)) && rightB l) := by
  unfold rightD
  rw [Bool.and_comm]
  congr 1
  rw [Bool.eq_iff_iff, decide_eq_true_iff, beq_iff_eq]
  omega
theorem nds_formG {w : World} {v : Value} {l : List Nd} (h : NodesV w v l) : ∃ p c, v = .slice p l.length c := by
  obtain ⟨p, c, e, _⟩ := h
  exact ⟨p, c, e⟩
theorem cts_formG {w : World} {v : Value} {C : List Ct} (h : CtsV w v C) : ∃ p c, v = .slice p C.length c := by
  obtain ⟨_, _, p, c, e, _⟩ := h
  exact ⟨p, c, e⟩
set_option maxHeartbeats 4000000 in
theorem opRightG_any (nv cv : Value) (l : List Nd) (C : List Ct) (w : World) (hD : DocV w nv cv l C) (hz : DocSz l) :
    Calls Tryd.prog 24 #[.agg #[nv, cv]] w fun e w' => e = .returned (.bool (rightD l C)) ∧ Below w.heap.size w w' := by
  have B0 : Hid (Below w.heap.size w (w.alloc (.cells #[nv, cv] 31))) := (Below.refl _ w).alloc (Nat.le_refl _) _
  have HR := hide (right_any nv l (w.alloc (.cells #[nv, cv] 31)) (hD.nds.below B0.out) hz)
  obtain ⟨p, c, rfl⟩ := nds_formG hD.nds
  obtain ⟨pc, cc, rfl⟩ := cts_formG hD.cts
  have EQ := hide (rd_eq (l := l) (C := C))
  clear hD hz
  generalize rightD l C = R at *
  generalize rightB l = rb at *
  cases q : ((C.length : Int) == (l.length : Int)) with
  | true =>
    have q' : (C.length : Int) = (l.length : Int) := by simpa using q
    rw [q] at EQ
    go_enter Tryd.func24, Tryd.ntmps24
    go_wp2_with fail
    refine HR.out.mono ?_
    rintro e w1 ⟨rfl, b1⟩
    go_wp2_with fail
    go_ret
    exact ⟨ret_bool (by rw [EQ.out]; rfl), chain B0.out b1⟩
  | false =>
    rw [q] at EQ
    clear HR
    go_enter Tryd.func24, Tryd.ntmps24
    go_wp2_with fail
    go_ret
    exact ⟨ret_bool (by rw [EQ.out]; rfl), B0.out⟩
end Go.Proofs.YtldbaoolddlacaaDoor

namespace Go.Proofs.YtldbaoolddlacaaDoor
open Go.RowKit
set_option maxRecDepth 100000
theorem isA_17 {l : List Nd} {id : Int} (ha : isAB l id 17 = true) (hr : rightB l = true) : isK l id 17 = true := by rw [← isA_K, ha, hr]; rfl
theorem all_few {l : List Nd} (h : Right l) {g : List Int} (hg : g ∈ allG l) : g.length ≤ l.length := by
  have a := nodup_sub (allG_nodup h hg) (B := (List.range l.length).map fun i : Nat => (i : Int)) (fun x hx => by
    have := all_rng h hg hx
    rw [List.mem_map]
    exact ⟨x.toNat, List.mem_range.2 (by omega), by omega⟩)
  rw [List.length_map, List.length_range] at a
  exact a
theorem isA_not {l : List Nd} {id k : Int} (h : isAB l id k = false ∨ rightB l = false) : isK l id k = false := by
  rw [← isA_K]
  rcases h with h | h
  · rw [h]; rfl
  · rw [h, Bool.and_false]
set_option maxHeartbeats 8000000 in
theorem gpMembersK_any (v : Value) (l : List Nd) (id : Int) (w : World) (hv : NodesV w v l) (hz : DocSz l) (hT : KTabs w) :
    Calls Tryd.prog 7 #[v, .int .i64 id] w fun e w' => ∃ v', e = .returned v' ∧ KidsO w.heap.size w' v' (membersP l id) ∧ Below w.heap.size w w' := by
  have HI := hide (fun W (hb : Below w.heap.size w W) => gpIsA_any v l id 17 W (hv.below hb) hz (hT.below hb))
  have HRt := hide (fun W (hb : Below w.heap.size w W) => right_any v l W (hv.below hb) hz)
  have B0 : Hid (Below w.heap.size w w) := Below.refl _ _
  cases ok : isAB l id 17 with
  | false =>
    have E : Hid (membersP l id = []) := by show _ = _; unfold membersP; rw [isA_not (.inl ok)]; rfl
    rw [ok] at HI
    clear ok HRt
    obtain ⟨p, c, rfl⟩ := nds_formW hv
    clear hv hz hT
    go_enter Tryd.func7, Tryd.ntmps7
    go_wp2_with fail
    refine (HI.out _ B0.out).mono ?_
    rintro e w1 ⟨rfl, b1⟩
    go_wp2_with fail
    go_ret
    exact ⟨_, rfl, by rw [E.out]; exact World.ownsRow_nil _ _ _ _, chain B0.out b1⟩
  | true =>
    rw [ok] at HI
    cases rb : rightB l with
    | false =>
      have E : Hid (membersP l id = []) := by show _ = _; unfold membersP; rw [isA_not (.inr rb)]; rfl
      rw [rb] at HRt
      clear ok rb
      obtain ⟨p, c, rfl⟩ := nds_formW hv
      clear hv hz hT
      go_enter Tryd.func7, Tryd.ntmps7
      go_wp2_with fail
      refine (HI.out _ B0.out).mono ?_
      rintro e w1 ⟨rfl, b1⟩
      go_wp2_with fail
      refine (HRt.out _ (chain B0.out b1)).mono ?_
      rintro e w2 ⟨rfl, b2⟩
      go_wp2_with fail
      go_ret
      exact ⟨_, rfl, by rw [E.out]; exact World.ownsRow_nil _ _ _ _, chain (chain B0.out b1) b2⟩
    | true =>
      rw [rb] at HRt
      have hR := right_is.1 rb
      have hk := isA_17 ok rb
      have HG := hide (fun W (hb : Below w.heap.size w W) => gpGroups_any v l W (hv.below hb) hz (hT.below hb) hR)
      have FD : Hid (∀ k (h : k < (allG l).length), id ∈ (allG l)[k] → membersP l id = (allG l)[k]) := fun k h => all_find hR h
      have FN : Hid ((∀ i (h : i < (allG l).length), id ∉ (allG l)[i]) → False) := fun h => by
        obtain ⟨i, hi, e⟩ := List.getElem_of_mem (all_has hk)
        exact h i hi (e ▸ mem_self hR hk)
      have GE : Hid (∀ k (h : k < (allG l).length), (allG l)[k].length ≤ 400) := fun k h => Nat.le_trans (all_few hR (List.getElem_mem h)) hR.len.2
      have GLn : (allG l).length ≤ 160000 := by
        show (grpG l (idsG l l.length)).length ≤ _
        rw [grp_len]
        exact Nat.le_trans (keys_few _) (Nat.le_trans (ids_len hR _ (Nat.le_refl _)) (by have := hR.len.2; omega))
      obtain ⟨p, c, rfl⟩ := nds_formW hv
      clear hv hz hT ok rb hR hk
      generalize membersP l id = MP at *
      generalize allG l = GG at *
      go_enter Tryd.func7, Tryd.ntmps7
      go_wp2_with fail
      refine (HI.out _ B0.out).mono ?_
      rintro e w1 ⟨rfl, b1⟩
      go_wp2_with fail
      refine (HRt.out _ (chain B0.out b1)).mono ?_
      rintro e w2 ⟨rfl, b2⟩
      have B2 := hide (chain (chain B0.out b1) b2)
      clear b1 b2 HI HRt
      go_wp2_with fail
      refine (HG.out _ B2.out).mono ?_
      rintro e w3 ⟨q3, k3, V, rfl, RO, b3⟩
      have RW := hide RO
      have B3 := hide (chain B2.out b3)
      have hb23 := B2.out.size
      clear RO b3 HG B2
      go_wp2_with fail
      go_loopw [19] (fun iv wr => ∃ k : Nat, k ≤ GG.length ∧ iv = .int .i64 k ∧ Hid (∀ i (h : i < GG.length), i < k → id ∉ GG[i]) ∧ wr = w3) (fun iv _ => GG.length - (intOf iv).toNat)
      case atStart => exact ⟨0, Nat.zero_le _, rfl, fun i h q => by omega, rfl⟩
      case round =>
        rename World => wr
        obtain ⟨k, hk, rfl, ND, ew⟩ := hrel
        obtain rfl : w3 = wr := ew.symm
        by_cases h : k < GG.length
        · have i1 : (k : Int) < (GG.length : Int) := by omega
          have i0 : (0 : Int) ≤ (k : Int) := by omega
          obtain ⟨g, cpg, ev, eb, _⟩ := owns_at RW.out.row (by omega)
          obtain ⟨rfl, rfl⟩ : q3 = some ⟨g, 0, none⟩ ∧ k3 = cpg := by cases ev; exact ⟨rfl, rfl⟩
          have KA := RW.out.at_ k h
          obtain ⟨pv, cv, evp⟩ := KA.formG
          have x0 : w3.cell? ⟨g, k, none⟩ = some (.slice pv GG[k].length cv) := by rw [← evp]; exact owns_cell RW.out.row rfl (vAt_at (by rw [RW.out.len]; exact h))
          rw [evp] at KA
          have HC := hide (containsI_any _ GG[k] id w3 KA.ints (by have := GE.out k h; omega))
          have KA := hide KA
          have FK := hide (FD.out k h)
          have NK := hide (fun q : id ∉ GG[k] => (fun i (hi : i < GG.length) (r : i < k + 1) => by
            rcases Nat.lt_or_ge i k with t | t
            · exact ND.out i hi t
            · obtain rfl : i = k := by omega
              exact q : ∀ i (hi : i < GG.length), i < k + 1 → id ∉ GG[i]))
          clear ND FN FD GE ev eb RW
          obtain ⟨gk, hgk⟩ : ∃ gk, GG[k] = gk := ⟨_, rfl⟩
          rw [hgk] at x0 HC KA FK NK
          clear hgk evp
          by_cases q : id ∈ gk
          · rw [decide_eq_true q] at HC
            have E := hide (FK.out q)
            clear FK NK q
            go_wp2_with fail
            refine HC.out.mono ?_
            rintro e w4 ⟨rfl, hw⟩
            obtain rfl : w3 = w4 := hw.symm
            go_wp2_with fail
            go_ret
            exact ⟨_, rfl, by rw [E.out]; exact owns_mono KA.out hb23, B3.out⟩
          · rw [decide_eq_false q] at HC
            have E := hide (NK.out q)
            clear FK NK q
            go_wp2_with fail
            refine HC.out.mono ?_
            rintro e w4 ⟨rfl, hw⟩
            obtain rfl : w3 = w4 := hw.symm
            go_wp2_with fail
            go_roundw
            case rel => exact ⟨k + 1, by omega, by go_num, E, trivial⟩
            case measure => simp [intOf]; omega
        · exact (FN.out (fun i hi => ND.out i hi (by omega))).elim
theorem ctdchk_set (c : Ct) (fv : Value) (b : Bool) : (ctCells c fv).set 4 (.bool b) = ctCells { c with dchk := b } fv := rfl
/-- What checking answers, parted. -/
theorem checkO_out {l : List Nd} {C : List Ct} {id : Int} {on : Bool} (h : ¬ (0 ≤ id ∧ id < (l.length : Int)) ∨ rightD l C = false) : checkO l C id on = ([], 4) := by
  unfold checkO
  rw [if_neg]
  rintro ⟨a, b⟩
  rcases h with h | h
  · unfold hasN at b
    rw [Bool.and_eq_true, decide_eq_true_eq] at b
    exact h b.1
  · rw [h] at a; cases a
theorem checkO_in {l : List Nd} {C : List Ct} {id : Int} {on : Bool} (h : 0 ≤ id ∧ id < (l.length : Int)) (hr : rightD l C = true) : checkO l C id on = if isAB l id 17 = true ∨ isAB l id 16 = true then (checkC l C id on, 0) else ([], 3) := by
  have R := (rightD_is hr).1
  have hn : hasN l id = true := by unfold hasN; rw [decide_eq_true h, right_is.2 R]; rfl
  unfold checkO
  rw [if_pos ⟨hr, hn⟩]
  have e : ∀ k, isAB l id k = true ↔ kI l id = k := fun k => by
    unfold isAB kI
    rw [decide_eq_true h, Bool.true_and, decide_eq_true_eq]
  simp only [e]
theorem chkC_same {l : List Nd} {C : List Ct} {id : Nat} {on : Bool} (hid : id < C.length) : (checkC l C (id : Int) on).length = C.length ∧ ∀ i (_ : i < C.length) (_ : i < (checkC l C (id : Int) on).length), (checkC l C (id : Int) on)[i].files = C[i].files := by
  refine ⟨check_len .., fun i h1 h2 => ?_⟩
  have U : ∀ i (_ : i < C.length) (_ : i < (chkU l C (id : Int) on).length), (chkU l C (id : Int) on)[i].files = C[i].files := by
    unfold chkU
    split
    · intro i h1 h2
      rw [upd_at h1]
      split <;> rfl
    · exact fun i _ _ => rfl
  have e := List.getElem_set (l := chkU l C (id : Int) on) (i := (id : Int).toNat) (j := i) (a := { st (chkU l C (id : Int) on) (id : Int) with chk := on, dchk := true }) (by rw [List.length_set, chkU_len]; exact h1)
  have e' : (checkC l C (id : Int) on)[i] = _ := e
  rw [e']
  simp only [Int.toNat_natCast]
  have hu : id < (chkU l C (id : Int) on).length := by rw [chkU_len]; exact hid
  split
  · rename_i q
    subst q
    have es : st (chkU l C (id : Int) on) (id : Int) = (chkU l C (id : Int) on)[id] := by
      unfold st
      rw [Int.toNat_natCast, List.getD_eq_getElem?_getD, List.getElem?_eq_getElem hu, Option.getD_some]
    show (st (chkU l C (id : Int) on) (id : Int)).files = _
    rw [es]
    exact U _ h1 hu
  · exact U i h1 (by rw [chkU_len]; exact h1)
theorem retCk {v : Value} {a b : Int} (h : b = a) : Ending.returned (.tuple #[v, .int .i64 a]) = .returned (.tuple #[v, .int .i64 b]) := by rw [h]
set_option maxHeartbeats 8000000 in
theorem gpCheck_any (nv cv : Value) (l : List Nd) (C : List Ct) (id : Int) (on : Bool) (w : World) (hD : DocV w nv cv l C) (hz : DocSz l) (hC : CsOK C) (hT : KTabs w) :
    Calls Tryd.prog 11 #[.agg #[nv, cv], .int .i64 id, .bool on] w fun e w' => ∃ v', e = .returned (.tuple #[v', .int .i64 (checkO l C id on).2]) ∧ CtsV w' v' (checkO l C id on).1 ∧ Below w.heap.size w w' := by
  obtain ⟨pn, kn, rfl⟩ := nds_formW hD.nds
  obtain ⟨pc, kc, rfl⟩ := cts_formG hD.cts
  have B0 : Hid (Below w.heap.size w (w.alloc (.cells #[.slice pn l.length kn, .slice pc C.length kc] 31))) := (Below.refl _ w).alloc (Nat.le_refl _) _
  have K0 := hide (Bk.new w [.slice pn l.length kn, .slice pc C.length kc] 31)
  have HRt := hide (fun W (hb : Below w.heap.size w W) => opRightG_any _ _ l C W (hD.below hb) hz)
  have HI := hide (fun k W (hb : Below w.heap.size w W) => gpIsA_any _ l id k W (hD.nds.below hb) hz (hT.below hb))
  have HF := hide (fun W (hb : Below w.heap.size w W) => freshCtls_any _ C W (hD.cts.below hb) hC)
  have HM := hide (fun W (hb : Below w.heap.size w W) => gpMembersK_any _ l id W (hD.nds.below hb) hz (hT.below hb))
  have hlz := hz.len
  by_cases h0 : 0 ≤ id
  · by_cases h1 : id < (l.length : Int)
    · cases rd : rightD l C with
      | false =>
        have E := hide (checkO_out (on := on) (id := id) (.inr rd))
        rw [rd] at HRt
        have c0 := K0.out.cell 0 rfl
        have c1 := K0.out.cell 1 rfl
        clear HI HF HM hz hC hT hD rd
        go_enter Tryd.func11, Tryd.ntmps11
        go_wp2_with fail
        refine (HRt.out _ B0.out).mono ?_
        rintro e w1 ⟨rfl, b1⟩
        go_wp2_with fail
        go_ret2
        exact ⟨_, retCk (congrArg Prod.snd E.out), by rw [E.out]; exact cts_nil _, chain B0.out b1⟩
      | true =>
        have E := hide (checkO_in (on := on) ⟨h0, h1⟩ rd)
        rw [rd] at HRt
        obtain ⟨hR, hlC⟩ := rightD_is rd
        obtain ⟨m, rfl⟩ : ∃ m : Nat, id = (m : Int) := ⟨id.toNat, by omega⟩
        have hm : m < l.length := by omega
        have hmC : m < C.length := by omega
        have CI := hide (fun c hc => check_is (C := C) hR hlC.symm hm on c hc)
        have MR : Hid (∀ x ∈ membersP l (m : Int), 0 ≤ x ∧ x < (C.length : Int)) := fun x hx => by
          have := ((mem_mem hR).1 hx).2.1
          omega
        have MN := hide (mem_nodup hR (id := (m : Int)))
        have ML : Hid ((membersP l (m : Int)).length ≤ 17592186044416) := by
          show _ ≤ _
          by_cases q : isK l (m : Int) 17 = true
          · have := all_few hR (all_has q)
            have := hR.len.2
            omega
          · have : membersP l (m : Int) = [] := if_neg q
            rw [this]; exact Nat.zero_le _
        have c0 := K0.out.cell 0 rfl
        have c1 := K0.out.cell 1 rfl
        have I17 := hide (HI.out 17)
        have I16 := hide (HI.out 16)
        have dm1 : decide ((m : Int) < 0) = false := decide_eq_false (by omega)
        clear HI hz hC hT hD rd hR hlC
        have E0 : Hid (isAB l (m : Int) 17 = true ∨ isAB l (m : Int) 16 = true → checkO l C (m : Int) on = (checkC l C (m : Int) on, 0)) := fun q => by rw [E.out, if_pos q]
        have CF := hide (chkC_same (l := l) (C := C) (on := on) hmC)
        cases a17 : isAB l (m : Int) 17 with
        | true =>
          clear E
          cases on with
          | true =>
            have E := hide (E0.out (by exact .inl a17))
            have SD : Hid (∀ c, c = { st (updP (chkF (m : Int)) (membersP l (m : Int)) C) (m : Int) with chk := true, dchk := true } → (updP (chkF (m : Int)) (membersP l (m : Int)) C).set m c = checkC l C (m : Int) true) := CI.out
            rw [a17] at I17
            clear E0 CI a17 I16
            go_enter Tryd.func11, Tryd.ntmps11
            go_wp2_with fail
            refine (HRt.out _ B0.out).mono ?_
            rintro e w1 ⟨rfl, b1⟩
            have B1 := hide (chain B0.out b1)
            replace K0 := hide (K0.out.below b1)
            clear c0 c1
            have c0 := K0.out.cell 0 rfl
            have c1 := K0.out.cell 1 rfl
            clear b1 B0 HRt
            go_wp2_with fail
            refine (I17.out _ B1.out).mono ?_
            rintro e w2 ⟨rfl, b2⟩
            have B2 := hide (chain B1.out b2)
            replace K0 := hide (K0.out.below b2)
            clear c0 c1
            have c0 := K0.out.cell 0 rfl
            have c1 := K0.out.cell 1 rfl
            clear b2 B1 I17
            go_wp2_with fail
            refine (HF.out _ B2.out).mono ?_
            rintro e w4 ⟨ov, F, rfl, O4, F4, b4⟩
            obtain ⟨po, ko, rfl⟩ := O4.formG
            have hs4 := B2.out.size
            replace O4 := hide O4
            replace F4 := hide F4
            have B4 := hide (chain B2.out b4)
            replace K0 := hide (K0.out.below b4)
            clear c0 c1
            have c0 := K0.out.cell 0 rfl
            have c1 := K0.out.cell 1 rfl
            clear b4 B2 HF
            go_wp2_with fail
            refine (HM.out _ B4.out).mono ?_
            rintro e w5 ⟨vm, rfl, KM, b5⟩
            obtain ⟨pm, km, rfl⟩ := KM.formG
            have O5 : Hid (CtsO _ w5 _ C F) := O4.out.kept b5
            have F5 := hide (F4.out.below b5)
            have B5 := hide (chain B4.out b5)
            have HCk := hide (gpCheckOnly_any _ _ _ _ C F _ (m : Int) w5 O5.out KM MR.out MN.out ML.out)
            have BLO : Hid (∀ k ∈ (Value.slice po C.length ko).ownBlock.toList, w.heap.size ≤ k) := fun k hk => Nat.le_trans hs4 (World.ownsRow.lt O5.out.row k (opt_mem.1 hk)).1
            clear KM b5 B4 O4 F4 HM c0 c1 K0 MR MN ML
            generalize (membersP l (m : Int)).length = nm at *
            go_wp2_with fail
            refine HCk.out.mono ?_
            rintro e w6 ⟨rfl, o6, ch6⟩
            have O6 := hide o6
            have F6 := hide (F5.out.chg O5.out.row ch6)
            have B6 : Hid (Below w.heap.size w w6) := B5.out.trans (ch6.below B5.out.size BLO.out)
            clear o6 ch6 HCk O5 F5 B5 BLO
            have DL : (updP (chkF (m : Int)) (membersP l (m : Int)) C).length = C.length := by rw [updC_len]
            obtain ⟨DD, hDD⟩ : ∃ DD, updP (chkF (m : Int)) (membersP l (m : Int)) C = DD := ⟨_, rfl⟩
            rw [hDD] at O6 SD DL
            clear hDD
            have hmD : m < DD.length := by omega
            have es : st DD (m : Int) = DD[m] := by unfold st; rw [Int.toNat_natCast, List.getD_eq_getElem?_getD, List.getElem?_eq_getElem hmD]; rfl
            obtain ⟨g, cpg, ev, eb, g0, g1, _⟩ := owns_at O6.out.row (by omega)
            obtain ⟨rfl, rfl⟩ : po = some ⟨g, 0, none⟩ ∧ ko = cpg := by rw [DL] at ev; cases ev; exact ⟨rfl, rfl⟩
            have z3 := O6.out.at_ rfl hmD 3 _ rfl
            have z4 := O6.out.at_ rfl hmD 4 _ rfl
            have f3 : w6.frozen? ⟨g, m * 10 + 3, none⟩ = false := owns_free O6.out.row rfl _
            have f4 : w6.frozen? ⟨g, m * 10 + 4, none⟩ = false := owns_free O6.out.row rfl _
            have P1 := O6.out.put (c' := { DD[m] with chk := true }) rfl hmD (j := 3) (by omega) (u := .bool true) (ctchk_set _ _ _)
            have P2 := P1.put (i := m) (c' := { DD[m] with chk := true, dchk := true }) rfl (by rw [List.length_set]; exact hmD) (j := 4) (by omega) (u := .bool true) (by rw [List.getElem_set_self]; exact ctdchk_set _ _ _)
            rw [List.set_set, SD.out _ (by rw [es])] at P2
            replace P2 := hide P2
            have CG : Hid (Chg [g] w6 ((w6.setCell ⟨g, m * 10 + 3, none⟩ (.bool true)).setCell ⟨g, m * 10 + 4, none⟩ (.bool true))) := (Chg.setB _ _ _ _).trans (Chg.setB _ _ _ _)
            have FE := hide (((F6.out.chg O6.out.row CG.out).files).other CF.out.1 CF.out.2)
            have BE : Hid (Below w.heap.size w ((w6.setCell ⟨g, m * 10 + 3, none⟩ (.bool true)).setCell ⟨g, m * 10 + 4, none⟩ (.bool true))) := (B6.out.setCell (show _ ≤ g by omega) _).setCell (show _ ≤ g by omega) _
            have q0 : (0 : Int) ≤ (m : Int) := by omega
            have q1 : (m : Int) < (C.length : Int) := by omega
            generalize DD[m].chk = oc at *
            generalize DD[m].dchk = od at *
            clear P1 es CG SD CF ev eb O6 F6 B6
            go_wp2_with fail
            go_ret2
            exact ⟨_, retCk (congrArg Prod.snd E.out), by rw [E.out]; exact P2.out.cts FE.out, BE.out⟩
          | false =>
            have E := hide (E0.out (by exact .inl a17))
            have SD : Hid (∀ c, c = { st (C) (m : Int) with chk := false, dchk := true } → (C).set m c = checkC l C (m : Int) false) := CI.out
            rw [a17] at I17
            clear E0 CI a17 I16
            go_enter Tryd.func11, Tryd.ntmps11
            go_wp2_with fail
            refine (HRt.out _ B0.out).mono ?_
            rintro e w1 ⟨rfl, b1⟩
            have B1 := hide (chain B0.out b1)
            replace K0 := hide (K0.out.below b1)
            clear c0 c1
            have c0 := K0.out.cell 0 rfl
            have c1 := K0.out.cell 1 rfl
            clear b1 B0 HRt
            go_wp2_with fail
            refine (I17.out _ B1.out).mono ?_
            rintro e w2 ⟨rfl, b2⟩
            have B2 := hide (chain B1.out b2)
            replace K0 := hide (K0.out.below b2)
            clear c0 c1
            have c0 := K0.out.cell 0 rfl
            have c1 := K0.out.cell 1 rfl
            clear b2 B1 I17
            go_wp2_with fail
            refine (HF.out _ B2.out).mono ?_
            rintro e w4 ⟨ov, F, rfl, O4, F4, b4⟩
            obtain ⟨po, ko, rfl⟩ := O4.formG
            have hs4 := B2.out.size
            replace O4 := hide O4
            replace F4 := hide F4
            have B4 := hide (chain B2.out b4)
            replace K0 := hide (K0.out.below b4)
            clear c0 c1
            have c0 := K0.out.cell 0 rfl
            have c1 := K0.out.cell 1 rfl
            clear b4 B2 HF
            have hmD : m < C.length := by omega
            have es : st C (m : Int) = C[m] := by unfold st; rw [Int.toNat_natCast, List.getD_eq_getElem?_getD, List.getElem?_eq_getElem hmD]; rfl
            obtain ⟨g, cpg, ev, eb, g0, g1, _⟩ := owns_at O4.out.row (by omega)
            obtain ⟨rfl, rfl⟩ : po = some ⟨g, 0, none⟩ ∧ ko = cpg := by cases ev; exact ⟨rfl, rfl⟩
            have z3 := O4.out.at_ rfl hmD 3 _ rfl
            have z4 := O4.out.at_ rfl hmD 4 _ rfl
            have f3 : w4.frozen? ⟨g, m * 10 + 3, none⟩ = false := owns_free O4.out.row rfl _
            have f4 : w4.frozen? ⟨g, m * 10 + 4, none⟩ = false := owns_free O4.out.row rfl _
            have P1 := O4.out.put (c' := { C[m] with chk := false }) rfl hmD (j := 3) (by omega) (u := .bool false) (ctchk_set _ _ _)
            have P2 := P1.put (i := m) (c' := { C[m] with chk := false, dchk := true }) rfl (by rw [List.length_set]; exact hmD) (j := 4) (by omega) (u := .bool true) (by rw [List.getElem_set_self]; exact ctdchk_set _ _ _)
            rw [List.set_set, SD.out _ (by rw [es])] at P2
            replace P2 := hide P2
            have CG : Hid (Chg [g] w4 ((w4.setCell ⟨g, m * 10 + 3, none⟩ (.bool false)).setCell ⟨g, m * 10 + 4, none⟩ (.bool true))) := (Chg.setB _ _ _ _).trans (Chg.setB _ _ _ _)
            have FE := hide (((F4.out.chg O4.out.row CG.out).files).other CF.out.1 CF.out.2)
            have BE : Hid (Below w.heap.size w ((w4.setCell ⟨g, m * 10 + 3, none⟩ (.bool false)).setCell ⟨g, m * 10 + 4, none⟩ (.bool true))) := (B4.out.setCell (show _ ≤ g by omega) _).setCell (show _ ≤ g by omega) _
            have q0 : (0 : Int) ≤ (m : Int) := by omega
            have q1 : (m : Int) < (C.length : Int) := by omega
            generalize C[m].chk = oc at *
            generalize C[m].dchk = od at *
            clear P1 es CG SD CF ev eb O4 F4 B4
            go_wp2_with fail
            go_ret2
            exact ⟨_, retCk (congrArg Prod.snd E.out), by rw [E.out]; exact P2.out.cts FE.out, BE.out⟩
        | false =>
          cases a16 : isAB l (m : Int) 16 with
          | true =>
            clear E
            cases on with
            | true =>
              have E := hide (E0.out (by exact .inr a16))
              have SD : Hid (∀ c, c = { st (updP (chkF (m : Int)) (membersP l (m : Int)) C) (m : Int) with chk := true, dchk := true } → (updP (chkF (m : Int)) (membersP l (m : Int)) C).set m c = checkC l C (m : Int) true) := CI.out
              rw [a17] at I17
              rw [a16] at I16
              clear E0 CI a17 a16
              go_enter Tryd.func11, Tryd.ntmps11
              go_wp2_with fail
              refine (HRt.out _ B0.out).mono ?_
              rintro e w1 ⟨rfl, b1⟩
              have B1 := hide (chain B0.out b1)
              replace K0 := hide (K0.out.below b1)
              clear c0 c1
              have c0 := K0.out.cell 0 rfl
              have c1 := K0.out.cell 1 rfl
              clear b1 B0 HRt
              go_wp2_with fail
              refine (I17.out _ B1.out).mono ?_
              rintro e w2 ⟨rfl, b2⟩
              have B2 := hide (chain B1.out b2)
              replace K0 := hide (K0.out.below b2)
              clear c0 c1
              have c0 := K0.out.cell 0 rfl
              have c1 := K0.out.cell 1 rfl
              clear b2 B1 I17
              go_wp2_with fail
              refine (I16.out _ B2.out).mono ?_
              rintro e w3 ⟨rfl, b3⟩
              have B3 := hide (chain B2.out b3)
              replace K0 := hide (K0.out.below b3)
              clear c0 c1
              have c0 := K0.out.cell 0 rfl
              have c1 := K0.out.cell 1 rfl
              clear b3 B2 I16
              go_wp2_with fail
              refine (HF.out _ B3.out).mono ?_
              rintro e w4 ⟨ov, F, rfl, O4, F4, b4⟩
              obtain ⟨po, ko, rfl⟩ := O4.formG
              have hs4 := B3.out.size
              replace O4 := hide O4
              replace F4 := hide F4
              have B4 := hide (chain B3.out b4)
              replace K0 := hide (K0.out.below b4)
              clear c0 c1
              have c0 := K0.out.cell 0 rfl
              have c1 := K0.out.cell 1 rfl
              clear b4 B3 HF
              go_wp2_with fail
              refine (HM.out _ B4.out).mono ?_
              rintro e w5 ⟨vm, rfl, KM, b5⟩
              obtain ⟨pm, km, rfl⟩ := KM.formG
              have O5 : Hid (CtsO _ w5 _ C F) := O4.out.kept b5
              have F5 := hide (F4.out.below b5)
              have B5 := hide (chain B4.out b5)
              have HCk := hide (gpCheckOnly_any _ _ _ _ C F _ (m : Int) w5 O5.out KM MR.out MN.out ML.out)
              have BLO : Hid (∀ k ∈ (Value.slice po C.length ko).ownBlock.toList, w.heap.size ≤ k) := fun k hk => Nat.le_trans hs4 (World.ownsRow.lt O5.out.row k (opt_mem.1 hk)).1
              clear KM b5 B4 O4 F4 HM c0 c1 K0 MR MN ML
              generalize (membersP l (m : Int)).length = nm at *
              go_wp2_with fail
              refine HCk.out.mono ?_
              rintro e w6 ⟨rfl, o6, ch6⟩
              have O6 := hide o6
              have F6 := hide (F5.out.chg O5.out.row ch6)
              have B6 : Hid (Below w.heap.size w w6) := B5.out.trans (ch6.below B5.out.size BLO.out)
              clear o6 ch6 HCk O5 F5 B5 BLO
              have DL : (updP (chkF (m : Int)) (membersP l (m : Int)) C).length = C.length := by rw [updC_len]
              obtain ⟨DD, hDD⟩ : ∃ DD, updP (chkF (m : Int)) (membersP l (m : Int)) C = DD := ⟨_, rfl⟩
              rw [hDD] at O6 SD DL
              clear hDD
              have hmD : m < DD.length := by omega
              have es : st DD (m : Int) = DD[m] := by unfold st; rw [Int.toNat_natCast, List.getD_eq_getElem?_getD, List.getElem?_eq_getElem hmD]; rfl
              obtain ⟨g, cpg, ev, eb, g0, g1, _⟩ := owns_at O6.out.row (by omega)
              obtain ⟨rfl, rfl⟩ : po = some ⟨g, 0, none⟩ ∧ ko = cpg := by rw [DL] at ev; cases ev; exact ⟨rfl, rfl⟩
              have z3 := O6.out.at_ rfl hmD 3 _ rfl
              have z4 := O6.out.at_ rfl hmD 4 _ rfl
              have f3 : w6.frozen? ⟨g, m * 10 + 3, none⟩ = false := owns_free O6.out.row rfl _
              have f4 : w6.frozen? ⟨g, m * 10 + 4, none⟩ = false := owns_free O6.out.row rfl _
              have P1 := O6.out.put (c' := { DD[m] with chk := true }) rfl hmD (j := 3) (by omega) (u := .bool true) (ctchk_set _ _ _)
              have P2 := P1.put (i := m) (c' := { DD[m] with chk := true, dchk := true }) rfl (by rw [List.length_set]; exact hmD) (j := 4) (by omega) (u := .bool true) (by rw [List.getElem_set_self]; exact ctdchk_set _ _ _)
              rw [List.set_set, SD.out _ (by rw [es])] at P2
              replace P2 := hide P2
              have CG : Hid (Chg [g] w6 ((w6.setCell ⟨g, m * 10 + 3, none⟩ (.bool true)).setCell ⟨g, m * 10 + 4, none⟩ (.bool true))) := (Chg.setB _ _ _ _).trans (Chg.setB _ _ _ _)
              have FE := hide (((F6.out.chg O6.out.row CG.out).files).other CF.out.1 CF.out.2)
              have BE : Hid (Below w.heap.size w ((w6.setCell ⟨g, m * 10 + 3, none⟩ (.bool true)).setCell ⟨g, m * 10 + 4, none⟩ (.bool true))) := (B6.out.setCell (show _ ≤ g by omega) _).setCell (show _ ≤ g by omega) _
              have q0 : (0 : Int) ≤ (m : Int) := by omega
              have q1 : (m : Int) < (C.length : Int) := by omega
              generalize DD[m].chk = oc at *
              generalize DD[m].dchk = od at *
              clear P1 es CG SD CF ev eb O6 F6 B6
              go_wp2_with fail
              go_ret2
              exact ⟨_, retCk (congrArg Prod.snd E.out), by rw [E.out]; exact P2.out.cts FE.out, BE.out⟩
            | false =>
              have E := hide (E0.out (by exact .inr a16))
              have SD : Hid (∀ c, c = { st (C) (m : Int) with chk := false, dchk := true } → (C).set m c = checkC l C (m : Int) false) := CI.out
              rw [a17] at I17
              rw [a16] at I16
              clear E0 CI a17 a16
              go_enter Tryd.func11, Tryd.ntmps11
              go_wp2_with fail
              refine (HRt.out _ B0.out).mono ?_
              rintro e w1 ⟨rfl, b1⟩
              have B1 := hide (chain B0.out b1)
              replace K0 := hide (K0.out.below b1)
              clear c0 c1
              have c0 := K0.out.cell 0 rfl
              have c1 := K0.out.cell 1 rfl
              clear b1 B0 HRt
              go_wp2_with fail
              refine (I17.out _ B1.out).mono ?_
              rintro e w2 ⟨rfl, b2⟩
              have B2 := hide (chain B1.out b2)
              replace K0 := hide (K0.out.below b2)
              clear c0 c1
              have c0 := K0.out.cell 0 rfl
              have c1 := K0.out.cell 1 rfl
              clear b2 B1 I17
              go_wp2_with fail
              refine (I16.out _ B2.out).mono ?_
              rintro e w3 ⟨rfl, b3⟩
              have B3 := hide (chain B2.out b3)
              replace K0 := hide (K0.out.below b3)
              clear c0 c1
              have c0 := K0.out.cell 0 rfl
              have c1 := K0.out.cell 1 rfl
              clear b3 B2 I16
              go_wp2_with fail
              refine (HF.out _ B3.out).mono ?_
              rintro e w4 ⟨ov, F, rfl, O4, F4, b4⟩
              obtain ⟨po, ko, rfl⟩ := O4.formG
              have hs4 := B3.out.size
              replace O4 := hide O4
              replace F4 := hide F4
              have B4 := hide (chain B3.out b4)
              replace K0 := hide (K0.out.below b4)
              clear c0 c1
              have c0 := K0.out.cell 0 rfl
              have c1 := K0.out.cell 1 rfl
              clear b4 B3 HF
              have hmD : m < C.length := by omega
              have es : st C (m : Int) = C[m] := by unfold st; rw [Int.toNat_natCast, List.getD_eq_getElem?_getD, List.getElem?_eq_getElem hmD]; rfl
              obtain ⟨g, cpg, ev, eb, g0, g1, _⟩ := owns_at O4.out.row (by omega)
              obtain ⟨rfl, rfl⟩ : po = some ⟨g, 0, none⟩ ∧ ko = cpg := by cases ev; exact ⟨rfl, rfl⟩
              have z3 := O4.out.at_ rfl hmD 3 _ rfl
              have z4 := O4.out.at_ rfl hmD 4 _ rfl
              have f3 : w4.frozen? ⟨g, m * 10 + 3, none⟩ = false := owns_free O4.out.row rfl _
              have f4 : w4.frozen? ⟨g, m * 10 + 4, none⟩ = false := owns_free O4.out.row rfl _
              have P1 := O4.out.put (c' := { C[m] with chk := false }) rfl hmD (j := 3) (by omega) (u := .bool false) (ctchk_set _ _ _)
              have P2 := P1.put (i := m) (c' := { C[m] with chk := false, dchk := true }) rfl (by rw [List.length_set]; exact hmD) (j := 4) (by omega) (u := .bool true) (by rw [List.getElem_set_self]; exact ctdchk_set _ _ _)
              rw [List.set_set, SD.out _ (by rw [es])] at P2
              replace P2 := hide P2
              have CG : Hid (Chg [g] w4 ((w4.setCell ⟨g, m * 10 + 3, none⟩ (.bool false)).setCell ⟨g, m * 10 + 4, none⟩ (.bool true))) := (Chg.setB _ _ _ _).trans (Chg.setB _ _ _ _)
              have FE := hide (((F4.out.chg O4.out.row CG.out).files).other CF.out.1 CF.out.2)
              have BE : Hid (Below w.heap.size w ((w4.setCell ⟨g, m * 10 + 3, none⟩ (.bool false)).setCell ⟨g, m * 10 + 4, none⟩ (.bool true))) := (B4.out.setCell (show _ ≤ g by omega) _).setCell (show _ ≤ g by omega) _
              have q0 : (0 : Int) ≤ (m : Int) := by omega
              have q1 : (m : Int) < (C.length : Int) := by omega
              generalize C[m].chk = oc at *
              generalize C[m].dchk = od at *
              clear P1 es CG SD CF ev eb O4 F4 B4
              go_wp2_with fail
              go_ret2
              exact ⟨_, retCk (congrArg Prod.snd E.out), by rw [E.out]; exact P2.out.cts FE.out, BE.out⟩
          | false =>
            replace E : Hid (checkO l C (m : Int) on = ([], 3)) := by show _ = _; rw [E.out, if_neg (by rw [a17, a16]; decide)]
            rw [a17] at I17
            rw [a16] at I16
            clear E0 CI CF HF HM MR MN ML
            go_enter Tryd.func11, Tryd.ntmps11
            go_wp2_with fail
            refine (HRt.out _ B0.out).mono ?_
            rintro e w1 ⟨rfl, b1⟩
            have B1 := hide (chain B0.out b1)
            replace K0 := hide (K0.out.below b1)
            clear c0 c1
            have c0 := K0.out.cell 0 rfl
            have c1 := K0.out.cell 1 rfl
            clear b1 B0 HRt
            go_wp2_with fail
            refine (I17.out _ B1.out).mono ?_
            rintro e w2 ⟨rfl, b2⟩
            have B2 := hide (chain B1.out b2)
            replace K0 := hide (K0.out.below b2)
            clear c0 c1
            have c0 := K0.out.cell 0 rfl
            have c1 := K0.out.cell 1 rfl
            clear b2 B1 I17
            go_wp2_with fail
            refine (I16.out _ B2.out).mono ?_
            rintro e w3 ⟨rfl, b3⟩
            go_wp2_with fail
            go_ret2
            exact ⟨_, retCk (congrArg Prod.snd E.out), by rw [E.out]; exact cts_nil _, chain B2.out b3⟩
    · have E := hide (checkO_out (l := l) (C := C) (on := on) (id := id) (.inl (fun t => h1 t.2)))
      have d1 : decide ((l.length : Int) ≤ id) = true := decide_eq_true (by omega)
      have d0 : decide (id < 0) = false := decide_eq_false (by omega)
      have c0 := K0.out.cell 0 rfl
      have c1 := K0.out.cell 1 rfl
      clear HRt HI HF HM hz hC hT hD
      go_enter Tryd.func11, Tryd.ntmps11
      go_wp2_with fail
      go_ret2
      exact ⟨_, retCk (congrArg Prod.snd E.out), by rw [E.out]; exact cts_nil _, B0.out⟩
  · have E := hide (checkO_out (l := l) (C := C) (on := on) (id := id) (.inl (fun t => h0 t.1)))
    have d0 : decide (id < 0) = true := decide_eq_true (by omega)
    clear HRt HI HF HM hz hC hT hD
    go_enter Tryd.func11, Tryd.ntmps11
    go_wp2_with fail
    go_ret2
    exact ⟨_, retCk (congrArg Prod.snd E.out), by rw [E.out]; exact cts_nil _, B0.out⟩
end Go.Proofs.YtldbaoolddlacaaDoor

namespace Go.Proofs.YtldbaoolddlacaaDoor
open Go.RowKit
abbrev GpTabs (w : World) : Prop := KTabs w
theorem GpTabs.below {w w' : World} (h : GpTabs w) (hb : Below w.heap.size w w') : GpTabs w' := KTabs.below h hb
theorem gpMembers_any (v : Value) (l : List Nd) (id : Int) (w : World) (hv : NodesV w v l) (hz : DocSz l) (hT : GpTabs w) :
    Calls Tryd.prog 7 #[v, .int .i64 id] w fun e w' => ∃ v', e = .returned v' ∧ IntsV w' v' (membersP l id) ∧ Below w.heap.size w w' :=
  (gpMembersK_any v l id w hv hz hT).mono fun _ _ ⟨v', h1, h2, h3⟩ => ⟨v', h1, h2.ints, h3⟩
end Go.Proofs.YtldbaoolddlacaaDoor

namespace Go.Proofs.YtldbaoolddlacaaDoor
open Go.RowKit
set_option maxRecDepth 100000
/-- Two radio buttons of one name. -/
def gpA : List (ByteArray × ByteArray) := [(⟨#[116, 121, 112, 101]⟩, ⟨#[114, 97, 100, 105, 111]⟩), (⟨#[110, 97, 109, 101]⟩, ⟨#[97]⟩)]
def gpL : List Nd := [⟨⟨#[104, 116, 109, 108]⟩, ⟨#[]⟩, [], -1, [1, 2]⟩, ⟨⟨#[105, 110, 112, 117, 116]⟩, ⟨#[]⟩, gpA, 0, []⟩, ⟨⟨#[105, 110, 112, 117, 116]⟩, ⟨#[]⟩, gpA, 0, []⟩]
def gpC : List Ct := [ct0, { ct0 with chk := true }, ct0]
theorem gp_mem : membersP gpL 1 = [1, 2] := by kernel_rfl
theorem gp_chk : checkO gpL gpC 2 true = ([ct0, ct0, { ct0 with chk := true, dchk := true }], 0) := by kernel_rfl
theorem gp_sz : DocSz gpL := ⟨by decide, fun n q => by
  simp only [gpL, List.mem_cons, List.not_mem_nil, or_false] at q
  have ha : ∀ a ∈ gpA, (a.1.size ≤ maxLen ∧ a.2.size ≤ maxLen) ∧ a.2.size ≤ 140737488351232 := fun a h => by
    simp only [gpA, List.mem_cons, List.not_mem_nil, or_false] at h
    rcases h with rfl | rfl <;> exact ⟨⟨by decide, by decide⟩, by decide⟩
  rcases q with rfl | rfl | rfl
  · exact ⟨by decide, by decide, (fun a q => by cases q), by decide, by decide, (fun a q => by cases q)⟩
  · exact ⟨by decide, by decide, (fun a q => (ha a q).1), by decide, by decide, (fun a q => (ha a q).2)⟩
  · exact ⟨by decide, by decide, (fun a q => (ha a q).1), by decide, by decide, (fun a q => (ha a q).2)⟩⟩
theorem gp_ok : CsOK gpC := ⟨by decide, fun c q => by
  simp only [gpC, List.mem_cons, List.not_mem_nil, or_false] at q
  rcases q with rfl | rfl | rfl <;> exact ct0_fs, fun c q => by
  simp only [gpC, List.mem_cons, List.not_mem_nil, or_false] at q
  rcases q with rfl | rfl | rfl <;> exact ⟨by decide, by decide⟩⟩
theorem gp_doc {w : World} {a k b : Nat} (h1 : Bk w a [.string ⟨#[116, 121, 112, 101]⟩, .string ⟨#[114, 97, 100, 105, 111]⟩, .string ⟨#[110, 97, 109, 101]⟩, .string ⟨#[97]⟩] 41) (h2 : Bk w k [.int .i64 1, .int .i64 2] 3) (h3 : Bk w b [.string ⟨#[104, 116, 109, 108]⟩, .string ⟨#[]⟩, .slice none 0 0, .int .i64 (-1), .slice (some ⟨k, 0, none⟩) 2 2, .string ⟨#[105, 110, 112, 117, 116]⟩, .string ⟨#[]⟩, .slice (some ⟨a, 0, none⟩) 2 2, .int .i64 0, .slice none 0 0, .string ⟨#[105, 110, 112, 117, 116]⟩, .string ⟨#[]⟩, .slice (some ⟨a, 0, none⟩) 2 2, .int .i64 0, .slice none 0 0] 44) : NodesV w (.slice (some ⟨b, 0, none⟩) 3 3) gpL := by
  refine ⟨_, 3, rfl, .inr ⟨b, 0, rfl, fun i hi => ?_⟩⟩
  have an : AttrsV w (.slice none 0 0) [] := ⟨none, 0, rfl, .inl rfl⟩
  have cn : CapOK (.slice none 0 0) := fun p n c e => by cases e; exact Nat.le_refl _
  have aa : AttrsV w (.slice (some ⟨a, 0, none⟩) 2 2) gpA := ⟨_, 2, rfl, .inr ⟨a, 0, rfl, fun j hj => by
    match j, hj with
    | 0, _ => exact ⟨h1.cell 0 rfl, h1.cell 1 rfl⟩
    | 1, _ => exact ⟨h1.cell 2 rfl, h1.cell 3 rfl⟩⟩⟩
  have ca : CapOK (.slice (some ⟨a, 0, none⟩) 2 2) := fun p n c e => by cases e; exact Nat.le_refl _
  have kn : IntsV w (.slice none 0 0) [] := ⟨none, 0, rfl, .inl rfl⟩
  match i, hi with
  | 0, _ => exact ⟨_, _, ⟨h3.cell 0 rfl, h3.cell 1 rfl, h3.cell 2 rfl, h3.cell 3 rfl, h3.cell 4 rfl, an, ⟨_, 2, rfl, .inr ⟨k, 0, rfl, fun j hj => by
      match j, hj with
      | 0, _ => exact h2.cell 0 rfl
      | 1, _ => exact h2.cell 1 rfl⟩⟩, cn⟩⟩
  | 1, _ => exact ⟨_, _, ⟨h3.cell 5 rfl, h3.cell 6 rfl, h3.cell 7 rfl, h3.cell 8 rfl, h3.cell 9 rfl, aa, kn, ca⟩⟩
  | 2, _ => exact ⟨_, _, ⟨h3.cell 10 rfl, h3.cell 11 rfl, h3.cell 12 rfl, h3.cell 13 rfl, h3.cell 14 rfl, aa, kn, ca⟩⟩
theorem gp_cts {w : World} {b : Nat} (h : Bk w b [.string ⟨#[]⟩, .bool false, .bool false, .bool false, .bool false, .bool false, .bool false, .bool false, .string ⟨#[]⟩, .slice none 0 0, .string ⟨#[]⟩, .bool false, .bool false, .bool true, .bool false, .bool false, .bool false, .bool false, .string ⟨#[]⟩, .slice none 0 0, .string ⟨#[]⟩, .bool false, .bool false, .bool false, .bool false, .bool false, .bool false, .bool false, .string ⟨#[]⟩, .slice none 0 0] 47) : CtsV w (.slice (some ⟨b, 0, none⟩) 3 3) gpC := by
  refine ⟨[.slice none 0 0, .slice none 0 0, .slice none 0 0], ⟨rfl, fun i hi => ?_⟩, _, 3, rfl, .inr ⟨b, 0, rfl, fun i hi j u hu => ?_⟩⟩
  · match i, hi with
    | 0, _ => exact files_nil w
    | 1, _ => exact files_nil w
    | 2, _ => exact files_nil w
  · match i, hi with
    | 0, _ =>
      match j, hu with
      | 0, hu => cases hu; exact h.cell 0 rfl
      | 1, hu => cases hu; exact h.cell 1 rfl
      | 2, hu => cases hu; exact h.cell 2 rfl
      | 3, hu => cases hu; exact h.cell 3 rfl
      | 4, hu => cases hu; exact h.cell 4 rfl
      | 5, hu => cases hu; exact h.cell 5 rfl
      | 6, hu => cases hu; exact h.cell 6 rfl
      | 7, hu => cases hu; exact h.cell 7 rfl
      | 8, hu => cases hu; exact h.cell 8 rfl
      | 9, hu => cases hu; exact h.cell 9 rfl
      | n + 10, hu => simp [ctCells] at hu
    | 1, _ =>
      match j, hu with
      | 0, hu => cases hu; exact h.cell 10 rfl
      | 1, hu => cases hu; exact h.cell 11 rfl
      | 2, hu => cases hu; exact h.cell 12 rfl
      | 3, hu => cases hu; exact h.cell 13 rfl
      | 4, hu => cases hu; exact h.cell 14 rfl
      | 5, hu => cases hu; exact h.cell 15 rfl
      | 6, hu => cases hu; exact h.cell 16 rfl
      | 7, hu => cases hu; exact h.cell 17 rfl
      | 8, hu => cases hu; exact h.cell 18 rfl
      | 9, hu => cases hu; exact h.cell 19 rfl
      | n + 10, hu => simp [ctCells] at hu
    | 2, _ =>
      match j, hu with
      | 0, hu => cases hu; exact h.cell 20 rfl
      | 1, hu => cases hu; exact h.cell 21 rfl
      | 2, hu => cases hu; exact h.cell 22 rfl
      | 3, hu => cases hu; exact h.cell 23 rfl
      | 4, hu => cases hu; exact h.cell 24 rfl
      | 5, hu => cases hu; exact h.cell 25 rfl
      | 6, hu => cases hu; exact h.cell 26 rfl
      | 7, hu => cases hu; exact h.cell 27 rfl
      | 8, hu => cases hu; exact h.cell 28 rfl
      | 9, hu => cases hu; exact h.cell 29 rfl
      | n + 10, hu => simp [ctCells] at hu
theorem bk_nextG {w : World} {o : Obj} {n : Nat} (h : w.heap.size = n) : (w.alloc o).heap.size = n + 1 := by rw [← h]; simp
theorem bk_atG {w : World} {cs : List Value} {t : TypeId} {n : Nat} (h : w.heap.size = n) : Bk (w.alloc (.cells cs.toArray t)) n cs t := by rw [← h]; exact Bk.new w cs t
theorem gp_world (w : World) : DocV ((((w.alloc (.cells #[.string ⟨#[116, 121, 112, 101]⟩, .string ⟨#[114, 97, 100, 105, 111]⟩, .string ⟨#[110, 97, 109, 101]⟩, .string ⟨#[97]⟩] 41)).alloc (.cells #[.int .i64 1, .int .i64 2] 3)).alloc (.cells #[.string ⟨#[104, 116, 109, 108]⟩, .string ⟨#[]⟩, .slice none 0 0, .int .i64 (-1), .slice (some ⟨w.heap.size + 1, 0, none⟩) 2 2, .string ⟨#[105, 110, 112, 117, 116]⟩, .string ⟨#[]⟩, .slice (some ⟨w.heap.size, 0, none⟩) 2 2, .int .i64 0, .slice none 0 0, .string ⟨#[105, 110, 112, 117, 116]⟩, .string ⟨#[]⟩, .slice (some ⟨w.heap.size, 0, none⟩) 2 2, .int .i64 0, .slice none 0 0] 44)).alloc (.cells #[.string ⟨#[]⟩, .bool false, .bool false, .bool false, .bool false, .bool false, .bool false, .bool false, .string ⟨#[]⟩, .slice none 0 0, .string ⟨#[]⟩, .bool false, .bool false, .bool true, .bool false, .bool false, .bool false, .bool false, .string ⟨#[]⟩, .slice none 0 0, .string ⟨#[]⟩, .bool false, .bool false, .bool false, .bool false, .bool false, .bool false, .bool false, .string ⟨#[]⟩, .slice none 0 0] 47)) (.slice (some ⟨w.heap.size + 1 + 1, 0, none⟩) 3 3) (.slice (some ⟨w.heap.size + 1 + 1 + 1, 0, none⟩) 3 3) gpL gpC ∧ Below w.heap.size w ((((w.alloc (.cells #[.string ⟨#[116, 121, 112, 101]⟩, .string ⟨#[114, 97, 100, 105, 111]⟩, .string ⟨#[110, 97, 109, 101]⟩, .string ⟨#[97]⟩] 41)).alloc (.cells #[.int .i64 1, .int .i64 2] 3)).alloc (.cells #[.string ⟨#[104, 116, 109, 108]⟩, .string ⟨#[]⟩, .slice none 0 0, .int .i64 (-1), .slice (some ⟨w.heap.size + 1, 0, none⟩) 2 2, .string ⟨#[105, 110, 112, 117, 116]⟩, .string ⟨#[]⟩, .slice (some ⟨w.heap.size, 0, none⟩) 2 2, .int .i64 0, .slice none 0 0, .string ⟨#[105, 110, 112, 117, 116]⟩, .string ⟨#[]⟩, .slice (some ⟨w.heap.size, 0, none⟩) 2 2, .int .i64 0, .slice none 0 0] 44)).alloc (.cells #[.string ⟨#[]⟩, .bool false, .bool false, .bool false, .bool false, .bool false, .bool false, .bool false, .string ⟨#[]⟩, .slice none 0 0, .string ⟨#[]⟩, .bool false, .bool false, .bool true, .bool false, .bool false, .bool false, .bool false, .string ⟨#[]⟩, .slice none 0 0, .string ⟨#[]⟩, .bool false, .bool false, .bool false, .bool false, .bool false, .bool false, .bool false, .string ⟨#[]⟩, .slice none 0 0] 47)) := by
  have s1 : (w.alloc (.cells #[.string ⟨#[116, 121, 112, 101]⟩, .string ⟨#[114, 97, 100, 105, 111]⟩, .string ⟨#[110, 97, 109, 101]⟩, .string ⟨#[97]⟩] 41)).heap.size = w.heap.size + 1 := bk_nextG rfl
  have s2 : ((w.alloc (.cells #[.string ⟨#[116, 121, 112, 101]⟩, .string ⟨#[114, 97, 100, 105, 111]⟩, .string ⟨#[110, 97, 109, 101]⟩, .string ⟨#[97]⟩] 41)).alloc (.cells #[.int .i64 1, .int .i64 2] 3)).heap.size = w.heap.size + 1 + 1 := bk_nextG s1
  have s3 : (((w.alloc (.cells #[.string ⟨#[116, 121, 112, 101]⟩, .string ⟨#[114, 97, 100, 105, 111]⟩, .string ⟨#[110, 97, 109, 101]⟩, .string ⟨#[97]⟩] 41)).alloc (.cells #[.int .i64 1, .int .i64 2] 3)).alloc (.cells #[.string ⟨#[104, 116, 109, 108]⟩, .string ⟨#[]⟩, .slice none 0 0, .int .i64 (-1), .slice (some ⟨w.heap.size + 1, 0, none⟩) 2 2, .string ⟨#[105, 110, 112, 117, 116]⟩, .string ⟨#[]⟩, .slice (some ⟨w.heap.size, 0, none⟩) 2 2, .int .i64 0, .slice none 0 0, .string ⟨#[105, 110, 112, 117, 116]⟩, .string ⟨#[]⟩, .slice (some ⟨w.heap.size, 0, none⟩) 2 2, .int .i64 0, .slice none 0 0] 44)).heap.size = w.heap.size + 1 + 1 + 1 := bk_nextG s2
  have k1 : Bk (w.alloc (.cells #[.string ⟨#[116, 121, 112, 101]⟩, .string ⟨#[114, 97, 100, 105, 111]⟩, .string ⟨#[110, 97, 109, 101]⟩, .string ⟨#[97]⟩] 41)) w.heap.size [.string ⟨#[116, 121, 112, 101]⟩, .string ⟨#[114, 97, 100, 105, 111]⟩, .string ⟨#[110, 97, 109, 101]⟩, .string ⟨#[97]⟩] 41 := bk_atG rfl
  have k2 : Bk ((w.alloc (.cells #[.string ⟨#[116, 121, 112, 101]⟩, .string ⟨#[114, 97, 100, 105, 111]⟩, .string ⟨#[110, 97, 109, 101]⟩, .string ⟨#[97]⟩] 41)).alloc (.cells #[.int .i64 1, .int .i64 2] 3)) (w.heap.size + 1) [.int .i64 1, .int .i64 2] 3 := bk_atG s1
  have k3 : Bk (((w.alloc (.cells #[.string ⟨#[116, 121, 112, 101]⟩, .string ⟨#[114, 97, 100, 105, 111]⟩, .string ⟨#[110, 97, 109, 101]⟩, .string ⟨#[97]⟩] 41)).alloc (.cells #[.int .i64 1, .int .i64 2] 3)).alloc (.cells #[.string ⟨#[104, 116, 109, 108]⟩, .string ⟨#[]⟩, .slice none 0 0, .int .i64 (-1), .slice (some ⟨w.heap.size + 1, 0, none⟩) 2 2, .string ⟨#[105, 110, 112, 117, 116]⟩, .string ⟨#[]⟩, .slice (some ⟨w.heap.size, 0, none⟩) 2 2, .int .i64 0, .slice none 0 0, .string ⟨#[105, 110, 112, 117, 116]⟩, .string ⟨#[]⟩, .slice (some ⟨w.heap.size, 0, none⟩) 2 2, .int .i64 0, .slice none 0 0] 44)) (w.heap.size + 1 + 1) [.string ⟨#[104, 116, 109, 108]⟩, .string ⟨#[]⟩, .slice none 0 0, .int .i64 (-1), .slice (some ⟨w.heap.size + 1, 0, none⟩) 2 2, .string ⟨#[105, 110, 112, 117, 116]⟩, .string ⟨#[]⟩, .slice (some ⟨w.heap.size, 0, none⟩) 2 2, .int .i64 0, .slice none 0 0, .string ⟨#[105, 110, 112, 117, 116]⟩, .string ⟨#[]⟩, .slice (some ⟨w.heap.size, 0, none⟩) 2 2, .int .i64 0, .slice none 0 0] 44 := bk_atG s2
  have k4 : Bk ((((w.alloc (.cells #[.string ⟨#[116, 121, 112, 101]⟩, .string ⟨#[114, 97, 100, 105, 111]⟩, .string ⟨#[110, 97, 109, 101]⟩, .string ⟨#[97]⟩] 41)).alloc (.cells #[.int .i64 1, .int .i64 2] 3)).alloc (.cells #[.string ⟨#[104, 116, 109, 108]⟩, .string ⟨#[]⟩, .slice none 0 0, .int .i64 (-1), .slice (some ⟨w.heap.size + 1, 0, none⟩) 2 2, .string ⟨#[105, 110, 112, 117, 116]⟩, .string ⟨#[]⟩, .slice (some ⟨w.heap.size, 0, none⟩) 2 2, .int .i64 0, .slice none 0 0, .string ⟨#[105, 110, 112, 117, 116]⟩, .string ⟨#[]⟩, .slice (some ⟨w.heap.size, 0, none⟩) 2 2, .int .i64 0, .slice none 0 0] 44)).alloc (.cells #[.string ⟨#[]⟩, .bool false, .bool false, .bool false, .bool false, .bool false, .bool false, .bool false, .string ⟨#[]⟩, .slice none 0 0, .string ⟨#[]⟩, .bool false, .bool false, .bool true, .bool false, .bool false, .bool false, .bool false, .string ⟨#[]⟩, .slice none 0 0, .string ⟨#[]⟩, .bool false, .bool false, .bool false, .bool false, .bool false, .bool false, .bool false, .string ⟨#[]⟩, .slice none 0 0] 47)) (w.heap.size + 1 + 1 + 1) [.string ⟨#[]⟩, .bool false, .bool false, .bool false, .bool false, .bool false, .bool false, .bool false, .string ⟨#[]⟩, .slice none 0 0, .string ⟨#[]⟩, .bool false, .bool false, .bool true, .bool false, .bool false, .bool false, .bool false, .string ⟨#[]⟩, .slice none 0 0, .string ⟨#[]⟩, .bool false, .bool false, .bool false, .bool false, .bool false, .bool false, .bool false, .string ⟨#[]⟩, .slice none 0 0] 47 := bk_atG s3
  have b1 : Below w.heap.size w (w.alloc (.cells #[.string ⟨#[116, 121, 112, 101]⟩, .string ⟨#[114, 97, 100, 105, 111]⟩, .string ⟨#[110, 97, 109, 101]⟩, .string ⟨#[97]⟩] 41)) := (Below.refl _ w).alloc (Nat.le_refl _) _
  have b2 : Below (w.alloc (.cells #[.string ⟨#[116, 121, 112, 101]⟩, .string ⟨#[114, 97, 100, 105, 111]⟩, .string ⟨#[110, 97, 109, 101]⟩, .string ⟨#[97]⟩] 41)).heap.size (w.alloc (.cells #[.string ⟨#[116, 121, 112, 101]⟩, .string ⟨#[114, 97, 100, 105, 111]⟩, .string ⟨#[110, 97, 109, 101]⟩, .string ⟨#[97]⟩] 41)) ((w.alloc (.cells #[.string ⟨#[116, 121, 112, 101]⟩, .string ⟨#[114, 97, 100, 105, 111]⟩, .string ⟨#[110, 97, 109, 101]⟩, .string ⟨#[97]⟩] 41)).alloc (.cells #[.int .i64 1, .int .i64 2] 3)) := (Below.refl _ _).alloc (Nat.le_refl _) _
  have b3 : Below ((w.alloc (.cells #[.string ⟨#[116, 121, 112, 101]⟩, .string ⟨#[114, 97, 100, 105, 111]⟩, .string ⟨#[110, 97, 109, 101]⟩, .string ⟨#[97]⟩] 41)).alloc (.cells #[.int .i64 1, .int .i64 2] 3)).heap.size ((w.alloc (.cells #[.string ⟨#[116, 121, 112, 101]⟩, .string ⟨#[114, 97, 100, 105, 111]⟩, .string ⟨#[110, 97, 109, 101]⟩, .string ⟨#[97]⟩] 41)).alloc (.cells #[.int .i64 1, .int .i64 2] 3)) (((w.alloc (.cells #[.string ⟨#[116, 121, 112, 101]⟩, .string ⟨#[114, 97, 100, 105, 111]⟩, .string ⟨#[110, 97, 109, 101]⟩, .string ⟨#[97]⟩] 41)).alloc (.cells #[.int .i64 1, .int .i64 2] 3)).alloc (.cells #[.string ⟨#[104, 116, 109, 108]⟩, .string ⟨#[]⟩, .slice none 0 0, .int .i64 (-1), .slice (some ⟨w.heap.size + 1, 0, none⟩) 2 2, .string ⟨#[105, 110, 112, 117, 116]⟩, .string ⟨#[]⟩, .slice (some ⟨w.heap.size, 0, none⟩) 2 2, .int .i64 0, .slice none 0 0, .string ⟨#[105, 110, 112, 117, 116]⟩, .string ⟨#[]⟩, .slice (some ⟨w.heap.size, 0, none⟩) 2 2, .int .i64 0, .slice none 0 0] 44)) := (Below.refl _ _).alloc (Nat.le_refl _) _
  have b4 : Below (((w.alloc (.cells #[.string ⟨#[116, 121, 112, 101]⟩, .string ⟨#[114, 97, 100, 105, 111]⟩, .string ⟨#[110, 97, 109, 101]⟩, .string ⟨#[97]⟩] 41)).alloc (.cells #[.int .i64 1, .int .i64 2] 3)).alloc (.cells #[.string ⟨#[104, 116, 109, 108]⟩, .string ⟨#[]⟩, .slice none 0 0, .int .i64 (-1), .slice (some ⟨w.heap.size + 1, 0, none⟩) 2 2, .string ⟨#[105, 110, 112, 117, 116]⟩, .string ⟨#[]⟩, .slice (some ⟨w.heap.size, 0, none⟩) 2 2, .int .i64 0, .slice none 0 0, .string ⟨#[105, 110, 112, 117, 116]⟩, .string ⟨#[]⟩, .slice (some ⟨w.heap.size, 0, none⟩) 2 2, .int .i64 0, .slice none 0 0] 44)).heap.size (((w.alloc (.cells #[.string ⟨#[116, 121, 112, 101]⟩, .string ⟨#[114, 97, 100, 105, 111]⟩, .string ⟨#[110, 97, 109, 101]⟩, .string ⟨#[97]⟩] 41)).alloc (.cells #[.int .i64 1, .int .i64 2] 3)).alloc (.cells #[.string ⟨#[104, 116, 109, 108]⟩, .string ⟨#[]⟩, .slice none 0 0, .int .i64 (-1), .slice (some ⟨w.heap.size + 1, 0, none⟩) 2 2, .string ⟨#[105, 110, 112, 117, 116]⟩, .string ⟨#[]⟩, .slice (some ⟨w.heap.size, 0, none⟩) 2 2, .int .i64 0, .slice none 0 0, .string ⟨#[105, 110, 112, 117, 116]⟩, .string ⟨#[]⟩, .slice (some ⟨w.heap.size, 0, none⟩) 2 2, .int .i64 0, .slice none 0 0] 44)) ((((w.alloc (.cells #[.string ⟨#[116, 121, 112, 101]⟩, .string ⟨#[114, 97, 100, 105, 111]⟩, .string ⟨#[110, 97, 109, 101]⟩, .string ⟨#[97]⟩] 41)).alloc (.cells #[.int .i64 1, .int .i64 2] 3)).alloc (.cells #[.string ⟨#[104, 116, 109, 108]⟩, .string ⟨#[]⟩, .slice none 0 0, .int .i64 (-1), .slice (some ⟨w.heap.size + 1, 0, none⟩) 2 2, .string ⟨#[105, 110, 112, 117, 116]⟩, .string ⟨#[]⟩, .slice (some ⟨w.heap.size, 0, none⟩) 2 2, .int .i64 0, .slice none 0 0, .string ⟨#[105, 110, 112, 117, 116]⟩, .string ⟨#[]⟩, .slice (some ⟨w.heap.size, 0, none⟩) 2 2, .int .i64 0, .slice none 0 0] 44)).alloc (.cells #[.string ⟨#[]⟩, .bool false, .bool false, .bool false, .bool false, .bool false, .bool false, .bool false, .string ⟨#[]⟩, .slice none 0 0, .string ⟨#[]⟩, .bool false, .bool false, .bool true, .bool false, .bool false, .bool false, .bool false, .string ⟨#[]⟩, .slice none 0 0, .string ⟨#[]⟩, .bool false, .bool false, .bool false, .bool false, .bool false, .bool false, .bool false, .string ⟨#[]⟩, .slice none 0 0] 47)) := (Below.refl _ _).alloc (Nat.le_refl _) _
  exact ⟨⟨gp_doc (((k1.below b2).below b3).below b4) ((k2.below b3).below b4) (k3.below b4), gp_cts k4⟩, chain (chain (chain b1 b2) b3) b4⟩
theorem ints_12 (w : World) : IntsV (w.alloc (.cells #[.int .i64 1, .int .i64 2] 3)) (.slice (some ⟨w.heap.size, 0, none⟩) 2 2) [1, 2] := ⟨_, 2, rfl, .inr ⟨w.heap.size, 0, rfl, fun j hj => by
  match j, hj with
  | 0, _ => exact (Bk.new w [.int .i64 1, .int .i64 2] 3).cell 0 rfl
  | 1, _ => exact (Bk.new w [.int .i64 1, .int .i64 2] 3).cell 1 rfl⟩⟩
theorem dr_below (w : World) (n : Nat) : Below w.heap.size w (w.drewN n) := ⟨rfl, rfl, rfl, Nat.le_refl _, fun _ _ => rfl⟩
theorem cts_chkG {w : World} {v : Value} {C : List Ct} (h : CtsV w v C) (h0 : 0 < C.length) : ∃ b o k, v = .slice (some ⟨b, o, none⟩) C.length k ∧ ∀ i (hi : i < C.length), w.cell? ⟨b, o + i * 10 + 3, none⟩ = some (.bool C[i].chk) := by
  obtain ⟨F, _, p, k, e, h⟩ := h
  rcases h with h | ⟨b, o, rfl, h⟩
  · rw [h] at h0; cases h0
  · exact ⟨b, o, k, e, fun i hi => h i hi 3 _ rfl⟩
set_option maxHeartbeats 8000000 in
theorem gpWakes_any (w : World) (hT : GpTabs w) :
    Calls Tryd.prog 5 #[] w fun e w' => e = .returned (.bool true) ∧ Below w.heap.size w w' := by
  have EW := hide (gp_world w)
  have H1 := hide (fun nv cv W (hb : Below w.heap.size w W) (hd : DocV W nv cv gpL gpC) => gpCheck_any nv cv gpL gpC 2 true W hd gp_sz gp_ok (hT.below hb))
  have H2 := hide (fun v W (hb : Below w.heap.size w W) (hv : NodesV W v gpL) => gpMembers_any v gpL 1 W hv gp_sz (hT.below hb))
  rw [gp_chk] at H1
  rw [gp_mem] at H2
  have H5 := hide (fun va vb W (ha : IntsV W va [1, 2]) (hb : IntsV W vb [1, 2]) => refSameInts_any va vb [1, 2] [1, 2] W ha hb (by decide))
  rw [show decide (([1, 2] : List Int) = [1, 2]) = true from by decide] at H5
  clear hT
  go_enter Tryd.func5, Tryd.ntmps5
  go_wp2_with fail
  refine (H1.out _ _ _ EW.out.2 EW.out.1).mono ?_
  rintro e w1 ⟨v1, rfl, g1, b1⟩
  have N1 := hide (EW.out.1.nds.below b1)
  have B1 := hide (chain EW.out.2 b1)
  have G1 := hide g1
  obtain ⟨cb, co, ck, rfl, _⟩ := cts_chkG g1 (by decide)
  clear EW b1 g1
  go_wp2_with fail
  refine (H2.out _ _ B1.out N1.out).mono ?_
  rintro e w2 ⟨v2, rfl, i2, b2⟩
  have B2 := hide (chain B1.out b2)
  have G2 := hide (G1.out.below b2)
  have AL : Hid (Below w2.heap.size w2 (w2.alloc (.cells #[.int .i64 1, .int .i64 2] 3))) := (Below.refl _ w2).alloc (Nat.le_refl _) _
  have I2 := hide (i2.below AL.out)
  have J2 := hide (ints_12 w2)
  obtain ⟨p2, k2, rfl, _⟩ := i2
  go_wp2_with fail
  refine (H5.out _ _ _ I2.out J2.out).mono ?_
  rintro e u ⟨rfl, nn, rfl⟩
  have DN := hide (dr_below (w2.alloc (.cells #[.int .i64 1, .int .i64 2] 3)) nn)
  obtain ⟨_, _, _, ea, ha⟩ := cts_chkG ((G2.out.below AL.out).below DN.out) (by decide)
  cases ea
  have a1 := ha 1 (by decide)
  have a2 := ha 2 (by decide)
  simp only [List.getElem_cons_succ, List.getElem_cons_zero] at a1 a2
  rw [show ct0.chk = false from rfl] at a1
  have BE := hide (chain (chain B2.out AL.out) DN.out)
  clear ha G2 AL DN I2 J2 G1 N1 B1 B2 H1 H2 H5 b2
  go_wp2_with fail
  go_ret
  exact ⟨rfl, BE.out⟩

end Go.Proofs.YtldbaoolddlacaaDoor
