/- Radio buttons that stand together. The program's way to groups of radio buttons. The program's Settle, One of layer 17. The document's Settle, One of layer 17. Stage 17's own copied. Stage 17's laws GroupSettles, GroupKeeps, walked. -/
import Derived.Test.YtldbaoolddlacaaGreatDoorJgz36
import Derived.Test.YtldbaoolddlacaaGreatDoorJgz40
import Derived.Test.YtldbaoolddlacaaGreatDoorJgz41

namespace Go.Proofs.YtldbaoolddlacaaGreatDoor
open Go.RowKit
/-- States: the last one that is checked; how many are. -/
def lastK (C : List Ct) (all : List Int) : Int := (all.filter fun i => (st C i).chk).getLast?.getD (-1)
/-- What settling makes of them. -/
def setF (l : List Nd) (C : List Ct) (i : Int) (c : Ct) : Ct := if 0 ≤ lastK C (membersP l i) ∧ c.chk = true then { c with chk := decide (i = lastK C (membersP l i)) } else c
def settleC (l : List Nd) (C : List Ct) : List Ct := C.mapIdx fun i c => setF l C (i : Int) c
def settleO (l : List Nd) (C : List Ct) : List Ct := if rightD l C = true then settleC l C else []
theorem last_memK {C : List Ct} {all : List Int} (h : 0 ≤ lastK C all) : lastK C all ∈ all ∧ (st C (lastK C all)).chk = true := by
  unfold lastK at *
  cases e : (all.filter fun i => (st C i).chk).getLast? with
  | none => rw [e] at h; simp at h
  | some x => exact List.mem_filter.1 (List.mem_of_getLast? e)
theorem last_hasK {C : List Ct} {all : List Int} (hp : ∀ i ∈ all, 0 ≤ i) {x : Int} (hx : x ∈ all) (hc : (st C x).chk = true) : 0 ≤ lastK C all := by
  unfold lastK
  have m : x ∈ all.filter fun i => (st C i).chk := List.mem_filter.2 ⟨hx, hc⟩
  cases e : (all.filter fun i => (st C i).chk).getLast? with
  | none =>
    rw [List.getLast?_eq_none_iff] at e
    rw [e] at m; cases m
  | some y => exact hp y (List.mem_filter.1 (List.mem_of_getLast? e)).1
theorem settle_len (l : List Nd) (C : List Ct) : (settleC l C).length = C.length := by simp [settleC]
theorem st_settle {l : List Nd} {C : List Ct} {i : Int} (h0 : 0 ≤ i) (hi : i < (C.length : Int)) : st (settleC l C) i = setF l C i (st C i) := by
  have hn : i.toNat < C.length := by omega
  have e : ((i.toNat : Nat) : Int) = i := by omega
  unfold st settleC
  rw [List.getD_eq_getElem?_getD, List.getElem?_eq_getElem (by simpa using hn), Option.getD_some, List.getElem_mapIdx, List.getD_eq_getElem?_getD, List.getElem?_eq_getElem hn, Option.getD_some, e]
/-- Behind settling only the last one of a group is checked. -/
theorem settle_chk {l : List Nd} {C : List Ct} (h : Right l) (hl : C.length = l.length) {i k : Int} (hk : k ∈ membersP l i) : (st (settleC l C) k).chk = (decide (k = lastK C (membersP l i)) && (st C k).chk) := by
  have m := (mem_mem h).1 hk
  rw [st_settle m.2.1.1 (by rw [hl]; exact m.2.1.2)]
  unfold setF
  rw [mem_same h hk]
  cases hc : (st C k).chk with
  | true =>
    have := last_hasK (C := C) (all := membersP l i) (fun x hx => ((mem_mem h).1 hx).2.1.1) hk hc
    rw [if_pos ⟨this, rfl⟩, Bool.and_true]
  | false =>
    rw [if_neg (fun t => by cases t.2), hc, Bool.and_false]
theorem settle_one {l : List Nd} {C : List Ct} (h : Right l) (hl : C.length = l.length) : oneB l (settleC l C) = true := by
  unfold oneB
  rw [List.all_eq_true]
  intro i _
  refine decide_eq_true ?_
  unfold cntK
  refine filter_one (p := lastK C (membersP l (i : Int))) (mem_nodup h) (fun x hx q => ?_)
  rw [settle_chk h hl hx, Bool.and_eq_true, decide_eq_true_eq] at q
  exact q.1
theorem settle_right {l : List Nd} {C : List Ct} (h : rightD l C = true) : rightD l (settleC l C) = true := by
  unfold rightD at h ⊢
  rw [settle_len]; exact h
theorem settle_again {l : List Nd} {C : List Ct} (h : Right l) (hl : C.length = l.length) : settleC l (settleC l C) = settleC l C := by
  apply List.ext_getElem (settle_len ..)
  intro i h1 h2
  have hi : i < C.length := by rw [settle_len] at h2; exact h2
  have e : (settleC l (settleC l C))[i] = setF l (settleC l C) (i : Int) (settleC l C)[i] := by simp [settleC]
  rw [e]
  unfold setF
  split
  · rename_i q
    obtain ⟨q0, q1⟩ := q
    have e2 : (settleC l C)[i] = st (settleC l C) (i : Int) := by
      unfold st
      rw [Int.toNat_natCast, List.getD_eq_getElem?_getD, List.getElem?_eq_getElem h2, Option.getD_some]
    by_cases hk : isK l (i : Int) 17 = true
    · have ms := mem_self h hk
      rw [e2, settle_chk h hl ms, Bool.and_eq_true, decide_eq_true_eq] at q1
      have lm := last_memK q0
      rw [settle_chk h hl lm.1, Bool.and_eq_true, decide_eq_true_eq] at lm
      have : (i : Int) = lastK (settleC l C) (membersP l (i : Int)) := q1.1.trans lm.2.1.symm
      rw [decide_eq_true this]
      have c1 : (settleC l C)[i].chk = true := by rw [e2, settle_chk h hl ms, ← q1.1, decide_eq_true rfl, q1.2]; rfl
      rw [← c1]
    · exfalso
      have : membersP l (i : Int) = [] := if_neg hk
      rw [this] at q0
      have q1 : (0 : Int) ≤ -1 := q0
      omega
  · rfl
end Go.Proofs.YtldbaoolddlacaaGreatDoor

namespace Go.Proofs.YtldbaoolddlacaaGreatDoor
open Go.RowKit
theorem grp_one {l : List Nd} {ys : List Int} {a b : Nat} (ha : a < (grpG l ys).length) (hb : b < (grpG l ys).length) {x : Int} (h1 : x ∈ (grpG l ys)[a]) (h2 : x ∈ (grpG l ys)[b]) : a = b := by
  have a' : a < (keysG l ys).length := by rw [← grp_len]; exact ha
  have b' : b < (keysG l ys).length := by rw [← grp_len]; exact hb
  have k1 := ((grp_key a').1 h1).2
  have k2 := ((grp_key b').1 h2).2
  exact (List.getElem_inj keys_nodup).1 (k1.symm.trans k2)
theorem all_one {l : List Nd} {a b : Nat} (ha : a < (allG l).length) (hb : b < (allG l).length) {x : Int} (h1 : x ∈ (allG l)[a]) (h2 : x ∈ (allG l)[b]) : a = b := grp_one ha hb h1 h2
theorem settle_step {l : List Nd} {C : List Ct} (h : Right l) (hl : C.length = l.length) {j : Nat} (hj : j < (allG l).length) :
    updP (setF l C) ((allG l).take (j + 1)).flatten C = if 1 < ((allG l)[j].filter fun i => (st (updP (setF l C) ((allG l).take j).flatten C) i).chk).length then
        updP (chkF (((allG l)[j].filter fun i => (st (updP (setF l C) ((allG l).take j).flatten C) i).chk).getLast?.getD (-1))) ((allG l)[j].filter fun i => (st (updP (setF l C) ((allG l).take j).flatten C) i).chk) (updP (setF l C) ((allG l).take j).flatten C)
      else updP (setF l C) ((allG l).take j).flatten C := by
  have hg := List.getElem_mem hj
  have ng : ∀ x ∈ (allG l)[j], x ∉ ((allG l).take j).flatten := fun x hx q => by
    obtain ⟨g, hg1, hg2⟩ := List.mem_flatten.1 q
    obtain ⟨i, hi, rfl⟩ := List.getElem_of_mem hg1
    rw [List.length_take] at hi
    rw [List.getElem_take] at hg2
    have := all_one hj (by omega) hx hg2
    omega
  have es : ∀ x ∈ (allG l)[j], st (updP (setF l C) ((allG l).take j).flatten C) x = st C x := fun x hx => by
    have r := all_rng h hg hx
    rw [st_upd r.1 (by omega), if_neg (ng x hx)]
  have ef : ((allG l)[j].filter fun i => (st (updP (setF l C) ((allG l).take j).flatten C) i).chk) = (allG l)[j].filter fun i => (st C i).chk := filter_in fun x hx => by rw [es x hx]
  rw [ef]
  have el : (((allG l)[j].filter fun i => (st C i).chk).getLast?.getD (-1)) = lastK C (allG l)[j] := rfl
  rw [el]
  have tk : ((allG l).take (j + 1)).flatten = ((allG l).take j).flatten ++ (allG l)[j] := by
    rw [List.take_add_one, List.flatten_append, List.getElem?_eq_getElem hj]
    simp
  rw [tk]
  have lm : ∀ i : Nat, (i : Int) ∈ (allG l)[j] → lastK C (membersP l (i : Int)) = lastK C (allG l)[j] := fun i hi => by rw [all_find h hj hi]
  by_cases q : 1 < ((allG l)[j].filter fun i => (st C i).chk).length
  · rw [if_pos q]
    refine List.ext_getElem (by rw [updC_len, updC_len, updC_len]) fun i h1 h2 => ?_
    have hi : i < C.length := by rw [updC_len] at h1; exact h1
    have sti : st C (i : Int) = C[i] := by unfold st; rw [Int.toNat_natCast, List.getD_eq_getElem?_getD, List.getElem?_eq_getElem hi]; rfl
    rw [upd_at hi, upd_at (by rw [updC_len]; exact hi), upd_at hi]
    by_cases m : (i : Int) ∈ (allG l)[j]
    · rw [if_pos (List.mem_append.2 (.inr m)), if_neg (ng _ m)]
      have e0 : 0 ≤ lastK C (allG l)[j] := by
        obtain ⟨x, hx⟩ : ∃ x, x ∈ (allG l)[j].filter fun i => (st C i).chk := by
          cases e : (allG l)[j].filter fun i => (st C i).chk with
          | nil => rw [e] at q; simp at q
          | cons x xs => exact ⟨x, List.mem_cons_self⟩
        obtain ⟨a, b⟩ := List.mem_filter.1 hx
        exact last_hasK (fun i hi => (all_rng h hg hi).1) a b
      unfold setF
      rw [lm i m]
      by_cases c : C[i].chk = true
      · rw [if_pos ⟨e0, c⟩, if_pos (List.mem_filter.2 ⟨m, by rw [sti]; exact c⟩)]
        rfl
      · rw [if_neg (fun t => c t.2), if_neg (fun t => c (by have := (List.mem_filter.1 t).2; rw [sti] at this; exact this))]
    · rw [if_neg (fun t => m (List.mem_filter.1 t).1)]
      by_cases m2 : (i : Int) ∈ ((allG l).take j).flatten
      · rw [if_pos (List.mem_append.2 (.inl m2)), if_pos m2]
      · rw [if_neg (fun t => (List.mem_append.1 t).elim m2 m), if_neg m2]
  · rw [if_neg q]
    refine List.ext_getElem (by rw [updC_len, updC_len]) fun i h1 h2 => ?_
    have hi : i < C.length := by rw [updC_len] at h1; exact h1
    have sti : st C (i : Int) = C[i] := by unfold st; rw [Int.toNat_natCast, List.getD_eq_getElem?_getD, List.getElem?_eq_getElem hi]; rfl
    rw [upd_at hi, upd_at hi]
    by_cases m : (i : Int) ∈ (allG l)[j]
    · rw [if_pos (List.mem_append.2 (.inr m)), if_neg (ng _ m)]
      unfold setF
      rw [lm i m]
      by_cases c : C[i].chk = true
      · have mi : (i : Int) ∈ (allG l)[j].filter fun i => (st C i).chk := List.mem_filter.2 ⟨m, by rw [sti]; exact c⟩
        have e1 : lastK C (allG l)[j] = (i : Int) := by
          unfold lastK
          match hx : (allG l)[j].filter fun i => (st C i).chk with
          | [] => rw [hx] at mi; cases mi
          | [x] =>
            rw [hx] at mi
            rw [List.mem_singleton] at mi
            rw [mi]; rfl
          | x :: y :: r => rw [hx] at q; simp at q
        split
        · rw [e1, decide_eq_true rfl]
          cases hc : C[i] with
          | mk a b d e f g h k m n => rw [hc] at c; simp only at c; subst c; rfl
        · rfl
      · rw [if_neg (fun t => c t.2)]
    · by_cases m2 : (i : Int) ∈ ((allG l).take j).flatten
      · rw [if_pos (List.mem_append.2 (.inl m2)), if_pos m2]
      · rw [if_neg (fun t => (List.mem_append.1 t).elim m2 m), if_neg m2]
theorem settle_all {l : List Nd} {C : List Ct} (h : Right l) (_hl : C.length = l.length) : updP (setF l C) ((allG l).take (allG l).length).flatten C = settleC l C := by
  rw [List.take_length]
  refine List.ext_getElem (by rw [updC_len, settle_len]) fun i h1 h2 => ?_
  have hi : i < C.length := by rw [updC_len] at h1; exact h1
  have e : (settleC l C)[i] = setF l C (i : Int) C[i] := by simp [settleC]
  rw [upd_at hi, e]
  by_cases k : isK l (i : Int) 17 = true
  · rw [if_pos (List.mem_flatten.2 ⟨_, all_has k, mem_self h k⟩)]
  · rw [if_neg]
    · unfold setF membersP
      rw [if_neg k, if_neg]
      intro t
      have := t.1
      simp [lastK] at this
    · intro t
      obtain ⟨g, a, b⟩ := List.mem_flatten.1 t
      exact k (all_of h a b).1
end Go.Proofs.YtldbaoolddlacaaGreatDoor

namespace Go.Proofs.YtldbaoolddlacaaGreatDoor
open Go.RowKit
set_option maxRecDepth 100000
theorem setFG_files (l : List Nd) (C : List Ct) (i : Int) (c : Ct) : (setF l C i c).files = c.files := by unfold setF; split <;> rfl
theorem updS_files {l : List Nd} {C : List Ct} {S : List Int} : (updP (setF l C) S C).length = C.length ∧ ∀ i (_ : i < C.length) (_ : i < (updP (setF l C) S C).length), (updP (setF l C) S C)[i].files = C[i].files :=
  ⟨updC_len .., fun i h1 _ => by
    rw [upd_at h1]
    split
    · exact setFG_files ..
    · rfl⟩
set_option maxHeartbeats 8000000 in
theorem gpSettle_any (nv cv : Value) (l : List Nd) (C : List Ct) (w : World) (hD : DocV w nv cv l C) (hz : DocSz l) (hC : CsOK C) (hT : KTabs w) :
    Calls Tryz.prog 6 #[.agg #[nv, cv]] w fun e w' => ∃ v', e = .returned v' ∧ CtsV w' v' (settleO l C) ∧ Below w.heap.size w w' := by
  obtain ⟨pn, kn, rfl⟩ := nds_formW hD.nds
  obtain ⟨pc, kc, rfl⟩ := cts_formG hD.cts
  have B0 : Hid (Below w.heap.size w (w.alloc (.cells #[.slice pn l.length kn, .slice pc C.length kc] 25))) := (Below.refl _ w).alloc (Nat.le_refl _) _
  have K0 := hide (Bk.new w [.slice pn l.length kn, .slice pc C.length kc] 25)
  have HRt := hide (fun W (hb : Below w.heap.size w W) => opRightG_any _ _ l C W (hD.below hb) hz)
  have HF := hide (fun W (hb : Below w.heap.size w W) => freshCtls_any _ C W (hD.cts.below hb) hC)
  have c0 := K0.out.cell 0 rfl
  have c1 := K0.out.cell 1 rfl
  cases rd : rightD l C with
  | false =>
    have E : Hid (settleO l C = []) := by show _ = _; unfold settleO; rw [rd]; rfl
    rw [rd] at HRt
    clear HF hz hC hT hD rd
    go_enter Tryz.func6, Tryz.ntmps6
    go_wp2_with fail
    refine (HRt.out _ B0.out).mono ?_
    rintro e w1 ⟨rfl, b1⟩
    go_wp2_with fail
    go_ret
    exact ⟨_, rfl, by rw [E.out]; exact cts_nil _, chain B0.out b1⟩
  | true =>
    have E : Hid (settleO l C = settleC l C) := by show _ = _; unfold settleO; rw [rd]; rfl
    rw [rd] at HRt
    obtain ⟨hR, hlC⟩ := rightD_is rd
    have HG := hide (fun W (hb : Below w.heap.size w W) => gpGroups_any _ l W (hD.nds.below hb) hz (hT.below hb) hR)
    have ST := hide (fun j hj => settle_step (C := C) hR hlC.symm (j := j) hj)
    have SA := hide (settle_all (C := C) hR hlC.symm)
    have FL := hide (fun j => updS_files (l := l) (C := C) (S := ((allG l).take j).flatten))
    have GR : Hid (∀ k (h : k < (allG l).length), ∀ i ∈ (allG l)[k], 0 ≤ i ∧ i < (C.length : Int)) := fun k h i hi => by
      have := all_rng hR (List.getElem_mem h) hi
      omega
    have GS : Hid (∀ k (h : k < (allG l).length), ¬ (allG l)[k] = []) := fun k h => all_some hR (List.getElem_mem h)
    have GN : Hid (∀ k (h : k < (allG l).length), ((allG l)[k]).Nodup) := fun k h => allG_nodup hR (List.getElem_mem h)
    have GE : Hid (∀ k (h : k < (allG l).length), (allG l)[k].length ≤ 400) := fun k h => Nat.le_trans (all_few hR (List.getElem_mem h)) hR.len.2
    have GLn : (allG l).length ≤ 160000 := by
      show (grpG l (idsG l l.length)).length ≤ _
      rw [grp_len]
      exact Nat.le_trans (keys_few _) (Nat.le_trans (ids_len hR _ (Nat.le_refl _)) (by have := hR.len.2; omega))
    have U0 : Hid (updP (setF l C) ((allG l).take 0).flatten C = C) := by show _ = _; rw [List.take_zero]; exact upd_nil _ _
    clear hz hC hT hD rd hR hlC
    generalize allG l = GG at *
    go_enter Tryz.func6, Tryz.ntmps6
    go_wp2_with fail
    refine (HRt.out _ B0.out).mono ?_
    rintro e w1 ⟨rfl, b1⟩
    have B1 := hide (chain B0.out b1)
    replace K0 := hide (K0.out.below b1)
    clear c0 c1
    have c0 := K0.out.cell 0 rfl
    have c1 := K0.out.cell 1 rfl
    clear b1 B0 HRt
    go_wp2_with fail
    refine (HF.out _ B1.out).mono ?_
    rintro e w2 ⟨ov, F, rfl, O2, F2, b2⟩
    obtain ⟨po, ko, rfl⟩ := O2.formG
    have hs2 := B1.out.size
    replace O2 := hide O2
    replace F2 := hide F2
    have B2 := hide (chain B1.out b2)
    replace K0 := hide (K0.out.below b2)
    clear c0 c1
    have c0 := K0.out.cell 0 rfl
    have c1 := K0.out.cell 1 rfl
    clear b2 B1 HF
    go_wp2_with fail
    refine (HG.out _ B2.out).mono ?_
    rintro e w3 ⟨q3, k3, V, rfl, RO, b3⟩
    have O3 : Hid (CtsO w1.heap.size w3 (.slice po C.length ko) (updP (setF l C) (GG.take 0).flatten C) F) := by show CtsO _ _ _ _ _; rw [U0.out]; exact O2.out.kept b3
    have F3 := hide (F2.out.below b3)
    have B3 := hide (chain B2.out b3)
    have R3 := hide RO
    have RB : Hid (∀ k, (Value.slice po C.length ko).ownBlock = some k → w1.heap.size ≤ k ∧ k < w2.heap.size) := fun k hk => World.ownsRow.lt O2.out.row k hk
    clear RO b3 HG B2 O2 F2 K0 c0 c1 U0
    go_wp2_with fail
    go_loopw [17] (fun iv wr => ∃ k : Nat, k ≤ GG.length ∧ iv = .int .i64 k ∧ Hid (CtsO w1.heap.size wr (.slice po C.length ko) (updP (setF l C) (GG.take k).flatten C) F) ∧ Hid (FsO w1.heap.size wr C F) ∧ Hid (RowsO w2.heap.size wr (.slice q3 GG.length k3) GG V) ∧ Hid (Below w.heap.size w wr)) (fun iv _ => GG.length - (intOf iv).toNat)
    case atStart => exact ⟨0, Nat.zero_le _, rfl, O3, F3, R3, B3⟩
    case round =>
      rename World => wr
      obtain ⟨k, hk, rfl, OW, FW, RW, BW⟩ := hrel
      clear O3 F3 R3 B3
      by_cases h : k < GG.length
      · have i1 : (k : Int) < (GG.length : Int) := by omega
        have i0 : (0 : Int) ≤ (k : Int) := by omega
        have ST1 := hide (ST.out k h)
        have DL : (updP (setF l C) (GG.take k).flatten C).length = C.length := updC_len ..
        have CV : CtsV wr (.slice po C.length ko) (updP (setF l C) (GG.take k).flatten C) := OW.out.cts (FW.out.files.other (FL.out k).1 (FL.out k).2)
        obtain ⟨g, cpg, ev, eb, _⟩ := owns_at RW.out.row (by omega)
        obtain ⟨rfl, rfl⟩ : q3 = some ⟨g, 0, none⟩ ∧ k3 = cpg := by cases ev; exact ⟨rfl, rfl⟩
        have KA := RW.out.at_ k h
        obtain ⟨pv, cvv, evp⟩ := KA.formG
        have x0 : wr.cell? ⟨g, k, none⟩ = some (.slice pv GG[k].length cvv) := by rw [← evp]; exact owns_cell RW.out.row rfl (vAt_at (by rw [RW.out.len]; exact h))
        rw [evp] at KA
        have gr := GR.out k h
        have gs := GS.out k h
        have gn := GN.out k h
        have ge := GE.out k h
        obtain ⟨gk, hgk⟩ : ∃ gk, GG[k] = gk := ⟨_, rfl⟩
        rw [hgk] at x0 KA gr gs gn ge ST1
        obtain ⟨DD, hDD⟩ : ∃ DD, updP (setF l C) (GG.take k).flatten C = DD := ⟨_, rfl⟩
        rw [hDD] at ST1 DL CV OW
        have HCh := hide (gpChecked_any _ _ DD gk wr CV KA.ints (by rw [DL]; exact gr) gs (by omega))
        have FS : Hid ((gk.filter fun i => (st DD i).chk).length ≤ 400 ∧ (∀ i ∈ gk.filter fun i => (st DD i).chk, 0 ≤ i ∧ i < (DD.length : Int)) ∧ (gk.filter fun i => (st DD i).chk).Nodup) := ⟨Nat.le_trans (List.length_filter_le _ _) ge, fun i hi => by rw [DL]; exact gr i (List.mem_filter.1 hi).1, gn.filter _⟩
        generalize (gk.filter fun i => (st DD i).chk) = on at *
        clear hDD evp CV KA gr gs gn ge ev eb ST FL GR GS GN GE SA
        by_cases q : 1 < on.length
        · rw [if_pos q] at ST1
          obtain ⟨on1, x, hon⟩ : ∃ on1 x, on = on1 ++ [x] := by
            rcases List.eq_nil_or_concat on with t | ⟨a, b, t⟩
            · rw [t] at q; simp at q
            · exact ⟨a, b, by simpa using t⟩
          subst hon
          have e1 : (on1 ++ [x]).length = on1.length + 1 := by rw [List.length_append]; rfl
          have eL : (on1 ++ [x]).getLast?.getD (-1) = x := by rw [List.getLast?_append]; rfl
          have gx : (cellsI (on1 ++ [x]))[on1.length]? = some (.int .i64 x) := by
            rw [cellsI_app, List.getElem?_append_right (by rw [cellsI_len]; exact Nat.le_refl _), cellsI_len, Nat.sub_self]; rfl
          rw [eL] at ST1
          have fl := FS.out.1
          rw [e1] at fl q
          rw [e1] at HCh
          have LN := hide e1
          clear e1 eL
          go_wp2_with fail
          refine HCh.out.mono ?_
          rintro e w4 ⟨q4, k4, rfl, K4, b4⟩
          have O4 := hide (OW.out.kept b4)
          have F4 := hide (FW.out.below b4)
          have R4 := hide (RW.out.below b4)
          have B4 := hide (chain BW.out b4)
          obtain ⟨g4, cp4, ev4, eb4, _⟩ := owns_at K4 (by rw [LN.out]; omega)
          obtain ⟨rfl, rfl⟩ : q4 = some ⟨g4, 0, none⟩ ∧ k4 = cp4 := by rw [LN.out] at ev4; cases ev4; exact ⟨rfl, rfl⟩
          have x4 := owns_cell K4 rfl gx
          have HCk := hide (gpCheckOnly_any _ _ _ _ DD F _ x w4 O4.out K4 FS.out.2.1 FS.out.2.2 (by have := FS.out.1; omega))
          clear K4 b4 ev4 eb4 OW FW RW BW HCh gx FS x0
          have n0 : (0 : Int) ≤ (on1.length : Int) := by omega
          have n1 : (1 : Int) < (on1.length : Int) + 1 := by omega
          have n2 : (on1.length : Int) ≤ 400 := by omega
          go_wp2_with fail
          refine HCk.out.mono ?_
          rintro e w5 ⟨rfl, o5, ch5⟩
          have R5 : Hid (RowsO w2.heap.size w5 (.slice (some ⟨g, 0, none⟩) GG.length k3) GG V) := R4.out.kept ch5 (fun b hb t => by
            have := (World.ownsRow.lt R4.out.row b hb).1
            have := (RB.out b (opt_mem.1 t)).2
            omega) (fun i b hi hb t => by
            have := (R4.out.lt hi hb).1
            have := (RB.out b (opt_mem.1 t)).2
            omega)
          have B5 : Hid (Below w.heap.size w w5) := B4.out.trans (ch5.below B4.out.size (fun b t => by
            have := (RB.out b (opt_mem.1 t)).1
            omega))
          have O5 : Hid (CtsO w1.heap.size w5 (.slice po C.length ko) (updP (setF l C) (GG.take (k + 1)).flatten C) F) := by show CtsO _ _ _ _ _; rw [ST1.out]; exact o5
          have F5 := hide (F4.out.chg O4.out.row ch5)
          clear o5 ch5 HCk O4 F4 R4 B4 x4
          go_wp2_with fail
          go_roundw
          case rel => exact ⟨k + 1, by omega, by go_num, O5, F5, R5, B5⟩
          case measure => simp [intOf]; omega
        · rw [if_neg q] at ST1
          have fl := FS.out.1
          have n1 : ¬ (1 : Int) < (on.length : Int) := by omega
          clear FS
          go_wp2_with fail
          refine HCh.out.mono ?_
          rintro e w4 ⟨q4, k4, rfl, K4, b4⟩
          have O4 : Hid (CtsO w1.heap.size w4 (.slice po C.length ko) (updP (setF l C) (GG.take (k + 1)).flatten C) F) := by show CtsO _ _ _ _ _; rw [ST1.out]; exact OW.out.kept b4
          have F4 := hide (FW.out.below b4)
          have R4 := hide (RW.out.below b4)
          have B4 := hide (chain BW.out b4)
          clear K4 b4 HCh OW FW RW BW x0
          go_wp2_with fail
          go_roundw
          case rel => exact ⟨k + 1, by omega, by go_num, O4, F4, R4, B4⟩
          case measure => simp [intOf]; omega
      · obtain rfl : k = GG.length := by omega
        have FE := hide (FW.out.files.other (FL.out GG.length).1 (FL.out GG.length).2)
        rw [SA.out] at OW FE
        clear ST SA FL GR GS GN GE RB RW FW
        go_wp2_with fail
        go_ret
        exact ⟨_, rfl, by rw [E.out]; exact OW.out.cts FE.out, BW.out⟩
end Go.Proofs.YtldbaoolddlacaaGreatDoor

namespace Go.Proofs.YtldbaoolddlacaaGreatDoor
open Go.RowKit
set_option maxRecDepth 100000
theorem lastK_yes {C : List Ct} {all : List Int} {k : Nat} (h : k < all.length) (hs : (st C all[k]).chk = true) : lastK C (all.take (k + 1)) = all[k] := by
  unfold lastK
  rw [List.take_succ_eq_append_getElem h, List.filter_append, List.filter_cons_of_pos (p := fun i => (st C i).chk) hs, List.filter_nil, List.getLast?_append]
  rfl
theorem lastK_no {C : List Ct} {all : List Int} {k : Nat} (h : k < all.length) (hs : (st C all[k]).chk = false) : lastK C (all.take (k + 1)) = lastK C (all.take k) := by
  unfold lastK
  rw [List.take_succ_eq_append_getElem h, List.filter_append, List.filter_cons_of_neg (by rw [hs]; decide), List.filter_nil, List.append_nil]
/-- The first states settled. -/
def setTo (l : List Nd) (C : List Ct) (j : Nat) : List Ct := C.mapIdx fun i c => if i < j then setF l C (i : Int) c else c
theorem setTo_len (l : List Nd) (C : List Ct) (j : Nat) : (setTo l C j).length = C.length := by simp [setTo]
theorem setTo_at {l : List Nd} {C : List Ct} {j i : Nat} (h : i < C.length) : (setTo l C j)[i]'(by rw [setTo_len]; exact h) = if i < j then setF l C (i : Int) C[i] else C[i] := by simp [setTo]
theorem setTo_zero (l : List Nd) (C : List Ct) : setTo l C 0 = C := by
  apply List.ext_getElem (setTo_len ..)
  intro i h1 h2
  rw [setTo_at h2, if_neg (by omega)]
theorem setTo_end {l : List Nd} {C : List Ct} {j : Nat} (h : C.length ≤ j) : setTo l C j = settleC l C := by
  apply List.ext_getElem (by rw [setTo_len, settle_len])
  intro i h1 h2
  have hi : i < C.length := by rw [settle_len] at h2; exact h2
  rw [setTo_at hi, if_pos (by omega)]
  simp [settleC]
theorem setTo_step {l : List Nd} {C : List Ct} {j : Nat} (hj : j < C.length) : (setTo l C j).set j (setF l C (j : Int) C[j]) = setTo l C (j + 1) := by
  apply List.ext_getElem (by simp [setTo_len])
  intro i h1 h2
  have hi : i < C.length := by rw [setTo_len] at h2; exact h2
  rw [List.getElem_set, setTo_at hi, setTo_at hi]
  by_cases e : j = i
  · subst e
    rw [if_pos rfl, if_pos (by omega)]
  · rw [if_neg e]
    by_cases g : i < j
    · rw [if_pos g, if_pos (by omega)]
    · rw [if_neg g, if_neg (by omega)]
theorem setTo_this {l : List Nd} {C : List Ct} {j : Nat} (hj : j < C.length) (h : j < (setTo l C j).length) : (setTo l C j)[j] = C[j] := by
  rw [setTo_at hj, if_neg (by omega)]
theorem setTo_same {l : List Nd} {C : List Ct} {j : Nat} (hj : j < C.length) (h : setF l C (j : Int) C[j] = C[j]) : setTo l C (j + 1) = setTo l C j := by
  rw [← setTo_step hj, h]
  have e := setTo_this (l := l) hj (by rw [setTo_len]; exact hj)
  apply List.ext_getElem (by simp)
  intro i h1 h2
  rw [List.getElem_set]
  split
  · rename_i q
    subst q
    exact e.symm
  · rfl
theorem setF_files (l : List Nd) (C : List Ct) (i : Int) (c : Ct) : (setF l C i c).files = c.files := by
  unfold setF
  split <;> rfl
theorem settle_files (l : List Nd) (C : List Ct) : ∀ i (h1 : i < C.length) (h2 : i < (settleC l C).length), (settleC l C)[i].files = C[i].files := fun i h1 h2 => by
  have e : (settleC l C)[i] = setF l C (i : Int) C[i] := by simp [settleC]
  rw [e, setF_files]
set_option maxHeartbeats 8000000 in
theorem refSettle_any (nv cv : Value) (l : List Nd) (C : List Ct) (w : World) (hD : DocV w nv cv l C) (hz : DocSz l) (hC : CsOK C) :
    Calls Tryz.prog 9 #[.agg #[nv, cv]] w fun e w' => ∃ v', e = .returned v' ∧ CtsV w' v' (settleO l C) ∧ Below w.heap.size w w' := by
  obtain ⟨F, hF⟩ := hD.cts
  have FI := hide hF.1
  have E0 := hide (OEnv.new w nv cv)
  have HR := hide (fun W (hb : Below w.heap.size w W) => refORight_any nv cv l C W (hD.below hb) hz hC)
  have HC := hide (fun W (hb : Below w.heap.size w W) => refOCopied_any cv C F W (hF.below hb) hC)
  have HM := hide (fun (i : Int) W (hb : Below w.heap.size w W) => refGMembers_any nv l i W (hD.nds.below hb) hz)
  cases r : rightD l C with
  | false =>
    have E : Hid (settleO l C = []) := if_neg (by rw [r]; decide)
    rw [r] at HR
    obtain ⟨p, c, rfl⟩ := nds_formK hD.nds
    obtain ⟨p2, c2, rfl⟩ := cts_formK hD.cts
    clear hD hz hC hF FI HC HM r
    go_enter Tryz.func9, Tryz.ntmps9
    go_wp2_with fail
    refine (HR.out _ E0.out.bel).mono ?_
    rintro e w1 ⟨rfl, b1⟩
    have E1 := hide (E0.out.step b1)
    clear b1 E0
    go_wp2_with fail
    go_ret
    exact ⟨_, rfl, by rw [E.out]; exact cts_nil _, E1.out.bel⟩
  | true =>
    have E : Hid (settleO l C = settleC l C) := if_pos r
    obtain ⟨R, hlen⟩ := rdK r
    rw [r] at HR
    obtain ⟨p, c, rfl⟩ := nds_formK hD.nds
    obtain ⟨p2, c2, rfl⟩ := cts_formK hD.cts
    have RT := hide R
    have l400 : l.length ≤ 400 := R.len.2
    have lpos : 0 < l.length := R.len.1
    have hC0 : 0 < C.length := by omega
    have lnC : l.length ≤ C.length := by omega
    have lnC2 : C.length ≤ l.length := by omega
    obtain ⟨cb, co2, rfl, hcc⟩ := cts_chk hF hC0
    have CC := hide hcc
    have SF := hide (settle_files l C)
    clear hD hz hC hF r R hlen hcc
    go_enter Tryz.func9, Tryz.ntmps9
    go_wp2_with fail
    refine (HR.out _ E0.out.bel).mono ?_
    rintro e w1 ⟨rfl, b1⟩
    have E1 := hide (E0.out.step b1)
    clear b1 E0
    have c1 := E1.out.doc.cell 1 rfl
    go_wp2_with fail
    refine (HC.out _ E1.out.bel).mono ?_
    rintro e w2 ⟨ov, rfl, o2, b2⟩
    have E2 := hide (E1.out.rowed b2 o2)
    obtain ⟨po, co, rfl, hco⟩ := o2.form
    clear b2 o2 c1 hco E1
    go_wp2_with fail
    go_loopw [4] (fun iv wr => ∃ j : Nat, j ≤ l.length ∧ iv = .int .i64 j ∧ Hid (OEnv w wr (.slice p l.length c) (.slice (some ⟨cb, co2, none⟩) C.length c2) (.slice po C.length co) (setTo l C j) F (.slice none 0 0) [])) (fun iv _ => l.length - (intOf iv).toNat)
    case atStart => exact ⟨0, Nat.zero_le _, rfl, by show OEnv _ _ _ _ _ _ _ _ _; rw [setTo_zero]; exact E2.out⟩
    case round =>
      rename World => wr
      obtain ⟨j, hj, rfl, ER⟩ := hrel
      have c0 := ER.out.doc.cell 0 rfl
      clear E2
      by_cases hlt : j < l.length
      · have j1 : (j : Int) < (l.length : Int) := by omega
        have j0 : (0 : Int) ≤ (j : Int) := by omega
        have HMj := hide (HM.out (j : Int) _ ER.out.bel)
        have MR : Hid (∀ x ∈ membersP l (j : Int), 0 ≤ x ∧ x < (l.length : Int)) := fun x hx => ((mem_mem RT.out).1 hx).2.1
        have ML : (membersP l (j : Int)).length ≤ l.length := nodup_len l.length _ (mem_nodup RT.out) MR.out
        have SFj : Hid (∀ cx : Ct, setF l C (j : Int) cx = if 0 ≤ lastK C (membersP l (j : Int)) ∧ cx.chk = true then { cx with chk := decide ((j : Int) = lastK C (membersP l (j : Int))) } else cx) := fun _ => rfl
        go_wp2_with fail
        refine HMj.out.mono ?_
        rintro e w5 ⟨av, rfl, k5, b5⟩
        have E5 := hide (ER.out.listed b5 k5)
        obtain ⟨pa, ca, rfl, hca⟩ := kids_form k5
        clear b5 k5 hca c0 HMj ER
        generalize membersP l (j : Int) = ms at *
        go_wp2_with fail
        go_loopw [6, 7] (fun lv kv wq => ∃ k : Nat, k ≤ ms.length ∧ kv = .int .i64 k ∧ lv = .int .i64 (lastK C (ms.take k)) ∧ Hid (OEnv w wq (.slice p l.length c) (.slice (some ⟨cb, co2, none⟩) C.length c2) (.slice po C.length co) (setTo l C j) F (.slice pa ms.length ca) ms)) (fun _ kv _ => ms.length - (intOf kv).toNat)
        case atStart => exact ⟨0, Nat.zero_le _, rfl, by rw [List.take_zero]; rfl, E5.out⟩
        case round =>
          rename World => wq
          obtain ⟨k, hk, rfl, rfl, EQ⟩ := hrel
          clear E5
          by_cases hk2 : k < ms.length
          · have rx := MR.out ms[k] (List.getElem_mem hk2)
            obtain ⟨q, eq, hqC⟩ : ∃ q : Nat, ms[k] = (q : Int) ∧ q < C.length := ⟨ms[k].toNat, by omega, by omega⟩
            have c1 := EQ.out.doc.cell 1 rfl
            obtain ⟨ga, rfl, x0, eba⟩ := own_num EQ.out hk2
            rw [eq] at x0
            have cc := cell_below (CC.out q hqC) EQ.out.bel
            have k0 : (0 : Int) ≤ (k : Int) := by omega
            have k1 : (k : Int) < (ms.length : Int) := by omega
            have q0 : (0 : Int) ≤ (q : Int) := by omega
            have q1 : (q : Int) < (C.length : Int) := by omega
            have ST : (st C ms[k]).chk = C[q].chk := by rw [eq, st_nat hqC]
            have LY := hide (fun h => lastK_yes (C := C) hk2 h)
            have LN := hide (fun h => lastK_no (C := C) hk2 h)
            rw [ST] at LY LN
            rw [eq] at LY
            replace ST := hide ST
            generalize hLK : lastK C (ms.take k) = LK at *
            clear rx ST eq hLK
            cases hc : C[q].chk with
            | true =>
              rw [hc] at cc LY
              have L1 := hide (LY.out rfl)
              clear LY LN
              go_wp2_with fail
              go_quiet (fail)
              have EN := hide (fun n => EQ.out.drew n)
              clear EQ
              go_wp2_with fail
              go_roundw
              case rel => exact ⟨k + 1, by omega, by go_num, by rw [L1.out], EN.out _⟩
              case measure => simp [intOf]; omega
            | false =>
              rw [hc] at cc LN
              have L1 := hide (LN.out rfl)
              clear LY LN
              go_wp2_with fail
              go_quiet (fail)
              have EN := hide (fun n => EQ.out.drew n)
              clear EQ
              go_wp2_with fail
              go_roundw
              case rel => exact ⟨k + 1, by omega, by go_num, by rw [L1.out], EN.out _⟩
              case measure => simp [intOf]; omega
          · obtain rfl : k = ms.length := by omega
            rw [List.take_length]
            have hjC : j < C.length := by omega
            have c1 := EQ.out.doc.cell 1 rfl
            have cj := cell_below (CC.out j hjC) EQ.out.bel
            have j2 : (j : Int) < (C.length : Int) := by omega
            have EU := hide EQ.out.unlist
            clear EQ
            have SFx := hide (SFj.out C[j])
            have SAME := hide (fun h => setTo_same (l := l) hjC h)
            have STEP := hide (setTo_step (l := l) hjC)
            have THIS := hide (fun h => setTo_this (l := l) hjC h)
            generalize hLK : lastK C ms = LK at *
            clear hLK
            by_cases hL : 0 ≤ LK
            · cases hc : C[j].chk with
              | true =>
                rw [hc] at cj
                rw [if_pos ⟨hL, hc⟩] at SFx
                have hjD : j < (setTo l C j).length := by rw [setTo_len]; exact hjC
                have RW : CtsO (w.heap.size + 1) wq (.slice po (setTo l C j).length co) (setTo l C j) F := by rw [setTo_len]; exact EU.out.row
                obtain ⟨gv, co', ev, eb, ge, _, _⟩ := owns_at EU.out.row.row (by rw [setTo_len]; omega)
                rw [setTo_len] at ev
                cases ev
                have DEQ : ((j : Int) == LK) = decide ((j : Int) = LK) := by
                  cases t : ((j : Int) == LK) with
                  | true => exact (decide_eq_true (by simpa using t)).symm
                  | false => exact (decide_eq_false (by simpa using t)).symm
                have P3 := hide (RW.put (c' := { (setTo l C j)[j] with chk := ((j : Int) == LK) }) rfl hjD (j := 3) (by omega) (u := .bool ((j : Int) == LK)) rfl)
                have c3 := RW.at_ rfl hjD 3 _ rfl
                have f3 : wq.frozen? ⟨gv, j * 10 + 3, none⟩ = false := owns_free RW.row rfl _
                have E8 : Hid (OEnv w (wq.setCell ⟨gv, j * 10 + 3, none⟩ (.bool ((j : Int) == LK))) (.slice p l.length c) (.slice (some ⟨cb, co2, none⟩) C.length c2) (.slice (some ⟨gv, 0, none⟩) C.length co) (setTo l C (j + 1)) F (.slice none 0 0) []) := by
                  refine EU.out.other (Chg.setB _ _ _ _) ?_
                  have := P3.out
                  rw [THIS.out hjD, DEQ, ← SFx.out, STEP.out, setTo_len] at this
                  rw [DEQ]
                  exact this
                replace DEQ := hide DEQ
                clear RW P3 SAME STEP THIS SFx hc
                go_wp2_with fail
                go_roundw
                case rel => exact ⟨j + 1, by omega, by go_num, E8⟩
                case measure => simp [intOf]; omega
              | false =>
                rw [hc] at cj
                rw [if_neg (fun t => by rw [hc] at t; cases t.2)] at SFx
                have S1 := hide (SAME.out SFx.out)
                clear SAME STEP THIS SFx hc
                go_wp2_with fail
                go_roundw
                case rel => exact ⟨j + 1, by omega, by go_num, by show OEnv _ _ _ _ _ _ _ _ _; rw [S1.out]; exact EU.out⟩
                case measure => simp [intOf]; omega
            · have dL : decide (0 ≤ LK) = false := decide_eq_false hL
              rw [if_neg (fun t => hL t.1)] at SFx
              have S1 := hide (SAME.out SFx.out)
              clear SAME STEP THIS SFx
              go_wp2_with fail
              go_roundw
              case rel => exact ⟨j + 1, by omega, by go_num, by show OEnv _ _ _ _ _ _ _ _ _; rw [S1.out]; exact EU.out⟩
              case measure => simp [intOf]; omega
      · obtain rfl : j = l.length := by omega
        have SE := hide (setTo_end (l := l) (C := C) lnC2)
        rw [SE.out] at ER
        have BE := hide ER.out.bel
        have RW := hide ER.out.row
        clear ER SE
        go_wp2_with fail
        go_ret
        refine ⟨_, rfl, ?_, BE.out⟩
        rw [E.out]
        exact RW.out.cts ((FI.out.below BE.out).other (settle_len ..) SF.out)
end Go.Proofs.YtldbaoolddlacaaGreatDoor

namespace Go.Proofs.YtldbaoolddlacaaGreatDoor
open Go.RowKit
set_option maxRecDepth 100000
theorem settleO_ok {l : List Nd} {C : List Ct} (h : CsOK C) : CsOK (settleO l C) := by
  unfold settleO
  split
  · refine csok_same h (settle_len ..) (fun i h1 h2 => ?_)
    have e : (settleC l C)[i] = setF l C (i : Int) C[i] := by simp [settleC]
    rw [e]
    unfold setF
    split <;> exact ⟨rfl, rfl, rfl⟩
  · exact csok_nil
end Go.Proofs.YtldbaoolddlacaaGreatDoor

namespace Go.Proofs.YtldbaoolddlacaaGreatDoor
open Go.RowKit
set_option maxRecDepth 100000
theorem settled_one {l : List Nd} {C : List Ct} (h : rightD l C = true) : oneO l (settleO l C) = true ∧ settleO l (settleO l C) = settleO l C := by
  obtain ⟨R, hl⟩ := rdK h
  have e : settleO l C = settleC l C := if_pos h
  have r := settle_right h
  rw [e]
  constructor
  · unfold oneO
    rw [r, settle_one R hl]; rfl
  · exact (if_pos r).trans (settle_again R hl)
set_option maxHeartbeats 8000000 in
theorem groupSettles_walk (nv cv : Value) (l : List Nd) (C : List Ct) (w : World) (hD : DocV w nv cv l C) (hz : DocSz l) (hC : CsOK C) (hT : GpTabs w) :
    Calls Tryz.prog 3 #[.agg #[nv, cv]] w fun e w' => e = .returned (.bool true) ∧ Below w.heap.size w w' := by
  have HD := hide hD
  have HZ := hide hz
  have HO := hide hC
  have HT := hide hT
  have HW := hide (fun W (hb : Below w.heap.size w W) => gpWakes_any W (HT.out.below hb))
  have HC := hide (fun W (hb : Below w.heap.size w W) => gpCopied_any nv cv l C W (HD.out.below hb) HZ.out HO.out)
  have HOne := hide (fun W (hb : Below w.heap.size w W) => refOneG_any nv cv l C W (HD.out.below hb) HZ.out HO.out)
  have H1 := hide (fun nv cv W (hb : Below w.heap.size w W) (hd : DocV W nv cv l C) => gpSettle_any nv cv l C W hd HZ.out HO.out (HT.out.below hb))
  have HSt := hide (fun W (hb : Below w.heap.size w W) => refSettle_any nv cv l C W (HD.out.below hb) HZ.out HO.out)
  have HOp := hide (fun nv cv W (hb : Below w.heap.size w W) (hd : DocV W nv cv l C) => gpOne_any nv cv l C W hd HZ.out HO.out (HT.out.below hb))
  have HR := hide (fun W (hb : Below w.heap.size w W) => refORight_any nv cv l C W (HD.out.below hb) HZ.out HO.out)
  have SO := hide (settleO_ok (l := l) HO.out)
  have HSm := hide (fun va vb W (ha : CtsV W va (settleO l C)) (hb : CtsV W vb (settleO l C)) => refOSame_yes va vb (settleO l C) W ha hb SO.out)
  have H2 := hide (fun cv W (hb : Below w.heap.size w W) (hc : CtsV W cv (settleO l C)) => gpOne_any nv cv l (settleO l C) W ⟨HD.out.nds.below hb, hc⟩ HZ.out SO.out (HT.out.below hb))
  have H3 := hide (fun cv W (hb : Below w.heap.size w W) (hc : CtsV W cv (settleO l C)) => gpSettle_any nv cv l (settleO l C) W ⟨HD.out.nds.below hb, hc⟩ HZ.out SO.out (HT.out.below hb))
  have SE := hide (fun h => settled_one (l := l) (C := C) h)
  generalize settleO l C = RC at *
  generalize oneO l C = ob at *
  obtain ⟨pn, kn, rfl⟩ := nds_form hD.nds
  obtain ⟨pc, kc, rfl⟩ := cts_form hD.cts
  have B0 : Hid (Below w.heap.size w (w.alloc (.cells #[.slice pn l.length kn, .slice pc C.length kc] 25))) := (Below.refl _ w).alloc (Nat.le_refl _) _
  have ND := hide (Bk.new w [.slice pn l.length kn, .slice pc C.length kc] 25)
  clear hD hz hC hT HD HZ HO HT SO
  go_enter Tryz.func3, Tryz.ntmps3
  go_wp2_with fail
  refine (HW.out _ B0.out).mono ?_
  rintro e w1 ⟨rfl, b1⟩
  have B1 := hide (chain B0.out b1)
  replace ND := hide (ND.out.below b1)
  clear b1 B0
  have x0 := ND.out.cell 0 rfl
  have x1 := ND.out.cell 1 rfl
  go_wp2_with fail
  refine (HC.out _ B1.out).mono ?_
  rintro e w2 ⟨n2, c2, rfl, d2, b2⟩
  have D2 := hide d2
  obtain ⟨p2, k2, rfl⟩ := nds_form d2.nds
  obtain ⟨q2, m2, rfl⟩ := cts_form d2.cts
  have B2 := hide (chain B1.out b2)
  replace ND := hide (ND.out.below b2)
  clear d2 B1 b2 x0 x1
  go_wp2_with fail
  refine (H1.out _ _ _ B2.out D2.out).mono ?_
  rintro e w4 ⟨v4, rfl, g4, b4⟩
  have G4 := hide g4
  obtain ⟨p4, k4, rfl⟩ := cts_form g4
  have B4 := hide (chain B2.out b4)
  have ND4 := hide (ND.out.below b4)
  clear g4 b4 B2 D2 H1 ND
  have x0 := ND4.out.cell 0 rfl
  have x1 := ND4.out.cell 1 rfl
  have DR : Below w4.heap.size w4 w4.drew := ⟨rfl, rfl, rfl, Nat.le_refl _, fun _ _ => rfl⟩
  have B4d := hide (chain B4.out DR)
  have G4d := hide (G4.out.below DR)
  have ND4d := hide (ND4.out.below DR)
  clear DR B4 G4 ND4
  have dob : (ob != ob) = false := by simp
  go_wp2_with fail
  refine wp_region_held_drew (S := fun X : World => X.cell? ⟨w.heap.size, 0, none⟩ = some (.slice pn l.length kn) ∧ X.cell? ⟨w.heap.size, 1, none⟩ = some (.slice pc C.length kc)) (by kernel_rfl) ?_ (fun hHeld => ?_)
  · exact ⟨x0, x1⟩
  refine wpAnyH_take (i := 0) (oi := { dst := some 10, op := Op.move (Operand.tmp 3), type := 23, pos := "law.go:60", after := #[], guard := none }) (v := ?_) rfl (by kernel_rfl) (by kernel_rfl) (by kernel_rfl) (fun _ _ _ h => h) (Or.inl ⟨by rfl, ?_⟩) (by assumption) ?_
  rotate_left
  · (intro w hSw; (try dsimp only at hSw); first | (go_simp; done) | (go_simp; with_reducible rfl))
  simp only [Act.put, List.setIfInBounds_toArray, List.set_cons_zero, List.set_cons_succ]
  refine wpAnyH_take (i := 1) (oi := { dst := some 11, op := Op.load 25 (Operand.tmp 1), type := 25, pos := "law.go:60", after := #[], guard := none }) (v := ?_) rfl (by kernel_rfl) (by kernel_rfl) (by kernel_rfl) (fun _ _ _ h => h) (Or.inl ⟨by rfl, ?_⟩) (by assumption) ?_
  rotate_left
  · (intro w hSw; (try dsimp only at hSw); first | (go_simp; done) | (go_simp; with_reducible rfl))
  simp only [Act.put, List.setIfInBounds_toArray, List.set_cons_zero, List.set_cons_succ]
  refine wpAnyH_ready (rs := [2]) (by kernel_rfl) (by simp) ?_
  refine AllReadyH.cons (i := 2) (o := { dst := some 12, op := Op.call { callee := Callee.value (Operand.func 9), args := #[Operand.tmp 11], argTypes := #[25] }, type := 23, pos := "law.go:60", after := #[{ on := 1, ground := Ground.data }], guard := none }) rfl (fun K hK => ?_) AllReadyH.nil
  go_simp
  refine (HSt.out _ B4d.out).mono ?_
  rintro e w5 ⟨v5, rfl, g5, b5⟩
  have G5 := hide g5
  obtain ⟨p5, k5, rfl⟩ := cts_form g5
  have B5 := hide (chain B4d.out b5)
  have J5 := hide (G4d.out.below b5)
  have NDx := hide (ND4d.out.below b5)
  clear g5 b5 B4d G4d ND4d
  go_wp2_with fail
  refine hK.out _ _ ?_ (fun hHeld => ?_)
  · exact ⟨NDx.out.cell 0 rfl, NDx.out.cell 1 rfl⟩
  clear hK K
  refine wpAnyH_ready (rs := [3]) (by kernel_rfl) (by simp) ?_
  refine AllReadyH.cons (i := 3) (o := { dst := some 13, op := Op.call { callee := Callee.value (Operand.func 8), args := #[Operand.tmp 10, Operand.tmp 12], argTypes := #[23, 23] }, type := 4, pos := "law.go:60", after := #[{ on := 0, ground := Ground.data }, { on := 2, ground := Ground.data }, { on := 2, ground := Ground.chain }], guard := none }) rfl (fun K hK => ?_) AllReadyH.nil
  go_simp
  refine (HSm.out _ _ _ J5.out G5.out).mono ?_
  rintro e w6 ⟨rfl, b6⟩
  have B6 := hide (chain B5.out b6)
  have J6 := hide (J5.out.below b6)
  have NDy := hide (NDx.out.below b6)
  clear b6 B5 J5 G5 NDx
  go_wp2_with fail
  refine hK.out _ _ ?_ (fun hHeld => ?_)
  · exact ⟨NDy.out.cell 0 rfl, NDy.out.cell 1 rfl⟩
  clear hK K
  refine wpAnyH_take (i := 4) (oi := { dst := some 14, op := Op.unOp UnOp.not 4 (Operand.tmp 13), type := 4, pos := "law.go:60", after := #[{ on := 3, ground := Ground.data }], guard := none }) (v := ?_) rfl (by kernel_rfl) (by kernel_rfl) (by kernel_rfl) (fun _ _ _ h => h) (Or.inl ⟨by rfl, ?_⟩) (by assumption) ?_
  rotate_left
  · (intro w hSw; (try dsimp only at hSw); first | (go_simp; done) | (go_simp; with_reducible rfl))
  simp only [Act.put, List.setIfInBounds_toArray, List.set_cons_zero, List.set_cons_succ]
  refine wpAnyH_take (i := 5) (oi := { dst := some 15, op := Op.move (Operand.tmp 14), type := 4, pos := "law.go:60", after := #[{ on := 4, ground := Ground.data }, { on := 3, ground := Ground.chain }], guard := none }) (v := ?_) rfl (by kernel_rfl) (by kernel_rfl) (by kernel_rfl) (fun _ _ _ h => h) (Or.inl ⟨by rfl, ?_⟩) (by assumption) ?_
  rotate_left
  · (intro w hSw; (try dsimp only at hSw); first | (go_simp; done) | (go_simp; with_reducible rfl))
  simp only [Act.put, List.setIfInBounds_toArray, List.set_cons_zero, List.set_cons_succ]
  refine wpAnyH_take (i := 6) (oi := { dst := some 16, op := Op.load 25 (Operand.tmp 1), type := 25, pos := "law.go:60", after := #[{ on := 5, ground := Ground.guard }], guard := some (5, false) }) (v := ?_) rfl (by kernel_rfl) (by kernel_rfl) (by kernel_rfl) (fun _ _ _ h => h) (Or.inl ⟨by rfl, ?_⟩) (by assumption) ?_
  rotate_left
  · (intro w hSw; (try dsimp only at hSw); first | (go_simp; done) | (go_simp; with_reducible rfl))
  simp only [Act.put, List.setIfInBounds_toArray, List.set_cons_zero, List.set_cons_succ]
  refine wpAnyH_take (i := 9) (oi := { dst := some 19, op := Op.load 25 (Operand.tmp 1), type := 25, pos := "law.go:60", after := #[{ on := 5, ground := Ground.guard }], guard := some (5, false) }) (v := ?_) rfl (by kernel_rfl) (by kernel_rfl) (by kernel_rfl) (fun _ _ _ h => h) (Or.inl ⟨by rfl, ?_⟩) (by assumption) ?_
  rotate_left
  · (intro w hSw; (try dsimp only at hSw); first | (go_simp; done) | (go_simp; with_reducible rfl))
  simp only [Act.put, List.setIfInBounds_toArray, List.set_cons_zero, List.set_cons_succ]
  refine wpAnyH_ready (rs := [7]) (by kernel_rfl) (by simp) ?_
  refine AllReadyH.cons (i := 7) (o := { dst := some 17, op := Op.call { callee := Callee.value (Operand.func 7), args := #[Operand.tmp 16], argTypes := #[25] }, type := 25, pos := "law.go:60", after := #[{ on := 6, ground := Ground.data }, { on := 5, ground := Ground.chain }, { on := 5, ground := Ground.guard }], guard := some (5, false) }) rfl (fun K hK => ?_) AllReadyH.nil
  go_simp
  refine (HC.out _ B6.out).mono ?_
  rintro e w7 ⟨n7, c7, rfl, d7, b7⟩
  have D7 := hide d7
  obtain ⟨p7, k7, rfl⟩ := nds_form d7.nds
  obtain ⟨q7, m7, rfl⟩ := cts_form d7.cts
  have B7 := hide (chain B6.out b7)
  have J7 := hide (J6.out.below b7)
  have NDz := hide (NDy.out.below b7)
  clear d7 b7 B6 J6 NDy
  go_wp2_with fail
  refine hK.out _ _ ?_ (fun hHeld => ?_)
  · exact ⟨NDz.out.cell 0 rfl, NDz.out.cell 1 rfl⟩
  clear hK K
  refine wpAnyH_ready (rs := [8]) (by kernel_rfl) (by simp) ?_
  refine AllReadyH.cons (i := 8) (o := { dst := some 18, op := Op.call { callee := Callee.value (Operand.func 10), args := #[Operand.tmp 17], argTypes := #[25] }, type := 4, pos := "law.go:60", after := #[{ on := 7, ground := Ground.data }, { on := 7, ground := Ground.chain }, { on := 5, ground := Ground.guard }], guard := some (5, false) }) rfl (fun K hK => ?_) AllReadyH.nil
  go_simp
  refine (HOp.out _ _ _ B7.out D7.out).mono ?_
  rintro e w8 ⟨rfl, b8⟩
  have B8 := hide (chain B7.out b8)
  have J8 := hide (J7.out.below b8)
  have NDu := hide (NDz.out.below b8)
  clear b8 B7 J7 D7 NDz
  go_wp2_with fail
  refine hK.out _ _ ?_ (fun hHeld => ?_)
  · exact ⟨NDu.out.cell 0 rfl, NDu.out.cell 1 rfl⟩
  clear hK K
  refine wpAnyH_ready (rs := [10]) (by kernel_rfl) (by simp) ?_
  refine AllReadyH.cons (i := 10) (o := { dst := some 20, op := Op.call { callee := Callee.value (Operand.func 11), args := #[Operand.tmp 19], argTypes := #[25] }, type := 4, pos := "law.go:60", after := #[{ on := 9, ground := Ground.data }, { on := 8, ground := Ground.chain }, { on := 5, ground := Ground.guard }], guard := some (5, false) }) rfl (fun K hK => ?_) AllReadyH.nil
  go_simp
  refine (HOne.out _ B8.out).mono ?_
  rintro e w9 ⟨rfl, b9⟩
  have B9 := hide (chain B8.out b9)
  have J9 := hide (J8.out.below b9)
  have NDv := hide (NDu.out.below b9)
  clear b9 B8 J8 NDu
  go_wp2_with fail
  refine hK.out _ _ ?_ (fun hHeld => ?_)
  · exact ⟨NDv.out.cell 0 rfl, NDv.out.cell 1 rfl⟩
  clear hK K
  refine wpAnyH_take (i := 11) (oi := { dst := some 21, op := Op.binOp BinOp.neq 4 (Operand.tmp 18) (Operand.tmp 20) 4, type := 4, pos := "law.go:60", after := #[{ on := 8, ground := Ground.data }, { on := 10, ground := Ground.data }, { on := 5, ground := Ground.guard }], guard := some (5, false) }) (v := ?_) rfl (by kernel_rfl) (by kernel_rfl) (by kernel_rfl) (fun _ _ _ h => h) (Or.inl ⟨by rfl, ?_⟩) (by assumption) ?_
  rotate_left
  · (intro w hSw; (try dsimp only at hSw); first | (go_simp; done) | (go_simp; with_reducible rfl))
  simp only [Act.put, List.setIfInBounds_toArray, List.set_cons_zero, List.set_cons_succ]
  refine wpAnyH_take (i := 12) (oi := { dst := some 22, op := Op.pick (Operand.tmp 15) (Operand.const (Value.bool true)) (Operand.tmp 21), type := 4, pos := "law.go:60", after := #[{ on := 5, ground := Ground.data }, { on := 11, ground := Ground.data }], guard := none }) (v := ?_) rfl (by kernel_rfl) (by kernel_rfl) (by kernel_rfl) (fun _ _ _ h => h) (Or.inl ⟨by rfl, ?_⟩) (by assumption) ?_
  rotate_left
  · (intro w hSw; (try dsimp only at hSw); first | (go_simp; done) | (go_simp; with_reducible rfl))
  simp only [Act.put, List.setIfInBounds_toArray, List.set_cons_zero, List.set_cons_succ]
  refine wpAnyH_done (by kernel_rfl) ?_ _
  have x0 := NDv.out.cell 0 rfl
  have x1 := NDv.out.cell 1 rfl
  cases r : rightD l C with
  | false =>
    rw [r] at HR
    clear SE r
    go_wp2_with fail
    refine (HR.out _ B9.out).mono ?_
    rintro e wa ⟨rfl, ba⟩
    go_wp2_with fail
    go_ret
    exact ⟨rfl, chain B9.out ba⟩
  | true =>
    obtain ⟨s1, s2⟩ := SE.out r
    rw [r] at HR
    rw [s1] at H2
    rw [s2] at H3
    clear SE r s1 s2
    go_wp2_with fail
    refine (HR.out _ B9.out).mono ?_
    rintro e wa ⟨rfl, ba⟩
    have Ba := hide (chain B9.out ba)
    have Ja := hide (J9.out.below ba)
    have NDa := hide (NDv.out.below ba)
    clear ba B9 J9 NDv x0 x1
    have x0 := NDa.out.cell 0 rfl
    have AL : Hid (Below wa.heap.size wa (wa.alloc (.cells #[.slice pn l.length kn, .slice p4 RC.length k4] 25))) := (Below.refl _ wa).alloc (Nat.le_refl _) _
    have NX := hide (Bk.new wa [.slice pn l.length kn, .slice p4 RC.length k4] 25)
    have Bb := hide (chain Ba.out AL.out)
    have Jb := hide (Ja.out.below AL.out)
    have H2b := hide (H2.out _ _ Bb.out Jb.out)
    clear AL Ba Ja NDa
    go_wp2_with fail
    refine H2b.out.mono ?_
    rintro e wc ⟨rfl, bc⟩
    have Bc := hide (chain Bb.out bc)
    have Jc := hide (Jb.out.below bc)
    have NXc := hide (NX.out.below bc)
    clear bc Bb Jb NX H2b x0
    have y0 := NXc.out.cell 0 rfl
    have y1 := NXc.out.cell 1 rfl
    go_wp2_with fail
    refine (H3.out _ _ Bc.out Jc.out).mono ?_
    rintro e wd ⟨vd, rfl, gd, bd⟩
    have Gd := hide gd
    obtain ⟨pd, kd, rfl⟩ := cts_form gd
    have Bd := hide (chain Bc.out bd)
    have Jd := hide (Jc.out.below bd)
    clear gd bd Bc Jc
    go_wp2_with fail
    refine (HSm.out _ _ _ Gd.out Jd.out).mono ?_
    rintro e we ⟨rfl, be⟩
    go_wp2_with fail
    go_ret
    exact ⟨rfl, chain Bd.out be⟩

end Go.Proofs.YtldbaoolddlacaaGreatDoor
