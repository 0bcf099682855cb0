/- Radio buttons that stand together. States of controls as they lie in the world, behind a slice. The document's Right, Copied, Only of layer 15. The document's Check of layer 17. Stage 17's own copied. Stage 17's law GroupChecks, walked. -/
import Derived.Test.YtldbaoolddlacaaDoorJgd30
import Derived.Test.YtldbaoolddlacaaDoorJgd32
import Derived.Test.YtldbaoolddlacaaDoorJgd41
import Derived.Test.YtldbaoolddlacaaDoorJgd43

namespace Go.Proofs.YtldbaoolddlacaaDoor
open Go.RowKit
theorem rdK {l : List Nd} {C : List Ct} (h : rightD l C = true) : Right l ∧ C.length = l.length := by
  unfold rightD at h
  rw [Bool.and_eq_true, decide_eq_true_eq] at h
  exact ⟨right_is.1 h.1, by have := h.2; omega⟩
end Go.Proofs.YtldbaoolddlacaaDoor

namespace Go.Proofs.YtldbaoolddlacaaDoor
open Go.RowKit
set_option maxRecDepth 100000
theorem cellsC_one {w : World} : ∀ {C : List Ct} {F : List Value}, FilesIn w C F → ∀ u ∈ cellsC C F, u.oneCell' = true
  | [], _, _, u, hu => by simp [cellsC] at hu
  | c :: C, [], h, _, _ => by have := h.len; cases this
  | c :: C, f :: F, h, u, hu => by
    have hu : u ∈ ctCells c f ++ cellsC C F := hu
    rcases List.mem_append.1 hu with q | q
    · obtain ⟨p, k, e, _⟩ : FilesV w f c.files := h.at_ 0 (by simp)
      have e : f = .slice p c.files.length k := e
      simp only [ctCells, List.mem_cons, List.not_mem_nil, or_false] at q
      rcases q with rfl | rfl | rfl | rfl | rfl | rfl | rfl | rfl | rfl | rfl
      all_goals first | rfl | (rw [e]; rfl)
    · exact cellsC_one (C := C) (F := F) ⟨by have := h.len; simpa using this, fun i hi => by have := h.at_ (i + 1) (by simpa using hi); rw [fvAt_cons] at this; exact this⟩ u q
end Go.Proofs.YtldbaoolddlacaaDoor

namespace Go.Proofs.YtldbaoolddlacaaDoor
open Go.RowKit
set_option maxRecDepth 100000
theorem infoC : (Tryd.prog.info? 47).map (fun i => (i.zero, i.size, i.bytes)) = some (some (.agg #[.string ⟨#[]⟩, .bool false, .bool false, .bool false, .bool false, .bool false, .bool false, .bool false, .string ⟨#[]⟩, .slice none 0 0]), 10, 64) := by kernel_rfl
theorem cts_form {w : World} {v : Value} {C : List Ct} (h : CtsV w v C) : ∃ p k, v = .slice p C.length k := by
  obtain ⟨F, _, p, k, e, _⟩ := h
  exact ⟨p, k, e⟩
theorem nds_form {w : World} {v : Value} {l : List Nd} (h : NodesV w v l) : ∃ p k, v = .slice p l.length k := by
  obtain ⟨p, k, e, _⟩ := h
  exact ⟨p, k, e⟩
set_option maxHeartbeats 8000000 in
theorem refORight_any (nv cv : Value) (l : List Nd) (C : List Ct) (w : World) (hD : DocV w nv cv l C) (hz : DocSz l) (hC : CsOK C) :
    Calls Tryd.prog 27 #[.agg #[nv, cv]] w fun e w' => e = .returned (.bool (rightD l C)) ∧ Below w.heap.size w w' := by
  have HB : Hid (∀ o : Obj, Below w.heap.size w (w.alloc o)) := fun o => (Below.refl _ w).alloc (Nat.le_refl _) _
  have HR := hide (fun W (hb : Below w.heap.size w W) => refDocRight_any nv l W (hD.nds.below hb) hz)
  obtain ⟨p, c, rfl⟩ := nds_form hD.nds
  obtain ⟨p2, c2, rfl⟩ := cts_form hD.cts
  have hl := hz.len
  have hl2 := hC.len
  have K0 := hide (Bk.new w [.slice p l.length c, .slice p2 C.length c2] 31)
  clear hD hz hC
  cases h : rightB l with
  | false =>
    have E : Hid (rightD l C = false) := by show _ = _; unfold rightD; rw [h]; rfl
    rw [h] at HR
    clear h
    go_enter Tryd.func27, Tryd.ntmps27
    go_wp2_with fail
    refine (HR.out _ (HB.out _)).mono ?_
    rintro e w1 ⟨rfl, b1⟩
    go_wp2_with fail
    go_ret
    exact ⟨ret_bool E.out.symm, chain (HB.out _) b1⟩
  | true =>
    have E : Hid (rightD l C = ((l.length : Int) == (C.length : Int))) := by show _ = _; unfold rightD; rw [h, Bool.true_and]; rfl
    rw [h] at HR
    clear h
    go_enter Tryd.func27, Tryd.ntmps27
    go_wp2_with fail
    refine (HR.out _ (HB.out _)).mono ?_
    rintro e w1 ⟨rfl, b1⟩
    have K1 := K0.out.below b1
    have c0 := K1.cell 0 rfl
    have c1 := K1.cell 1 rfl
    go_wp2_with fail
    go_ret
    exact ⟨ret_bool E.out.symm, chain (HB.out _) b1⟩
set_option maxHeartbeats 8000000 in
theorem refOCopied_any (v : Value) (C : List Ct) (F : List Value) (w : World) (hv : CtsF w v C F) (hC : CsOK C) :
    Calls Tryd.prog 23 #[v] w fun e w' => ∃ v', e = .returned v' ∧ CtsO w.heap.size w' v' C F ∧ Below w.heap.size w w' := by
  have RW := hide hv.raw
  have ONE := hide (cellsC_one hv.1)
  have HF := hide hv.1
  have hl := hC.len
  obtain ⟨iC, hI0, hI1, hI2, hI3⟩ := info_parts infoC
  obtain ⟨p, c, rfl⟩ := cts_form ⟨F, hv⟩
  clear hv hC
  go_enter Tryd.func23, Tryd.ntmps23
  go_wp2_with (at_builtin; refine wpList_append_raw rfl _ _ _ rfl w.heap.size 47 iC _ 10 64 Tryd.underlying29 hI0 hI1 hI2 hI3 rfl (by omega) (.slice none 0 0) 0 [] rfl (World.ownsRow_nil _ _ _ _) _ C.length (cellsC C F) rfl RW.out ONE.out (by unfold maxLen; omega) (by omega) (Nat.le_refl _) ?_; intro q1 c1 w1 own1 gr1 at1)
  rw [Nat.zero_add] at own1 at1
  rw [List.nil_append] at own1
  have B1 : Hid (Below w.heap.size w w1) := (Chg.of_grown gr1).none (fun k q => by simp [Value.ownBlock] at q)
  have O1 : Hid (CtsO w.heap.size w1 (.slice q1 C.length c1) C F) := ⟨HF.out.len, own1⟩
  clear own1 gr1 at1 RW ONE
  go_ret
  exact ⟨_, rfl, O1.out, B1.out⟩
theorem CtsO.form {base : Nat} {w : World} {v : Value} {C : List Ct} {F : List Value} (h : CtsO base w v C F) : ∃ p k, v = .slice p C.length k ∧ C.length ≤ k := by
  rcases h.row.2 with ⟨e, q⟩ | ⟨g, cap, cur, e, hb, hg, h1, h2, _⟩
  · exact ⟨none, 0, by rw [e, q], by omega⟩
  · exact ⟨_, cap, e, h1⟩
end Go.Proofs.YtldbaoolddlacaaDoor

namespace Go.Proofs.YtldbaoolddlacaaDoor
open Go.RowKit
set_option maxRecDepth 100000
/-- The first nodes of a group, by number. -/
def radsTo (l : List Nd) (id : Int) (j : Nat) : List Int := ((List.range j).map fun i : Nat => (i : Int)).filter (memB l id)
theorem radsTo_mem {l : List Nd} {id : Int} {j i : Nat} : (i : Int) ∈ radsTo l id j ↔ i < j ∧ memB l id (i : Int) = true := by
  unfold radsTo
  rw [List.mem_filter, List.mem_map]
  constructor
  · rintro ⟨⟨k, hk, e⟩, h⟩
    have hk := List.mem_range.1 hk
    exact ⟨by omega, h⟩
  · rintro ⟨h1, h2⟩
    exact ⟨⟨i, List.mem_range.2 h1, rfl⟩, h2⟩
theorem rads_zero {l : List Nd} {id : Int} {C : List Ct} : updP offF (radsTo l id 0) C = C := upd_nil _ C
theorem rads_yes {l : List Nd} {id : Int} {C : List Ct} {j : Nat} (hj : j < C.length) (hm : memB l id (j : Int) = true) : (updP offF (radsTo l id j) C).set j (offF (j : Int) C[j]) = updP offF (radsTo l id (j + 1)) C ∧ ∀ h : j < (updP offF (radsTo l id j) C).length, (updP offF (radsTo l id j) C)[j] = C[j] := by
  have nj : (j : Int) ∉ radsTo l id j := fun t => by have := (radsTo_mem.1 t).1; omega
  constructor
  · apply List.ext_getElem (by simp [updC_len])
    intro i h1 h2
    have hi : i < C.length := by rw [updC_len] at h2; exact h2
    rw [List.getElem_set, upd_at hi, upd_at hi]
    by_cases e : j = i
    · subst e
      rw [if_pos rfl, if_pos (radsTo_mem.2 ⟨by omega, hm⟩)]
    · rw [if_neg e]
      have : (i : Int) ∈ radsTo l id (j + 1) ↔ (i : Int) ∈ radsTo l id j := by
        rw [radsTo_mem, radsTo_mem]
        constructor
        · rintro ⟨a, b⟩; exact ⟨by omega, b⟩
        · rintro ⟨a, b⟩; exact ⟨by omega, b⟩
      simp only [this]
  · intro h
    rw [upd_at hj, if_neg nj]
theorem rads_no {l : List Nd} {id : Int} {C : List Ct} {j : Nat} (hm : memB l id (j : Int) = false) : updP offF (radsTo l id (j + 1)) C = updP offF (radsTo l id j) C := by
  apply List.ext_getElem (by rw [updC_len, updC_len])
  intro i h1 h2
  have hi : i < C.length := by rw [updC_len] at h2; exact h2
  rw [upd_at hi, upd_at hi]
  have : (i : Int) ∈ radsTo l id (j + 1) ↔ (i : Int) ∈ radsTo l id j := by
    rw [radsTo_mem, radsTo_mem]
    constructor
    · rintro ⟨a, b⟩
      refine ⟨?_, b⟩
      apply Classical.byContradiction
      intro q
      obtain rfl : i = j := by omega
      rw [hm] at b
      cases b
    · rintro ⟨a, b⟩; exact ⟨by omega, b⟩
  simp only [this]
theorem nds_formK {w : World} {v : Value} {l : List Nd} (h : NodesV w v l) : ∃ p c, v = .slice p l.length c := by
  obtain ⟨p, c, e, _⟩ := h
  exact ⟨p, c, e⟩
theorem cts_formK {w : World} {v : Value} {C : List Ct} (h : CtsV w v C) : ∃ p c, v = .slice p C.length c := by
  obtain ⟨_, _, p, c, e, _⟩ := h
  exact ⟨p, c, e⟩
theorem node_ofK {w : World} {p : Option Addr} {c : Nat} {l : List Nd} (hv : NodesV w (.slice p l.length c) l) {m : Nat} (hm : m < l.length) : ∃ b o, p = some ⟨b, o, none⟩ ∧ ∀ i (h : i < l.length), ∃ va vk, NodeAt w b (o + i * 5) l[i] va vk := by
  obtain ⟨p', c', e, h⟩ := hv
  cases e
  rcases h with h | h
  · rw [h] at hm; cases hm
  · exact h
set_option maxHeartbeats 8000000 in
theorem refGCheck_no (nv cv : Value) (l : List Nd) (C : List Ct) (id : Int) (on : Bool) (w : World) (hD : DocV w nv cv l C) (hz : DocSz l) (hC : CsOK C) (hn : ¬ (rightD l C = true ∧ hasN l id = true)) :
    Calls Tryd.prog 12 #[.agg #[nv, cv], .int .i64 id, .bool on] w fun e w' => ∃ v', e = .returned (.tuple #[v', .int .i64 (checkO l C id on).2]) ∧ CtsV w' v' (checkO l C id on).1 ∧ Below w.heap.size w w' := by
  obtain ⟨F, hF⟩ := hD.cts
  have FI := hide hF.1
  have E0 := hide (OEnv.new w nv cv)
  have HR := hide (fun W (hb : Below w.heap.size w W) => refORight_any nv cv l C W (hD.below hb) hz hC)
  have HH := hide (fun W (hb : Below w.heap.size w W) => refHas_any nv l id W (hD.nds.below hb) hz)
  have E : Hid (checkO l C id on = ([], 4)) := if_neg hn
  rw [E.out]
  cases r : rightD l C with
  | false =>
    rw [r] at HR
    obtain ⟨p, c, rfl⟩ := nds_formK hD.nds
    obtain ⟨p2, c2, rfl⟩ := cts_formK hD.cts
    clear hD hz hC hF FI HH hn r E
    go_enter Tryd.func12, Tryd.ntmps12
    go_wp2_with fail
    refine (HR.out _ E0.out.bel).mono ?_
    rintro e w1 ⟨rfl, b1⟩
    have E1 := hide (E0.out.step b1)
    clear b1 E0
    go_wp2_with fail
    go_ret2
    exact ⟨_, rfl, cts_nil _, E1.out.bel⟩
  | true =>
    have q : hasN l id = false := by
      cases q : hasN l id with
      | true => exact absurd ⟨r, q⟩ hn
      | false => rfl
    rw [r] at HR
    rw [q] at HH
    obtain ⟨p, c, rfl⟩ := nds_formK hD.nds
    obtain ⟨p2, c2, rfl⟩ := cts_formK hD.cts
    clear hD hz hC hF FI hn r E q
    go_enter Tryd.func12, Tryd.ntmps12
    go_wp2_with fail
    refine (HR.out _ E0.out.bel).mono ?_
    rintro e w1 ⟨rfl, b1⟩
    have E1 := hide (E0.out.step b1)
    clear b1 E0
    have c0 := E1.out.doc.cell 0 rfl
    go_wp2_with fail
    refine (HH.out _ E1.out.bel).mono ?_
    rintro e w2 ⟨rfl, b2⟩
    have E2 := hide (E1.out.step b2)
    clear b2 E1 c0
    go_wp2_with fail
    go_ret2
    exact ⟨_, rfl, cts_nil _, E2.out.bel⟩
set_option maxHeartbeats 8000000 in
theorem refGCheck_kind (nv cv : Value) (l : List Nd) (C : List Ct) (id : Int) (on : Bool) (w : World) (hD : DocV w nv cv l C) (hz : DocSz l) (hC : CsOK C) (hy : rightD l C = true ∧ hasN l id = true) (hk : ¬ (kI l id = 17 ∨ kI l id = 16)) :
    Calls Tryd.prog 12 #[.agg #[nv, cv], .int .i64 id, .bool on] w fun e w' => ∃ v', e = .returned (.tuple #[v', .int .i64 (checkO l C id on).2]) ∧ CtsV w' v' (checkO l C id on).1 ∧ Below w.heap.size w w' := by
  obtain ⟨F, hF⟩ := hD.cts
  have FI := hide hF.1
  have E0 := hide (OEnv.new w nv cv)
  have HR := hide (fun W (hb : Below w.heap.size w W) => refORight_any nv cv l C W (hD.below hb) hz hC)
  have HH := hide (fun W (hb : Below w.heap.size w W) => refHas_any nv l id W (hD.nds.below hb) hz)
  have E : Hid (checkO l C id on = ([], 3)) := (if_pos hy).trans (if_neg hk)
  rw [E.out]
  obtain ⟨r, q⟩ := hy
  obtain ⟨R, hlen⟩ := rdK r
  obtain ⟨m, hI⟩ := Is.of q
  obtain ⟨rfl, hm⟩ := (⟨hI.eq, hI.lt⟩ : id = (m : Int) ∧ m < l.length)
  rw [r] at HR
  rw [q] at HH
  have HV := hide hD.nds
  obtain ⟨p, c, rfl⟩ := nds_formK hD.nds
  obtain ⟨p2, c2, rfl⟩ := cts_formK hD.cts
  obtain ⟨b, o, rfl, hn⟩ := node_ofK HV.out hm
  obtain ⟨va, vk, N⟩ := hn m hm
  have nz := hz.nds _ (List.getElem_mem hm)
  have HO := hide (fun W (hb : Below w.heap.size w W) => refOf_any l[m] va vk W (N.at_.below hb) nz.attrs nz.tx)
  have EK : kI l (m : Int) = kOf l[m].name (tyOf l[m].attrs) := by unfold kI kN; rw [Int.toNat_natCast, nd_at hm]
  rw [← EK] at HO
  obtain ⟨pa, ca, rfl, hxx⟩ := N.at_
  clear hxx
  obtain ⟨pk, ck, rfl, hxx⟩ := N.ks
  clear hxx
  have N0 := hide N
  have m0 : (0 : Int) ≤ (m : Int) := by omega
  have m1 : (m : Int) < (l.length : Int) := by omega
  have d1 : (kI l (m : Int) != 17) = true := bne_iff_ne.2 (fun t => hk (.inl t))
  have d2 : (kI l (m : Int) != 16) = true := bne_iff_ne.2 (fun t => hk (.inr t))
  clear hD hz hC hF FI E r q R hI hn nz N EK hk HV hlen
  generalize kI l (m : Int) = kk at *
  go_enter Tryd.func12, Tryd.ntmps12
  go_wp2_with fail
  refine (HR.out _ E0.out.bel).mono ?_
  rintro e w1 ⟨rfl, b1⟩
  have E1 := hide (E0.out.step b1)
  clear b1 E0
  have c0 := E1.out.doc.cell 0 rfl
  go_wp2_with fail
  refine (HH.out _ E1.out.bel).mono ?_
  rintro e w2 ⟨rfl, b2⟩
  have E2 := hide (E1.out.step b2)
  clear b2 E1 c0
  have c0 := E2.out.doc.cell 0 rfl
  have a0 := cell_below N0.out.name E2.out.bel
  have a1 := cell_below N0.out.text E2.out.bel
  have a2 := cell_below N0.out.attrs E2.out.bel
  have a3 := cell_below N0.out.parent E2.out.bel
  have a4 := cell_below N0.out.kids E2.out.bel
  go_wp2_with fail
  refine (HO.out _ E2.out.bel).mono ?_
  rintro e w3 ⟨rfl, b3⟩
  have E3 := hide (E2.out.step b3)
  clear b3 E2 c0 a0 a1 a2 a3 a4
  go_wp2_with fail
  go_ret2
  exact ⟨_, rfl, cts_nil _, E3.out.bel⟩
theorem check_files (l : List Nd) (C : List Ct) (id : Int) (on : Bool) : ∀ i (h1 : i < C.length) (h2 : i < (checkC l C id on).length), (checkC l C id on)[i].files = C[i].files := by
  have U : ∀ i (h1 : i < C.length) (h2 : i < (chkU l C id on).length), (chkU l C id on)[i].files = C[i].files := by
    unfold chkU
    split
    · intro i h1 h2
      exact (congrArg Ct.files (upd_at (f := offF) (all := radsP l id) (C := C) h1)).trans (by split <;> rfl)
    · exact fun i _ _ => rfl
  intro i h1 h2
  have h3 : i < (chkU l C id on).length := by rw [chkU_len]; exact h1
  refine (congrArg Ct.files (List.getElem_set (l := chkU l C id on) (i := id.toNat) (j := i) (a := { st (chkU l C id on) id with chk := on, dchk := true }) (by simpa using h3))).trans ?_
  split
  · rename_i e
    refine Eq.trans ?_ (U i h1 h3)
    show (st (chkU l C id on) id).files = _
    unfold st
    rw [List.getD_eq_getElem?_getD, e, List.getElem?_eq_getElem h3, Option.getD_some]
  · exact U i h1 h3
set_option maxHeartbeats 8000000 in
theorem refGCheck_one (nv cv : Value) (l : List Nd) (C : List Ct) (id : Int) (on : Bool) (w : World) (hD : DocV w nv cv l C) (hz : DocSz l) (hC : CsOK C) (hy : rightD l C = true ∧ hasN l id = true) (hk : kI l id = 17 ∨ kI l id = 16) (hl : ¬ (on = true ∧ kI l id = 17)) :
    Calls Tryd.prog 12 #[.agg #[nv, cv], .int .i64 id, .bool on] w fun e w' => ∃ v', e = .returned (.tuple #[v', .int .i64 (checkO l C id on).2]) ∧ CtsV w' v' (checkO l C id on).1 ∧ Below w.heap.size w w' := by
  obtain ⟨F, hF⟩ := hD.cts
  have FI := hide hF.1
  have E0 := hide (OEnv.new w nv cv)
  have HR := hide (fun W (hb : Below w.heap.size w W) => refORight_any nv cv l C W (hD.below hb) hz hC)
  have HH := hide (fun W (hb : Below w.heap.size w W) => refHas_any nv l id W (hD.nds.below hb) hz)
  have E : Hid (checkO l C id on = (checkC l C id on, 0)) := (if_pos hy).trans (if_pos hk)
  rw [E.out]
  obtain ⟨r, q⟩ := hy
  obtain ⟨R, hlen⟩ := rdK r
  obtain ⟨m, hI⟩ := Is.of q
  obtain ⟨rfl, hm⟩ := (⟨hI.eq, hI.lt⟩ : id = (m : Int) ∧ m < l.length)
  rw [r] at HR
  rw [q] at HH
  have HV := hide hD.nds
  obtain ⟨p, c, rfl⟩ := nds_formK hD.nds
  obtain ⟨p2, c2, rfl⟩ := cts_formK hD.cts
  obtain ⟨b, o, rfl, hn⟩ := node_ofK HV.out hm
  obtain ⟨va, vk, N⟩ := hn m hm
  have nz := hz.nds _ (List.getElem_mem hm)
  have HO := hide (fun W (hb : Below w.heap.size w W) => refOf_any l[m] va vk W (N.at_.below hb) nz.attrs nz.tx)
  have EK : kI l (m : Int) = kOf l[m].name (tyOf l[m].attrs) := by unfold kI kN; rw [Int.toNat_natCast, nd_at hm]
  rw [← EK] at HO
  obtain ⟨pa, ca, rfl, hxx⟩ := N.at_
  clear hxx
  obtain ⟨pk, ck, rfl, hxx⟩ := N.ks
  clear hxx
  have N0 := hide N
  have m0 : (0 : Int) ≤ (m : Int) := by omega
  have m1 : (m : Int) < (l.length : Int) := by omega
  have HC := hide (fun W (hb : Below w.heap.size w W) => refOCopied_any (.slice p2 C.length c2) C F W (hF.below hb) hC)
  have CF := hide (check_files l C (m : Int) on)
  have hmC : m < C.length := by omega
  obtain ⟨D, hDC⟩ : ∃ D, D = C := ⟨C, rfl⟩
  have EC : Hid (checkC l C (m : Int) on = setC D (m : Int) { st D (m : Int) with chk := on, dchk := true }) := by
    show _ = _
    rw [hDC]
    unfold checkC chkU
    rw [if_neg hl]
  have DL : Hid (D.length = C.length) := by show _ = _; rw [hDC]
  replace hDC := hide hDC
  have dk : ((kI l (m : Int) != 17) && (kI l (m : Int) != 16)) = false := by
    rcases hk with t | t <;> rw [t] <;> rfl
  have dl : (on && (kI l (m : Int) == 17)) = false := by
    cases on with
    | false => rfl
    | true => rw [Bool.true_and]; exact beq_eq_false_iff_ne.2 (fun t => hl ⟨rfl, t⟩)
  clear hD hz hC hF E r q R hI hn nz N EK HV hlen
  generalize kI l (m : Int) = kk at *
  have tail : ∀ x : Unit, True := fun _ => trivial
  rcases hk with rfl | hk16
  · cases on with
    | true => exact absurd ⟨rfl, rfl⟩ hl
    | false =>
      clear dk dl hl tail
      go_enter Tryd.func12, Tryd.ntmps12
      go_wp2_with fail
      refine (HR.out _ E0.out.bel).mono ?_
      rintro e w1 ⟨rfl, b1⟩
      have E1 := hide (E0.out.step b1)
      clear b1 E0
      have c0 := E1.out.doc.cell 0 rfl
      go_wp2_with fail
      refine (HH.out _ E1.out.bel).mono ?_
      rintro e w2 ⟨rfl, b2⟩
      have E2 := hide (E1.out.step b2)
      clear b2 E1 c0
      have c0 := E2.out.doc.cell 0 rfl
      have a0 := cell_below N0.out.name E2.out.bel
      have a1 := cell_below N0.out.text E2.out.bel
      have a2 := cell_below N0.out.attrs E2.out.bel
      have a3 := cell_below N0.out.parent E2.out.bel
      have a4 := cell_below N0.out.kids E2.out.bel
      go_wp2_with fail
      refine (HO.out _ E2.out.bel).mono ?_
      rintro e w3 ⟨rfl, b3⟩
      have E3 := hide (E2.out.step b3)
      clear b3 E2 c0 a0 a1 a2 a3 a4
      have c1 := E3.out.doc.cell 1 rfl
      go_wp2_with fail
      refine (HC.out _ E3.out.bel).mono ?_
      rintro e w4 ⟨ov, rfl, o4, b4⟩
      have E4 := hide (E3.out.rowed b4 o4)
      obtain ⟨po, co, rfl, hco⟩ := o4.form
      clear b4 o4 c1 hco
      have c0 := E4.out.doc.cell 0 rfl
      go_wp2_with fail
      go_loopw [10] (fun iv wr => iv = .int .i64 0 ∧ Hid (OEnv w wr (.slice (some ⟨b, o, none⟩) l.length c) (.slice p2 C.length c2) (.slice po C.length co) D F (.slice none 0 0) [])) (fun _ _ => 0)
      case atStart => exact ⟨rfl, by rw [hDC.out]; exact E4.out⟩
      case round =>
        rename World => wr
        obtain ⟨rfl, ER⟩ := hrel
        have c0 := ER.out.doc.cell 0 rfl
        have l0 : (0 : Int) < (l.length : Int) := by omega
        clear E4
        have hmD : m < (D).length := by rw [DL.out]; exact hmC
        have RW : CtsO (w.heap.size + 1) wr (.slice po (D).length co) (D) F := by rw [DL.out]; exact ER.out.row
        obtain ⟨gv, co', ev, eb, ge, _, _⟩ := owns_at ER.out.row.row (by rw [DL.out]; omega)
        rw [DL.out] at ev
        cases ev
        have P3 := hide (RW.put (c' := { (D)[m] with chk := false }) rfl hmD (j := 3) (by omega) (u := .bool false) rfl)
        have hm3 : m < ((D).set m { (D)[m] with chk := false }).length := by rw [List.length_set]; exact hmD
        have P3' : Hid (CtsO (w.heap.size + 1) (wr.setCell ⟨gv, m * 10 + 3, none⟩ (.bool false)) (.slice (some ⟨gv, 0, none⟩) ((D).set m { (D)[m] with chk := false }).length co) ((D).set m { (D)[m] with chk := false }) F) := by show CtsO _ _ _ _ _; rw [List.length_set]; exact P3.out
        have P4 := hide (P3'.out.put (c' := { (D)[m] with chk := false, dchk := true }) rfl hm3 (j := 4) (by omega) (u := .bool true) (by simp [List.getElem_set_self, ctCells]))
        have c3 := RW.at_ rfl hmD 3 _ rfl
        have c4 := RW.at_ rfl hmD 4 _ rfl
        have f3 : wr.frozen? ⟨gv, m * 10 + 3, none⟩ = false := owns_free RW.row rfl _
        have f4 : wr.frozen? ⟨gv, m * 10 + 4, none⟩ = false := owns_free RW.row rfl _
        have q2 : (m : Int) < (C.length : Int) := by omega
        have BE := hide ER.out.bel
        have ES : Hid (((D).set m { (D)[m] with chk := false }).set m { (D)[m] with chk := false, dchk := true } = checkC l C (m : Int) false) := by
          show _ = _
          rw [List.set_set, EC.out]
          unfold setC
          rw [Int.toNat_natCast, st_nat hmD]
        clear RW P3
        go_wp2_with fail
        go_ret2
        have k1 : Chg [gv] wr (wr.setCell ⟨gv, m * 10 + 3, none⟩ (.bool false)) := Chg.setB _ _ _ _
        have k2 : Chg [gv] (wr.setCell ⟨gv, m * 10 + 3, none⟩ (.bool false)) ((wr.setCell ⟨gv, m * 10 + 3, none⟩ (.bool false)).setCell ⟨gv, m * 10 + 4, none⟩ (.bool true)) := Chg.setB _ _ _ _
        have BF : Below w.heap.size w ((wr.setCell ⟨gv, m * 10 + 3, none⟩ (.bool false)).setCell ⟨gv, m * 10 + 4, none⟩ (.bool true)) := (BE.out.trans (k1.below BE.out.size (fun k r => by rw [List.mem_singleton.1 r]; omega))).trans (k2.below (by rw [World.size_setCell]; exact BE.out.size) (fun k r => by rw [List.mem_singleton.1 r]; omega))
        refine ⟨_, rfl, ?_, BF⟩
        have P5 := P4.out
        rw [ES.out, List.length_set, DL.out] at P5
        exact P5.cts ((FI.out.below BF).other (check_len ..) (fun i h1 h2 => CF.out i h1 h2))
  · have k17 : ¬ kk = 17 := by omega
    have d1 : (kk != 17) = true := bne_iff_ne.2 k17
    have d2 : (kk != 16) = false := by rw [hk16]; rfl
    have d3 : (kk == 17) = false := beq_eq_false_iff_ne.2 k17
    clear dk dl hl tail hk16
    cases on with
    | true =>
      go_enter Tryd.func12, Tryd.ntmps12
      go_wp2_with fail
      refine (HR.out _ E0.out.bel).mono ?_
      rintro e w1 ⟨rfl, b1⟩
      have E1 := hide (E0.out.step b1)
      clear b1 E0
      have c0 := E1.out.doc.cell 0 rfl
      go_wp2_with fail
      refine (HH.out _ E1.out.bel).mono ?_
      rintro e w2 ⟨rfl, b2⟩
      have E2 := hide (E1.out.step b2)
      clear b2 E1 c0
      have c0 := E2.out.doc.cell 0 rfl
      have a0 := cell_below N0.out.name E2.out.bel
      have a1 := cell_below N0.out.text E2.out.bel
      have a2 := cell_below N0.out.attrs E2.out.bel
      have a3 := cell_below N0.out.parent E2.out.bel
      have a4 := cell_below N0.out.kids E2.out.bel
      go_wp2_with fail
      refine (HO.out _ E2.out.bel).mono ?_
      rintro e w3 ⟨rfl, b3⟩
      have E3 := hide (E2.out.step b3)
      clear b3 E2 c0 a0 a1 a2 a3 a4
      have c1 := E3.out.doc.cell 1 rfl
      go_wp2_with fail
      refine (HC.out _ E3.out.bel).mono ?_
      rintro e w4 ⟨ov, rfl, o4, b4⟩
      have E4 := hide (E3.out.rowed b4 o4)
      obtain ⟨po, co, rfl, hco⟩ := o4.form
      clear b4 o4 c1 hco
      have c0 := E4.out.doc.cell 0 rfl
      go_wp2_with fail
      go_loopw [10] (fun iv wr => iv = .int .i64 0 ∧ Hid (OEnv w wr (.slice (some ⟨b, o, none⟩) l.length c) (.slice p2 C.length c2) (.slice po C.length co) D F (.slice none 0 0) [])) (fun _ _ => 0)
      case atStart => exact ⟨rfl, by rw [hDC.out]; exact E4.out⟩
      case round =>
        rename World => wr
        obtain ⟨rfl, ER⟩ := hrel
        have c0 := ER.out.doc.cell 0 rfl
        have l0 : (0 : Int) < (l.length : Int) := by omega
        clear E4
        have hmD : m < (D).length := by rw [DL.out]; exact hmC
        have RW : CtsO (w.heap.size + 1) wr (.slice po (D).length co) (D) F := by rw [DL.out]; exact ER.out.row
        obtain ⟨gv, co', ev, eb, ge, _, _⟩ := owns_at ER.out.row.row (by rw [DL.out]; omega)
        rw [DL.out] at ev
        cases ev
        have P3 := hide (RW.put (c' := { (D)[m] with chk := true }) rfl hmD (j := 3) (by omega) (u := .bool true) rfl)
        have hm3 : m < ((D).set m { (D)[m] with chk := true }).length := by rw [List.length_set]; exact hmD
        have P3' : Hid (CtsO (w.heap.size + 1) (wr.setCell ⟨gv, m * 10 + 3, none⟩ (.bool true)) (.slice (some ⟨gv, 0, none⟩) ((D).set m { (D)[m] with chk := true }).length co) ((D).set m { (D)[m] with chk := true }) F) := by show CtsO _ _ _ _ _; rw [List.length_set]; exact P3.out
        have P4 := hide (P3'.out.put (c' := { (D)[m] with chk := true, dchk := true }) rfl hm3 (j := 4) (by omega) (u := .bool true) (by simp [List.getElem_set_self, ctCells]))
        have c3 := RW.at_ rfl hmD 3 _ rfl
        have c4 := RW.at_ rfl hmD 4 _ rfl
        have f3 : wr.frozen? ⟨gv, m * 10 + 3, none⟩ = false := owns_free RW.row rfl _
        have f4 : wr.frozen? ⟨gv, m * 10 + 4, none⟩ = false := owns_free RW.row rfl _
        have q2 : (m : Int) < (C.length : Int) := by omega
        have BE := hide ER.out.bel
        have ES : Hid (((D).set m { (D)[m] with chk := true }).set m { (D)[m] with chk := true, dchk := true } = checkC l C (m : Int) true) := by
          show _ = _
          rw [List.set_set, EC.out]
          unfold setC
          rw [Int.toNat_natCast, st_nat hmD]
        clear RW P3
        go_wp2_with fail
        go_ret2
        have k1 : Chg [gv] wr (wr.setCell ⟨gv, m * 10 + 3, none⟩ (.bool true)) := Chg.setB _ _ _ _
        have k2 : Chg [gv] (wr.setCell ⟨gv, m * 10 + 3, none⟩ (.bool true)) ((wr.setCell ⟨gv, m * 10 + 3, none⟩ (.bool true)).setCell ⟨gv, m * 10 + 4, none⟩ (.bool true)) := Chg.setB _ _ _ _
        have BF : Below w.heap.size w ((wr.setCell ⟨gv, m * 10 + 3, none⟩ (.bool true)).setCell ⟨gv, m * 10 + 4, none⟩ (.bool true)) := (BE.out.trans (k1.below BE.out.size (fun k r => by rw [List.mem_singleton.1 r]; omega))).trans (k2.below (by rw [World.size_setCell]; exact BE.out.size) (fun k r => by rw [List.mem_singleton.1 r]; omega))
        refine ⟨_, rfl, ?_, BF⟩
        have P5 := P4.out
        rw [ES.out, List.length_set, DL.out] at P5
        exact P5.cts ((FI.out.below BF).other (check_len ..) (fun i h1 h2 => CF.out i h1 h2))
    | false =>
      go_enter Tryd.func12, Tryd.ntmps12
      go_wp2_with fail
      refine (HR.out _ E0.out.bel).mono ?_
      rintro e w1 ⟨rfl, b1⟩
      have E1 := hide (E0.out.step b1)
      clear b1 E0
      have c0 := E1.out.doc.cell 0 rfl
      go_wp2_with fail
      refine (HH.out _ E1.out.bel).mono ?_
      rintro e w2 ⟨rfl, b2⟩
      have E2 := hide (E1.out.step b2)
      clear b2 E1 c0
      have c0 := E2.out.doc.cell 0 rfl
      have a0 := cell_below N0.out.name E2.out.bel
      have a1 := cell_below N0.out.text E2.out.bel
      have a2 := cell_below N0.out.attrs E2.out.bel
      have a3 := cell_below N0.out.parent E2.out.bel
      have a4 := cell_below N0.out.kids E2.out.bel
      go_wp2_with fail
      refine (HO.out _ E2.out.bel).mono ?_
      rintro e w3 ⟨rfl, b3⟩
      have E3 := hide (E2.out.step b3)
      clear b3 E2 c0 a0 a1 a2 a3 a4
      have c1 := E3.out.doc.cell 1 rfl
      go_wp2_with fail
      refine (HC.out _ E3.out.bel).mono ?_
      rintro e w4 ⟨ov, rfl, o4, b4⟩
      have E4 := hide (E3.out.rowed b4 o4)
      obtain ⟨po, co, rfl, hco⟩ := o4.form
      clear b4 o4 c1 hco
      have c0 := E4.out.doc.cell 0 rfl
      go_wp2_with fail
      go_loopw [10] (fun iv wr => iv = .int .i64 0 ∧ Hid (OEnv w wr (.slice (some ⟨b, o, none⟩) l.length c) (.slice p2 C.length c2) (.slice po C.length co) D F (.slice none 0 0) [])) (fun _ _ => 0)
      case atStart => exact ⟨rfl, by rw [hDC.out]; exact E4.out⟩
      case round =>
        rename World => wr
        obtain ⟨rfl, ER⟩ := hrel
        have c0 := ER.out.doc.cell 0 rfl
        have l0 : (0 : Int) < (l.length : Int) := by omega
        clear E4
        have hmD : m < (D).length := by rw [DL.out]; exact hmC
        have RW : CtsO (w.heap.size + 1) wr (.slice po (D).length co) (D) F := by rw [DL.out]; exact ER.out.row
        obtain ⟨gv, co', ev, eb, ge, _, _⟩ := owns_at ER.out.row.row (by rw [DL.out]; omega)
        rw [DL.out] at ev
        cases ev
        have P3 := hide (RW.put (c' := { (D)[m] with chk := false }) rfl hmD (j := 3) (by omega) (u := .bool false) rfl)
        have hm3 : m < ((D).set m { (D)[m] with chk := false }).length := by rw [List.length_set]; exact hmD
        have P3' : Hid (CtsO (w.heap.size + 1) (wr.setCell ⟨gv, m * 10 + 3, none⟩ (.bool false)) (.slice (some ⟨gv, 0, none⟩) ((D).set m { (D)[m] with chk := false }).length co) ((D).set m { (D)[m] with chk := false }) F) := by show CtsO _ _ _ _ _; rw [List.length_set]; exact P3.out
        have P4 := hide (P3'.out.put (c' := { (D)[m] with chk := false, dchk := true }) rfl hm3 (j := 4) (by omega) (u := .bool true) (by simp [List.getElem_set_self, ctCells]))
        have c3 := RW.at_ rfl hmD 3 _ rfl
        have c4 := RW.at_ rfl hmD 4 _ rfl
        have f3 : wr.frozen? ⟨gv, m * 10 + 3, none⟩ = false := owns_free RW.row rfl _
        have f4 : wr.frozen? ⟨gv, m * 10 + 4, none⟩ = false := owns_free RW.row rfl _
        have q2 : (m : Int) < (C.length : Int) := by omega
        have BE := hide ER.out.bel
        have ES : Hid (((D).set m { (D)[m] with chk := false }).set m { (D)[m] with chk := false, dchk := true } = checkC l C (m : Int) false) := by
          show _ = _
          rw [List.set_set, EC.out]
          unfold setC
          rw [Int.toNat_natCast, st_nat hmD]
        clear RW P3
        go_wp2_with fail
        go_ret2
        have k1 : Chg [gv] wr (wr.setCell ⟨gv, m * 10 + 3, none⟩ (.bool false)) := Chg.setB _ _ _ _
        have k2 : Chg [gv] (wr.setCell ⟨gv, m * 10 + 3, none⟩ (.bool false)) ((wr.setCell ⟨gv, m * 10 + 3, none⟩ (.bool false)).setCell ⟨gv, m * 10 + 4, none⟩ (.bool true)) := Chg.setB _ _ _ _
        have BF : Below w.heap.size w ((wr.setCell ⟨gv, m * 10 + 3, none⟩ (.bool false)).setCell ⟨gv, m * 10 + 4, none⟩ (.bool true)) := (BE.out.trans (k1.below BE.out.size (fun k r => by rw [List.mem_singleton.1 r]; omega))).trans (k2.below (by rw [World.size_setCell]; exact BE.out.size) (fun k r => by rw [List.mem_singleton.1 r]; omega))
        refine ⟨_, rfl, ?_, BF⟩
        have P5 := P4.out
        rw [ES.out, List.length_set, DL.out] at P5
        exact P5.cts ((FI.out.below BF).other (check_len ..) (fun i h1 h2 => CF.out i h1 h2))
set_option maxHeartbeats 8000000 in
theorem refGCheck_all (nv cv : Value) (l : List Nd) (C : List Ct) (id : Int) (w : World) (hD : DocV w nv cv l C) (hz : DocSz l) (hC : CsOK C) (hy : rightD l C = true ∧ hasN l id = true) (hk : kI l id = 17) :
    Calls Tryd.prog 12 #[.agg #[nv, cv], .int .i64 id, .bool true] w fun e w' => ∃ v', e = .returned (.tuple #[v', .int .i64 (checkO l C id true).2]) ∧ CtsV w' v' (checkO l C id true).1 ∧ Below w.heap.size w w' := by
  obtain ⟨F, hF⟩ := hD.cts
  have FI := hide hF.1
  have E0 := hide (OEnv.new w nv cv)
  have HR := hide (fun W (hb : Below w.heap.size w W) => refORight_any nv cv l C W (hD.below hb) hz hC)
  have HH := hide (fun W (hb : Below w.heap.size w W) => refHas_any nv l id W (hD.nds.below hb) hz)
  have E : Hid (checkO l C id true = (checkC l C id true, 0)) := (if_pos hy).trans (if_pos (.inl hk))
  rw [E.out]
  obtain ⟨r, q⟩ := hy
  obtain ⟨R, hlen⟩ := rdK r
  obtain ⟨m, hI⟩ := Is.of q
  obtain ⟨rfl, hm⟩ := (⟨hI.eq, hI.lt⟩ : id = (m : Int) ∧ m < l.length)
  rw [r] at HR
  rw [q] at HH
  have HV := hide hD.nds
  obtain ⟨p, c, rfl⟩ := nds_formK hD.nds
  obtain ⟨p2, c2, rfl⟩ := cts_formK hD.cts
  obtain ⟨b, o, rfl, hn⟩ := node_ofK HV.out hm
  obtain ⟨va, vk, N⟩ := hn m hm
  have nz := hz.nds _ (List.getElem_mem hm)
  have HO := hide (fun W (hb : Below w.heap.size w W) => refOf_any l[m] va vk W (N.at_.below hb) nz.attrs nz.tx)
  have EK : kI l (m : Int) = kOf l[m].name (tyOf l[m].attrs) := by unfold kI kN; rw [Int.toNat_natCast, nd_at hm]
  rw [← EK] at HO
  obtain ⟨pa, ca, rfl, hxx⟩ := N.at_
  clear hxx
  obtain ⟨pk, ck, rfl, hxx⟩ := N.ks
  clear hxx
  have N0 := hide N
  have m0 : (0 : Int) ≤ (m : Int) := by omega
  have m1 : (m : Int) < (l.length : Int) := by omega
  have HC := hide (fun W (hb : Below w.heap.size w W) => refOCopied_any (.slice p2 C.length c2) C F W (hF.below hb) hC)
  have CF := hide (check_files l C (m : Int) true)
  have hmC : m < C.length := by omega
  have EC : Hid (checkC l C (m : Int) true = setC (updP offF (radsTo l (m : Int) l.length) C) (m : Int) { st (updP offF (radsTo l (m : Int) l.length) C) (m : Int) with chk := true, dchk := true }) := by
    show _ = _
    unfold checkC chkU
    rw [if_pos ⟨rfl, hk⟩]
    rfl
  have DL : Hid ((updP offF (radsTo l (m : Int) l.length) C).length = C.length) := updC_len ..
  have HN := hide hn
  have HZ := hide hz
  have RT := hide R
  have l400 : l.length ≤ 400 := R.len.2
  have LN := hide hlen
  have ex : l.length = C.length := hlen.symm
  have EX := hide ex
  rw [hk] at HO
  clear hD hz hC hF E r q R hI hn nz N EK hk ex
  have lnC : l.length ≤ C.length := by rw [← EX.out]; exact Nat.le_refl _
  clear hlen
  go_enter Tryd.func12, Tryd.ntmps12
  go_wp2_with fail
  refine (HR.out _ E0.out.bel).mono ?_
  rintro e w1 ⟨rfl, b1⟩
  have E1 := hide (E0.out.step b1)
  clear b1 E0
  have c0 := E1.out.doc.cell 0 rfl
  go_wp2_with fail
  refine (HH.out _ E1.out.bel).mono ?_
  rintro e w2 ⟨rfl, b2⟩
  have E2 := hide (E1.out.step b2)
  clear b2 E1 c0
  have c0 := E2.out.doc.cell 0 rfl
  have a0 := cell_below N0.out.name E2.out.bel
  have a1 := cell_below N0.out.text E2.out.bel
  have a2 := cell_below N0.out.attrs E2.out.bel
  have a3 := cell_below N0.out.parent E2.out.bel
  have a4 := cell_below N0.out.kids E2.out.bel
  go_wp2_with fail
  refine (HO.out _ E2.out.bel).mono ?_
  rintro e w3 ⟨rfl, b3⟩
  have E3 := hide (E2.out.step b3)
  clear b3 E2 c0 a0 a1 a2 a3 a4
  have c1 := E3.out.doc.cell 1 rfl
  go_wp2_with fail
  refine (HC.out _ E3.out.bel).mono ?_
  rintro e w4 ⟨ov, rfl, o4, b4⟩
  have E4 := hide (E3.out.rowed b4 o4)
  obtain ⟨po, co, rfl, hco⟩ := o4.form
  clear b4 o4 c1 hco
  have c0 := E4.out.doc.cell 0 rfl
  go_wp2_with fail
  go_loopw [10] (fun iv wr => ∃ j : Nat, j ≤ l.length ∧ iv = .int .i64 j ∧ Hid (OEnv w wr (.slice (some ⟨b, o, none⟩) l.length c) (.slice p2 C.length c2) (.slice po C.length co) (updP offF (radsTo l (m : Int) j) C) F (.slice none 0 0) [])) (fun iv _ => l.length - (intOf iv).toNat)
  case atStart => exact ⟨0, Nat.zero_le _, rfl, by show OEnv _ _ _ _ _ _ _ _ _; rw [rads_zero]; exact E4.out⟩
  case round =>
    rename World => wr
    obtain ⟨j, hj, rfl, ER⟩ := hrel
    by_cases hlt : j < l.length
    · skip
      have c0 := ER.out.doc.cell 0 rfl
      have j1 : (j : Int) < (l.length : Int) := by omega
      have j0 : (0 : Int) ≤ (j : Int) := by omega
      obtain ⟨vj, vl, NJ⟩ := HN.out j hlt
      have nzj := HZ.out.nds _ (List.getElem_mem hlt)
      have HOj := hide (fun W (hb : Below w.heap.size w W) => refOf_any l[j] vj vl W (NJ.at_.below hb) nzj.attrs nzj.tx)
      have EKj : kI l (j : Int) = kOf l[j].name (tyOf l[j].attrs) := by unfold kI kN; rw [Int.toNat_natCast, nd_at hlt]
      rw [← EKj] at HOj
      have HTg := hide (fun W (hb : Below w.heap.size w W) => refTog_any (.slice (some ⟨b, o, none⟩) l.length c) l m j W (HV.out.below hb) HZ.out RT.out hm hlt)
      have MB : Hid (memB l (m : Int) (j : Int) = (decide (kI l (j : Int) = 17) && togB l (m : Int) (j : Int))) := rfl
      have YN := hide (fun h => rads_yes (l := l) (id := (m : Int)) (C := C) (j := j) (by omega) h)
      have NO := hide (fun h => rads_no (l := l) (id := (m : Int)) (C := C) (j := j) h)
      obtain ⟨pj, cj, rfl, hxx⟩ := NJ.at_
      clear hxx
      obtain ⟨pl, cl, rfl, hxx⟩ := NJ.ks
      clear hxx
      have a0 := cell_below NJ.name ER.out.bel
      have a1 := cell_below NJ.text ER.out.bel
      have a2 := cell_below NJ.attrs ER.out.bel
      have a3 := cell_below NJ.parent ER.out.bel
      have a4 := cell_below NJ.kids ER.out.bel
      have hjC : j < C.length := by omega
      clear NJ nzj EKj E4
      by_cases hk17 : kI l (j : Int) = 17
      · rw [hk17] at HOj
        rw [decide_eq_true hk17, Bool.true_and] at MB
        clear hk17
        cases ht : togB l (m : Int) (j : Int) with
        | true =>
          rw [ht] at HTg MB
          obtain ⟨y1, y2⟩ := YN.out MB.out
          have hjD : j < (updP offF (radsTo l (m : Int) j) C).length := by rw [updC_len]; exact hjC
          have Y1 := hide y1
          have Y2 := hide (y2 hjD)
          clear y1 y2 YN NO MB ht
          go_wp2_with fail
          refine (HOj.out _ ER.out.bel).mono ?_
          rintro e w6 ⟨rfl, b6⟩
          have E6 := hide (ER.out.step b6)
          clear b6
          have c6 := E6.out.doc.cell 0 rfl
          go_wp2_with fail
          refine (HTg.out _ E6.out.bel).mono ?_
          rintro e w7 ⟨rfl, b7⟩
          have E7 := hide (E6.out.step b7)
          clear b7 c6
          have RW : CtsO (w.heap.size + 1) w7 (.slice po (updP offF (radsTo l (m : Int) j) C).length co) (updP offF (radsTo l (m : Int) j) C) F := by rw [updC_len]; exact E7.out.row
          obtain ⟨gv, co', ev, eb, ge, _, _⟩ := owns_at E7.out.row.row (by rw [updC_len]; omega)
          rw [updC_len] at ev
          cases ev
          have P3 := hide (RW.put (c' := offF (j : Int) (updP offF (radsTo l (m : Int) j) C)[j]) rfl hjD (j := 3) (by omega) (u := .bool false) rfl)
          have c3 := RW.at_ rfl hjD 3 _ rfl
          have f3 : w7.frozen? ⟨gv, j * 10 + 3, none⟩ = false := owns_free RW.row rfl _
          have q2 : (j : Int) < (C.length : Int) := by omega
          have E8 : Hid (OEnv w (w7.setCell ⟨gv, j * 10 + 3, none⟩ (.bool false)) (.slice (some ⟨b, o, none⟩) l.length c) (.slice p2 C.length c2) (.slice (some ⟨gv, 0, none⟩) C.length co) (updP offF (radsTo l (m : Int) (j + 1)) C) F (.slice none 0 0) []) := by
            refine E7.out.other (Chg.setB _ _ _ _) ?_
            have := P3.out
            rw [Y2.out, Y1.out, updC_len] at this
            exact this
          clear RW P3 Y1 Y2
          go_wp2_with fail
          go_roundw
          case rel => exact ⟨j + 1, by omega, by go_num, E8⟩
          case measure => simp [intOf]; omega
        | false =>
          rw [ht] at HTg MB
          have N1 := hide (NO.out MB.out)
          clear YN NO MB ht
          go_wp2_with fail
          refine (HOj.out _ ER.out.bel).mono ?_
          rintro e w6 ⟨rfl, b6⟩
          have E6 := hide (ER.out.step b6)
          clear b6
          have c6 := E6.out.doc.cell 0 rfl
          go_wp2_with fail
          refine (HTg.out _ E6.out.bel).mono ?_
          rintro e w7 ⟨rfl, b7⟩
          have E7 := hide (E6.out.step b7)
          clear b7 c6
          go_wp2_with fail
          go_roundw
          case rel => exact ⟨j + 1, by omega, by go_num, by rw [N1.out]; exact E7.out⟩
          case measure => simp [intOf]; omega
      · have d17 : (kI l (j : Int) == 17) = false := beq_eq_false_iff_ne.2 hk17
        rw [decide_eq_false hk17, Bool.false_and] at MB
        have N1 := hide (NO.out MB.out)
        clear YN NO MB hk17
        generalize kI l (j : Int) = kj at *
        go_wp2_with fail
        refine (HOj.out _ ER.out.bel).mono ?_
        rintro e w6 ⟨rfl, b6⟩
        have E6 := hide (ER.out.step b6)
        clear b6
        go_wp2_with fail
        go_roundw
        case rel => exact ⟨j + 1, by omega, by go_num, by rw [N1.out]; exact E6.out⟩
        case measure => simp [intOf]; omega
    · obtain rfl : j = l.length := by omega
      have c0 := ER.out.doc.cell 0 rfl
      clear E4
      have hmD : m < (updP offF (radsTo l (m : Int) l.length) C).length := by rw [DL.out]; exact hmC
      have RW : CtsO (w.heap.size + 1) wr (.slice po (updP offF (radsTo l (m : Int) l.length) C).length co) (updP offF (radsTo l (m : Int) l.length) C) F := by rw [DL.out]; exact ER.out.row
      obtain ⟨gv, co', ev, eb, ge, _, _⟩ := owns_at ER.out.row.row (by rw [DL.out]; omega)
      rw [DL.out] at ev
      cases ev
      have P3 := hide (RW.put (c' := { (updP offF (radsTo l (m : Int) l.length) C)[m] with chk := true }) rfl hmD (j := 3) (by omega) (u := .bool true) rfl)
      have hm3 : m < ((updP offF (radsTo l (m : Int) l.length) C).set m { (updP offF (radsTo l (m : Int) l.length) C)[m] with chk := true }).length := by rw [List.length_set]; exact hmD
      have P3' : Hid (CtsO (w.heap.size + 1) (wr.setCell ⟨gv, m * 10 + 3, none⟩ (.bool true)) (.slice (some ⟨gv, 0, none⟩) ((updP offF (radsTo l (m : Int) l.length) C).set m { (updP offF (radsTo l (m : Int) l.length) C)[m] with chk := true }).length co) ((updP offF (radsTo l (m : Int) l.length) C).set m { (updP offF (radsTo l (m : Int) l.length) C)[m] with chk := true }) F) := by show CtsO _ _ _ _ _; rw [List.length_set]; exact P3.out
      have P4 := hide (P3'.out.put (c' := { (updP offF (radsTo l (m : Int) l.length) C)[m] with chk := true, dchk := true }) rfl hm3 (j := 4) (by omega) (u := .bool true) (by simp [List.getElem_set_self, ctCells]))
      have c3 := RW.at_ rfl hmD 3 _ rfl
      have c4 := RW.at_ rfl hmD 4 _ rfl
      have f3 : wr.frozen? ⟨gv, m * 10 + 3, none⟩ = false := owns_free RW.row rfl _
      have f4 : wr.frozen? ⟨gv, m * 10 + 4, none⟩ = false := owns_free RW.row rfl _
      have q2 : (m : Int) < (C.length : Int) := by omega
      have BE := hide ER.out.bel
      have ES : Hid (((updP offF (radsTo l (m : Int) l.length) C).set m { (updP offF (radsTo l (m : Int) l.length) C)[m] with chk := true }).set m { (updP offF (radsTo l (m : Int) l.length) C)[m] with chk := true, dchk := true } = checkC l C (m : Int) true) := by
        show _ = _
        rw [List.set_set, EC.out]
        unfold setC
        rw [Int.toNat_natCast, st_nat hmD]
      clear RW P3
      go_wp2_with fail
      go_ret2
      have k1 : Chg [gv] wr (wr.setCell ⟨gv, m * 10 + 3, none⟩ (.bool true)) := Chg.setB _ _ _ _
      have k2 : Chg [gv] (wr.setCell ⟨gv, m * 10 + 3, none⟩ (.bool true)) ((wr.setCell ⟨gv, m * 10 + 3, none⟩ (.bool true)).setCell ⟨gv, m * 10 + 4, none⟩ (.bool true)) := Chg.setB _ _ _ _
      have BF : Below w.heap.size w ((wr.setCell ⟨gv, m * 10 + 3, none⟩ (.bool true)).setCell ⟨gv, m * 10 + 4, none⟩ (.bool true)) := (BE.out.trans (k1.below BE.out.size (fun k r => by rw [List.mem_singleton.1 r]; omega))).trans (k2.below (by rw [World.size_setCell]; exact BE.out.size) (fun k r => by rw [List.mem_singleton.1 r]; omega))
      refine ⟨_, rfl, ?_, BF⟩
      have P5 := P4.out
      rw [ES.out, List.length_set, DL.out] at P5
      exact P5.cts ((FI.out.below BF).other (check_len ..) (fun i h1 h2 => CF.out i h1 h2))
theorem refGCheck_any (nv cv : Value) (l : List Nd) (C : List Ct) (id : Int) (on : Bool) (w : World) (hD : DocV w nv cv l C) (hz : DocSz l) (hC : CsOK C) :
    Calls Tryd.prog 12 #[.agg #[nv, cv], .int .i64 id, .bool on] w fun e w' => ∃ v', e = .returned (.tuple #[v', .int .i64 (checkO l C id on).2]) ∧ CtsV w' v' (checkO l C id on).1 ∧ Below w.heap.size w w' := by
  by_cases hy : rightD l C = true ∧ hasN l id = true
  · by_cases hk : kI l id = 17 ∨ kI l id = 16
    · by_cases hl : on = true ∧ kI l id = 17
      · obtain ⟨rfl, hl⟩ := hl
        exact refGCheck_all nv cv l C id w hD hz hC hy hl
      · exact refGCheck_one nv cv l C id on w hD hz hC hy hk hl
    · exact refGCheck_kind nv cv l C id on w hD hz hC hy hk
  · exact refGCheck_no nv cv l C id on w hD hz hC hy
end Go.Proofs.YtldbaoolddlacaaDoor

namespace Go.Proofs.YtldbaoolddlacaaDoor
open Go.RowKit
set_option maxRecDepth 100000
set_option maxHeartbeats 8000000 in
theorem gpCopied_any (nv cv : Value) (l : List Nd) (C : List Ct) (w : World) (hD : DocV w nv cv l C) (hz : DocSz l) (hC : CsOK C) :
    Calls Tryd.prog 10 #[.agg #[nv, cv]] w fun e w' => ∃ nv' cv', e = .returned (.agg #[nv', cv']) ∧ DocV w' nv' cv' l C ∧ Below w.heap.size w w' := by
  obtain ⟨F, hF⟩ := hD.cts
  have H1 := hide (fun W (hb : Below w.heap.size w W) => refCopied_any nv l W (hD.nds.below hb) hz)
  have H2 := hide (fun W (hb : Below w.heap.size w W) => refOCopied_any cv C F W (hF.below hb) hC)
  have FI := hide hF.1
  obtain ⟨pn, kn, rfl⟩ := nds_form hD.nds
  obtain ⟨pc, kc, rfl⟩ := cts_form hD.cts
  have B0 : Hid (Below w.heap.size w ((w.alloc (.cells #[.slice pn l.length kn, .slice pc C.length kc] 31)).alloc (.cells #[.slice none 0 0, .slice none 0 0] 31))) := ((Below.refl _ w).alloc (Nat.le_refl _) _).alloc ((Below.refl _ w).alloc (Nat.le_refl _) (.cells #[.slice pn l.length kn, .slice pc C.length kc] 31)).size _
  have ND := hide ((Bk.new w [.slice pn l.length kn, .slice pc C.length kc] 31).below ((Below.refl _ (w.alloc (.cells #[.slice pn l.length kn, .slice pc C.length kc] 31))).alloc (Nat.le_refl _) (.cells #[.slice none 0 0, .slice none 0 0] 31)))
  have NR : Hid (Bk ((w.alloc (.cells #[.slice pn l.length kn, .slice pc C.length kc] 31)).alloc (.cells #[.slice none 0 0, .slice none 0 0] 31)) (w.heap.size + 1) [.slice none 0 0, .slice none 0 0] 31) := Bk.at' (bk_next rfl)
  clear hD hz hC hF
  go_enter Tryd.func10, Tryd.ntmps10
  go_upto_region 1 with fail
  generalize (w.alloc (.cells #[.slice pn l.length kn, .slice pc C.length kc] 31)).alloc (.cells #[.slice none 0 0, .slice none 0 0] 31) = w0 at *
  have x0 := ND.out.cell 0 rfl
  have x1 := ND.out.cell 1 rfl
  have r0 := NR.out.cell 0 rfl
  have r1 := NR.out.cell 1 rfl
  have s0 := NR.out.free 0
  have s1 := NR.out.free 1
  have l0 : w.heap.size + 1 < w0.heap.size := NR.out.lt
  go_region_held3 (fun w' => w'.cell? ⟨w.heap.size, 0, none⟩ = some (.slice pn l.length kn) ∧ w'.cell? ⟨w.heap.size, 1, none⟩ = some (.slice pc C.length kc)) (first | go_keep | exact ⟨cell_below x0 U1.out, cell_below x1 U1.out⟩ | exact ⟨cell_below x0 U2.out, cell_below x1 U2.out⟩ | exact ⟨(World.cell?_setCell_other _ _ _ _ (addr_neO (Nat.succ_ne_self _))).trans ((World.cell?_setCell_other _ _ _ _ (addr_neO (Nat.succ_ne_self _))).trans (cell_below x0 U2.out)), (World.cell?_setCell_other _ _ _ _ (addr_neO (Nat.succ_ne_self _))).trans ((World.cell?_setCell_other _ _ _ _ (addr_neO (Nat.succ_ne_self _))).trans (cell_below x1 U2.out))⟩)
    (first | (go_at_call 6; refine (H1.out _ (belRO B0.out 1)).mono ?_; rintro e w1 ⟨v1, L1, rfl, o1, e1, b1⟩; have O1 := hide o1; have E1 := hide e1; obtain ⟨p1, k1, rfl⟩ := own_form o1 e1; clear o1 e1; have U1 : Hid (Below w0.heap.size w0 w1) := undrewO b1) | (go_at_call 23; refine (H2.out _ (chain B0.out U1.out)).mono ?_; rintro e w2 ⟨v2, rfl, o2, b2⟩; have O2 := hide o2; obtain ⟨p2, k2, rfl, _⟩ := o2.form; clear o2; have U2 : Hid (Below w0.heap.size w0 w2) := chain U1.out b2; have y0 := cell_below r0 U2.out; have y1 := cell_below r1 U2.out; have z0 := (U2.out.frozen (World.block_lt_of_cell? _ _ r0)).trans s0; have z1 := (U2.out.frozen (World.block_lt_of_cell? _ _ r1)).trans s1))
  go_wp2_with fail
  refine bodyPost_ret (v := .agg #[.slice p1 l.length k1, .slice p2 C.length k2]) (by simp [results, go_sem, y0, y1]) rfl ?_
  have CH : Chg [w.heap.size + 1] w2 ((w2.setCell ⟨w.heap.size + 1, 0, none⟩ (.slice p1 l.length k1)).setCell ⟨w.heap.size + 1, 1, none⟩ (.slice p2 C.length k2)) := (Chg.setB _ _ _ _).trans (Chg.setB _ _ _ _)
  have BF : Below w.heap.size w ((w2.setCell ⟨w.heap.size + 1, 0, none⟩ (.slice p1 l.length k1)).setCell ⟨w.heap.size + 1, 1, none⟩ (.slice p2 C.length k2)) := ((chain B0.out U2.out).setCell (Nat.le_succ _) _).setCell (Nat.le_succ _) _
  have N1 := ((O1.out.below b2).chg CH (fun k q => by rw [List.mem_singleton.1 q]; exact l0)).nodes
  rw [E1.out] at N1
  exact ⟨_, _, rfl, ⟨N1, (O2.out.chg CH (fun k q => by rw [List.mem_singleton.1 q]; have := U1.out.size; omega)).cts (FI.out.below BF)⟩, BF⟩
/-- States that differ in flags alone. -/
theorem csok_same {C C' : List Ct} (h : CsOK C) (hl : C'.length = C.length) (hs : ∀ i (h1 : i < C.length) (h2 : i < C'.length), C'[i].files = C[i].files ∧ C'[i].val = C[i].val ∧ C'[i].custom = C[i].custom) : CsOK C' := by
  refine ⟨by rw [hl]; exact h.len, fun c hc => ?_, fun c hc => ?_⟩
  · obtain ⟨i, hi, rfl⟩ := List.getElem_of_mem hc
    rw [(hs i (by omega) hi).1]
    exact h.fs _ (List.getElem_mem _)
  · obtain ⟨i, hi, rfl⟩ := List.getElem_of_mem hc
    rw [(hs i (by omega) hi).2.1, (hs i (by omega) hi).2.2]
    exact h.tx _ (List.getElem_mem _)
theorem csok_nil : CsOK [] := ⟨by decide, fun c q => (by cases q), fun c q => (by cases q)⟩
theorem checkO_ok {l : List Nd} {C : List Ct} {id : Int} {on : Bool} (h : CsOK C) : CsOK (checkO l C id on).1 := by
  unfold checkO
  split
  · split
    · have U : ∀ i (h1 : i < C.length) (h2 : i < (chkU l C id on).length), (chkU l C id on)[i].files = C[i].files ∧ (chkU l C id on)[i].val = C[i].val ∧ (chkU l C id on)[i].custom = C[i].custom := by
        unfold chkU
        split
        · intro i h1 h2
          rw [upd_at h1]
          split <;> exact ⟨rfl, rfl, rfl⟩
        · exact fun i _ _ => ⟨rfl, rfl, rfl⟩
      refine csok_same (csok_same h (chkU_len ..) U) (by rw [check_len, chkU_len]) (fun i h1 h2 => ?_)
      have e := List.getElem_set (l := chkU l C id on) (i := id.toNat) (j := i) (a := { st (chkU l C id on) id with chk := on, dchk := true }) (by simpa using h1)
      have e' : (checkC l C id on)[i] = _ := e
      rw [e']
      split
      · rename_i q
        have es : st (chkU l C id on) id = (chkU l C id on)[i] := by
          unfold st
          rw [List.getD_eq_getElem?_getD, q, List.getElem?_eq_getElem h1, Option.getD_some]
        exact ⟨by show (st (chkU l C id on) id).files = _; rw [es], by show (st (chkU l C id on) id).val = _; rw [es], by show (st (chkU l C id on) id).custom = _; rw [es]⟩
      · exact ⟨rfl, rfl, rfl⟩
    · exact csok_nil
  · exact csok_nil
end Go.Proofs.YtldbaoolddlacaaDoor

namespace Go.Proofs.YtldbaoolddlacaaDoor
open Go.RowKit
set_option maxRecDepth 100000
set_option maxHeartbeats 8000000 in
theorem groupChecks_walk (nv cv : Value) (l : List Nd) (C : List Ct) (opt : Int) (on : Bool) (w : World) (hD : DocV w nv cv l C) (hz : DocSz l) (hC : CsOK C) (hT : GpTabs w) :
    Calls Tryd.prog 4 #[.agg #[nv, cv], .int .i64 opt, .bool on] w fun e w' => e = .returned (.bool true) ∧ Below w.heap.size w w' := by
  have HD := hide hD
  have HZ := hide hz
  have HO := hide hC
  have HT := hide hT
  have HW := hide (fun W (hb : Below w.heap.size w W) => gpWakes_any W (HT.out.below hb))
  have HC := hide (fun W (hb : Below w.heap.size w W) => gpCopied_any nv cv l C W (HD.out.below hb) HZ.out HO.out)
  have H1 := hide (fun nv cv W (hb : Below w.heap.size w W) (hd : DocV W nv cv l C) => gpCheck_any nv cv l C opt on W hd HZ.out HO.out (HT.out.below hb))
  have H2 := hide (fun W (hb : Below w.heap.size w W) => refGCheck_any nv cv l C opt on W (HD.out.below hb) HZ.out HO.out)
  have RO := hide (checkO_ok (l := l) (id := opt) (on := on) HO.out)
  have H3 := hide (fun va vb W (ha : CtsV W va (checkO l C opt on).1) (hb : CtsV W vb (checkO l C opt on).1) => refOSame_yes va vb (checkO l C opt on).1 W ha hb RO.out)
  have H4 := hide (fun va vb W (ha : CtsV W va C) (hb : CtsV W vb C) => refOSame_yes va vb C W ha hb HO.out)
  clear RO
  generalize checkO l C opt on = CO at *
  obtain ⟨RC, er⟩ := CO
  have CV := hide hD.cts
  obtain ⟨pn, kn, rfl⟩ := nds_form hD.nds
  obtain ⟨pc, kc, rfl⟩ := cts_form hD.cts
  have B0 : Hid (Below w.heap.size w (w.alloc (.cells #[.slice pn l.length kn, .slice pc C.length kc] 31))) := (Below.refl _ w).alloc (Nat.le_refl _) _
  have ND := hide (Bk.new w [.slice pn l.length kn, .slice pc C.length kc] 31)
  clear hD hz hC hT HD HZ HO HT
  go_enter Tryd.func4, Tryd.ntmps4
  go_upto_region 1 with fail
  generalize w.alloc (.cells #[.slice pn l.length kn, .slice pc C.length kc] 31) = w0 at *
  go_wp2_with fail
  refine (HW.out _ B0.out).mono ?_
  rintro e w1 ⟨rfl, b1⟩
  have B1 := hide (chain B0.out b1)
  replace ND := hide (ND.out.below b1)
  clear b1 B0
  have x0 := ND.out.cell 0 rfl
  have x1 := ND.out.cell 1 rfl
  go_wp2_with fail
  refine (HC.out _ B1.out).mono ?_
  rintro e w2 ⟨n2, c2, rfl, d2, b2⟩
  have D2 := hide d2
  obtain ⟨p2, k2, rfl⟩ := nds_form d2.nds
  obtain ⟨q2, m2, rfl⟩ := cts_form d2.cts
  have B2 := hide (chain B1.out b2)
  replace ND := hide (ND.out.below b2)
  clear d2 B1 b2 x0 x1
  have AL : Hid (Below w2.heap.size w2 (w2.alloc (.cells #[.slice p2 l.length k2, .slice q2 C.length m2] 31))) := (Below.refl _ w2).alloc (Nat.le_refl _) _
  have NO := hide (Bk.new w2 [.slice p2 l.length k2, .slice q2 C.length m2] 31)
  go_upto_region 4 with fail
  generalize w2.alloc (.cells #[.slice p2 l.length k2, .slice q2 C.length m2] 31) = w3 at *
  replace ND := hide (ND.out.below AL.out)
  replace D2 := hide (D2.out.below AL.out)
  have B3 := hide (chain B2.out AL.out)
  clear AL B2
  have x0 := ND.out.cell 0 rfl
  have x1 := ND.out.cell 1 rfl
  have y0 := NO.out.cell 0 rfl
  have y1 := NO.out.cell 1 rfl
  go_wp2_with fail
  refine (H1.out _ _ _ B3.out D2.out).mono ?_
  rintro e w4 ⟨v4, rfl, g4, b4⟩
  have G4 := hide g4
  obtain ⟨p4, k4, rfl⟩ := cts_form g4
  have B4 := hide (chain B3.out b4)
  replace ND := hide (ND.out.below b4)
  replace NO := hide (NO.out.below b4)
  replace D2 := hide (D2.out.below b4)
  clear g4 b4 B3 x0 x1 y0 y1
  have x0 := ND.out.cell 0 rfl
  have x1 := ND.out.cell 1 rfl
  go_wp2_with fail
  refine (H2.out _ B4.out).mono ?_
  rintro e w5 ⟨v5, rfl, g5, b5⟩
  have G5 := hide g5
  obtain ⟨p5, k5, rfl⟩ := cts_form g5
  have B5 := hide (chain B4.out b5)
  have F5 := hide (G4.out.below b5)
  replace ND := hide (ND.out.below b5)
  replace NO := hide (NO.out.below b5)
  replace D2 := hide (D2.out.below b5)
  clear g5 b5 B4 G4 x0 x1
  go_wp2_with fail
  refine (H3.out _ _ _ F5.out G5.out).mono ?_
  rintro e w6 ⟨rfl, b6⟩
  have B6 := hide (chain B5.out b6)
  replace ND := hide (ND.out.below b6)
  replace NO := hide (NO.out.below b6)
  replace D2 := hide (D2.out.below b6)
  have C6 := hide (CV.out.below B6.out)
  clear b6 B5 F5 G5
  have x1 := ND.out.cell 1 rfl
  have y1 := NO.out.cell 1 rfl
  go_wp2_with fail
  refine (H4.out _ _ _ D2.out.cts C6.out).mono ?_
  rintro e w7 ⟨rfl, b7⟩
  go_wp2_with fail
  go_ret
  exact ⟨rfl, chain B6.out b7⟩

end Go.Proofs.YtldbaoolddlacaaDoor
