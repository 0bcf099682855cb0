/- The document's Elements of layer 16. States of controls as they lie in the world, behind a slice. The document's Right, Copied, Only of layer 15. What a call of layer 15's document has about it. -/
import Derived.Test.YtlppocdhfeejkaaGreatDoorJvv13
import Derived.Test.YtlppocdhfeejkaaGreatDoorJvv26
import Derived.Deep.DeepCutAuto
import Derived.BigRegion
import Derived.Deep.RegionLaw

namespace Go.Proofs.YtlppocdhfeejkaaGreatDoor
open Go.RowKit
set_option maxRecDepth 100000
theorem anc_rng {l : List Nd} (h : Right l) : ∀ (d : Nat) {k x : Int}, k < l.length → hgt l k ≤ d → x ∈ anc l k → 0 ≤ x ∧ x < (l.length : Int)
  | 0, k, x, hk, hd, hm => by
    by_cases e : k < 0
    · rw [anc_neg e] at hm; cases hm
    · have := hgt_up (h.ende hk) e; omega
  | d + 1, k, x, hk, hd, hm => by
    by_cases e : k < 0
    · rw [anc_neg e] at hm; cases hm
    · rw [anc_up (h.ende hk) e] at hm
      rcases List.mem_cons.1 hm with q | q
      · rw [q]; omega
      · have h1 := hgt_up (h.ende hk) e
        exact anc_rng h d (h.up e hk).2 (by omega) q
end Go.Proofs.YtlppocdhfeejkaaGreatDoor

namespace Go.Proofs.YtlppocdhfeejkaaGreatDoor
open Go.RowKit
set_option maxRecDepth 100000
/-- The cells of states, each with the slice of its files. -/
def cellsC : List Ct → List Value → List Value
  | c :: C, f :: F => ctCells c f ++ cellsC C F
  | [], _ => []
  | _ :: _, [] => []
def fv0 : Value := .slice none 0 0
def fvAt (F : List Value) (i : Nat) : Value := F.getD i fv0
theorem fvAt_cons (f : Value) (F : List Value) (i : Nat) : fvAt (f :: F) (i + 1) = fvAt F i := by unfold fvAt; simp
theorem cellsC_len : ∀ {C : List Ct} {F : List Value}, F.length = C.length → (cellsC C F).length = C.length * 10
  | [], _, _ => by simp [cellsC]
  | c :: C, [], h => by cases h
  | c :: C, f :: F, h => by
    show (ctCells c f ++ cellsC C F).length = _
    rw [List.length_append, cellsC_len (C := C) (F := F) (by simpa using h), List.length_cons]
    show 10 + _ = _
    omega
theorem cellsC_at : ∀ {C : List Ct} {F : List Value} {i : Nat} (_ : F.length = C.length) (h : i < C.length) {j : Nat}, j < 10 → (cellsC C F)[i * 10 + j]? = (ctCells C[i] (fvAt F i))[j]?
  | c :: C, [], _, hF, _, _, _ => by cases hF
  | c :: C, f :: F, 0, _, _, j, hj => by
    show (ctCells c f ++ cellsC C F)[0 * 10 + j]? = _
    rw [List.getElem?_append_left (by show _ < 10; omega), Nat.zero_mul, Nat.zero_add]; rfl
  | c :: C, f :: F, i + 1, hF, h, j, hj => by
    show (ctCells c f ++ cellsC C F)[(i + 1) * 10 + j]? = _
    rw [List.getElem?_append_right (by show 10 ≤ _; omega), show (i + 1) * 10 + j - (ctCells c f).length = i * 10 + j by show (i + 1) * 10 + j - 10 = _; omega, fvAt_cons]
    exact cellsC_at (C := C) (F := F) (by simpa using hF) (by simpa using h) hj
theorem cellsC_set : ∀ {C : List Ct} {F : List Value} {i : Nat} (_ : F.length = C.length) (h : i < C.length) {j : Nat} {u : Value} {c' : Ct}, j < 10 → (ctCells C[i] (fvAt F i)).set j u = ctCells c' (fvAt F i) → (cellsC C F).set (i * 10 + j) u = cellsC (C.set i c') F
  | c :: C, [], _, hF, _, _, _, _, _, _ => by cases hF
  | c :: C, f :: F, 0, _, _, j, u, c', hj, e => by
    show (ctCells c f ++ cellsC C F).set (0 * 10 + j) u = ctCells c' f ++ cellsC C F
    rw [List.set_append_left _ _ (by show _ < 10; omega), Nat.zero_mul, Nat.zero_add]
    have e : (ctCells c f).set j u = ctCells c' f := e
    rw [e]
  | c :: C, f :: F, i + 1, hF, h, j, u, c', hj, e => by
    show (ctCells c f ++ cellsC C F).set ((i + 1) * 10 + j) u = ctCells c f ++ cellsC (C.set i c') F
    rw [List.set_append_right _ _ (by show 10 ≤ _; omega), show (i + 1) * 10 + j - (ctCells c f).length = i * 10 + j by show (i + 1) * 10 + j - 10 = _; omega]
    rw [fvAt_cons] at e
    rw [cellsC_set (C := C) (F := F) (by simpa using hF) (by simpa using h) hj e]
/-- The files of states lie in the world. -/
structure FilesIn (w : World) (C : List Ct) (F : List Value) : Prop where
  len : F.length = C.length
  at_ : ∀ i (h : i < C.length), FilesV w (fvAt F i) C[i].files
theorem FilesIn.below {w w' : World} {C : List Ct} {F : List Value} (h : FilesIn w C F) (hb : Below w.heap.size w w') : FilesIn w' C F := ⟨h.len, fun i hi => (h.at_ i hi).below hb⟩
theorem cellsC_one {w : World} : ∀ {C : List Ct} {F : List Value}, FilesIn w C F → ∀ u ∈ cellsC C F, u.oneCell' = true
  | [], _, _, u, hu => by simp [cellsC] at hu
  | c :: C, [], h, _, _ => by have := h.len; cases this
  | c :: C, f :: F, h, u, hu => by
    have hu : u ∈ ctCells c f ++ cellsC C F := hu
    rcases List.mem_append.1 hu with q | q
    · obtain ⟨p, k, e, _⟩ : FilesV w f c.files := h.at_ 0 (by simp)
      have e : f = .slice p c.files.length k := e
      simp only [ctCells, List.mem_cons, List.not_mem_nil, or_false] at q
      rcases q with rfl | rfl | rfl | rfl | rfl | rfl | rfl | rfl | rfl | rfl
      all_goals first | rfl | (rw [e]; rfl)
    · exact cellsC_one (C := C) (F := F) ⟨by have := h.len; simpa using this, fun i hi => by have := h.at_ (i + 1) (by simpa using hi); rw [fvAt_cons] at this; exact this⟩ u q
/-- One state at a place of a block. -/
def CtAt (w : World) (b o : Nat) (c : Ct) (fv : Value) : Prop := ∀ j u, (ctCells c fv)[j]? = some u → w.cell? ⟨b, o + j, none⟩ = some u
theorem CtAt.below {w w' : World} {b o : Nat} {c : Ct} {fv : Value} (h : CtAt w b o c fv) (hb : Below w.heap.size w w') : CtAt w' b o c fv := fun j u hu => cell_below (h j u hu) hb
/-- States behind a slice. -/
def CtsF (w : World) (v : Value) (C : List Ct) (F : List Value) : Prop := FilesIn w C F ∧ ∃ p k, v = .slice p C.length k ∧ (C = [] ∨ ∃ b o, p = some ⟨b, o, none⟩ ∧ ∀ i (h : i < C.length), CtAt w b (o + i * 10) C[i] (fvAt F i))
theorem CtsF.below {w w' : World} {v : Value} {C : List Ct} {F : List Value} (h : CtsF w v C F) (hb : Below w.heap.size w w') : CtsF w' v C F := by
  obtain ⟨hf, p, k, e, h⟩ := h
  refine ⟨hf.below hb, p, k, e, ?_⟩
  rcases h with h | ⟨b, o, e, h⟩
  · exact .inl h
  · exact .inr ⟨b, o, e, fun i hi => (h i hi).below hb⟩
def CtsV (w : World) (v : Value) (C : List Ct) : Prop := ∃ F, CtsF w v C F
theorem CtsV.below {w w' : World} {v : Value} {C : List Ct} (h : CtsV w v C) (hb : Below w.heap.size w w') : CtsV w' v C := by
  obtain ⟨F, h⟩ := h
  exact ⟨F, h.below hb⟩
theorem cts_nil (w : World) : CtsV w (.slice none 0 0) [] := ⟨[], ⟨rfl, fun i h => by cases h⟩, none, 0, rfl, .inl rfl⟩
theorem CtsF.raw {w : World} {v : Value} {C : List Ct} {F : List Value} (h : CtsF w v C F) : Raw w 10 v C.length (cellsC C F) := by
  obtain ⟨hf, p, k, rfl, h⟩ := h
  refine ⟨cellsC_len hf.len, p, k, rfl, ?_⟩
  rcases h with rfl | ⟨b, o, rfl, h⟩
  · exact .inl rfl
  · refine .inr ⟨b, o, rfl, fun j u hu => ?_⟩
    have hj : j < C.length * 10 := by have := (List.getElem?_eq_some_iff.1 hu).1; rwa [cellsC_len hf.len] at this
    have hi : j / 10 < C.length := by omega
    have hd := cellsC_at hf.len hi (j := j % 10) (by omega)
    rw [show j / 10 * 10 + j % 10 = j by omega] at hd
    have := h (j / 10) hi (j % 10) u (by rw [← hd]; exact hu)
    rwa [show o + j / 10 * 10 + j % 10 = o + j by omega] at this
/-- States that a statement takes. -/
structure CsOK (C : List Ct) : Prop where
  len : C.length ≤ 2199023255552
  fs : ∀ c ∈ C, FsOK c.files
  tx : ∀ c ∈ C, c.val.size ≤ 140737488355328 ∧ c.custom.size ≤ 140737488355328
/-- States of the call's own. -/
structure CtsO (base : Nat) (w : World) (v : Value) (C : List Ct) (F : List Value) : Prop where
  len : F.length = C.length
  row : w.ownsRow base 47 10 v C.length (cellsC C F)
theorem CtsO.at_ {base : Nat} {w : World} {v : Value} {C : List Ct} {F : List Value} (h : CtsO base w v C F) {g : Nat} (hg : v.ownBlock = some g) {i : Nat} (hi : i < C.length) : CtAt w g (i * 10) C[i] (fvAt F i) := fun j u hu => by
  have hj : j < 10 := (List.getElem?_eq_some_iff.1 hu).1
  exact owns_cell h.row hg ((cellsC_at h.len hi hj).trans hu)
theorem CtsO.cts {base : Nat} {w : World} {v : Value} {C : List Ct} {F : List Value} (h : CtsO base w v C F) (hf : FilesIn w C F) : CtsV w v C := by
  refine ⟨F, hf, ?_⟩
  by_cases h0 : C = []
  · rcases h.row.2 with ⟨rfl, _⟩ | ⟨g, cap, cur, rfl, _⟩
    · exact ⟨none, 0, by rw [h0]; rfl, .inl h0⟩
    · exact ⟨_, cap, rfl, .inl h0⟩
  · obtain ⟨g, cap, e, e2, _⟩ := owns_at h.row (List.length_pos_iff.2 h0)
    exact ⟨_, cap, e, .inr ⟨g, 0, rfl, fun i hi => by rw [Nat.zero_add]; exact h.at_ e2 hi⟩⟩
/-- One cell of a state is stored into. -/
theorem CtsO.put {base : Nat} {w : World} {v : Value} {C : List Ct} {F : List Value} (h : CtsO base w v C F) {g : Nat} (hg : v.ownBlock = some g) {i : Nat} (hi : i < C.length) {j : Nat} (hj : j < 10) {u : Value} {c' : Ct} (e : (ctCells C[i] (fvAt F i)).set j u = ctCells c' (fvAt F i)) :
    CtsO base (w.setCell ⟨g, i * 10 + j, none⟩ u) v (C.set i c') F := by
  have r := owns_set h.row hg (i * 10 + j) u
  rw [cellsC_set h.len hi hj e] at r
  exact ⟨by rw [List.length_set]; exact h.len, by rw [List.length_set]; exact r⟩
theorem CtsO.kept {base : Nat} {w w' : World} {v : Value} {C : List Ct} {F : List Value} (h : CtsO base w v C F) (hb : Below w.heap.size w w') : CtsO base w' v C F :=
  ⟨h.len, owns_kept h.row (Chg.of_below hb) (fun _ _ q => by cases q)⟩
/-- A document with its states, as it lies in the world. -/
structure DocV (w : World) (nv cv : Value) (l : List Nd) (C : List Ct) : Prop where
  nds : NodesV w nv l
  cts : CtsV w cv C
theorem DocV.below {w w' : World} {nv cv : Value} {l : List Nd} {C : List Ct} (h : DocV w nv cv l C) (hb : Below w.heap.size w w') : DocV w' nv cv l C := ⟨h.nds.below hb, h.cts.below hb⟩
end Go.Proofs.YtlppocdhfeejkaaGreatDoor

namespace Go.Proofs.YtlppocdhfeejkaaGreatDoor
open Go.RowKit
set_option maxRecDepth 100000
theorem infoC : (Tryz.prog.info? 47).map (fun i => (i.zero, i.size, i.bytes)) = some (some (.agg #[.string ⟨#[]⟩, .bool false, .bool false, .bool false, .bool false, .bool false, .bool false, .bool false, .string ⟨#[]⟩, .slice none 0 0]), 10, 64) := by kernel_rfl
theorem cts_form {w : World} {v : Value} {C : List Ct} (h : CtsV w v C) : ∃ p k, v = .slice p C.length k := by
  obtain ⟨F, _, p, k, e, _⟩ := h
  exact ⟨p, k, e⟩
theorem nds_form {w : World} {v : Value} {l : List Nd} (h : NodesV w v l) : ∃ p k, v = .slice p l.length k := by
  obtain ⟨p, k, e, _⟩ := h
  exact ⟨p, k, e⟩
set_option maxHeartbeats 8000000 in
theorem refORight_any (nv cv : Value) (l : List Nd) (C : List Ct) (w : World) (hD : DocV w nv cv l C) (hz : DocSz l) (hC : CsOK C) :
    Calls Tryz.prog 7 #[.agg #[nv, cv]] w fun e w' => e = .returned (.bool (rightD l C)) ∧ Below w.heap.size w w' := by
  have HB : Hid (∀ o : Obj, Below w.heap.size w (w.alloc o)) := fun o => (Below.refl _ w).alloc (Nat.le_refl _) _
  have HR := hide (fun W (hb : Below w.heap.size w W) => refDocRight_any nv l W (hD.nds.below hb) hz)
  obtain ⟨p, c, rfl⟩ := nds_form hD.nds
  obtain ⟨p2, c2, rfl⟩ := cts_form hD.cts
  have hl := hz.len
  have hl2 := hC.len
  have K0 := hide (Bk.new w [.slice p l.length c, .slice p2 C.length c2] 25)
  clear hD hz hC
  cases h : rightB l with
  | false =>
    have E : Hid (rightD l C = false) := by show _ = _; unfold rightD; rw [h]; rfl
    rw [h] at HR
    clear h
    go_enter Tryz.func7, Tryz.ntmps7
    go_wp2_with fail
    refine (HR.out _ (HB.out _)).mono ?_
    rintro e w1 ⟨rfl, b1⟩
    go_wp2_with fail
    go_ret
    exact ⟨ret_bool E.out.symm, chain (HB.out _) b1⟩
  | true =>
    have E : Hid (rightD l C = ((l.length : Int) == (C.length : Int))) := by show _ = _; unfold rightD; rw [h, Bool.true_and]; rfl
    rw [h] at HR
    clear h
    go_enter Tryz.func7, Tryz.ntmps7
    go_wp2_with fail
    refine (HR.out _ (HB.out _)).mono ?_
    rintro e w1 ⟨rfl, b1⟩
    have K1 := K0.out.below b1
    have c0 := K1.cell 0 rfl
    have c1 := K1.cell 1 rfl
    go_wp2_with fail
    go_ret
    exact ⟨ret_bool E.out.symm, chain (HB.out _) b1⟩
set_option maxHeartbeats 8000000 in
theorem refOCopied_any (v : Value) (C : List Ct) (F : List Value) (w : World) (hv : CtsF w v C F) (hC : CsOK C) :
    Calls Tryz.prog 17 #[v] w fun e w' => ∃ v', e = .returned v' ∧ CtsO w.heap.size w' v' C F ∧ Below w.heap.size w w' := by
  have RW := hide hv.raw
  have ONE := hide (cellsC_one hv.1)
  have HF := hide hv.1
  have hl := hC.len
  obtain ⟨iC, hI0, hI1, hI2, hI3⟩ := info_parts infoC
  obtain ⟨p, c, rfl⟩ := cts_form ⟨F, hv⟩
  clear hv hC
  go_enter Tryz.func17, Tryz.ntmps17
  go_wp2_with (at_builtin; refine wpList_append_raw rfl _ _ _ rfl w.heap.size 47 iC _ 10 64 Tryz.underlying23 hI0 hI1 hI2 hI3 rfl (by omega) (.slice none 0 0) 0 [] rfl (World.ownsRow_nil _ _ _ _) _ C.length (cellsC C F) rfl RW.out ONE.out (by unfold maxLen; omega) (by omega) (Nat.le_refl _) ?_; intro q1 c1 w1 own1 gr1 at1)
  rw [Nat.zero_add] at own1 at1
  rw [List.nil_append] at own1
  have B1 : Hid (Below w.heap.size w w1) := (Chg.of_grown gr1).none (fun k q => by simp [Value.ownBlock] at q)
  have O1 : Hid (CtsO w.heap.size w1 (.slice q1 C.length c1) C F) := ⟨HF.out.len, own1⟩
  clear own1 gr1 at1 RW ONE
  go_ret
  exact ⟨_, rfl, O1.out, B1.out⟩
theorem CtsO.form {base : Nat} {w : World} {v : Value} {C : List Ct} {F : List Value} (h : CtsO base w v C F) : ∃ p k, v = .slice p C.length k ∧ C.length ≤ k := by
  rcases h.row.2 with ⟨e, q⟩ | ⟨g, cap, cur, e, hb, hg, h1, h2, _⟩
  · exact ⟨none, 0, by rw [e, q], by omega⟩
  · exact ⟨_, cap, e, h1⟩
end Go.Proofs.YtlppocdhfeejkaaGreatDoor

namespace Go.Proofs.YtlppocdhfeejkaaGreatDoor
open Go.RowKit
set_option maxRecDepth 100000
structure OEnv (w W : World) (nv cv ov : Value) (C : List Ct) (F : List Value) (av : Value) (all : List Int) : Prop where
  bel : Below w.heap.size w W
  doc : Bk W w.heap.size [nv, cv] 25
  row : CtsO (w.heap.size + 1) W ov C F
  kid : KidsO (w.heap.size + 1) W av all
  sep : ∀ k, av.ownBlock = some k → ov.ownBlock ≠ some k
theorem OEnv.step {w W W' : World} {nv cv ov av : Value} {C : List Ct} {F : List Value} {all : List Int} (h : OEnv w W nv cv ov C F av all) (b : Below W.heap.size W W') : OEnv w W' nv cv ov C F av all :=
  ⟨chain h.bel b, h.doc.below b, h.row.kept b, owns_kept h.kid (Chg.of_below b) (fun _ _ q => by cases q), h.sep⟩
theorem OEnv.drew {w W : World} {nv cv ov av : Value} {C : List Ct} {F : List Value} {all : List Int} (h : OEnv w W nv cv ov C F av all) (n : Nat) : OEnv w (W.drewN n) nv cv ov C F av all :=
  h.step ⟨rfl, rfl, rfl, Nat.le_refl _, fun _ _ => rfl⟩
/-- At the begin: the document alone. -/
theorem OEnv.new (w : World) (nv cv : Value) : OEnv w (w.alloc (.cells #[nv, cv] 25)) nv cv (.slice none 0 0) [] [] (.slice none 0 0) [] :=
  ⟨(Below.refl _ w).alloc (Nat.le_refl _) _, Bk.new w [nv, cv] _, ⟨rfl, World.ownsRow_nil _ _ _ _⟩, World.ownsRow_nil _ _ _ _, fun _ q => by cases q⟩
theorem OEnv.big {w W : World} {nv cv ov av : Value} {C : List Ct} {F : List Value} {all : List Int} (h : OEnv w W nv cv ov C F av all) : w.heap.size + 1 ≤ W.heap.size := h.doc.lt
/-- A list of its own. -/
theorem OEnv.listed {w W W' : World} {nv cv ov av' : Value} {C : List Ct} {F : List Value} {all' : List Int} (h : OEnv w W nv cv ov C F (.slice none 0 0) []) (b : Below W.heap.size W W') (hk : KidsO W.heap.size W' av' all') : OEnv w W' nv cv ov C F av' all' := by
  have k := h.step b
  refine ⟨k.bel, k.doc, k.row, owns_mono hk h.big, fun j q t => ?_⟩
  have h1 := (World.ownsRow.lt hk j q).1
  have h2 := (World.ownsRow.lt h.row.row j t).2
  omega
theorem own_num {w W : World} {nv cv ov : Value} {pa : Option Addr} {ca : Nat} {C : List Ct} {F : List Value} {all : List Int} (h : OEnv w W nv cv ov C F (.slice pa all.length ca) all) {k : Nat} (hk : k < all.length) :
    ∃ ga, pa = some ⟨ga, 0, none⟩ ∧ W.cell? ⟨ga, k, none⟩ = some (.int .i64 all[k]) ∧ (Value.slice pa all.length ca).ownBlock = some ga := by
  obtain ⟨g, cap, e, eb, _⟩ := owns_at h.kid (by omega)
  cases e
  exact ⟨g, rfl, owns_cell h.kid eb (cellsI_at hk), eb⟩
theorem st_nat {C : List Ct} {q : Nat} (h : q < C.length) : st C (q : Int) = C[q] := by unfold st; rw [Int.toNat_natCast, List.getD_eq_getElem?_getD, List.getElem?_eq_getElem h]; rfl

end Go.Proofs.YtlppocdhfeejkaaGreatDoor
