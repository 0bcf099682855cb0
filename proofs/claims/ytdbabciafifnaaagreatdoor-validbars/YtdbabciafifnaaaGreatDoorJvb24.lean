/- States of controls as they lie in the world, behind a slice. The document's Right, Copied, Only of layer 15. What a call of layer 15's document has about it. -/
import Derived.Test.YtdbabciafifnaaaGreatDoorJvb17
import Derived.BigRegion
import Derived.Deep.RegionLaw

namespace Go.Proofs.YtdbabciafifnaaaGreatDoor
open Go.RowKit
set_option maxRecDepth 100000
/-- The cells of states, each with the slice of its files. -/
def cellsC : List Ct → List Value → List Value
  | c :: C, f :: F => ctCells c f ++ cellsC C F
  | [], _ => []
  | _ :: _, [] => []
def fv0 : Value := .slice none 0 0
def fvAt (F : List Value) (i : Nat) : Value := F.getD i fv0
theorem fvAt_cons (f : Value) (F : List Value) (i : Nat) : fvAt (f :: F) (i + 1) = fvAt F i := by unfold fvAt; simp
theorem cellsC_at : ∀ {C : List Ct} {F : List Value} {i : Nat} (_ : F.length = C.length) (h : i < C.length) {j : Nat}, j < 10 → (cellsC C F)[i * 10 + j]? = (ctCells C[i] (fvAt F i))[j]?
  | c :: C, [], _, hF, _, _, _ => by cases hF
  | c :: C, f :: F, 0, _, _, j, hj => by
    show (ctCells c f ++ cellsC C F)[0 * 10 + j]? = _
    rw [List.getElem?_append_left (by show _ < 10; omega), Nat.zero_mul, Nat.zero_add]; rfl
  | c :: C, f :: F, i + 1, hF, h, j, hj => by
    show (ctCells c f ++ cellsC C F)[(i + 1) * 10 + j]? = _
    rw [List.getElem?_append_right (by show 10 ≤ _; omega), show (i + 1) * 10 + j - (ctCells c f).length = i * 10 + j by show (i + 1) * 10 + j - 10 = _; omega, fvAt_cons]
    exact cellsC_at (C := C) (F := F) (by simpa using hF) (by simpa using h) hj
theorem cellsC_set : ∀ {C : List Ct} {F : List Value} {i : Nat} (_ : F.length = C.length) (h : i < C.length) {j : Nat} {u : Value} {c' : Ct}, j < 10 → (ctCells C[i] (fvAt F i)).set j u = ctCells c' (fvAt F i) → (cellsC C F).set (i * 10 + j) u = cellsC (C.set i c') F
  | c :: C, [], _, hF, _, _, _, _, _, _ => by cases hF
  | c :: C, f :: F, 0, _, _, j, u, c', hj, e => by
    show (ctCells c f ++ cellsC C F).set (0 * 10 + j) u = ctCells c' f ++ cellsC C F
    rw [List.set_append_left _ _ (by show _ < 10; omega), Nat.zero_mul, Nat.zero_add]
    have e : (ctCells c f).set j u = ctCells c' f := e
    rw [e]
  | c :: C, f :: F, i + 1, hF, h, j, u, c', hj, e => by
    show (ctCells c f ++ cellsC C F).set ((i + 1) * 10 + j) u = ctCells c f ++ cellsC (C.set i c') F
    rw [List.set_append_right _ _ (by show 10 ≤ _; omega), show (i + 1) * 10 + j - (ctCells c f).length = i * 10 + j by show (i + 1) * 10 + j - 10 = _; omega]
    rw [fvAt_cons] at e
    rw [cellsC_set (C := C) (F := F) (by simpa using hF) (by simpa using h) hj e]
/-- The files of states lie in the world. -/
structure FilesIn (w : World) (C : List Ct) (F : List Value) : Prop where
  len : F.length = C.length
  at_ : ∀ i (h : i < C.length), FilesV w (fvAt F i) C[i].files
theorem FilesIn.below {w w' : World} {C : List Ct} {F : List Value} (h : FilesIn w C F) (hb : Below w.heap.size w w') : FilesIn w' C F := ⟨h.len, fun i hi => (h.at_ i hi).below hb⟩
/-- One state at a place of a block. -/
def CtAt (w : World) (b o : Nat) (c : Ct) (fv : Value) : Prop := ∀ j u, (ctCells c fv)[j]? = some u → w.cell? ⟨b, o + j, none⟩ = some u
theorem CtAt.below {w w' : World} {b o : Nat} {c : Ct} {fv : Value} (h : CtAt w b o c fv) (hb : Below w.heap.size w w') : CtAt w' b o c fv := fun j u hu => cell_below (h j u hu) hb
/-- States behind a slice. -/
def CtsF (w : World) (v : Value) (C : List Ct) (F : List Value) : Prop := FilesIn w C F ∧ ∃ p k, v = .slice p C.length k ∧ (C = [] ∨ ∃ b o, p = some ⟨b, o, none⟩ ∧ ∀ i (h : i < C.length), CtAt w b (o + i * 10) C[i] (fvAt F i))
theorem CtsF.below {w w' : World} {v : Value} {C : List Ct} {F : List Value} (h : CtsF w v C F) (hb : Below w.heap.size w w') : CtsF w' v C F := by
  obtain ⟨hf, p, k, e, h⟩ := h
  refine ⟨hf.below hb, p, k, e, ?_⟩
  rcases h with h | ⟨b, o, e, h⟩
  · exact .inl h
  · exact .inr ⟨b, o, e, fun i hi => (h i hi).below hb⟩
def CtsV (w : World) (v : Value) (C : List Ct) : Prop := ∃ F, CtsF w v C F
theorem CtsV.below {w w' : World} {v : Value} {C : List Ct} (h : CtsV w v C) (hb : Below w.heap.size w w') : CtsV w' v C := by
  obtain ⟨F, h⟩ := h
  exact ⟨F, h.below hb⟩
/-- States that a statement takes. -/
structure CsOK (C : List Ct) : Prop where
  len : C.length ≤ 2199023255552
  fs : ∀ c ∈ C, FsOK c.files
  tx : ∀ c ∈ C, c.val.size ≤ 140737488355328 ∧ c.custom.size ≤ 140737488355328
/-- States of the call's own. -/
structure CtsO (base : Nat) (w : World) (v : Value) (C : List Ct) (F : List Value) : Prop where
  len : F.length = C.length
  row : w.ownsRow base 55 10 v C.length (cellsC C F)
theorem CtsO.at_ {base : Nat} {w : World} {v : Value} {C : List Ct} {F : List Value} (h : CtsO base w v C F) {g : Nat} (hg : v.ownBlock = some g) {i : Nat} (hi : i < C.length) : CtAt w g (i * 10) C[i] (fvAt F i) := fun j u hu => by
  have hj : j < 10 := (List.getElem?_eq_some_iff.1 hu).1
  exact owns_cell h.row hg ((cellsC_at h.len hi hj).trans hu)
theorem CtsO.cts {base : Nat} {w : World} {v : Value} {C : List Ct} {F : List Value} (h : CtsO base w v C F) (hf : FilesIn w C F) : CtsV w v C := by
  refine ⟨F, hf, ?_⟩
  by_cases h0 : C = []
  · rcases h.row.2 with ⟨rfl, _⟩ | ⟨g, cap, cur, rfl, _⟩
    · exact ⟨none, 0, by rw [h0]; rfl, .inl h0⟩
    · exact ⟨_, cap, rfl, .inl h0⟩
  · obtain ⟨g, cap, e, e2, _⟩ := owns_at h.row (List.length_pos_iff.2 h0)
    exact ⟨_, cap, e, .inr ⟨g, 0, rfl, fun i hi => by rw [Nat.zero_add]; exact h.at_ e2 hi⟩⟩
/-- One cell of a state is stored into. -/
theorem CtsO.put {base : Nat} {w : World} {v : Value} {C : List Ct} {F : List Value} (h : CtsO base w v C F) {g : Nat} (hg : v.ownBlock = some g) {i : Nat} (hi : i < C.length) {j : Nat} (hj : j < 10) {u : Value} {c' : Ct} (e : (ctCells C[i] (fvAt F i)).set j u = ctCells c' (fvAt F i)) :
    CtsO base (w.setCell ⟨g, i * 10 + j, none⟩ u) v (C.set i c') F := by
  have r := owns_set h.row hg (i * 10 + j) u
  rw [cellsC_set h.len hi hj e] at r
  exact ⟨by rw [List.length_set]; exact h.len, by rw [List.length_set]; exact r⟩
theorem CtsO.kept {base : Nat} {w w' : World} {v : Value} {C : List Ct} {F : List Value} (h : CtsO base w v C F) (hb : Below w.heap.size w w') : CtsO base w' v C F :=
  ⟨h.len, owns_kept h.row (Chg.of_below hb) (fun _ _ q => by cases q)⟩
/-- A document with its states, as it lies in the world. -/
structure DocV (w : World) (nv cv : Value) (l : List Nd) (C : List Ct) : Prop where
  nds : NodesV w nv l
  cts : CtsV w cv C
theorem DocV.below {w w' : World} {nv cv : Value} {l : List Nd} {C : List Ct} (h : DocV w nv cv l C) (hb : Below w.heap.size w w') : DocV w' nv cv l C := ⟨h.nds.below hb, h.cts.below hb⟩
end Go.Proofs.YtdbabciafifnaaaGreatDoor

namespace Go.Proofs.YtdbabciafifnaaaGreatDoor
open Go.RowKit
set_option maxRecDepth 100000
theorem infoC : (Tryz.prog.info? 55).map (fun i => (i.zero, i.size, i.bytes)) = some (some (.agg #[.string ⟨#[]⟩, .bool false, .bool false, .bool false, .bool false, .bool false, .bool false, .bool false, .string ⟨#[]⟩, .slice none 0 0]), 10, 64) := by kernel_rfl
theorem cts_form {w : World} {v : Value} {C : List Ct} (h : CtsV w v C) : ∃ p k, v = .slice p C.length k := by
  obtain ⟨F, _, p, k, e, _⟩ := h
  exact ⟨p, k, e⟩
theorem nds_form {w : World} {v : Value} {l : List Nd} (h : NodesV w v l) : ∃ p k, v = .slice p l.length k := by
  obtain ⟨p, k, e, _⟩ := h
  exact ⟨p, k, e⟩
end Go.Proofs.YtdbabciafifnaaaGreatDoor

namespace Go.Proofs.YtdbabciafifnaaaGreatDoor
open Go.RowKit
set_option maxRecDepth 100000
structure OEnv (w W : World) (nv cv ov : Value) (C : List Ct) (F : List Value) (av : Value) (all : List Int) : Prop where
  bel : Below w.heap.size w W
  doc : Bk W w.heap.size [nv, cv] 28
  row : CtsO (w.heap.size + 1) W ov C F
  kid : KidsO (w.heap.size + 1) W av all
  sep : ∀ k, av.ownBlock = some k → ov.ownBlock ≠ some k
theorem OEnv.step {w W W' : World} {nv cv ov av : Value} {C : List Ct} {F : List Value} {all : List Int} (h : OEnv w W nv cv ov C F av all) (b : Below W.heap.size W W') : OEnv w W' nv cv ov C F av all :=
  ⟨chain h.bel b, h.doc.below b, h.row.kept b, owns_kept h.kid (Chg.of_below b) (fun _ _ q => by cases q), h.sep⟩
theorem OEnv.drew {w W : World} {nv cv ov av : Value} {C : List Ct} {F : List Value} {all : List Int} (h : OEnv w W nv cv ov C F av all) (n : Nat) : OEnv w (W.drewN n) nv cv ov C F av all :=
  h.step ⟨rfl, rfl, rfl, Nat.le_refl _, fun _ _ => rfl⟩
/-- At the begin: the document alone. -/
theorem OEnv.new (w : World) (nv cv : Value) : OEnv w (w.alloc (.cells #[nv, cv] 28)) nv cv (.slice none 0 0) [] [] (.slice none 0 0) [] :=
  ⟨(Below.refl _ w).alloc (Nat.le_refl _) _, Bk.new w [nv, cv] _, ⟨rfl, World.ownsRow_nil _ _ _ _⟩, World.ownsRow_nil _ _ _ _, fun _ q => by cases q⟩
theorem st_nat {C : List Ct} {q : Nat} (h : q < C.length) : st C (q : Int) = C[q] := by unfold st; rw [Int.toNat_natCast, List.getD_eq_getElem?_getD, List.getElem?_eq_getElem h]; rfl

end Go.Proofs.YtdbabciafifnaaaGreatDoor
