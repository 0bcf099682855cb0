/- A control's state as it lies in the world. States of controls as they lie in the world, behind a slice. Entries in a row of the call's own. The program's copied of layer 14. The program's copying of states. -/
import Derived.Test.YtldbaoolddlacaaGreatDoorJgz13
import Derived.Test.YtldbaoolddlacaaGreatDoorJgz19
import Derived.Test.YtldbaoolddlacaaGreatDoorJgz23
import Derived.Deep.DeepCutAuto
import Derived.Deep.RegionHeld3
import Derived.BigRegion

namespace Go.Proofs.YtldbaoolddlacaaGreatDoor
open Go.RowKit
/-- An entry at a place of a block. -/
structure EnAt (w : World) (b o : Nat) (e : En) : Prop where
  c0 : w.cell? ⟨b, o, none⟩ = some (.string e.name)
  c1 : w.cell? ⟨b, o + 1, none⟩ = some (.string e.val)
  c2 : w.cell? ⟨b, o + 2, none⟩ = some (.bool e.file)
  c3 : w.cell? ⟨b, o + 3, none⟩ = some (.string e.fname)
  c4 : w.cell? ⟨b, o + 4, none⟩ = some (.string e.typ)
theorem EnAt.below {w w' : World} {b o : Nat} {e : En} (h : EnAt w b o e) (hb : Below w.heap.size w w') : EnAt w' b o e := ⟨cell_below h.c0 hb, cell_below h.c1 hb, cell_below h.c2 hb, cell_below h.c3 hb, cell_below h.c4 hb⟩
/-- Entries behind a slice. -/
def FilesV (w : World) (v : Value) (fs : List En) : Prop := ∃ p c, v = .slice p fs.length c ∧ (fs = [] ∨ ∃ b o, p = some ⟨b, o, none⟩ ∧ ∀ i (h : i < fs.length), EnAt w b (o + i * 5) fs[i])
theorem FilesV.below {w w' : World} {v : Value} {fs : List En} (h : FilesV w v fs) (hb : Below w.heap.size w w') : FilesV w' v fs := by
  obtain ⟨p, c, e, h⟩ := h
  refine ⟨p, c, e, ?_⟩
  rcases h with h | ⟨b, o, e, h⟩
  · exact .inl h
  · exact .inr ⟨b, o, e, fun i hi => (h i hi).below hb⟩
/-- Files that a statement takes. -/
structure FsOK (fs : List En) : Prop where
  len : fs.length ≤ 4398046511104
  few : fs.length * 72 ≤ 140737488355328
  name : ∀ e ∈ fs, e.fname.size ≤ 140737488355328
  rest : ∀ e ∈ fs, e.name.size ≤ 140737488355328 ∧ e.val.size ≤ 140737488355328 ∧ e.typ.size ≤ 140737488355328
theorem files_nil (w : World) : FilesV w (.slice none 0 0) [] := ⟨none, 0, rfl, .inl rfl⟩
/-- The cells of a control's state, but for its files. -/
def ctCells (c : Ct) (fv : Value) : List Value := [.string c.val, .bool c.dirty, .bool c.typed, .bool c.chk, .bool c.dchk, .bool c.mixed, .bool c.sel, .bool c.dsel, .string c.custom, fv]
def ctV (c : Ct) (fv : Value) : Value := .agg (ctCells c fv).toArray
/-- A control's state. -/
def CtlV (w : World) (v : Value) (c : Ct) : Prop := ∃ fv, v = ctV c fv ∧ FilesV w fv c.files
theorem CtlV.below {w w' : World} {v : Value} {c : Ct} (h : CtlV w v c) (hb : Below w.heap.size w w') : CtlV w' v c := by
  obtain ⟨fv, e, h⟩ := h
  exact ⟨fv, e, h.below hb⟩
end Go.Proofs.YtldbaoolddlacaaGreatDoor

namespace Go.Proofs.YtldbaoolddlacaaGreatDoor
open Go.RowKit
set_option maxRecDepth 100000
/-- The cells of states, each with the slice of its files. -/
def cellsC : List Ct → List Value → List Value
  | c :: C, f :: F => ctCells c f ++ cellsC C F
  | [], _ => []
  | _ :: _, [] => []
def fv0 : Value := .slice none 0 0
def fvAt (F : List Value) (i : Nat) : Value := F.getD i fv0
theorem fvAt_cons (f : Value) (F : List Value) (i : Nat) : fvAt (f :: F) (i + 1) = fvAt F i := by unfold fvAt; simp
theorem cellsC_len : ∀ {C : List Ct} {F : List Value}, F.length = C.length → (cellsC C F).length = C.length * 10
  | [], _, _ => by simp [cellsC]
  | c :: C, [], h => by cases h
  | c :: C, f :: F, h => by
    show (ctCells c f ++ cellsC C F).length = _
    rw [List.length_append, cellsC_len (C := C) (F := F) (by simpa using h), List.length_cons]
    show 10 + _ = _
    omega
theorem cellsC_at : ∀ {C : List Ct} {F : List Value} {i : Nat} (_ : F.length = C.length) (h : i < C.length) {j : Nat}, j < 10 → (cellsC C F)[i * 10 + j]? = (ctCells C[i] (fvAt F i))[j]?
  | c :: C, [], _, hF, _, _, _ => by cases hF
  | c :: C, f :: F, 0, _, _, j, hj => by
    show (ctCells c f ++ cellsC C F)[0 * 10 + j]? = _
    rw [List.getElem?_append_left (by show _ < 10; omega), Nat.zero_mul, Nat.zero_add]; rfl
  | c :: C, f :: F, i + 1, hF, h, j, hj => by
    show (ctCells c f ++ cellsC C F)[(i + 1) * 10 + j]? = _
    rw [List.getElem?_append_right (by show 10 ≤ _; omega), show (i + 1) * 10 + j - (ctCells c f).length = i * 10 + j by show (i + 1) * 10 + j - 10 = _; omega, fvAt_cons]
    exact cellsC_at (C := C) (F := F) (by simpa using hF) (by simpa using h) hj
theorem cellsC_set : ∀ {C : List Ct} {F : List Value} {i : Nat} (_ : F.length = C.length) (h : i < C.length) {j : Nat} {u : Value} {c' : Ct}, j < 10 → (ctCells C[i] (fvAt F i)).set j u = ctCells c' (fvAt F i) → (cellsC C F).set (i * 10 + j) u = cellsC (C.set i c') F
  | c :: C, [], _, hF, _, _, _, _, _, _ => by cases hF
  | c :: C, f :: F, 0, _, _, j, u, c', hj, e => by
    show (ctCells c f ++ cellsC C F).set (0 * 10 + j) u = ctCells c' f ++ cellsC C F
    rw [List.set_append_left _ _ (by show _ < 10; omega), Nat.zero_mul, Nat.zero_add]
    have e : (ctCells c f).set j u = ctCells c' f := e
    rw [e]
  | c :: C, f :: F, i + 1, hF, h, j, u, c', hj, e => by
    show (ctCells c f ++ cellsC C F).set ((i + 1) * 10 + j) u = ctCells c f ++ cellsC (C.set i c') F
    rw [List.set_append_right _ _ (by show 10 ≤ _; omega), show (i + 1) * 10 + j - (ctCells c f).length = i * 10 + j by show (i + 1) * 10 + j - 10 = _; omega]
    rw [fvAt_cons] at e
    rw [cellsC_set (C := C) (F := F) (by simpa using hF) (by simpa using h) hj e]
/-- The files of states lie in the world. -/
structure FilesIn (w : World) (C : List Ct) (F : List Value) : Prop where
  len : F.length = C.length
  at_ : ∀ i (h : i < C.length), FilesV w (fvAt F i) C[i].files
theorem FilesIn.below {w w' : World} {C : List Ct} {F : List Value} (h : FilesIn w C F) (hb : Below w.heap.size w w') : FilesIn w' C F := ⟨h.len, fun i hi => (h.at_ i hi).below hb⟩
theorem FilesIn.other {w : World} {C C' : List Ct} {F : List Value} (h : FilesIn w C F) (hl : C'.length = C.length) (he : ∀ i (h1 : i < C.length) (h2 : i < C'.length), C'[i].files = C[i].files) : FilesIn w C' F :=
  ⟨by rw [hl]; exact h.len, fun i hi => by rw [he i (by omega) hi]; exact h.at_ i (by omega)⟩
theorem cellsC_one {w : World} : ∀ {C : List Ct} {F : List Value}, FilesIn w C F → ∀ u ∈ cellsC C F, u.oneCell' = true
  | [], _, _, u, hu => by simp [cellsC] at hu
  | c :: C, [], h, _, _ => by have := h.len; cases this
  | c :: C, f :: F, h, u, hu => by
    have hu : u ∈ ctCells c f ++ cellsC C F := hu
    rcases List.mem_append.1 hu with q | q
    · obtain ⟨p, k, e, _⟩ : FilesV w f c.files := h.at_ 0 (by simp)
      have e : f = .slice p c.files.length k := e
      simp only [ctCells, List.mem_cons, List.not_mem_nil, or_false] at q
      rcases q with rfl | rfl | rfl | rfl | rfl | rfl | rfl | rfl | rfl | rfl
      all_goals first | rfl | (rw [e]; rfl)
    · exact cellsC_one (C := C) (F := F) ⟨by have := h.len; simpa using this, fun i hi => by have := h.at_ (i + 1) (by simpa using hi); rw [fvAt_cons] at this; exact this⟩ u q
/-- One state at a place of a block. -/
def CtAt (w : World) (b o : Nat) (c : Ct) (fv : Value) : Prop := ∀ j u, (ctCells c fv)[j]? = some u → w.cell? ⟨b, o + j, none⟩ = some u
theorem CtAt.below {w w' : World} {b o : Nat} {c : Ct} {fv : Value} (h : CtAt w b o c fv) (hb : Below w.heap.size w w') : CtAt w' b o c fv := fun j u hu => cell_below (h j u hu) hb
/-- States behind a slice. -/
def CtsF (w : World) (v : Value) (C : List Ct) (F : List Value) : Prop := FilesIn w C F ∧ ∃ p k, v = .slice p C.length k ∧ (C = [] ∨ ∃ b o, p = some ⟨b, o, none⟩ ∧ ∀ i (h : i < C.length), CtAt w b (o + i * 10) C[i] (fvAt F i))
theorem CtsF.below {w w' : World} {v : Value} {C : List Ct} {F : List Value} (h : CtsF w v C F) (hb : Below w.heap.size w w') : CtsF w' v C F := by
  obtain ⟨hf, p, k, e, h⟩ := h
  refine ⟨hf.below hb, p, k, e, ?_⟩
  rcases h with h | ⟨b, o, e, h⟩
  · exact .inl h
  · exact .inr ⟨b, o, e, fun i hi => (h i hi).below hb⟩
def CtsV (w : World) (v : Value) (C : List Ct) : Prop := ∃ F, CtsF w v C F
theorem CtsV.below {w w' : World} {v : Value} {C : List Ct} (h : CtsV w v C) (hb : Below w.heap.size w w') : CtsV w' v C := by
  obtain ⟨F, h⟩ := h
  exact ⟨F, h.below hb⟩
theorem cts_nil (w : World) : CtsV w (.slice none 0 0) [] := ⟨[], ⟨rfl, fun i h => by cases h⟩, none, 0, rfl, .inl rfl⟩
theorem CtsF.raw {w : World} {v : Value} {C : List Ct} {F : List Value} (h : CtsF w v C F) : Raw w 10 v C.length (cellsC C F) := by
  obtain ⟨hf, p, k, rfl, h⟩ := h
  refine ⟨cellsC_len hf.len, p, k, rfl, ?_⟩
  rcases h with rfl | ⟨b, o, rfl, h⟩
  · exact .inl rfl
  · refine .inr ⟨b, o, rfl, fun j u hu => ?_⟩
    have hj : j < C.length * 10 := by have := (List.getElem?_eq_some_iff.1 hu).1; rwa [cellsC_len hf.len] at this
    have hi : j / 10 < C.length := by omega
    have hd := cellsC_at hf.len hi (j := j % 10) (by omega)
    rw [show j / 10 * 10 + j % 10 = j by omega] at hd
    have := h (j / 10) hi (j % 10) u (by rw [← hd]; exact hu)
    rwa [show o + j / 10 * 10 + j % 10 = o + j by omega] at this
/-- States that a statement takes. -/
structure CsOK (C : List Ct) : Prop where
  len : C.length ≤ 2199023255552
  fs : ∀ c ∈ C, FsOK c.files
  tx : ∀ c ∈ C, c.val.size ≤ 140737488355328 ∧ c.custom.size ≤ 140737488355328
/-- States of the call's own. -/
structure CtsO (base : Nat) (w : World) (v : Value) (C : List Ct) (F : List Value) : Prop where
  len : F.length = C.length
  row : w.ownsRow base 43 10 v C.length (cellsC C F)
theorem CtsO.at_ {base : Nat} {w : World} {v : Value} {C : List Ct} {F : List Value} (h : CtsO base w v C F) {g : Nat} (hg : v.ownBlock = some g) {i : Nat} (hi : i < C.length) : CtAt w g (i * 10) C[i] (fvAt F i) := fun j u hu => by
  have hj : j < 10 := (List.getElem?_eq_some_iff.1 hu).1
  exact owns_cell h.row hg ((cellsC_at h.len hi hj).trans hu)
theorem CtsO.cts {base : Nat} {w : World} {v : Value} {C : List Ct} {F : List Value} (h : CtsO base w v C F) (hf : FilesIn w C F) : CtsV w v C := by
  refine ⟨F, hf, ?_⟩
  by_cases h0 : C = []
  · rcases h.row.2 with ⟨rfl, _⟩ | ⟨g, cap, cur, rfl, _⟩
    · exact ⟨none, 0, by rw [h0]; rfl, .inl h0⟩
    · exact ⟨_, cap, rfl, .inl h0⟩
  · obtain ⟨g, cap, e, e2, _⟩ := owns_at h.row (List.length_pos_iff.2 h0)
    exact ⟨_, cap, e, .inr ⟨g, 0, rfl, fun i hi => by rw [Nat.zero_add]; exact h.at_ e2 hi⟩⟩
/-- One cell of a state is stored into. -/
theorem CtsO.put {base : Nat} {w : World} {v : Value} {C : List Ct} {F : List Value} (h : CtsO base w v C F) {g : Nat} (hg : v.ownBlock = some g) {i : Nat} (hi : i < C.length) {j : Nat} (hj : j < 10) {u : Value} {c' : Ct} (e : (ctCells C[i] (fvAt F i)).set j u = ctCells c' (fvAt F i)) :
    CtsO base (w.setCell ⟨g, i * 10 + j, none⟩ u) v (C.set i c') F := by
  have r := owns_set h.row hg (i * 10 + j) u
  rw [cellsC_set h.len hi hj e] at r
  exact ⟨by rw [List.length_set]; exact h.len, by rw [List.length_set]; exact r⟩
theorem CtsO.kept {base : Nat} {w w' : World} {v : Value} {C : List Ct} {F : List Value} (h : CtsO base w v C F) (hb : Below w.heap.size w w') : CtsO base w' v C F :=
  ⟨h.len, owns_kept h.row (Chg.of_below hb) (fun _ _ q => by cases q)⟩
/-- A document with its states, as it lies in the world. -/
structure DocV (w : World) (nv cv : Value) (l : List Nd) (C : List Ct) : Prop where
  nds : NodesV w nv l
  cts : CtsV w cv C
theorem DocV.below {w w' : World} {nv cv : Value} {l : List Nd} {C : List Ct} (h : DocV w nv cv l C) (hb : Below w.heap.size w w') : DocV w' nv cv l C := ⟨h.nds.below hb, h.cts.below hb⟩
end Go.Proofs.YtldbaoolddlacaaGreatDoor

namespace Go.Proofs.YtldbaoolddlacaaGreatDoor
open Go.RowKit
set_option maxRecDepth 100000
/-- The cells of a file. -/
def enCells (e : En) : List Value := [.string e.name, .string e.val, .bool e.file, .string e.fname, .string e.typ]
def cellsE (fs : List En) : List Value := fs.flatMap enCells
theorem cellsE_app (x y : List En) : cellsE (x ++ y) = cellsE x ++ cellsE y := by simp [cellsE]
theorem cellsE_at : ∀ {fs : List En} {i : Nat} (h : i < fs.length) {j : Nat}, j < 5 → (cellsE fs)[i * 5 + j]? = (enCells fs[i])[j]?
  | e :: fs, 0, _, j, hj => by
    show (enCells e ++ cellsE fs)[0 * 5 + j]? = _
    rw [Nat.zero_mul, Nat.zero_add, List.getElem?_append_left (by show j < 5; exact hj)]
    rfl
  | e :: fs, i + 1, h, j, hj => by
    show (enCells e ++ cellsE fs)[(i + 1) * 5 + j]? = _
    rw [List.getElem?_append_right (by show 5 ≤ _; omega), show (i + 1) * 5 + j - (enCells e).length = i * 5 + j by show (i + 1) * 5 + j - 5 = _; omega]
    exact cellsE_at (fs := fs) (by simpa using h) hj
theorem files_own {w : World} {base : Nat} {v : Value} {fs : List En} (h : w.ownsRow base 78 5 v fs.length (cellsE fs)) : FilesV w v fs := by
  rcases h.2 with ⟨e, q⟩ | ⟨g, cap, cur, e, hb, hg, h1, h2, _⟩
  · have : fs = [] := List.eq_nil_of_length_eq_zero q
    subst this
    exact ⟨none, 0, e, .inl rfl⟩
  · refine ⟨_, cap, e, .inr ⟨g, 0, rfl, fun i hi => ?_⟩⟩
    subst e
    have C : ∀ j u, j < 5 → (enCells fs[i])[j]? = some u → w.cell? ⟨g, 0 + i * 5 + j, none⟩ = some u := fun j u hj hu => by
      rw [Nat.zero_add]
      exact owns_cell h rfl ((cellsE_at hi hj).trans hu)
    exact ⟨C 0 _ (by omega) rfl, C 1 _ (by omega) rfl, C 2 _ (by omega) rfl, C 3 _ (by omega) rfl, C 4 _ (by omega) rfl⟩
/-- Files in a row of the call's own. -/
def OwnR (B : Nat) (w : World) (v : Value) (fs : List En) : Prop := w.ownsRow B 78 5 v fs.length (cellsE fs)
theorem OwnR.files {B : Nat} {w : World} {v : Value} {fs : List En} (h : OwnR B w v fs) : FilesV w v fs := files_own h
theorem OwnR.below {B : Nat} {w w' : World} {v : Value} {fs : List En} (h : OwnR B w v fs) (hb : Below w.heap.size w w') : OwnR B w' v fs := owns_below h hb
theorem OwnR.mono {B B' : Nat} {w : World} {v : Value} {fs : List En} (h : OwnR B w v fs) (hb : B' ≤ B) : OwnR B' w v fs := by
  refine ⟨h.1, ?_⟩
  rcases h.2 with hn' | ⟨g, cap, cur, rfl, hb', rest⟩
  · exact .inl hn'
  · exact .inr ⟨g, cap, cur, rfl, by omega, rest⟩
theorem OwnR.at_ {B : Nat} {w : World} {v : Value} {fs : List En} (h : OwnR B w v fs) (g : Nat) (hg : v.ownBlock = some g) : B ≤ g ∧ g < w.heap.size := ⟨(h.lt g hg).1, (h.lt g hg).2⟩
theorem OwnR.form {B : Nat} {w : World} {v : Value} {fs : List En} (h : OwnR B w v fs) : ∃ p c, v = .slice p fs.length c := by
  obtain ⟨p, c, e, _⟩ := h.files
  exact ⟨p, c, e⟩
theorem OwnR.set {B : Nat} {w : World} {v : Value} {fs : List En} (h : OwnR B w v fs) {m : Nat} (hm : ∀ g, v.ownBlock = some g → g ≠ m) (k : Nat) (u : Value) : OwnR B (w.setCell ⟨m, k, none⟩ u) v fs := by
  refine ⟨h.1, ?_⟩
  rcases h.2 with q | ⟨g, cap, cur, e1, h1, h2, h3⟩
  · exact .inl q
  · exact .inr ⟨g, cap, cur, e1, h1, (Below.heap_setCell _ _ _ _ (hm g (by rw [e1]; rfl))).trans h2, h3⟩
theorem info_en : (Tryz.prog.info? 78).map (fun i => (i.zero, i.size, i.bytes)) = some (some (.agg #[.string ⟨#[]⟩, .string ⟨#[]⟩, .bool false, .string ⟨#[]⟩, .string ⟨#[]⟩]), 5, 72) := by kernel_rfl
theorem cellsE_len : ∀ (fs : List En), (cellsE fs).length = fs.length * 5
  | [] => rfl
  | e :: fs => by
    show (enCells e ++ cellsE fs).length = (fs.length + 1) * 5
    rw [List.length_append, cellsE_len fs]
    show 5 + _ = _
    omega
theorem FilesV.raw {w : World} {v : Value} {fs : List En} (h : FilesV w v fs) : Raw w 5 v fs.length (cellsE fs) := by
  obtain ⟨p, c, e, h⟩ := h
  refine ⟨cellsE_len fs, p, c, e, ?_⟩
  rcases h with h | ⟨b, o, e, h⟩
  · exact .inl (by rw [h]; rfl)
  · refine .inr ⟨b, o, e, fun j u hu => ?_⟩
    have hj : j < fs.length * 5 := by
      rw [← cellsE_len fs]
      exact (List.getElem?_eq_some_iff.1 hu).1
    have hi : j / 5 < fs.length := by omega
    have ej : j = j / 5 * 5 + j % 5 := by omega
    have E := h (j / 5) hi
    have q := cellsE_at hi (j := j % 5) (by omega)
    rw [← ej, hu] at q
    have hm : j % 5 = 0 ∨ j % 5 = 1 ∨ j % 5 = 2 ∨ j % 5 = 3 ∨ j % 5 = 4 := by omega
    have eo : o + j = o + j / 5 * 5 + j % 5 := by omega
    rw [eo]
    rcases hm with hm | hm | hm | hm | hm <;> rw [hm] at q ⊢ <;> cases q
    · exact E.c0
    · exact E.c1
    · exact E.c2
    · exact E.c3
    · exact E.c4
theorem OwnR.nil (B : Nat) (w : World) : OwnR B w (.slice none 0 0) [] := World.ownsRow_nil _ _ _ _
end Go.Proofs.YtldbaoolddlacaaGreatDoor

namespace Go.Proofs.YtldbaoolddlacaaGreatDoor
open Go.RowKit
set_option maxRecDepth 100000
theorem list_same : ∀ {l : List Value} {k : Nat} {u : Value}, l[k]? = some u → l.set k u = l
  | _ :: _, 0, _, h => by cases h; rfl
  | a :: l, k + 1, u, h => by show a :: l.set k u = _; rw [list_same (l := l) (k := k) h]
theorem Bk.same {w : World} {n : Nat} {cs : List Value} {t : TypeId} (h : Bk w n cs t) (k : Nat) {u : Value} (hu : cs[k]? = some u) : Bk (w.setCell ⟨n, k, none⟩ u) n cs t := by
  have := h.set k u
  rwa [list_same hu] at this
theorem bk_low {B : Nat} {w w' : World} {n : Nat} {cs : List Value} {t : TypeId} (h : Bk w n cs t) (hn : n < B) (hb : Below B w w') : Bk w' n cs t := ⟨(hb.block n hn).trans h.lies⟩
theorem undrewB {B : Nat} {a b : World} (h : Below B a.drew b) : Below B a b := ⟨h.os, h.tape, h.output, h.size, h.block⟩
/-- Two cells that may be stored into stay so. -/
theorem kept2 {W W' : World} {p q : Addr} {x y : Value} (h : W.cell? p = some x ∧ W.frozen? p = false ∧ W.cell? q = some y ∧ W.frozen? q = false) (hb : Below W.heap.size W W') : W'.cell? p = some x ∧ W'.frozen? p = false ∧ W'.cell? q = some y ∧ W'.frozen? q = false :=
  ⟨cell_below h.1 hb, (hb.frozen (World.block_lt_of_cell? _ _ h.1)).trans h.2.1, cell_below h.2.2.1 hb, (hb.frozen (World.block_lt_of_cell? _ _ h.2.2.1)).trans h.2.2.2⟩
theorem kept2p {W : World} {p q : Addr} {x y : Value} (h : W.cell? p = some x ∧ W.frozen? p = false ∧ W.cell? q = some y ∧ W.frozen? q = false) (hne : q ≠ p) : (W.setCell p x).cell? p = some x ∧ (W.setCell p x).frozen? p = false ∧ (W.setCell p x).cell? q = some y ∧ (W.setCell p x).frozen? q = false :=
  ⟨World.cell?_setCell_same _ _ _ (by rw [h.1]), (World.frozen?_setCell ..).trans h.2.1, (World.cell?_setCell_other _ _ _ _ hne.symm).trans h.2.2.1, (World.frozen?_setCell ..).trans h.2.2.2⟩
theorem kept2q {W : World} {p q : Addr} {x y : Value} (h : W.cell? p = some x ∧ W.frozen? p = false ∧ W.cell? q = some y ∧ W.frozen? q = false) (hne : p ≠ q) : (W.setCell q y).cell? p = some x ∧ (W.setCell q y).frozen? p = false ∧ (W.setCell q y).cell? q = some y ∧ (W.setCell q y).frozen? q = false :=
  ⟨(World.cell?_setCell_other _ _ _ _ hne.symm).trans h.1, (World.frozen?_setCell ..).trans h.2.1, World.cell?_setCell_same _ _ _ (by rw [h.2.2.1]), (World.frozen?_setCell ..).trans h.2.2.2⟩
theorem addr_neB {b o o' : Nat} (h : o ≠ o') : (⟨b, o, none⟩ : Addr) ≠ ⟨b, o', none⟩ := fun e => h (by cases e; rfl)
theorem owns_low {w : World} {base : Nat} {e : TypeId} {size : Nat} {v : Value} {n : Nat} {xs : List Value} (h : w.ownsRow base e size v n xs) {m : Nat} (hm : m < base) (k : Nat) (u : Value) : (w.setCell ⟨m, k, none⟩ u).ownsRow base e size v n xs := by
  refine ⟨h.1, ?_⟩
  rcases h.2 with q | ⟨g, cap, cur, e1, h1, h2, h3⟩
  · exact .inl q
  · exact .inr ⟨g, cap, cur, e1, h1, (Below.heap_setCell _ _ _ _ (fun q => by have : g = m := q; omega)).trans h2, h3⟩
theorem owns_low10 {w : World} {base : Nat} {e : TypeId} {size : Nat} {v : Value} {n : Nat} {xs : List Value} (h : w.ownsRow base e size v n xs) {m : Nat} (hm : m < base) (a0 a1 a2 a3 a4 a5 a6 a7 a8 a9 : Value) :
    ((((((((((w.setCell ⟨m, 0, none⟩ a0).setCell ⟨m, 1, none⟩ a1).setCell ⟨m, 2, none⟩ a2).setCell ⟨m, 3, none⟩ a3).setCell ⟨m, 4, none⟩ a4).setCell ⟨m, 5, none⟩ a5).setCell ⟨m, 6, none⟩ a6).setCell ⟨m, 7, none⟩ a7).setCell ⟨m, 8, none⟩ a8).setCell ⟨m, 9, none⟩ a9).ownsRow base e size v n xs :=
  owns_low (owns_low (owns_low (owns_low (owns_low (owns_low (owns_low (owns_low (owns_low (owns_low h hm _ _) hm _ _) hm _ _) hm _ _) hm _ _) hm _ _) hm _ _) hm _ _) hm _ _) hm _ _
theorem low_set10 {B : Nat} {w0 w : World} {b : Nat} (hb : B ≤ b) (h : Below B w0 w) (a0 a1 a2 a3 a4 a5 a6 a7 a8 a9 : Value) :
    Below B w0 ((((((((((w.setCell ⟨b, 0, none⟩ a0).setCell ⟨b, 1, none⟩ a1).setCell ⟨b, 2, none⟩ a2).setCell ⟨b, 3, none⟩ a3).setCell ⟨b, 4, none⟩ a4).setCell ⟨b, 5, none⟩ a5).setCell ⟨b, 6, none⟩ a6).setCell ⟨b, 7, none⟩ a7).setCell ⟨b, 8, none⟩ a8).setCell ⟨b, 9, none⟩ a9) :=
  (((((((((h.setCell hb _).setCell hb _).setCell hb _).setCell hb _).setCell hb _).setCell hb _).setCell hb _).setCell hb _).setCell hb _).setCell hb _
theorem low_set {B : Nat} {a b : World} (h : Below B a b) {n : Nat} (hn : B ≤ n) (k : Nat) (u : Value) : Below B a (b.setCell ⟨n, k, none⟩ u) := h.setCell hn _
set_option maxHeartbeats 8000000 in
theorem ctCopied_big (C : Ct) (fv : Value) (w : World) (hf : FilesV w fv C.files) (hF : FsOK C.files) (hv : C.val.size ≤ 140737488355328) (hc : C.custom.size ≤ 140737488355328) :
    Calls Tryz.prog 31 #[ctV C fv] w fun e w' => ∃ fv', e = .returned (ctV C fv') ∧ OwnR w.heap.size w' fv' C.files ∧ Below w.heap.size w w' := by
  obtain ⟨fp, fc, rfl, hk⟩ := hf
  obtain ⟨c0, c1, c2, c3, c4, c5, c6, c7, c8, c9⟩ := C
  have H0 := hide (fun W => clone_any c0 W (by have : c0.size ≤ 140737488355328 := hv; omega))
  have H8 := hide (fun W => clone_any c8 W (by have : c8.size ≤ 140737488355328 := hc; omega))
  have HF : Hid (FsOK c9) := hF
  have HK : Hid (c9 = [] ∨ ∃ b o, fp = some ⟨b, o, none⟩ ∧ ∀ i (h : i < c9.length), EnAt w b (o + i * 5) c9[i]) := hk
  have hlen : c9.length * 72 ≤ 140737488355328 := HF.out.few
  have B0 : Hid (Below w.heap.size w ((w.alloc (.cells #[.string c0, .bool c1, .bool c2, .bool c3, .bool c4, .bool c5, .bool c6, .bool c7, .string c8, .slice fp c9.length fc] 43)).alloc (.cells #[.string ⟨#[]⟩, .bool false, .bool false, .bool false, .bool false, .bool false, .bool false, .bool false, .string ⟨#[]⟩, .slice none 0 0] 43))) := ((Below.refl _ w).alloc (Nat.le_refl _) _).alloc ((Below.refl _ w).alloc (Nat.le_refl _) (.cells #[.string c0, .bool c1, .bool c2, .bool c3, .bool c4, .bool c5, .bool c6, .bool c7, .string c8, .slice fp c9.length fc] 43)).size _
  have NC := hide ((Bk.new w [.string c0, .bool c1, .bool c2, .bool c3, .bool c4, .bool c5, .bool c6, .bool c7, .string c8, .slice fp c9.length fc] 43).below ((Below.refl _ (w.alloc (.cells #[.string c0, .bool c1, .bool c2, .bool c3, .bool c4, .bool c5, .bool c6, .bool c7, .string c8, .slice fp c9.length fc] 43))).alloc (Nat.le_refl _) (.cells #[.string ⟨#[]⟩, .bool false, .bool false, .bool false, .bool false, .bool false, .bool false, .bool false, .string ⟨#[]⟩, .slice none 0 0] 43)))
  have NR0 := hide (Bk.new (w.alloc (.cells #[.string c0, .bool c1, .bool c2, .bool c3, .bool c4, .bool c5, .bool c6, .bool c7, .string c8, .slice fp c9.length fc] 43)) [.string ⟨#[]⟩, .bool false, .bool false, .bool false, .bool false, .bool false, .bool false, .bool false, .string ⟨#[]⟩, .slice none 0 0] 43)
  have NR : Hid (Bk ((w.alloc (.cells #[.string c0, .bool c1, .bool c2, .bool c3, .bool c4, .bool c5, .bool c6, .bool c7, .string c8, .slice fp c9.length fc] 43)).alloc (.cells #[.string ⟨#[]⟩, .bool false, .bool false, .bool false, .bool false, .bool false, .bool false, .bool false, .string ⟨#[]⟩, .slice none 0 0] 43)) (w.heap.size + 1) [.string ⟨#[]⟩, .bool false, .bool false, .bool false, .bool false, .bool false, .bool false, .bool false, .string ⟨#[]⟩, .slice none 0 0] 43) := by
    have e : (w.alloc (.cells #[.string c0, .bool c1, .bool c2, .bool c3, .bool c4, .bool c5, .bool c6, .bool c7, .string c8, .slice fp c9.length fc] 43)).heap.size = w.heap.size + 1 := by simp
    rw [e] at NR0; exact NR0
  clear NR0
  have LOW : Hid (w.heap.size ≤ ((w.alloc (.cells #[.string c0, .bool c1, .bool c2, .bool c3, .bool c4, .bool c5, .bool c6, .bool c7, .string c8, .slice fp c9.length fc] 43)).alloc (.cells #[.string ⟨#[]⟩, .bool false, .bool false, .bool false, .bool false, .bool false, .bool false, .bool false, .string ⟨#[]⟩, .slice none 0 0] 43)).heap.size) := B0.out.size
  clear hk hF hv hc
  unfold ctV ctCells
  go_enter Tryz.func31, Tryz.ntmps31
  go_upto_region 1 with fail
  generalize hBn : w.heap.size = B at *
  generalize (w.alloc (.cells #[.string c0, .bool c1, .bool c2, .bool c3, .bool c4, .bool c5, .bool c6, .bool c7, .string c8, .slice fp c9.length fc] 43)).alloc (.cells #[.string ⟨#[]⟩, .bool false, .bool false, .bool false, .bool false, .bool false, .bool false, .bool false, .string ⟨#[]⟩, .slice none 0 0] 43) = w0 at *
  go_cut [8] (fun _ wx => Hid (Bk wx B [.string c0, .bool c1, .bool c2, .bool c3, .bool c4, .bool c5, .bool c6, .bool c7, .string c8, .slice fp c9.length fc] 43) ∧ Hid (Bk wx (B + 1) [.string ⟨#[]⟩, .bool false, .bool false, .bool false, .bool false, .bool false, .bool false, .bool false, .string ⟨#[]⟩, .slice none 0 0] 43) ∧ Hid (Below B w0 wx))
  case first =>
    have z0 := NC.out.cell 0 rfl
    have z1 := NC.out.cell 8 rfl
    have y0 := NC.out.free 0
    have y1 := NC.out.free 8
    go_region_held3 (fun w' => w'.cell? ⟨B, 0, none⟩ = some (.string c0) ∧ w'.frozen? ⟨B, 0, none⟩ = false ∧ w'.cell? ⟨B, 8, none⟩ = some (.string c8) ∧ w'.frozen? ⟨B, 8, none⟩ = false)
      (first | exact kept2p (by assumption) (addr_neB (by omega)) | exact kept2q (by assumption) (addr_neB (by omega)) | exact kept2 (by assumption) b1 | exact kept2 (by assumption) b2 | go_keep)
      (first | (go_at_call 53; refine (H0.out _).mono ?_; rintro e wa ⟨rfl, b1⟩) | (go_at_call 53; refine (H8.out _).mono ?_; rintro e wb ⟨rfl, b2⟩))
    all_goals
      go_wp2_with fail
      go_meet
      case rel =>
        first
          | (have bb : Below w0.heap.size w0 wb := undrewB (chain b1 b2)
             have k1 := NC.out.below bb
             have l1 := bb.mono LOW.out
             first
               | exact ⟨(k1.same 0 rfl).same 8 rfl, (((NR.out.below bb).other (Nat.ne_of_lt (Nat.lt_succ_self _)) _ _).other (Nat.ne_of_lt (Nat.lt_succ_self _)) _ _), low_set (low_set l1 (Nat.le_refl _) _ _) (Nat.le_refl _) _ _⟩
               | exact ⟨(k1.same 8 rfl).same 0 rfl, (((NR.out.below bb).other (Nat.ne_of_lt (Nat.lt_succ_self _)) _ _).other (Nat.ne_of_lt (Nat.lt_succ_self _)) _ _), low_set (low_set l1 (Nat.le_refl _) _ _) (Nat.le_refl _) _ _⟩)
          | (have bb : Below w0.heap.size w0 wa := undrewB (chain b2 b1)
             have k1 := NC.out.below bb
             have l1 := bb.mono LOW.out
             first
               | exact ⟨(k1.same 0 rfl).same 8 rfl, (((NR.out.below bb).other (Nat.ne_of_lt (Nat.lt_succ_self _)) _ _).other (Nat.ne_of_lt (Nat.lt_succ_self _)) _ _), low_set (low_set l1 (Nat.le_refl _) _ _) (Nat.le_refl _) _ _⟩
               | exact ⟨(k1.same 8 rfl).same 0 rfl, (((NR.out.below bb).other (Nat.ne_of_lt (Nat.lt_succ_self _)) _ _).other (Nat.ne_of_lt (Nat.lt_succ_self _)) _ _), low_set (low_set l1 (Nat.le_refl _) _ _) (Nat.le_refl _) _ _⟩)
  case rest =>
    obtain ⟨K1, R1, L1⟩ := hcut
    rename World => w1
    have B1 : Hid (Below B w w1) := B0.out.trans L1.out
    have x9 := K1.out.cell 9 rfl
    have ln : B < w1.heap.size := K1.out.lt
    have ln2 : B + 1 < w1.heap.size := R1.out.lt
    obtain ⟨iE, hE0, hE1, hE2, hE3⟩ := info_parts info_en
    clear NC NR L1 B0 LOW H0 H8
    go_wp2_with fail
    go_loopw [3, 17] (fun ov iv wr => ∃ (j : Nat) (q : Option Addr) (cp : Nat), j ≤ c9.length ∧ iv = .int .i64 j ∧ ov = .slice q j cp ∧ Hid (wr.ownsRow w1.heap.size 78 5 (.slice q j cp) j (cellsE (c9.take j))) ∧ Hid (Below w1.heap.size w1 wr)) (fun _ iv _ => c9.length - (intOf iv).toNat)
    case atStart => exact ⟨0, none, 0, Nat.zero_le _, rfl, rfl, by show World.ownsRow _ _ _ _ _ _ _; rw [List.take_zero]; exact World.ownsRow_nil _ _ _ _, Below.refl _ _⟩
    case round =>
      rename World => wr
      obtain ⟨j, qv, cv, hj, rfl, rfl, OW, BW⟩ := hrel
      by_cases h : j < c9.length
      · have i1 : (j : Int) < (c9.length : Int) := by omega
        have i0 : (0 : Int) ≤ (j : Int) := by omega
        obtain ⟨b, o, rfl, hc⟩ : ∃ b o, fp = some ⟨b, o, none⟩ ∧ ∀ i (h : i < c9.length), EnAt w b (o + i * 5) c9[i] := by
          rcases HK.out with t | t
          · rw [t] at h; simp at h
          · exact t
        have BR : Hid (Below B w wr) := B1.out.trans (BW.out.mono (by omega))
        have EA := (hc j h).below (by rw [hBn]; exact BR.out)
        have a0 := EA.c0
        have a1 := EA.c1
        have a2 := EA.c2
        have a3 := EA.c3
        have a4 := EA.c4
        have mj := List.getElem_mem h
        have r0 := HF.out.rest _ mj
        have r3 := HF.out.name _ mj
        have H0 := hide (fun W => clone_any c9[j].name W (by omega))
        have H1 := hide (fun W => clone_any c9[j].val W (by omega))
        have H3 := hide (fun W => clone_any c9[j].fname W (by omega))
        have H4 := hide (fun W => clone_any c9[j].typ W (by omega))
        have TK : Hid (cellsE (c9.take (j + 1)) = cellsE (c9.take j) ++ [.string c9[j].name, .string c9[j].val, .bool c9[j].file, .string c9[j].fname, .string c9[j].typ]) := by
          show _ = _
          rw [List.take_succ_eq_append_getElem h, cellsE_app]
          congr 1
        have bl : b < wr.heap.size := World.block_lt_of_cell? _ _ a0
        have bn : b ≠ wr.heap.size := by omega
        clear hc EA mj r0 r3 HK HF x9 BR
        generalize c9[j].name = e0 at *
        generalize c9[j].val = e1 at *
        generalize c9[j].file = e2 at *
        generalize c9[j].fname = e3 at *
        generalize c9[j].typ = e4 at *
        have NE := hide (Bk.new wr [.string e0, .string e1, .bool e2, .string e3, .string e4] 78)
        have LW : Hid (Below wr.heap.size wr (wr.alloc (.cells #[.string e0, .string e1, .bool e2, .string e3, .string e4] 78))) := (Below.refl _ wr).alloc (Nat.le_refl _) _
        have LOW : Hid (wr.heap.size ≤ (wr.alloc (.cells #[.string e0, .string e1, .bool e2, .string e3, .string e4] 78)).heap.size) := LW.out.size
        have MW : Hid (w1.heap.size ≤ wr.heap.size) := BW.out.size
        go_upto_region 6 with fail
        generalize hG : wr.heap.size = G at *
        generalize wr.alloc (.cells #[.string e0, .string e1, .bool e2, .string e3, .string e4] 78) = yE at *
        clear a0 a1 a2 a3 a4 bl bn
        go_cut [23] (fun _ wx => Hid (Bk wx G [.string e0, .string e1, .bool e2, .string e3, .string e4] 78) ∧ Hid (Below G yE wx))
        case first =>
          have z0 := NE.out.cell 0 rfl
          have z1 := NE.out.cell 1 rfl
          have y0 := NE.out.free 0
          have y1 := NE.out.free 1
          go_region_held3 (fun w' => w'.cell? ⟨G, 0, none⟩ = some (.string e0) ∧ w'.frozen? ⟨G, 0, none⟩ = false ∧ w'.cell? ⟨G, 1, none⟩ = some (.string e1) ∧ w'.frozen? ⟨G, 1, none⟩ = false)
            (first | exact kept2p (by assumption) (addr_neB (by omega)) | exact kept2q (by assumption) (addr_neB (by omega)) | exact kept2 (by assumption) b1 | exact kept2 (by assumption) b2 | go_keep)
            (first | (go_at_call 53; refine (H0.out _).mono ?_; rintro e wa ⟨rfl, b1⟩) | (go_at_call 53; refine (H1.out _).mono ?_; rintro e wb ⟨rfl, b2⟩))
          all_goals
            go_wp2_with fail
            go_meet
            case rel =>
              first
                | (have bb : Below yE.heap.size yE wb := undrewB (chain b1 b2)
                   have k1 := NE.out.below bb
                   have l1 := bb.mono LOW.out
                   first
                     | exact ⟨(k1.same 0 rfl).same 1 rfl, low_set (low_set l1 (Nat.le_refl _) _ _) (Nat.le_refl _) _ _⟩
                     | exact ⟨(k1.same 1 rfl).same 0 rfl, low_set (low_set l1 (Nat.le_refl _) _ _) (Nat.le_refl _) _ _⟩)
                | (have bb : Below yE.heap.size yE wa := undrewB (chain b2 b1)
                   have k1 := NE.out.below bb
                   have l1 := bb.mono LOW.out
                   first
                     | exact ⟨(k1.same 0 rfl).same 1 rfl, low_set (low_set l1 (Nat.le_refl _) _ _) (Nat.le_refl _) _ _⟩
                     | exact ⟨(k1.same 1 rfl).same 0 rfl, low_set (low_set l1 (Nat.le_refl _) _ _) (Nat.le_refl _) _ _⟩)
        case rest =>
          obtain ⟨K6, L6⟩ := hcut
          rename World => w6
          have LX : Hid (Below G wr w6) := LW.out.trans L6.out
          have LOX : Hid (G ≤ w6.heap.size) := Nat.le_trans LOW.out L6.out.size
          clear NE LW LOW H0 H1 L6
          go_upto_region 7 with fail
          go_cut [31] (fun _ wx => Hid (Bk wx G [.string e0, .string e1, .bool e2, .string e3, .string e4] 78) ∧ Hid (Below G w6 wx))
          case first =>
            have z0 := K6.out.cell 3 rfl
            have z1 := K6.out.cell 4 rfl
            have y0 := K6.out.free 3
            have y1 := K6.out.free 4
            go_region_held3 (fun w' => w'.cell? ⟨G, 3, none⟩ = some (.string e3) ∧ w'.frozen? ⟨G, 3, none⟩ = false ∧ w'.cell? ⟨G, 4, none⟩ = some (.string e4) ∧ w'.frozen? ⟨G, 4, none⟩ = false)
              (first | exact kept2p (by assumption) (addr_neB (by omega)) | exact kept2q (by assumption) (addr_neB (by omega)) | exact kept2 (by assumption) b1 | exact kept2 (by assumption) b2 | go_keep)
              (first | (go_at_call 53; refine (H3.out _).mono ?_; rintro e wa ⟨rfl, b1⟩) | (go_at_call 53; refine (H4.out _).mono ?_; rintro e wb ⟨rfl, b2⟩))
            all_goals
              go_wp2_with fail
              go_meet
              case rel =>
                first
                  | (have bb : Below w6.heap.size w6 wb := undrewB (chain b1 b2)
                     have k1 := K6.out.below bb
                     have l1 := bb.mono LOX.out
                     first
                       | exact ⟨(k1.same 3 rfl).same 4 rfl, low_set (low_set l1 (Nat.le_refl _) _ _) (Nat.le_refl _) _ _⟩
                       | exact ⟨(k1.same 4 rfl).same 3 rfl, low_set (low_set l1 (Nat.le_refl _) _ _) (Nat.le_refl _) _ _⟩)
                  | (have bb : Below w6.heap.size w6 wa := undrewB (chain b2 b1)
                     have k1 := K6.out.below bb
                     have l1 := bb.mono LOX.out
                     first
                       | exact ⟨(k1.same 3 rfl).same 4 rfl, low_set (low_set l1 (Nat.le_refl _) _ _) (Nat.le_refl _) _ _⟩
                       | exact ⟨(k1.same 4 rfl).same 3 rfl, low_set (low_set l1 (Nat.le_refl _) _ _) (Nat.le_refl _) _ _⟩)
          case rest =>
            obtain ⟨K7, L7⟩ := hcut
            rename World => w7
            have LY : Hid (Below G wr w7) := LX.out.trans L7.out
            have d0 := K7.out.cell 0 rfl
            have d1 := K7.out.cell 1 rfl
            have d2 := K7.out.cell 2 rfl
            have d3 := K7.out.cell 3 rfl
            have d4 := K7.out.cell 4 rfl
            have AL : Hid (Below w7.heap.size w7 (w7.alloc (.cells #[.string e0, .string e1, .bool e2, .string e3, .string e4] 78))) := (Below.refl _ w7).alloc (Nat.le_refl _) _
            have OZ := hide (owns_below (owns_below OW.out (by rw [hG]; exact LY.out)) AL.out)
            have RAW := hide ((Bk.new w7 [.string e0, .string e1, .bool e2, .string e3, .string e4] 78).raw 1 5 rfl 1)
            have g7 : G < w7.heap.size := K7.out.lt
            have WZ : Hid (w1.heap.size ≤ (w7.alloc (.cells #[.string e0, .string e1, .bool e2, .string e3, .string e4] 78)).heap.size) := by
              have h1 := MW.out
              have h2 := AL.out.size
              show _ ≤ _
              omega
            have L9 : Hid (Below w1.heap.size w1 (w7.alloc (.cells #[.string e0, .string e1, .bool e2, .string e3, .string e4] 78))) := (BW.out.trans (LY.out.mono MW.out)).trans (AL.out.mono (by have := MW.out; omega))
            clear LX LOX L7 H3 H4 K6
            go_wp2_with (at_builtin; refine wpList_append_raw rfl _ _ _ rfl w1.heap.size 78 iE _ 5 72 Tryz.underlying41 hE0 hE1 hE2 hE3 rfl (by omega) _ j (cellsE (c9.take j)) rfl OZ.out _ 1 _ rfl RAW.out (by simp [Value.oneCell']) (by unfold maxLen; omega) (by omega) WZ.out ?_; intro q8 k8 w8 own8 gr8 at8)
            rw [← TK.out] at own8
            have L8 := hide (rowGrown_below L9.out WZ.out gr8 (fun k e => (OZ.out.lt k e).1))
            have O8 := hide own8
            clear own8 gr8 at8 OZ RAW L9 d0 d1 d2 d3 d4
            go_roundw
            case rel => exact ⟨j + 1, q8, k8, by omega, by go_num, rfl, O8, L8⟩
            case measure => simp [intOf]; omega
      · obtain rfl : j = c9.length := by omega
        rw [List.take_length] at OW
        have BR : Hid (Below B w wr) := B1.out.trans (BW.out.mono (by omega))
        have K2 := hide (bk_low K1.out ln BW.out)
        have R2 := hide (bk_low R1.out ln2 BW.out)
        have p0 := K2.out.cell 0 rfl
        have q0 := K2.out.free 0
        have p1 := K2.out.cell 1 rfl
        have q1 := K2.out.free 1
        have p2 := K2.out.cell 2 rfl
        have q2 := K2.out.free 2
        have p3 := K2.out.cell 3 rfl
        have q3 := K2.out.free 3
        have p4 := K2.out.cell 4 rfl
        have q4 := K2.out.free 4
        have p5 := K2.out.cell 5 rfl
        have q5 := K2.out.free 5
        have p6 := K2.out.cell 6 rfl
        have q6 := K2.out.free 6
        have p7 := K2.out.cell 7 rfl
        have q7 := K2.out.free 7
        have p8 := K2.out.cell 8 rfl
        have q8 := K2.out.free 8
        have p9 := K2.out.cell 9 rfl
        have q9 := K2.out.free 9
        have r0 := R2.out.cell 0 rfl
        have s0 := R2.out.free 0
        have r1 := R2.out.cell 1 rfl
        have s1 := R2.out.free 1
        have r2 := R2.out.cell 2 rfl
        have s2 := R2.out.free 2
        have r3 := R2.out.cell 3 rfl
        have s3 := R2.out.free 3
        have r4 := R2.out.cell 4 rfl
        have s4 := R2.out.free 4
        have r5 := R2.out.cell 5 rfl
        have s5 := R2.out.free 5
        have r6 := R2.out.cell 6 rfl
        have s6 := R2.out.free 6
        have r7 := R2.out.cell 7 rfl
        have s7 := R2.out.free 7
        have r8 := R2.out.cell 8 rfl
        have s8 := R2.out.free 8
        have r9 := R2.out.cell 9 rfl
        have s9 := R2.out.free 9
        have LE : Hid (B ≤ B + 1) := Nat.le_succ _
        clear HK HF x9 h
        go_wp2_with fail
        refine bodyPost_ret (v := .agg #[.string c0, .bool c1, .bool c2, .bool c3, .bool c4, .bool c5, .bool c6, .bool c7, .string c8, .slice qv c9.length cv]) (by simp [results, go_sem, r0, r1, r2, r3, r4, r5, r6, r7, r8, r9]) rfl ?_
        exact ⟨_, rfl, OwnR.mono (B := w1.heap.size) (owns_low10 (owns_low OW.out ln _ _) ln2 _ _ _ _ _ _ _ _ _ _) (by rw [hBn]; omega), by rw [hBn]; exact low_set10 LE.out (low_set BR.out (Nat.le_refl _) _ _) _ _ _ _ _ _ _ _ _ _⟩
end Go.Proofs.YtldbaoolddlacaaGreatDoor

namespace Go.Proofs.YtldbaoolddlacaaGreatDoor
open Go.RowKit
set_option maxRecDepth 100000
/-- The files of states, each in a row of the call's own. -/
structure FsO (B : Nat) (w : World) (C : List Ct) (F : List Value) : Prop where
  len : F.length = C.length
  at_ : ∀ i (h : i < C.length), OwnR B w (fvAt F i) C[i].files
theorem FsO.below {B : Nat} {w w' : World} {C : List Ct} {F : List Value} (h : FsO B w C F) (hb : Below w.heap.size w w') : FsO B w' C F := ⟨h.len, fun i hi => (h.at_ i hi).below hb⟩
theorem FsO.files {B : Nat} {w : World} {C : List Ct} {F : List Value} (h : FsO B w C F) : FilesIn w C F := ⟨h.len, fun i hi => (h.at_ i hi).files⟩
theorem FsO.mono {B B' : Nat} {w : World} {C : List Ct} {F : List Value} (h : FsO B w C F) (hb : B' ≤ B) : FsO B' w C F := ⟨h.len, fun i hi => (h.at_ i hi).mono hb⟩
/-- A row of files isn't a row of states. -/
theorem ownR_far {B B' : Nat} {w : World} {v u : Value} {fs : List En} {n : Nat} {xs : List Value} (h : OwnR B w v fs) (hu : w.ownsRow B' 43 10 u n xs) : ∀ j, v.ownBlock = some j → ¬ u.ownBlock = some j := fun j hj q => by
  rcases h.2 with ⟨rfl, _⟩ | ⟨g, cap, cur, rfl, _, hg, _⟩
  · cases hj
  · rcases hu.2 with ⟨rfl, _⟩ | ⟨g', cap', cur', rfl, _, hg', _⟩
    · cases q
    · obtain rfl : g = j := Option.some.inj hj
      obtain rfl : g' = g := Option.some.inj q
      rw [hg] at hg'
      cases hg'
theorem ownR_chg {B B' : Nat} {w w' : World} {v u : Value} {fs : List En} {n : Nat} {xs : List Value} (h : OwnR B w v fs) (hu : w.ownsRow B' 43 10 u n xs) (hc : Chg u.ownBlock.toList w w') : OwnR B w' v fs :=
  owns_kept h hc (fun j hj q => ownR_far h hu j hj (opt_mem.1 q))
theorem FsO.chg {B B' : Nat} {w w' : World} {C : List Ct} {F : List Value} {u : Value} {n : Nat} {xs : List Value} (h : FsO B w C F) (hu : w.ownsRow B' 43 10 u n xs) (hc : Chg u.ownBlock.toList w w') : FsO B w' C F := ⟨h.len, fun i hi => ownR_chg (h.at_ i hi) hu hc⟩
theorem FsO.grown {B B' : Nat} {w w' : World} {C : List Ct} {F : List Value} {u : Value} {n : Nat} {xs : List Value} (h : FsO B w C F) (hu : w.ownsRow B' 43 10 u n xs) (hg : w.grownBy w' u.ownBlock) : FsO B w' C F := h.chg hu (Chg.of_grown hg)
theorem cellsC_app : ∀ {C : List Ct} {F : List Value} (c : Ct) (f : Value), F.length = C.length → cellsC (C ++ [c]) (F ++ [f]) = cellsC C F ++ ctCells c f
  | [], [], c, f, _ => by simp [cellsC]
  | [], _ :: _, _, _, h => by cases h
  | _ :: _, [], _, _, h => by cases h
  | a :: C, x :: F, c, f, h => by
    show cellsC (a :: (C ++ [c])) (x :: (F ++ [f])) = _
    simp only [cellsC]
    rw [cellsC_app c f (by simpa using h)]
    simp
theorem fvAt_app {F : List Value} {f : Value} {i : Nat} (h : i < F.length) : fvAt (F ++ [f]) i = fvAt F i := by
  unfold fvAt
  rw [List.getD_eq_getElem?_getD, List.getD_eq_getElem?_getD, List.getElem?_append_left h]
theorem fvAt_new {F : List Value} {f : Value} {i : Nat} (h : i = F.length) : fvAt (F ++ [f]) i = f := by
  subst h
  unfold fvAt
  rw [List.getD_eq_getElem?_getD]
  simp
theorem FsO.add {B : Nat} {w : World} {C : List Ct} {F : List Value} {c : Ct} {f : Value} (h : FsO B w C F) (hf : OwnR B w f c.files) : FsO B w (C ++ [c]) (F ++ [f]) := by
  refine ⟨by simp [h.len], fun i hi => ?_⟩
  by_cases q : i < C.length
  · rw [fvAt_app (by rw [h.len]; exact q), List.getElem_append_left q]
    exact h.at_ i q
  · have e : i = C.length := by simp at hi; omega
    subst e
    rw [fvAt_new h.len.symm]
    simpa using hf
set_option maxHeartbeats 8000000 in
theorem freshCtls_any (cv : Value) (C : List Ct) (w : World) (hv : CtsV w cv C) (hC : CsOK C) :
    Calls Tryz.prog 17 #[cv] w fun e w' => ∃ v' F, e = .returned v' ∧ CtsO w.heap.size w' v' C F ∧ FsO w.heap.size w' C F ∧ Below w.heap.size w w' := by
  obtain ⟨F0, hF, p, cc, rfl, hk⟩ := hv
  have HF := hide hF
  have HK : Hid (C = [] ∨ ∃ b o, p = some ⟨b, o, none⟩ ∧ ∀ i (h : i < C.length), CtAt w b (o + i * 10) C[i] (fvAt F0 i)) := hk
  have HC := hide hC
  have hlen := hC.len
  obtain ⟨iE, hE0, hE1, hE2, hE3⟩ := info_parts info_ctl
  clear hF hk hC
  go_enter Tryz.func17, Tryz.ntmps17
  go_wp2_with fail
  go_loopw [3, 8] (fun ov iv wr => ∃ (j : Nat) (q : Option Addr) (cp : Nat) (F : List Value), j ≤ C.length ∧ iv = .int .i64 j ∧ ov = .slice q j cp ∧ Hid (wr.ownsRow w.heap.size 43 10 (.slice q j cp) j (cellsC (C.take j) F)) ∧ Hid (FsO w.heap.size wr (C.take j) F) ∧ Hid (Below w.heap.size w wr)) (fun _ iv _ => C.length - (intOf iv).toNat)
  case atStart => exact ⟨0, none, 0, [], Nat.zero_le _, rfl, rfl, by show World.ownsRow _ _ _ _ _ _ _; rw [List.take_zero]; exact World.ownsRow_nil _ _ _ _, ⟨by simp, fun i h => by simp at h⟩, Below.refl _ _⟩
  case round =>
    rename World => wr
    obtain ⟨j, qv, cp, F, hj, rfl, rfl, OW, FO, BW⟩ := hrel
    by_cases h : j < C.length
    · have i1 : (j : Int) < (C.length : Int) := by omega
      have i0 : (0 : Int) ≤ (j : Int) := by omega
      obtain ⟨b, o, rfl, hc⟩ : ∃ b o, p = some ⟨b, o, none⟩ ∧ ∀ i (h : i < C.length), CtAt w b (o + i * 10) C[i] (fvAt F0 i) := by
        rcases HK.out with t | t
        · rw [t] at h; simp at h
        · exact t
      have CA := (hc j h).below BW.out
      have FV := (HF.out.at_ j h).below BW.out
      have mj := List.getElem_mem h
      have HCt := hide (fun W (hb : Below wr.heap.size wr W) => ctCopied_big C[j] (fvAt F0 j) W (FV.below hb) (HC.out.fs _ mj) (HC.out.tx _ mj).1 (HC.out.tx _ mj).2)
      have TK : Hid (∀ f, cellsC (C.take (j + 1)) (F ++ [f]) = cellsC (C.take j) F ++ ctCells C[j] f) := fun f => by
        rw [List.take_succ_eq_append_getElem h, cellsC_app _ _ FO.out.len]
      have TE : Hid (C.take (j + 1) = C.take j ++ [C[j]]) := List.take_succ_eq_append_getElem h
      obtain ⟨fp, fc, ef, _⟩ := FV
      generalize fvAt F0 j = fv at *
      subst ef
      have a0 : wr.cell? ⟨b, o + j * 10, none⟩ = some (.string C[j].val) := CA 0 _ rfl
      have a1 : wr.cell? ⟨b, o + j * 10 + 1, none⟩ = some (.bool C[j].dirty) := CA 1 _ rfl
      have a2 : wr.cell? ⟨b, o + j * 10 + 2, none⟩ = some (.bool C[j].typed) := CA 2 _ rfl
      have a3 : wr.cell? ⟨b, o + j * 10 + 3, none⟩ = some (.bool C[j].chk) := CA 3 _ rfl
      have a4 : wr.cell? ⟨b, o + j * 10 + 4, none⟩ = some (.bool C[j].dchk) := CA 4 _ rfl
      have a5 : wr.cell? ⟨b, o + j * 10 + 5, none⟩ = some (.bool C[j].mixed) := CA 5 _ rfl
      have a6 : wr.cell? ⟨b, o + j * 10 + 6, none⟩ = some (.bool C[j].sel) := CA 6 _ rfl
      have a7 : wr.cell? ⟨b, o + j * 10 + 7, none⟩ = some (.bool C[j].dsel) := CA 7 _ rfl
      have a8 : wr.cell? ⟨b, o + j * 10 + 8, none⟩ = some (.string C[j].custom) := CA 8 _ rfl
      have a9 : wr.cell? ⟨b, o + j * 10 + 9, none⟩ = some (.slice fp C[j].files.length fc) := CA 9 _ rfl
      have bl : b < wr.heap.size := World.block_lt_of_cell? _ _ a0
      have bn : b ≠ wr.heap.size := by omega
      have lw : w.heap.size ≤ wr.heap.size := BW.out.size
      have LW : Hid (Below wr.heap.size wr (wr.alloc (.cells (ctCells C[j] (.slice fp C[j].files.length fc)).toArray 43))) := (Below.refl _ wr).alloc (Nat.le_refl _) _
      have HC1 := hide (HCt.out _ LW.out)
      clear hc CA mj HK HF HC HCt
      unfold ctV at HC1
      simp only [ctCells] at HC1 LW TK
      obtain ⟨fn, hfn⟩ : ∃ fn, C[j].files.length = fn := ⟨_, rfl⟩
      rw [hfn] at HC1 LW a9
      go_wp2_with fail
      refine HC1.out.mono ?_
      rintro e w7 ⟨f7, rfl, own7, b7⟩
      obtain ⟨q7, k7, rfl⟩ := own7.form
      rw [hfn] at own7
      rw [hfn]
      have B7 : Hid (Below wr.heap.size wr w7) := chain LW.out b7
      have AL : Hid (Below w7.heap.size w7 (w7.alloc (.cells #[.string C[j].val, .bool C[j].dirty, .bool C[j].typed, .bool C[j].chk, .bool C[j].dchk, .bool C[j].mixed, .bool C[j].sel, .bool C[j].dsel, .string C[j].custom, .slice q7 fn k7] 43))) := (Below.refl _ w7).alloc (Nat.le_refl _) _
      have OZ := hide (owns_below (owns_below OW.out B7.out) AL.out)
      have FZ := hide ((FO.out.below B7.out).below AL.out)
      have RAW := hide ((Bk.new w7 [.string C[j].val, .bool C[j].dirty, .bool C[j].typed, .bool C[j].chk, .bool C[j].dchk, .bool C[j].mixed, .bool C[j].sel, .bool C[j].dsel, .string C[j].custom, .slice q7 fn k7] 43).raw 1 10 rfl 1)
      have WZ : Hid (w.heap.size ≤ (w7.alloc (.cells #[.string C[j].val, .bool C[j].dirty, .bool C[j].typed, .bool C[j].chk, .bool C[j].dchk, .bool C[j].mixed, .bool C[j].sel, .bool C[j].dsel, .string C[j].custom, .slice q7 fn k7] 43)).heap.size) := by
        have h1 := B7.out.size
        have h2 := AL.out.size
        show _ ≤ _
        omega
      have L9 : Hid (Below w.heap.size w (w7.alloc (.cells #[.string C[j].val, .bool C[j].dirty, .bool C[j].typed, .bool C[j].chk, .bool C[j].dchk, .bool C[j].mixed, .bool C[j].sel, .bool C[j].dsel, .string C[j].custom, .slice q7 fn k7] 43))) := (BW.out.trans (B7.out.mono lw)).trans (AL.out.mono (by have := B7.out.size; omega))
      have OF := hide (((own7.mono (show w.heap.size ≤ _ from by simp; omega)).below AL.out))
      clear own7 b7 B7 AL OW FO HC1 LW a0 a1 a2 a3 a4 a5 a6 a7 a8 a9
      go_wp2_with (at_builtin; refine wpList_append_raw rfl _ _ _ rfl w.heap.size 43 iE _ 10 64 Tryz.underlying23 hE0 hE1 hE2 hE3 rfl (by omega) _ j (cellsC (C.take j) F) rfl OZ.out _ 1 _ rfl RAW.out (by simp [Value.oneCell']) (by unfold maxLen; omega) (by omega) WZ.out ?_; intro q8 k8 w8 own8 gr8 at8)
      rw [← TK.out] at own8
      have L8 := hide (rowGrown_below L9.out WZ.out gr8 (fun k e => (OZ.out.lt k e).1))
      have O8 := hide own8
      have F8 : Hid (FsO w.heap.size w8 (C.take (j + 1)) (F ++ [.slice q7 fn k7])) := by
        show FsO _ _ _ _
        rw [TE.out]
        exact (FZ.out.grown OZ.out gr8).add (ownR_chg OF.out OZ.out (Chg.of_grown gr8))
      clear own8 gr8 at8 OZ RAW L9 OF FZ
      go_roundw
      case rel => exact ⟨j + 1, q8, k8, F ++ [.slice q7 fn k7], by omega, by go_num, rfl, O8, F8, L8⟩
      case measure => simp [intOf]; omega
    · obtain rfl : j = C.length := by omega
      rw [List.take_length] at OW FO
      clear HK HF HC
      go_wp2_with fail
      go_ret
      exact ⟨_, F, rfl, ⟨FO.out.len, OW.out⟩, FO.out, BW.out⟩

end Go.Proofs.YtldbaoolddlacaaGreatDoor
