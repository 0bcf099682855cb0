/- strings.Clone. A control's state as it lies in the world. States of controls as they lie in the world, behind a slice. The document's Lower, for every text that the form's reach lets in. -/
import Derived.Test.YtemikdmkjgmflaaDoorJod13

namespace Go.Proofs.YtemikdmkjgmflaaDoor
open Go.Shelf Go.RowKit
set_option maxRecDepth 100000
def cloren : Go.Shelf.Ren := ⟨fun | 316 => 74 | n => n, fun | 0 => 0 | 3 => 3 | 4 => 4 | 5 => 5 | 9 => 9 | 37 => 88 | 127 => 97 | n => n, fun  | n => n⟩
theorem laysM316 : Go.Proofs.LaysM.n316 Tryd.prog cloren := {
  mixed := by kernel_rfl
  f316 := Tryd.func74.trans (congrArg some (by kernel_rfl))
  t0 := Tryd.underlying0
  a0 := Tryd.isAgg0
  z0 := Tryd.sizeOf0
  v0 := Tryd.zeroValue0
  t3 := Tryd.underlying3
  a3 := Tryd.isAgg3
  z3 := Tryd.sizeOf3
  v3 := Tryd.zeroValue3
  t4 := Tryd.underlying4
  a4 := Tryd.isAgg4
  z4 := Tryd.sizeOf4
  v4 := Tryd.zeroValue4
  t9 := Tryd.underlying9
  a9 := Tryd.isAgg9
  z9 := Tryd.sizeOf9
  v9 := Tryd.zeroValue9
  t37 := Tryd.underlying88
  a37 := Tryd.isAgg88
  z37 := Tryd.sizeOf88
  v37 := Tryd.zeroValue88
  t127 := Tryd.underlying97
  a127 := Tryd.isAgg97
  z127 := Tryd.sizeOf97
  v127 := Tryd.zeroValue97
  t5 := Tryd.underlying5
  a5 := Tryd.isAgg5
  z5 := Tryd.sizeOf5
  v5 := Tryd.zeroValue5
  i0 := by kernel_rfl
  i3 := by kernel_rfl
  i4 := by kernel_rfl
  i5 := by kernel_rfl
  i9 := by kernel_rfl
  i37 := by kernel_rfl
  i127 := by kernel_rfl }
set_option maxHeartbeats 400000 in
theorem clone_any (s : ByteArray) (w : World) (hs : s.size ≤ 281474976710656) :
    Calls Tryd.prog 63 #[.string s] w fun e w' => e = .returned (.string s) ∧ Below w.heap.size w w' := by
  have hc := fun w => (Any.stringslite_Clone laysM316 s w (by omega) : Calls Tryd.prog 74 #[.string s] w fun e w' => e = .returned (.string s) ∧ Below w.heap.size w w')
  have HC := hide hc
  clear hc
  go_enter Tryd.func63, Tryd.ntmps63
  go_wp2_with fail
  refine (HC.out _).mono ?_
  rintro e w1 ⟨rfl, b1⟩
  go_wp2_with fail
  go_ret
  exact ⟨rfl, b1⟩
end Go.Proofs.YtemikdmkjgmflaaDoor

namespace Go.Proofs.YtemikdmkjgmflaaDoor
open Go.RowKit
/-- An entry at a place of a block. -/
structure EnAt (w : World) (b o : Nat) (e : En) : Prop where
  c0 : w.cell? ⟨b, o, none⟩ = some (.string e.name)
  c1 : w.cell? ⟨b, o + 1, none⟩ = some (.string e.val)
  c2 : w.cell? ⟨b, o + 2, none⟩ = some (.bool e.file)
  c3 : w.cell? ⟨b, o + 3, none⟩ = some (.string e.fname)
  c4 : w.cell? ⟨b, o + 4, none⟩ = some (.string e.typ)
theorem EnAt.below {w w' : World} {b o : Nat} {e : En} (h : EnAt w b o e) (hb : Below w.heap.size w w') : EnAt w' b o e := ⟨cell_below h.c0 hb, cell_below h.c1 hb, cell_below h.c2 hb, cell_below h.c3 hb, cell_below h.c4 hb⟩
/-- Entries behind a slice. -/
def FilesV (w : World) (v : Value) (fs : List En) : Prop := ∃ p c, v = .slice p fs.length c ∧ (fs = [] ∨ ∃ b o, p = some ⟨b, o, none⟩ ∧ ∀ i (h : i < fs.length), EnAt w b (o + i * 5) fs[i])
theorem FilesV.below {w w' : World} {v : Value} {fs : List En} (h : FilesV w v fs) (hb : Below w.heap.size w w') : FilesV w' v fs := by
  obtain ⟨p, c, e, h⟩ := h
  refine ⟨p, c, e, ?_⟩
  rcases h with h | ⟨b, o, e, h⟩
  · exact .inl h
  · exact .inr ⟨b, o, e, fun i hi => (h i hi).below hb⟩
/-- Files that a statement takes. -/
structure FsOK (fs : List En) : Prop where
  len : fs.length ≤ 4398046511104
  few : fs.length * 72 ≤ 140737488355328
  name : ∀ e ∈ fs, e.fname.size ≤ 140737488355328
  rest : ∀ e ∈ fs, e.name.size ≤ 140737488355328 ∧ e.val.size ≤ 140737488355328 ∧ e.typ.size ≤ 140737488355328
theorem files_nil (w : World) : FilesV w (.slice none 0 0) [] := ⟨none, 0, rfl, .inl rfl⟩
/-- The cells of a control's state, but for its files. -/
def ctCells (c : Ct) (fv : Value) : List Value := [.string c.val, .bool c.dirty, .bool c.typed, .bool c.chk, .bool c.dchk, .bool c.mixed, .bool c.sel, .bool c.dsel, .string c.custom, fv]
def ctV (c : Ct) (fv : Value) : Value := .agg (ctCells c fv).toArray
/-- A control's state. -/
def CtlV (w : World) (v : Value) (c : Ct) : Prop := ∃ fv, v = ctV c fv ∧ FilesV w fv c.files
theorem CtlV.below {w w' : World} {v : Value} {c : Ct} (h : CtlV w v c) (hb : Below w.heap.size w w') : CtlV w' v c := by
  obtain ⟨fv, e, h⟩ := h
  exact ⟨fv, e, h.below hb⟩
end Go.Proofs.YtemikdmkjgmflaaDoor

namespace Go.Proofs.YtemikdmkjgmflaaDoor
open Go.RowKit
set_option maxRecDepth 100000
/-- The cells of states, each with the slice of its files. -/
def cellsC : List Ct → List Value → List Value
  | c :: C, f :: F => ctCells c f ++ cellsC C F
  | [], _ => []
  | _ :: _, [] => []
def fv0 : Value := .slice none 0 0
def fvAt (F : List Value) (i : Nat) : Value := F.getD i fv0
theorem fvAt_cons (f : Value) (F : List Value) (i : Nat) : fvAt (f :: F) (i + 1) = fvAt F i := by unfold fvAt; simp
theorem cellsC_len : ∀ {C : List Ct} {F : List Value}, F.length = C.length → (cellsC C F).length = C.length * 10
  | [], _, _ => by simp [cellsC]
  | c :: C, [], h => by cases h
  | c :: C, f :: F, h => by
    show (ctCells c f ++ cellsC C F).length = _
    rw [List.length_append, cellsC_len (C := C) (F := F) (by simpa using h), List.length_cons]
    show 10 + _ = _
    omega
theorem cellsC_at : ∀ {C : List Ct} {F : List Value} {i : Nat} (_ : F.length = C.length) (h : i < C.length) {j : Nat}, j < 10 → (cellsC C F)[i * 10 + j]? = (ctCells C[i] (fvAt F i))[j]?
  | c :: C, [], _, hF, _, _, _ => by cases hF
  | c :: C, f :: F, 0, _, _, j, hj => by
    show (ctCells c f ++ cellsC C F)[0 * 10 + j]? = _
    rw [List.getElem?_append_left (by show _ < 10; omega), Nat.zero_mul, Nat.zero_add]; rfl
  | c :: C, f :: F, i + 1, hF, h, j, hj => by
    show (ctCells c f ++ cellsC C F)[(i + 1) * 10 + j]? = _
    rw [List.getElem?_append_right (by show 10 ≤ _; omega), show (i + 1) * 10 + j - (ctCells c f).length = i * 10 + j by show (i + 1) * 10 + j - 10 = _; omega, fvAt_cons]
    exact cellsC_at (C := C) (F := F) (by simpa using hF) (by simpa using h) hj
theorem cellsC_set : ∀ {C : List Ct} {F : List Value} {i : Nat} (_ : F.length = C.length) (h : i < C.length) {j : Nat} {u : Value} {c' : Ct}, j < 10 → (ctCells C[i] (fvAt F i)).set j u = ctCells c' (fvAt F i) → (cellsC C F).set (i * 10 + j) u = cellsC (C.set i c') F
  | c :: C, [], _, hF, _, _, _, _, _, _ => by cases hF
  | c :: C, f :: F, 0, _, _, j, u, c', hj, e => by
    show (ctCells c f ++ cellsC C F).set (0 * 10 + j) u = ctCells c' f ++ cellsC C F
    rw [List.set_append_left _ _ (by show _ < 10; omega), Nat.zero_mul, Nat.zero_add]
    have e : (ctCells c f).set j u = ctCells c' f := e
    rw [e]
  | c :: C, f :: F, i + 1, hF, h, j, u, c', hj, e => by
    show (ctCells c f ++ cellsC C F).set ((i + 1) * 10 + j) u = ctCells c f ++ cellsC (C.set i c') F
    rw [List.set_append_right _ _ (by show 10 ≤ _; omega), show (i + 1) * 10 + j - (ctCells c f).length = i * 10 + j by show (i + 1) * 10 + j - 10 = _; omega]
    rw [fvAt_cons] at e
    rw [cellsC_set (C := C) (F := F) (by simpa using hF) (by simpa using h) hj e]
/-- The files of states lie in the world. -/
structure FilesIn (w : World) (C : List Ct) (F : List Value) : Prop where
  len : F.length = C.length
  at_ : ∀ i (h : i < C.length), FilesV w (fvAt F i) C[i].files
theorem FilesIn.below {w w' : World} {C : List Ct} {F : List Value} (h : FilesIn w C F) (hb : Below w.heap.size w w') : FilesIn w' C F := ⟨h.len, fun i hi => (h.at_ i hi).below hb⟩
theorem FilesIn.other {w : World} {C C' : List Ct} {F : List Value} (h : FilesIn w C F) (hl : C'.length = C.length) (he : ∀ i (h1 : i < C.length) (h2 : i < C'.length), C'[i].files = C[i].files) : FilesIn w C' F :=
  ⟨by rw [hl]; exact h.len, fun i hi => by rw [he i (by omega) hi]; exact h.at_ i (by omega)⟩
theorem cellsC_one {w : World} : ∀ {C : List Ct} {F : List Value}, FilesIn w C F → ∀ u ∈ cellsC C F, u.oneCell' = true
  | [], _, _, u, hu => by simp [cellsC] at hu
  | c :: C, [], h, _, _ => by have := h.len; cases this
  | c :: C, f :: F, h, u, hu => by
    have hu : u ∈ ctCells c f ++ cellsC C F := hu
    rcases List.mem_append.1 hu with q | q
    · obtain ⟨p, k, e, _⟩ : FilesV w f c.files := h.at_ 0 (by simp)
      have e : f = .slice p c.files.length k := e
      simp only [ctCells, List.mem_cons, List.not_mem_nil, or_false] at q
      rcases q with rfl | rfl | rfl | rfl | rfl | rfl | rfl | rfl | rfl | rfl
      all_goals first | rfl | (rw [e]; rfl)
    · exact cellsC_one (C := C) (F := F) ⟨by have := h.len; simpa using this, fun i hi => by have := h.at_ (i + 1) (by simpa using hi); rw [fvAt_cons] at this; exact this⟩ u q
/-- One state at a place of a block. -/
def CtAt (w : World) (b o : Nat) (c : Ct) (fv : Value) : Prop := ∀ j u, (ctCells c fv)[j]? = some u → w.cell? ⟨b, o + j, none⟩ = some u
theorem CtAt.below {w w' : World} {b o : Nat} {c : Ct} {fv : Value} (h : CtAt w b o c fv) (hb : Below w.heap.size w w') : CtAt w' b o c fv := fun j u hu => cell_below (h j u hu) hb
/-- States behind a slice. -/
def CtsF (w : World) (v : Value) (C : List Ct) (F : List Value) : Prop := FilesIn w C F ∧ ∃ p k, v = .slice p C.length k ∧ (C = [] ∨ ∃ b o, p = some ⟨b, o, none⟩ ∧ ∀ i (h : i < C.length), CtAt w b (o + i * 10) C[i] (fvAt F i))
theorem CtsF.below {w w' : World} {v : Value} {C : List Ct} {F : List Value} (h : CtsF w v C F) (hb : Below w.heap.size w w') : CtsF w' v C F := by
  obtain ⟨hf, p, k, e, h⟩ := h
  refine ⟨hf.below hb, p, k, e, ?_⟩
  rcases h with h | ⟨b, o, e, h⟩
  · exact .inl h
  · exact .inr ⟨b, o, e, fun i hi => (h i hi).below hb⟩
def CtsV (w : World) (v : Value) (C : List Ct) : Prop := ∃ F, CtsF w v C F
theorem CtsV.below {w w' : World} {v : Value} {C : List Ct} (h : CtsV w v C) (hb : Below w.heap.size w w') : CtsV w' v C := by
  obtain ⟨F, h⟩ := h
  exact ⟨F, h.below hb⟩
theorem cts_nil (w : World) : CtsV w (.slice none 0 0) [] := ⟨[], ⟨rfl, fun i h => by cases h⟩, none, 0, rfl, .inl rfl⟩
theorem CtsF.raw {w : World} {v : Value} {C : List Ct} {F : List Value} (h : CtsF w v C F) : Raw w 10 v C.length (cellsC C F) := by
  obtain ⟨hf, p, k, rfl, h⟩ := h
  refine ⟨cellsC_len hf.len, p, k, rfl, ?_⟩
  rcases h with rfl | ⟨b, o, rfl, h⟩
  · exact .inl rfl
  · refine .inr ⟨b, o, rfl, fun j u hu => ?_⟩
    have hj : j < C.length * 10 := by have := (List.getElem?_eq_some_iff.1 hu).1; rwa [cellsC_len hf.len] at this
    have hi : j / 10 < C.length := by omega
    have hd := cellsC_at hf.len hi (j := j % 10) (by omega)
    rw [show j / 10 * 10 + j % 10 = j by omega] at hd
    have := h (j / 10) hi (j % 10) u (by rw [← hd]; exact hu)
    rwa [show o + j / 10 * 10 + j % 10 = o + j by omega] at this
/-- States that a statement takes. -/
structure CsOK (C : List Ct) : Prop where
  len : C.length ≤ 2199023255552
  fs : ∀ c ∈ C, FsOK c.files
  tx : ∀ c ∈ C, c.val.size ≤ 140737488355328 ∧ c.custom.size ≤ 140737488355328
/-- States of the call's own. -/
structure CtsO (base : Nat) (w : World) (v : Value) (C : List Ct) (F : List Value) : Prop where
  len : F.length = C.length
  row : w.ownsRow base 48 10 v C.length (cellsC C F)
theorem CtsO.at_ {base : Nat} {w : World} {v : Value} {C : List Ct} {F : List Value} (h : CtsO base w v C F) {g : Nat} (hg : v.ownBlock = some g) {i : Nat} (hi : i < C.length) : CtAt w g (i * 10) C[i] (fvAt F i) := fun j u hu => by
  have hj : j < 10 := (List.getElem?_eq_some_iff.1 hu).1
  exact owns_cell h.row hg ((cellsC_at h.len hi hj).trans hu)
theorem CtsO.cts {base : Nat} {w : World} {v : Value} {C : List Ct} {F : List Value} (h : CtsO base w v C F) (hf : FilesIn w C F) : CtsV w v C := by
  refine ⟨F, hf, ?_⟩
  by_cases h0 : C = []
  · rcases h.row.2 with ⟨rfl, _⟩ | ⟨g, cap, cur, rfl, _⟩
    · exact ⟨none, 0, by rw [h0]; rfl, .inl h0⟩
    · exact ⟨_, cap, rfl, .inl h0⟩
  · obtain ⟨g, cap, e, e2, _⟩ := owns_at h.row (List.length_pos_iff.2 h0)
    exact ⟨_, cap, e, .inr ⟨g, 0, rfl, fun i hi => by rw [Nat.zero_add]; exact h.at_ e2 hi⟩⟩
/-- One cell of a state is stored into. -/
theorem CtsO.put {base : Nat} {w : World} {v : Value} {C : List Ct} {F : List Value} (h : CtsO base w v C F) {g : Nat} (hg : v.ownBlock = some g) {i : Nat} (hi : i < C.length) {j : Nat} (hj : j < 10) {u : Value} {c' : Ct} (e : (ctCells C[i] (fvAt F i)).set j u = ctCells c' (fvAt F i)) :
    CtsO base (w.setCell ⟨g, i * 10 + j, none⟩ u) v (C.set i c') F := by
  have r := owns_set h.row hg (i * 10 + j) u
  rw [cellsC_set h.len hi hj e] at r
  exact ⟨by rw [List.length_set]; exact h.len, by rw [List.length_set]; exact r⟩
theorem CtsO.kept {base : Nat} {w w' : World} {v : Value} {C : List Ct} {F : List Value} (h : CtsO base w v C F) (hb : Below w.heap.size w w') : CtsO base w' v C F :=
  ⟨h.len, owns_kept h.row (Chg.of_below hb) (fun _ _ q => by cases q)⟩
/-- A document with its states, as it lies in the world. -/
structure DocV (w : World) (nv cv : Value) (l : List Nd) (C : List Ct) : Prop where
  nds : NodesV w nv l
  cts : CtsV w cv C
theorem DocV.below {w w' : World} {nv cv : Value} {l : List Nd} {C : List Ct} (h : DocV w nv cv l C) (hb : Below w.heap.size w w') : DocV w' nv cv l C := ⟨h.nds.below hb, h.cts.below hb⟩
end Go.Proofs.YtemikdmkjgmflaaDoor

namespace Go.Proofs.YtemikdmkjgmflaaDoor
open Go.RowKit
set_option maxRecDepth 100000
/-- 'out = append(out, c)', a row of bytes of the call's own, up to 2^47 - 1 of them. -/
theorem wpList_append_byteR {P : Program} {t e st : TypeId} (bt : ByteTypes P t e st) {ops : Array Oper} {rest : List Oper} {o : Oper} {a : Act} {Q : Exit → Act → World → Prop} (w : World) (y : Int)
    (hgd : o.guard = none) (s x : Operand) (ho : o.op = .call { callee := .builtin .append, args := #[s, x], argTypes := #[t, t] })
    (base : Nat) (v : Value) (l : List UInt8) (c : UInt8) (hy : y = (c.toNat : Int)) (hs : a.eval s = v) (hown : OwnsB e base w v l)
    (hx : a.eval x = .slice (some ⟨w.heap.size, 0, none⟩) 1 1) (hlen : l.length ≤ 140737488355327) (hbase : base ≤ w.heap.size)
    (h : ∀ v' w', OwnsB e base w' v' (l ++ [c]) → Below base w w' → wpList P ops Q rest (a.put o.dst v') w') : wpList P ops Q (o :: rest) a (w.alloc (.cells #[.int .u8 y] e)) := by
  subst hy
  obtain ⟨i, hi, hz0, hz1, hz2⟩ := info_parts bt.info
  have hown' : (w.alloc (.cells #[.int .u8 (c.toNat : Int)] e)).ownsRow base e 1 v l.length (l.map cellB) := World.ownsRow.alloc hown _
  refine wpList_append_own (P := P) _ hgd s x t ho base e i (.int .u8 0) 1 1 bt.sl hi hz0 hz1 hz2 rfl (by decide) v l.length (l.map cellB) hs hown' ⟨w.heap.size, 0, none⟩ 1 1 [cellB c] hx rfl (cell_one_new _ _ _) (fun u hu => by simp at hu; subst hu; rfl) (by unfold maxLen; omega) (by omega) (by simp; omega) ?_
  intro v' w' h1 h2 _
  refine h v' w' ?_ (((Below.refl base w).alloc hbase _).trans (grown_below hown' h2 (by simp; omega)))
  simpa [OwnsB] using h1
set_option maxHeartbeats 400000 in
theorem refLower_reach (s : ByteArray) (w : World) (hs : s.size ≤ 140737488351232) :
    Calls Tryd.prog 56 #[.string s] w fun e w' => e = .returned (.string (lowS s)) ∧ Below w.heap.size w w' := by
  go_enter Tryd.func56, Tryd.ntmps56
  go_wp2
  go_loopw [3, 4] (fun v i wr => ∃ k : Nat, k ≤ s.size ∧ i = .int .i64 k ∧ OwnsB 5 w.heap.size wr v (lowL (s.data.toList.take k)) ∧ Below w.heap.size w wr) (fun _ i _ => s.size - (intOf i).toNat)
  case atStart => exact ⟨0, Nat.zero_le _, rfl, OwnsB.nil _ _ _, Below.refl _ _⟩
  case round =>
    obtain ⟨k, hk, rfl, hown, hb⟩ := hrel
    by_cases hlt : k < s.size
    · have hll : (lowL (s.data.toList.take k)).length ≤ k := by rw [lowL_length]; exact List.length_take_le _ _
      have HT := hide (lowL_take s k hlt)
      have hsz := hb.size
      have hbe := byteAt_eq s k hlt
      rcases (show (65 ≤ (s[k].toNat : Int) ∧ (s[k].toNat : Int) ≤ 90) ∨ (65 ≤ (s[k].toNat : Int) ∧ 90 < (s[k].toNat : Int)) ∨ (s[k].toNat : Int) < 65 by omega) with ⟨h1, h2⟩ | ⟨h1, h2⟩ | h1
      · have HV : Hid ((s[k].toNat : Int) + 32 = ((lowB (byteAt s k)).toNat : Int)) := by
          rw [← hbe, lowB_yes _ (by omega) (by omega)]; exact (Int.natCast_add _ _).symm
        clear hbe
        go_wp2_with (at_builtin; refine wpList_append_byteR byteTypes wr _ rfl _ _ rfl w.heap.size _ _ (lowB (byteAt s k)) HV.out rfl hown rfl (by omega) (by omega) ?_; intro v' w' hown' hb')
        go_roundw
        case rel => exact ⟨k + 1, by omega, by go_num, by rw [HT.out]; exact hown', hb.trans hb'⟩
        case measure => simp [intOf]; omega
      · have HV : Hid ((s[k].toNat : Int) = ((lowB (byteAt s k)).toNat : Int)) := by
          rw [← hbe, lowB_no _ (by omega)]; exact rfl
        clear hbe
        go_wp2_with (at_builtin; refine wpList_append_byteR byteTypes wr _ rfl _ _ rfl w.heap.size _ _ (lowB (byteAt s k)) HV.out rfl hown rfl (by omega) (by omega) ?_; intro v' w' hown' hb')
        go_roundw
        case rel => exact ⟨k + 1, by omega, by go_num, by rw [HT.out]; exact hown', hb.trans hb'⟩
        case measure => simp [intOf]; omega
      · have HV : Hid ((s[k].toNat : Int) = ((lowB (byteAt s k)).toNat : Int)) := by
          rw [← hbe, lowB_no _ (by omega)]; exact rfl
        clear hbe
        go_wp2_with (at_builtin; refine wpList_append_byteR byteTypes wr _ rfl _ _ rfl w.heap.size _ _ (lowB (byteAt s k)) HV.out rfl hown rfl (by omega) (by omega) ?_; intro v' w' hown' hb')
        go_roundw
        case rel => exact ⟨k + 1, by omega, by go_num, by rw [HT.out]; exact hown', hb.trans hb'⟩
        case measure => simp [intOf]; omega
    · have e : k = s.size := by omega
      subst e
      have ht : s.data.toList.take s.size = s.data.toList := List.take_of_length_le (by simp)
      rw [ht] at hown
      have hend := hown.text byteTypes
      go_wp2
      go_ret
      exact ⟨rfl, hb⟩

end Go.Proofs.YtemikdmkjgmflaaDoor
