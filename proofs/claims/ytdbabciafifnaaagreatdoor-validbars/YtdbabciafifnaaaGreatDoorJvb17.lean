/- A control's state as it lies in the world. The document's Of of layer 11. -/
import Derived.Test.YtdbabciafifnaaaGreatDoorJvb13
import Derived.Test.YtdbabciafifnaaaGreatDoorJvb19

namespace Go.Proofs.YtdbabciafifnaaaGreatDoor
open Go.RowKit
/-- An entry at a place of a block. -/
structure EnAt (w : World) (b o : Nat) (e : En) : Prop where
  c0 : w.cell? ⟨b, o, none⟩ = some (.string e.name)
  c1 : w.cell? ⟨b, o + 1, none⟩ = some (.string e.val)
  c2 : w.cell? ⟨b, o + 2, none⟩ = some (.bool e.file)
  c3 : w.cell? ⟨b, o + 3, none⟩ = some (.string e.fname)
  c4 : w.cell? ⟨b, o + 4, none⟩ = some (.string e.typ)
theorem EnAt.below {w w' : World} {b o : Nat} {e : En} (h : EnAt w b o e) (hb : Below w.heap.size w w') : EnAt w' b o e := ⟨cell_below h.c0 hb, cell_below h.c1 hb, cell_below h.c2 hb, cell_below h.c3 hb, cell_below h.c4 hb⟩
/-- Entries behind a slice. -/
def FilesV (w : World) (v : Value) (fs : List En) : Prop := ∃ p c, v = .slice p fs.length c ∧ (fs = [] ∨ ∃ b o, p = some ⟨b, o, none⟩ ∧ ∀ i (h : i < fs.length), EnAt w b (o + i * 5) fs[i])
theorem FilesV.below {w w' : World} {v : Value} {fs : List En} (h : FilesV w v fs) (hb : Below w.heap.size w w') : FilesV w' v fs := by
  obtain ⟨p, c, e, h⟩ := h
  refine ⟨p, c, e, ?_⟩
  rcases h with h | ⟨b, o, e, h⟩
  · exact .inl h
  · exact .inr ⟨b, o, e, fun i hi => (h i hi).below hb⟩
/-- Files that a statement takes. -/
structure FsOK (fs : List En) : Prop where
  len : fs.length ≤ 4398046511104
  few : fs.length * 72 ≤ 140737488355328
  name : ∀ e ∈ fs, e.fname.size ≤ 140737488355328
  rest : ∀ e ∈ fs, e.name.size ≤ 140737488355328 ∧ e.val.size ≤ 140737488355328 ∧ e.typ.size ≤ 140737488355328
/-- A control's state that a statement takes. -/
structure CtOK (C : Ct) : Prop where
  files : FsOK C.files
  custom : C.custom.size ≤ 140737488355328
  val : C.val.size ≤ 100000
theorem ct0_ok : CtOK ct0 := ⟨⟨by decide, by decide, fun e q => (by cases q), fun e q => (by cases q)⟩, by decide, by decide⟩
theorem files_nil (w : World) : FilesV w (.slice none 0 0) [] := ⟨none, 0, rfl, .inl rfl⟩
/-- The cells of a control's state, but for its files. -/
def ctCells (c : Ct) (fv : Value) : List Value := [.string c.val, .bool c.dirty, .bool c.typed, .bool c.chk, .bool c.dchk, .bool c.mixed, .bool c.sel, .bool c.dsel, .string c.custom, fv]
def ctV (c : Ct) (fv : Value) : Value := .agg (ctCells c fv).toArray
/-- A control's state. -/
def CtlV (w : World) (v : Value) (c : Ct) : Prop := ∃ fv, v = ctV c fv ∧ FilesV w fv c.files
theorem CtlV.below {w w' : World} {v : Value} {c : Ct} (h : CtlV w v c) (hb : Below w.heap.size w w') : CtlV w' v c := by
  obtain ⟨fv, e, h⟩ := h
  exact ⟨fv, e, h.below hb⟩
end Go.Proofs.YtdbabciafifnaaaGreatDoor

namespace Go.Proofs.YtdbabciafifnaaaGreatDoor
open Go.RowKit
set_option maxRecDepth 100000
set_option maxHeartbeats 4000000 in
set_option maxRecDepth 100000 in
theorem refOf_option (n : Nd) (va vk : Value) (w : World) (ha : AttrsV w va n.attrs) (hl : n.attrs.length ≤ 4398046511104) (hs : ∀ a ∈ n.attrs, a.2.size ≤ 140737488351232) (h : n.name = ⟨#[111, 112, 116, 105, 111, 110]⟩) :
    Calls Tryz.prog 15 #[.agg #[.string n.name, .string n.text, va, .int .i64 n.parent, vk]] w fun e w' => e = .returned (.int .i64 (32)) ∧ Below w.heap.size w w' := by
  have t0 : (n.name.toList == [105, 110, 112, 117, 116]) = false := by rw [h, ByteArray.toList_eq]; rfl
  have t1 : (n.name.toList == [98, 117, 116, 116, 111, 110]) = false := by rw [h, ByteArray.toList_eq]; rfl
  have t2 : (n.name.toList == [115, 101, 108, 101, 99, 116]) = false := by rw [h, ByteArray.toList_eq]; rfl
  have t3 : (n.name.toList == [116, 101, 120, 116, 97, 114, 101, 97]) = false := by rw [h, ByteArray.toList_eq]; rfl
  have t4 : (n.name.toList == [111, 117, 116, 112, 117, 116]) = false := by rw [h, ByteArray.toList_eq]; rfl
  have t5 : (n.name.toList == [102, 105, 101, 108, 100, 115, 101, 116]) = false := by rw [h, ByteArray.toList_eq]; rfl
  have t6 : (n.name.toList == [102, 111, 114, 109]) = false := by rw [h, ByteArray.toList_eq]; rfl
  have t7 : (n.name.toList == [108, 97, 98, 101, 108]) = false := by rw [h, ByteArray.toList_eq]; rfl
  have t8 : (n.name.toList == [111, 112, 116, 105, 111, 110]) = true := lit_yes h
  have t9 : (n.name.toList == [111, 112, 116, 103, 114, 111, 117, 112]) = false := by rw [h, ByteArray.toList_eq]; rfl
  have t10 : (n.name.toList == [108, 101, 103, 101, 110, 100]) = false := by rw [h, ByteArray.toList_eq]; rfl
  have t11 : (n.name.toList == [100, 97, 116, 97, 108, 105, 115, 116]) = false := by rw [h, ByteArray.toList_eq]; rfl
  clear h
  have B0 : Hid (Below w.heap.size w (w.alloc (.cells #[.string n.name, .string n.text, va, .int .i64 n.parent, vk] 38))) := (Below.refl _ w).alloc (Nat.le_refl _) _
  have HF := hide (refFind_any va n.attrs tyS (w.alloc (.cells #[.string n.name, .string n.text, va, .int .i64 n.parent, vk] 38)) (ha.below B0.out) hl)
  have ef : tyS = ⟨#[116, 121, 112, 101]⟩ := rfl
  rw [ef] at HF
  obtain ⟨p, c, rfl, hv⟩ := ha
  obtain ⟨s, hS⟩ : ∃ s, Hid (tyT (tyOf n.attrs) = s) := ⟨_, show _ = _ from rfl⟩
  cases hf : findA n.attrs tyS with
  | none =>
    have hE : s = ⟨#[]⟩ := by rw [← hS.out]; unfold tyOf; rw [hf]; rfl
    rw [show findA n.attrs ⟨#[116, 121, 112, 101]⟩ = none from hf, show findV none = -1 from rfl] at HF
    have es : s = ⟨#[]⟩ := hE
    have k0 : (w.alloc (.cells #[.string n.name, .string n.text, .slice p n.attrs.length c, .int .i64 n.parent, vk] 38)).cell? ⟨w.heap.size, 0, none⟩ = some (.string n.name) := by simp
    have k2 : (w.alloc (.cells #[.string n.name, .string n.text, .slice p n.attrs.length c, .int .i64 n.parent, vk] 38)).cell? ⟨w.heap.size, 2, none⟩ = some (.slice p n.attrs.length c) := by simp
    clear hv hs hf ef
    go_enter Tryz.func15, Tryz.ntmps15
    generalize n.name = nm at *
    go_wp2_with fail
    generalize w.alloc (.cells #[.string nm, .string n.text, .slice p n.attrs.length c, .int .i64 n.parent, vk] 38) = w0 at *
    refine HF.out.mono ?_
    rintro e u ⟨rfl, hu⟩
    obtain rfl : w0 = u := hu.symm
    go_upto_region 5 with fail
    rw [← es]
    clear es hE
    go_wp2_with fail
    go_ret
    exact ⟨rfl, B0.out⟩
  | some i =>
    obtain ⟨hi, _, _⟩ := List.findIdx?_eq_some_iff_getElem.1 (show n.attrs.findIdx? (isN tyS) = some i from hf)
    obtain ⟨t, ht⟩ : ∃ t, Hid (n.attrs[i].2 = t) := ⟨_, show _ = _ from rfl⟩
    have hE : Hid (lowS t = s) := by
      show _ = _
      rw [← hS.out]
      unfold tyOf
      rw [hf, ← ht.out]
      show lowS n.attrs[i].2 = lowS (n.attrs.getD i at0).2
      rw [show n.attrs.getD i at0 = n.attrs[i] by simp [List.getD, hi]]
    rw [show findA n.attrs ⟨#[116, 121, 112, 101]⟩ = some i from hf, show findV (some i) = (i : Int) from rfl] at HF
    have i0 : (0 : Int) ≤ (i : Int) := by omega
    have i1 : (i : Int) < (n.attrs.length : Int) := by omega
    have ts := hs _ (List.getElem_mem hi)
    rw [ht.out] at ts
    have HL := hide (fun W => refLower_reach t W ts)
    rw [hE.out] at HL
    obtain ⟨b, o, rfl, hv2⟩ : ∃ b o, p = some ⟨b, o, none⟩ ∧ ∀ i (h : i < n.attrs.length), w.cell? ⟨b, o + i * 2, none⟩ = some (.string n.attrs[i].1) ∧ w.cell? ⟨b, o + i * 2 + 1, none⟩ = some (.string n.attrs[i].2) := by
      rcases hv with t | t
      · rw [t] at hi; simp at hi
      · exact t
    have c1 := cell_below (hv2 i hi).2 B0.out
    rw [ht.out] at c1
    have k0 : (w.alloc (.cells #[.string n.name, .string n.text, .slice (some ⟨b, o, none⟩) n.attrs.length c, .int .i64 n.parent, vk] 38)).cell? ⟨w.heap.size, 0, none⟩ = some (.string n.name) := by simp
    have k2 : (w.alloc (.cells #[.string n.name, .string n.text, .slice (some ⟨b, o, none⟩) n.attrs.length c, .int .i64 n.parent, vk] 38)).cell? ⟨w.heap.size, 2, none⟩ = some (.slice (some ⟨b, o, none⟩) n.attrs.length c) := by simp
    clear hf hv hv2 hs ef
    go_enter Tryz.func15, Tryz.ntmps15
    generalize n.name = nm at *
    go_wp2_with fail
    generalize w.alloc (.cells #[.string nm, .string n.text, .slice (some ⟨b, o, none⟩) n.attrs.length c, .int .i64 n.parent, vk] 38) = w0 at *
    refine HF.out.mono ?_
    rintro e u ⟨rfl, hu⟩
    obtain rfl : w0 = u := hu.symm
    go_wp2_with fail
    refine (HL.out _).mono ?_
    rintro e w2 ⟨rfl, b2⟩
    have B2 := hide (chain B0.out b2)
    have m0 := cell_below k0 b2
    clear k0 k2 c1 b2
    go_wp2_with fail
    go_ret
    exact ⟨rfl, B2.out⟩
set_option maxHeartbeats 4000000 in
set_option maxRecDepth 100000 in
theorem refOf_optgroup (n : Nd) (va vk : Value) (w : World) (ha : AttrsV w va n.attrs) (hl : n.attrs.length ≤ 4398046511104) (hs : ∀ a ∈ n.attrs, a.2.size ≤ 140737488351232) (h : n.name = ⟨#[111, 112, 116, 103, 114, 111, 117, 112]⟩) :
    Calls Tryz.prog 15 #[.agg #[.string n.name, .string n.text, va, .int .i64 n.parent, vk]] w fun e w' => e = .returned (.int .i64 (33)) ∧ Below w.heap.size w w' := by
  have t0 : (n.name.toList == [105, 110, 112, 117, 116]) = false := by rw [h, ByteArray.toList_eq]; rfl
  have t1 : (n.name.toList == [98, 117, 116, 116, 111, 110]) = false := by rw [h, ByteArray.toList_eq]; rfl
  have t2 : (n.name.toList == [115, 101, 108, 101, 99, 116]) = false := by rw [h, ByteArray.toList_eq]; rfl
  have t3 : (n.name.toList == [116, 101, 120, 116, 97, 114, 101, 97]) = false := by rw [h, ByteArray.toList_eq]; rfl
  have t4 : (n.name.toList == [111, 117, 116, 112, 117, 116]) = false := by rw [h, ByteArray.toList_eq]; rfl
  have t5 : (n.name.toList == [102, 105, 101, 108, 100, 115, 101, 116]) = false := by rw [h, ByteArray.toList_eq]; rfl
  have t6 : (n.name.toList == [102, 111, 114, 109]) = false := by rw [h, ByteArray.toList_eq]; rfl
  have t7 : (n.name.toList == [108, 97, 98, 101, 108]) = false := by rw [h, ByteArray.toList_eq]; rfl
  have t8 : (n.name.toList == [111, 112, 116, 105, 111, 110]) = false := by rw [h, ByteArray.toList_eq]; rfl
  have t9 : (n.name.toList == [111, 112, 116, 103, 114, 111, 117, 112]) = true := lit_yes h
  have t10 : (n.name.toList == [108, 101, 103, 101, 110, 100]) = false := by rw [h, ByteArray.toList_eq]; rfl
  have t11 : (n.name.toList == [100, 97, 116, 97, 108, 105, 115, 116]) = false := by rw [h, ByteArray.toList_eq]; rfl
  clear h
  have B0 : Hid (Below w.heap.size w (w.alloc (.cells #[.string n.name, .string n.text, va, .int .i64 n.parent, vk] 38))) := (Below.refl _ w).alloc (Nat.le_refl _) _
  have HF := hide (refFind_any va n.attrs tyS (w.alloc (.cells #[.string n.name, .string n.text, va, .int .i64 n.parent, vk] 38)) (ha.below B0.out) hl)
  have ef : tyS = ⟨#[116, 121, 112, 101]⟩ := rfl
  rw [ef] at HF
  obtain ⟨p, c, rfl, hv⟩ := ha
  obtain ⟨s, hS⟩ : ∃ s, Hid (tyT (tyOf n.attrs) = s) := ⟨_, show _ = _ from rfl⟩
  cases hf : findA n.attrs tyS with
  | none =>
    have hE : s = ⟨#[]⟩ := by rw [← hS.out]; unfold tyOf; rw [hf]; rfl
    rw [show findA n.attrs ⟨#[116, 121, 112, 101]⟩ = none from hf, show findV none = -1 from rfl] at HF
    have es : s = ⟨#[]⟩ := hE
    have k0 : (w.alloc (.cells #[.string n.name, .string n.text, .slice p n.attrs.length c, .int .i64 n.parent, vk] 38)).cell? ⟨w.heap.size, 0, none⟩ = some (.string n.name) := by simp
    have k2 : (w.alloc (.cells #[.string n.name, .string n.text, .slice p n.attrs.length c, .int .i64 n.parent, vk] 38)).cell? ⟨w.heap.size, 2, none⟩ = some (.slice p n.attrs.length c) := by simp
    clear hv hs hf ef
    go_enter Tryz.func15, Tryz.ntmps15
    generalize n.name = nm at *
    go_wp2_with fail
    generalize w.alloc (.cells #[.string nm, .string n.text, .slice p n.attrs.length c, .int .i64 n.parent, vk] 38) = w0 at *
    refine HF.out.mono ?_
    rintro e u ⟨rfl, hu⟩
    obtain rfl : w0 = u := hu.symm
    go_upto_region 5 with fail
    rw [← es]
    clear es hE
    go_wp2_with fail
    go_ret
    exact ⟨rfl, B0.out⟩
  | some i =>
    obtain ⟨hi, _, _⟩ := List.findIdx?_eq_some_iff_getElem.1 (show n.attrs.findIdx? (isN tyS) = some i from hf)
    obtain ⟨t, ht⟩ : ∃ t, Hid (n.attrs[i].2 = t) := ⟨_, show _ = _ from rfl⟩
    have hE : Hid (lowS t = s) := by
      show _ = _
      rw [← hS.out]
      unfold tyOf
      rw [hf, ← ht.out]
      show lowS n.attrs[i].2 = lowS (n.attrs.getD i at0).2
      rw [show n.attrs.getD i at0 = n.attrs[i] by simp [List.getD, hi]]
    rw [show findA n.attrs ⟨#[116, 121, 112, 101]⟩ = some i from hf, show findV (some i) = (i : Int) from rfl] at HF
    have i0 : (0 : Int) ≤ (i : Int) := by omega
    have i1 : (i : Int) < (n.attrs.length : Int) := by omega
    have ts := hs _ (List.getElem_mem hi)
    rw [ht.out] at ts
    have HL := hide (fun W => refLower_reach t W ts)
    rw [hE.out] at HL
    obtain ⟨b, o, rfl, hv2⟩ : ∃ b o, p = some ⟨b, o, none⟩ ∧ ∀ i (h : i < n.attrs.length), w.cell? ⟨b, o + i * 2, none⟩ = some (.string n.attrs[i].1) ∧ w.cell? ⟨b, o + i * 2 + 1, none⟩ = some (.string n.attrs[i].2) := by
      rcases hv with t | t
      · rw [t] at hi; simp at hi
      · exact t
    have c1 := cell_below (hv2 i hi).2 B0.out
    rw [ht.out] at c1
    have k0 : (w.alloc (.cells #[.string n.name, .string n.text, .slice (some ⟨b, o, none⟩) n.attrs.length c, .int .i64 n.parent, vk] 38)).cell? ⟨w.heap.size, 0, none⟩ = some (.string n.name) := by simp
    have k2 : (w.alloc (.cells #[.string n.name, .string n.text, .slice (some ⟨b, o, none⟩) n.attrs.length c, .int .i64 n.parent, vk] 38)).cell? ⟨w.heap.size, 2, none⟩ = some (.slice (some ⟨b, o, none⟩) n.attrs.length c) := by simp
    clear hf hv hv2 hs ef
    go_enter Tryz.func15, Tryz.ntmps15
    generalize n.name = nm at *
    go_wp2_with fail
    generalize w.alloc (.cells #[.string nm, .string n.text, .slice (some ⟨b, o, none⟩) n.attrs.length c, .int .i64 n.parent, vk] 38) = w0 at *
    refine HF.out.mono ?_
    rintro e u ⟨rfl, hu⟩
    obtain rfl : w0 = u := hu.symm
    go_wp2_with fail
    refine (HL.out _).mono ?_
    rintro e w2 ⟨rfl, b2⟩
    have B2 := hide (chain B0.out b2)
    have m0 := cell_below k0 b2
    clear k0 k2 c1 b2
    go_wp2_with fail
    go_ret
    exact ⟨rfl, B2.out⟩
set_option maxHeartbeats 4000000 in
set_option maxRecDepth 100000 in
theorem refOf_legend (n : Nd) (va vk : Value) (w : World) (ha : AttrsV w va n.attrs) (hl : n.attrs.length ≤ 4398046511104) (hs : ∀ a ∈ n.attrs, a.2.size ≤ 140737488351232) (h : n.name = ⟨#[108, 101, 103, 101, 110, 100]⟩) :
    Calls Tryz.prog 15 #[.agg #[.string n.name, .string n.text, va, .int .i64 n.parent, vk]] w fun e w' => e = .returned (.int .i64 (34)) ∧ Below w.heap.size w w' := by
  have t0 : (n.name.toList == [105, 110, 112, 117, 116]) = false := by rw [h, ByteArray.toList_eq]; rfl
  have t1 : (n.name.toList == [98, 117, 116, 116, 111, 110]) = false := by rw [h, ByteArray.toList_eq]; rfl
  have t2 : (n.name.toList == [115, 101, 108, 101, 99, 116]) = false := by rw [h, ByteArray.toList_eq]; rfl
  have t3 : (n.name.toList == [116, 101, 120, 116, 97, 114, 101, 97]) = false := by rw [h, ByteArray.toList_eq]; rfl
  have t4 : (n.name.toList == [111, 117, 116, 112, 117, 116]) = false := by rw [h, ByteArray.toList_eq]; rfl
  have t5 : (n.name.toList == [102, 105, 101, 108, 100, 115, 101, 116]) = false := by rw [h, ByteArray.toList_eq]; rfl
  have t6 : (n.name.toList == [102, 111, 114, 109]) = false := by rw [h, ByteArray.toList_eq]; rfl
  have t7 : (n.name.toList == [108, 97, 98, 101, 108]) = false := by rw [h, ByteArray.toList_eq]; rfl
  have t8 : (n.name.toList == [111, 112, 116, 105, 111, 110]) = false := by rw [h, ByteArray.toList_eq]; rfl
  have t9 : (n.name.toList == [111, 112, 116, 103, 114, 111, 117, 112]) = false := by rw [h, ByteArray.toList_eq]; rfl
  have t10 : (n.name.toList == [108, 101, 103, 101, 110, 100]) = true := lit_yes h
  have t11 : (n.name.toList == [100, 97, 116, 97, 108, 105, 115, 116]) = false := by rw [h, ByteArray.toList_eq]; rfl
  clear h
  have B0 : Hid (Below w.heap.size w (w.alloc (.cells #[.string n.name, .string n.text, va, .int .i64 n.parent, vk] 38))) := (Below.refl _ w).alloc (Nat.le_refl _) _
  have HF := hide (refFind_any va n.attrs tyS (w.alloc (.cells #[.string n.name, .string n.text, va, .int .i64 n.parent, vk] 38)) (ha.below B0.out) hl)
  have ef : tyS = ⟨#[116, 121, 112, 101]⟩ := rfl
  rw [ef] at HF
  obtain ⟨p, c, rfl, hv⟩ := ha
  obtain ⟨s, hS⟩ : ∃ s, Hid (tyT (tyOf n.attrs) = s) := ⟨_, show _ = _ from rfl⟩
  cases hf : findA n.attrs tyS with
  | none =>
    have hE : s = ⟨#[]⟩ := by rw [← hS.out]; unfold tyOf; rw [hf]; rfl
    rw [show findA n.attrs ⟨#[116, 121, 112, 101]⟩ = none from hf, show findV none = -1 from rfl] at HF
    have es : s = ⟨#[]⟩ := hE
    have k0 : (w.alloc (.cells #[.string n.name, .string n.text, .slice p n.attrs.length c, .int .i64 n.parent, vk] 38)).cell? ⟨w.heap.size, 0, none⟩ = some (.string n.name) := by simp
    have k2 : (w.alloc (.cells #[.string n.name, .string n.text, .slice p n.attrs.length c, .int .i64 n.parent, vk] 38)).cell? ⟨w.heap.size, 2, none⟩ = some (.slice p n.attrs.length c) := by simp
    clear hv hs hf ef
    go_enter Tryz.func15, Tryz.ntmps15
    generalize n.name = nm at *
    go_wp2_with fail
    generalize w.alloc (.cells #[.string nm, .string n.text, .slice p n.attrs.length c, .int .i64 n.parent, vk] 38) = w0 at *
    refine HF.out.mono ?_
    rintro e u ⟨rfl, hu⟩
    obtain rfl : w0 = u := hu.symm
    go_upto_region 5 with fail
    rw [← es]
    clear es hE
    go_wp2_with fail
    go_ret
    exact ⟨rfl, B0.out⟩
  | some i =>
    obtain ⟨hi, _, _⟩ := List.findIdx?_eq_some_iff_getElem.1 (show n.attrs.findIdx? (isN tyS) = some i from hf)
    obtain ⟨t, ht⟩ : ∃ t, Hid (n.attrs[i].2 = t) := ⟨_, show _ = _ from rfl⟩
    have hE : Hid (lowS t = s) := by
      show _ = _
      rw [← hS.out]
      unfold tyOf
      rw [hf, ← ht.out]
      show lowS n.attrs[i].2 = lowS (n.attrs.getD i at0).2
      rw [show n.attrs.getD i at0 = n.attrs[i] by simp [List.getD, hi]]
    rw [show findA n.attrs ⟨#[116, 121, 112, 101]⟩ = some i from hf, show findV (some i) = (i : Int) from rfl] at HF
    have i0 : (0 : Int) ≤ (i : Int) := by omega
    have i1 : (i : Int) < (n.attrs.length : Int) := by omega
    have ts := hs _ (List.getElem_mem hi)
    rw [ht.out] at ts
    have HL := hide (fun W => refLower_reach t W ts)
    rw [hE.out] at HL
    obtain ⟨b, o, rfl, hv2⟩ : ∃ b o, p = some ⟨b, o, none⟩ ∧ ∀ i (h : i < n.attrs.length), w.cell? ⟨b, o + i * 2, none⟩ = some (.string n.attrs[i].1) ∧ w.cell? ⟨b, o + i * 2 + 1, none⟩ = some (.string n.attrs[i].2) := by
      rcases hv with t | t
      · rw [t] at hi; simp at hi
      · exact t
    have c1 := cell_below (hv2 i hi).2 B0.out
    rw [ht.out] at c1
    have k0 : (w.alloc (.cells #[.string n.name, .string n.text, .slice (some ⟨b, o, none⟩) n.attrs.length c, .int .i64 n.parent, vk] 38)).cell? ⟨w.heap.size, 0, none⟩ = some (.string n.name) := by simp
    have k2 : (w.alloc (.cells #[.string n.name, .string n.text, .slice (some ⟨b, o, none⟩) n.attrs.length c, .int .i64 n.parent, vk] 38)).cell? ⟨w.heap.size, 2, none⟩ = some (.slice (some ⟨b, o, none⟩) n.attrs.length c) := by simp
    clear hf hv hv2 hs ef
    go_enter Tryz.func15, Tryz.ntmps15
    generalize n.name = nm at *
    go_wp2_with fail
    generalize w.alloc (.cells #[.string nm, .string n.text, .slice (some ⟨b, o, none⟩) n.attrs.length c, .int .i64 n.parent, vk] 38) = w0 at *
    refine HF.out.mono ?_
    rintro e u ⟨rfl, hu⟩
    obtain rfl : w0 = u := hu.symm
    go_wp2_with fail
    refine (HL.out _).mono ?_
    rintro e w2 ⟨rfl, b2⟩
    have B2 := hide (chain B0.out b2)
    have m0 := cell_below k0 b2
    clear k0 k2 c1 b2
    go_wp2_with fail
    go_ret
    exact ⟨rfl, B2.out⟩
set_option maxHeartbeats 4000000 in
set_option maxRecDepth 100000 in
theorem refOf_datalist (n : Nd) (va vk : Value) (w : World) (ha : AttrsV w va n.attrs) (hl : n.attrs.length ≤ 4398046511104) (hs : ∀ a ∈ n.attrs, a.2.size ≤ 140737488351232) (h : n.name = ⟨#[100, 97, 116, 97, 108, 105, 115, 116]⟩) :
    Calls Tryz.prog 15 #[.agg #[.string n.name, .string n.text, va, .int .i64 n.parent, vk]] w fun e w' => e = .returned (.int .i64 (35)) ∧ Below w.heap.size w w' := by
  have t0 : (n.name.toList == [105, 110, 112, 117, 116]) = false := by rw [h, ByteArray.toList_eq]; rfl
  have t1 : (n.name.toList == [98, 117, 116, 116, 111, 110]) = false := by rw [h, ByteArray.toList_eq]; rfl
  have t2 : (n.name.toList == [115, 101, 108, 101, 99, 116]) = false := by rw [h, ByteArray.toList_eq]; rfl
  have t3 : (n.name.toList == [116, 101, 120, 116, 97, 114, 101, 97]) = false := by rw [h, ByteArray.toList_eq]; rfl
  have t4 : (n.name.toList == [111, 117, 116, 112, 117, 116]) = false := by rw [h, ByteArray.toList_eq]; rfl
  have t5 : (n.name.toList == [102, 105, 101, 108, 100, 115, 101, 116]) = false := by rw [h, ByteArray.toList_eq]; rfl
  have t6 : (n.name.toList == [102, 111, 114, 109]) = false := by rw [h, ByteArray.toList_eq]; rfl
  have t7 : (n.name.toList == [108, 97, 98, 101, 108]) = false := by rw [h, ByteArray.toList_eq]; rfl
  have t8 : (n.name.toList == [111, 112, 116, 105, 111, 110]) = false := by rw [h, ByteArray.toList_eq]; rfl
  have t9 : (n.name.toList == [111, 112, 116, 103, 114, 111, 117, 112]) = false := by rw [h, ByteArray.toList_eq]; rfl
  have t10 : (n.name.toList == [108, 101, 103, 101, 110, 100]) = false := by rw [h, ByteArray.toList_eq]; rfl
  have t11 : (n.name.toList == [100, 97, 116, 97, 108, 105, 115, 116]) = true := lit_yes h
  clear h
  have B0 : Hid (Below w.heap.size w (w.alloc (.cells #[.string n.name, .string n.text, va, .int .i64 n.parent, vk] 38))) := (Below.refl _ w).alloc (Nat.le_refl _) _
  have HF := hide (refFind_any va n.attrs tyS (w.alloc (.cells #[.string n.name, .string n.text, va, .int .i64 n.parent, vk] 38)) (ha.below B0.out) hl)
  have ef : tyS = ⟨#[116, 121, 112, 101]⟩ := rfl
  rw [ef] at HF
  obtain ⟨p, c, rfl, hv⟩ := ha
  obtain ⟨s, hS⟩ : ∃ s, Hid (tyT (tyOf n.attrs) = s) := ⟨_, show _ = _ from rfl⟩
  cases hf : findA n.attrs tyS with
  | none =>
    have hE : s = ⟨#[]⟩ := by rw [← hS.out]; unfold tyOf; rw [hf]; rfl
    rw [show findA n.attrs ⟨#[116, 121, 112, 101]⟩ = none from hf, show findV none = -1 from rfl] at HF
    have es : s = ⟨#[]⟩ := hE
    have k0 : (w.alloc (.cells #[.string n.name, .string n.text, .slice p n.attrs.length c, .int .i64 n.parent, vk] 38)).cell? ⟨w.heap.size, 0, none⟩ = some (.string n.name) := by simp
    have k2 : (w.alloc (.cells #[.string n.name, .string n.text, .slice p n.attrs.length c, .int .i64 n.parent, vk] 38)).cell? ⟨w.heap.size, 2, none⟩ = some (.slice p n.attrs.length c) := by simp
    clear hv hs hf ef
    go_enter Tryz.func15, Tryz.ntmps15
    generalize n.name = nm at *
    go_wp2_with fail
    generalize w.alloc (.cells #[.string nm, .string n.text, .slice p n.attrs.length c, .int .i64 n.parent, vk] 38) = w0 at *
    refine HF.out.mono ?_
    rintro e u ⟨rfl, hu⟩
    obtain rfl : w0 = u := hu.symm
    go_upto_region 5 with fail
    rw [← es]
    clear es hE
    go_wp2_with fail
    go_ret
    exact ⟨rfl, B0.out⟩
  | some i =>
    obtain ⟨hi, _, _⟩ := List.findIdx?_eq_some_iff_getElem.1 (show n.attrs.findIdx? (isN tyS) = some i from hf)
    obtain ⟨t, ht⟩ : ∃ t, Hid (n.attrs[i].2 = t) := ⟨_, show _ = _ from rfl⟩
    have hE : Hid (lowS t = s) := by
      show _ = _
      rw [← hS.out]
      unfold tyOf
      rw [hf, ← ht.out]
      show lowS n.attrs[i].2 = lowS (n.attrs.getD i at0).2
      rw [show n.attrs.getD i at0 = n.attrs[i] by simp [List.getD, hi]]
    rw [show findA n.attrs ⟨#[116, 121, 112, 101]⟩ = some i from hf, show findV (some i) = (i : Int) from rfl] at HF
    have i0 : (0 : Int) ≤ (i : Int) := by omega
    have i1 : (i : Int) < (n.attrs.length : Int) := by omega
    have ts := hs _ (List.getElem_mem hi)
    rw [ht.out] at ts
    have HL := hide (fun W => refLower_reach t W ts)
    rw [hE.out] at HL
    obtain ⟨b, o, rfl, hv2⟩ : ∃ b o, p = some ⟨b, o, none⟩ ∧ ∀ i (h : i < n.attrs.length), w.cell? ⟨b, o + i * 2, none⟩ = some (.string n.attrs[i].1) ∧ w.cell? ⟨b, o + i * 2 + 1, none⟩ = some (.string n.attrs[i].2) := by
      rcases hv with t | t
      · rw [t] at hi; simp at hi
      · exact t
    have c1 := cell_below (hv2 i hi).2 B0.out
    rw [ht.out] at c1
    have k0 : (w.alloc (.cells #[.string n.name, .string n.text, .slice (some ⟨b, o, none⟩) n.attrs.length c, .int .i64 n.parent, vk] 38)).cell? ⟨w.heap.size, 0, none⟩ = some (.string n.name) := by simp
    have k2 : (w.alloc (.cells #[.string n.name, .string n.text, .slice (some ⟨b, o, none⟩) n.attrs.length c, .int .i64 n.parent, vk] 38)).cell? ⟨w.heap.size, 2, none⟩ = some (.slice (some ⟨b, o, none⟩) n.attrs.length c) := by simp
    clear hf hv hv2 hs ef
    go_enter Tryz.func15, Tryz.ntmps15
    generalize n.name = nm at *
    go_wp2_with fail
    generalize w.alloc (.cells #[.string nm, .string n.text, .slice (some ⟨b, o, none⟩) n.attrs.length c, .int .i64 n.parent, vk] 38) = w0 at *
    refine HF.out.mono ?_
    rintro e u ⟨rfl, hu⟩
    obtain rfl : w0 = u := hu.symm
    go_wp2_with fail
    refine (HL.out _).mono ?_
    rintro e w2 ⟨rfl, b2⟩
    have B2 := hide (chain B0.out b2)
    have m0 := cell_below k0 b2
    clear k0 k2 c1 b2
    go_wp2_with fail
    go_ret
    exact ⟨rfl, B2.out⟩
set_option maxHeartbeats 4000000 in
set_option maxRecDepth 100000 in
theorem refOf_none (n : Nd) (va vk : Value) (w : World) (ha : AttrsV w va n.attrs) (hl : n.attrs.length ≤ 4398046511104) (hs : ∀ a ∈ n.attrs, a.2.size ≤ 140737488351232) (h0 : ¬ n.name = ⟨#[105, 110, 112, 117, 116]⟩) (h1 : ¬ n.name = ⟨#[98, 117, 116, 116, 111, 110]⟩) (h2 : ¬ n.name = ⟨#[115, 101, 108, 101, 99, 116]⟩) (h3 : ¬ n.name = ⟨#[116, 101, 120, 116, 97, 114, 101, 97]⟩) (h4 : ¬ n.name = ⟨#[111, 117, 116, 112, 117, 116]⟩) (h5 : ¬ n.name = ⟨#[102, 105, 101, 108, 100, 115, 101, 116]⟩) (h6 : ¬ n.name = ⟨#[102, 111, 114, 109]⟩) (h7 : ¬ n.name = ⟨#[108, 97, 98, 101, 108]⟩) (h8 : ¬ n.name = ⟨#[111, 112, 116, 105, 111, 110]⟩) (h9 : ¬ n.name = ⟨#[111, 112, 116, 103, 114, 111, 117, 112]⟩) (h10 : ¬ n.name = ⟨#[108, 101, 103, 101, 110, 100]⟩) (h11 : ¬ n.name = ⟨#[100, 97, 116, 97, 108, 105, 115, 116]⟩) :
    Calls Tryz.prog 15 #[.agg #[.string n.name, .string n.text, va, .int .i64 n.parent, vk]] w fun e w' => e = .returned (.int .i64 (0)) ∧ Below w.heap.size w w' := by
  have t0 := lit_no (l := [105, 110, 112, 117, 116]) h0
  have t1 := lit_no (l := [98, 117, 116, 116, 111, 110]) h1
  have t2 := lit_no (l := [115, 101, 108, 101, 99, 116]) h2
  have t3 := lit_no (l := [116, 101, 120, 116, 97, 114, 101, 97]) h3
  have t4 := lit_no (l := [111, 117, 116, 112, 117, 116]) h4
  have t5 := lit_no (l := [102, 105, 101, 108, 100, 115, 101, 116]) h5
  have t6 := lit_no (l := [102, 111, 114, 109]) h6
  have t7 := lit_no (l := [108, 97, 98, 101, 108]) h7
  have t8 := lit_no (l := [111, 112, 116, 105, 111, 110]) h8
  have t9 := lit_no (l := [111, 112, 116, 103, 114, 111, 117, 112]) h9
  have t10 := lit_no (l := [108, 101, 103, 101, 110, 100]) h10
  have t11 := lit_no (l := [100, 97, 116, 97, 108, 105, 115, 116]) h11
  clear h0 h1 h2 h3 h4 h5 h6 h7 h8 h9 h10 h11
  have B0 : Hid (Below w.heap.size w (w.alloc (.cells #[.string n.name, .string n.text, va, .int .i64 n.parent, vk] 38))) := (Below.refl _ w).alloc (Nat.le_refl _) _
  have HF := hide (refFind_any va n.attrs tyS (w.alloc (.cells #[.string n.name, .string n.text, va, .int .i64 n.parent, vk] 38)) (ha.below B0.out) hl)
  have ef : tyS = ⟨#[116, 121, 112, 101]⟩ := rfl
  rw [ef] at HF
  obtain ⟨p, c, rfl, hv⟩ := ha
  obtain ⟨s, hS⟩ : ∃ s, Hid (tyT (tyOf n.attrs) = s) := ⟨_, show _ = _ from rfl⟩
  cases hf : findA n.attrs tyS with
  | none =>
    have hE : s = ⟨#[]⟩ := by rw [← hS.out]; unfold tyOf; rw [hf]; rfl
    rw [show findA n.attrs ⟨#[116, 121, 112, 101]⟩ = none from hf, show findV none = -1 from rfl] at HF
    have es : s = ⟨#[]⟩ := hE
    have k0 : (w.alloc (.cells #[.string n.name, .string n.text, .slice p n.attrs.length c, .int .i64 n.parent, vk] 38)).cell? ⟨w.heap.size, 0, none⟩ = some (.string n.name) := by simp
    have k2 : (w.alloc (.cells #[.string n.name, .string n.text, .slice p n.attrs.length c, .int .i64 n.parent, vk] 38)).cell? ⟨w.heap.size, 2, none⟩ = some (.slice p n.attrs.length c) := by simp
    clear hv hs hf ef
    go_enter Tryz.func15, Tryz.ntmps15
    generalize n.name = nm at *
    go_wp2_with fail
    generalize w.alloc (.cells #[.string nm, .string n.text, .slice p n.attrs.length c, .int .i64 n.parent, vk] 38) = w0 at *
    refine HF.out.mono ?_
    rintro e u ⟨rfl, hu⟩
    obtain rfl : w0 = u := hu.symm
    go_upto_region 5 with fail
    rw [← es]
    clear es hE
    go_wp2_with fail
    go_ret
    exact ⟨rfl, B0.out⟩
  | some i =>
    obtain ⟨hi, _, _⟩ := List.findIdx?_eq_some_iff_getElem.1 (show n.attrs.findIdx? (isN tyS) = some i from hf)
    obtain ⟨t, ht⟩ : ∃ t, Hid (n.attrs[i].2 = t) := ⟨_, show _ = _ from rfl⟩
    have hE : Hid (lowS t = s) := by
      show _ = _
      rw [← hS.out]
      unfold tyOf
      rw [hf, ← ht.out]
      show lowS n.attrs[i].2 = lowS (n.attrs.getD i at0).2
      rw [show n.attrs.getD i at0 = n.attrs[i] by simp [List.getD, hi]]
    rw [show findA n.attrs ⟨#[116, 121, 112, 101]⟩ = some i from hf, show findV (some i) = (i : Int) from rfl] at HF
    have i0 : (0 : Int) ≤ (i : Int) := by omega
    have i1 : (i : Int) < (n.attrs.length : Int) := by omega
    have ts := hs _ (List.getElem_mem hi)
    rw [ht.out] at ts
    have HL := hide (fun W => refLower_reach t W ts)
    rw [hE.out] at HL
    obtain ⟨b, o, rfl, hv2⟩ : ∃ b o, p = some ⟨b, o, none⟩ ∧ ∀ i (h : i < n.attrs.length), w.cell? ⟨b, o + i * 2, none⟩ = some (.string n.attrs[i].1) ∧ w.cell? ⟨b, o + i * 2 + 1, none⟩ = some (.string n.attrs[i].2) := by
      rcases hv with t | t
      · rw [t] at hi; simp at hi
      · exact t
    have c1 := cell_below (hv2 i hi).2 B0.out
    rw [ht.out] at c1
    have k0 : (w.alloc (.cells #[.string n.name, .string n.text, .slice (some ⟨b, o, none⟩) n.attrs.length c, .int .i64 n.parent, vk] 38)).cell? ⟨w.heap.size, 0, none⟩ = some (.string n.name) := by simp
    have k2 : (w.alloc (.cells #[.string n.name, .string n.text, .slice (some ⟨b, o, none⟩) n.attrs.length c, .int .i64 n.parent, vk] 38)).cell? ⟨w.heap.size, 2, none⟩ = some (.slice (some ⟨b, o, none⟩) n.attrs.length c) := by simp
    clear hf hv hv2 hs ef
    go_enter Tryz.func15, Tryz.ntmps15
    generalize n.name = nm at *
    go_wp2_with fail
    generalize w.alloc (.cells #[.string nm, .string n.text, .slice (some ⟨b, o, none⟩) n.attrs.length c, .int .i64 n.parent, vk] 38) = w0 at *
    refine HF.out.mono ?_
    rintro e u ⟨rfl, hu⟩
    obtain rfl : w0 = u := hu.symm
    go_wp2_with fail
    refine (HL.out _).mono ?_
    rintro e w2 ⟨rfl, b2⟩
    have B2 := hide (chain B0.out b2)
    have m0 := cell_below k0 b2
    clear k0 k2 c1 b2
    go_wp2_with fail
    go_ret
    exact ⟨rfl, B2.out⟩
theorem refOf_any (n : Nd) (va vk : Value) (w : World) (ha : AttrsV w va n.attrs) (hl : n.attrs.length ≤ 4398046511104) (hs : ∀ a ∈ n.attrs, a.2.size ≤ 140737488351232) :
    Calls Tryz.prog 15 #[.agg #[.string n.name, .string n.text, va, .int .i64 n.parent, vk]] w fun e w' => e = .returned (.int .i64 (kOf n.name (tyOf n.attrs))) ∧ Below w.heap.size w w' := by
  by_cases h0 : n.name = ⟨#[105, 110, 112, 117, 116]⟩
  · rw [show kOf n.name (tyOf n.attrs) = byT (tyOf n.attrs) 1 22 2 from by rw [h0]; rfl]
    exact refOf_input n va vk w ha hl hs h0
  by_cases h1 : n.name = ⟨#[98, 117, 116, 116, 111, 110]⟩
  · rw [show kOf n.name (tyOf n.attrs) = byT (tyOf n.attrs) 25 27 25 from by rw [h1]; rfl]
    exact refOf_button n va vk w ha hl hs h1
  by_cases h2 : n.name = ⟨#[115, 101, 108, 101, 99, 116]⟩
  · rw [show kOf n.name (tyOf n.attrs) = 23 from by rw [h2]; rfl]
    exact refOf_select n va vk w ha hl hs h2
  by_cases h3 : n.name = ⟨#[116, 101, 120, 116, 97, 114, 101, 97]⟩
  · rw [show kOf n.name (tyOf n.attrs) = 24 from by rw [h3]; rfl]
    exact refOf_textarea n va vk w ha hl hs h3
  by_cases h4 : n.name = ⟨#[111, 117, 116, 112, 117, 116]⟩
  · rw [show kOf n.name (tyOf n.attrs) = 28 from by rw [h4]; rfl]
    exact refOf_output n va vk w ha hl hs h4
  by_cases h5 : n.name = ⟨#[102, 105, 101, 108, 100, 115, 101, 116]⟩
  · rw [show kOf n.name (tyOf n.attrs) = 29 from by rw [h5]; rfl]
    exact refOf_fieldset n va vk w ha hl hs h5
  by_cases h6 : n.name = ⟨#[102, 111, 114, 109]⟩
  · rw [show kOf n.name (tyOf n.attrs) = 30 from by rw [h6]; rfl]
    exact refOf_form n va vk w ha hl hs h6
  by_cases h7 : n.name = ⟨#[108, 97, 98, 101, 108]⟩
  · rw [show kOf n.name (tyOf n.attrs) = 31 from by rw [h7]; rfl]
    exact refOf_label n va vk w ha hl hs h7
  by_cases h8 : n.name = ⟨#[111, 112, 116, 105, 111, 110]⟩
  · rw [show kOf n.name (tyOf n.attrs) = 32 from by rw [h8]; rfl]
    exact refOf_option n va vk w ha hl hs h8
  by_cases h9 : n.name = ⟨#[111, 112, 116, 103, 114, 111, 117, 112]⟩
  · rw [show kOf n.name (tyOf n.attrs) = 33 from by rw [h9]; rfl]
    exact refOf_optgroup n va vk w ha hl hs h9
  by_cases h10 : n.name = ⟨#[108, 101, 103, 101, 110, 100]⟩
  · rw [show kOf n.name (tyOf n.attrs) = 34 from by rw [h10]; rfl]
    exact refOf_legend n va vk w ha hl hs h10
  by_cases h11 : n.name = ⟨#[100, 97, 116, 97, 108, 105, 115, 116]⟩
  · rw [show kOf n.name (tyOf n.attrs) = 35 from by rw [h11]; rfl]
    exact refOf_datalist n va vk w ha hl hs h11
  have hn : seekL n.name 8 0 = none := by
    show (if lastN 0 = n.name then some 0 else if lastN 1 = n.name then some 1 else if lastN 2 = n.name then some 2 else if lastN 3 = n.name then some 3 else if lastN 4 = n.name then some 4 else if lastN 5 = n.name then some 5 else if lastN 6 = n.name then some 6 else if lastN 7 = n.name then some 7 else none) = none
    rw [if_neg (fun q => h4 q.symm), if_neg (fun q => h5 q.symm), if_neg (fun q => h6 q.symm), if_neg (fun q => h7 q.symm), if_neg (fun q => h8 q.symm), if_neg (fun q => h9 q.symm), if_neg (fun q => h10 q.symm), if_neg (fun q => h11 q.symm)]
  rw [show kOf n.name (tyOf n.attrs) = 0 from by unfold kOf; rw [if_neg h0, if_neg h2, if_neg h3, if_neg h1, hn]]
  exact refOf_none n va vk w ha hl hs h0 h1 h2 h3 h4 h5 h6 h7 h8 h9 h10 h11

end Go.Proofs.YtdbabciafifnaaaGreatDoor
