/- The document's Fix of layer 15. Entries in a row of the call's own. -/
import Derived.Test.YtnojgejcmaajmaaGreatDoorJsb7
import Derived.Test.YtnojgejcmaajmaaGreatDoorJsb15

namespace Go.Proofs.YtnojgejcmaajmaaGreatDoor
open Go.RowKit
set_option maxRecDepth 100000
theorem undrewO {w w1 : World} (b : Below (w.drewN 1).heap.size (w.drewN 1) w1) : Below w.heap.size w w1 := ⟨b.os, b.tape, b.output, b.size, b.block⟩
end Go.Proofs.YtnojgejcmaajmaaGreatDoor

namespace Go.Proofs.YtnojgejcmaajmaaGreatDoor
open Go.RowKit
set_option maxRecDepth 100000
theorem cellsE_app (x y : List En) : cellsE (x ++ y) = cellsE x ++ cellsE y := by simp [cellsE]
theorem OwnR.form {B : Nat} {w : World} {v : Value} {fs : List En} (h : OwnR B w v fs) : ∃ p c, v = .slice p fs.length c := by
  obtain ⟨p, c, e, _⟩ := h.files
  exact ⟨p, c, e⟩
theorem OwnR.set {B : Nat} {w : World} {v : Value} {fs : List En} (h : OwnR B w v fs) {m : Nat} (hm : ∀ g, v.ownBlock = some g → g ≠ m) (k : Nat) (u : Value) : OwnR B (w.setCell ⟨m, k, none⟩ u) v fs := by
  refine ⟨h.1, ?_⟩
  rcases h.2 with q | ⟨g, cap, cur, e1, h1, h2, h3⟩
  · exact .inl q
  · exact .inr ⟨g, cap, cur, e1, h1, (Below.heap_setCell _ _ _ _ (hm g (by rw [e1]; rfl))).trans h2, h3⟩
theorem info_en : (Tryz.prog.info? 76).map (fun i => (i.zero, i.size, i.bytes)) = some (some (.agg #[.string ⟨#[]⟩, .string ⟨#[]⟩, .bool false, .string ⟨#[]⟩, .string ⟨#[]⟩]), 5, 72) := by kernel_rfl
theorem cellsE_len : ∀ (fs : List En), (cellsE fs).length = fs.length * 5
  | [] => rfl
  | e :: fs => by
    show (enCells e ++ cellsE fs).length = (fs.length + 1) * 5
    rw [List.length_append, cellsE_len fs]
    show 5 + _ = _
    omega
theorem cellsE_one : ∀ (fs : List En), ∀ u ∈ cellsE fs, u.oneCell' = true
  | [], u, h => by cases h
  | e :: fs, u, h => by
    have h : u ∈ enCells e ++ cellsE fs := h
    rcases List.mem_append.1 h with h | h
    · simp only [enCells, List.mem_cons, List.not_mem_nil, or_false] at h
      rcases h with rfl | rfl | rfl | rfl | rfl <;> rfl
    · exact cellsE_one fs u h
theorem FilesV.raw {w : World} {v : Value} {fs : List En} (h : FilesV w v fs) : Raw w 5 v fs.length (cellsE fs) := by
  obtain ⟨p, c, e, h⟩ := h
  refine ⟨cellsE_len fs, p, c, e, ?_⟩
  rcases h with h | ⟨b, o, e, h⟩
  · exact .inl (by rw [h]; rfl)
  · refine .inr ⟨b, o, e, fun j u hu => ?_⟩
    have hj : j < fs.length * 5 := by
      rw [← cellsE_len fs]
      exact (List.getElem?_eq_some_iff.1 hu).1
    have hi : j / 5 < fs.length := by omega
    have ej : j = j / 5 * 5 + j % 5 := by omega
    have E := h (j / 5) hi
    have q := cellsE_at hi (j := j % 5) (by omega)
    rw [← ej, hu] at q
    have hm : j % 5 = 0 ∨ j % 5 = 1 ∨ j % 5 = 2 ∨ j % 5 = 3 ∨ j % 5 = 4 := by omega
    have eo : o + j = o + j / 5 * 5 + j % 5 := by omega
    rw [eo]
    rcases hm with hm | hm | hm | hm | hm <;> rw [hm] at q ⊢ <;> cases q
    · exact E.c0
    · exact E.c1
    · exact E.c2
    · exact E.c3
    · exact E.c4
theorem OwnR.nil (B : Nat) (w : World) : OwnR B w (.slice none 0 0) [] := World.ownsRow_nil _ _ _ _
/-- Entries that lie anywhere, put behind an own row. -/
theorem wpList_append_en {ops : Array Oper} {rest : List Oper} {o : Oper} {a : Act} {w : World} {Q : Exit → Act → World → Prop} (hgd : o.guard = none) (s x : Operand)
    (ho : o.op = .call { callee := .builtin .append, args := #[s, x], argTypes := #[29, 29] })
    (base : Nat) (v : Value) (fs : List En) (hs : a.eval s = v) (hown : OwnR base w v fs) (sv : Value) (gs : List En) (hx : a.eval x = sv) (hg : FilesV w sv gs)
    (hl : (fs.length + gs.length) * 72 ≤ 140737488355328) (hbase : base ≤ w.heap.size)
    (h : ∀ q cp w', OwnR base w' (.slice q (fs.length + gs.length) cp) (fs ++ gs) → Below base w w' → wpList Tryz.prog ops Q rest (a.put o.dst (.slice q (fs.length + gs.length) cp)) w') : wpList Tryz.prog ops Q (o :: rest) a w := by
  obtain ⟨i, hi, hz⟩ := Option.map_eq_some_iff.1 info_en
  have h0 : i.zero = some (.agg #[.string ⟨#[]⟩, .string ⟨#[]⟩, .bool false, .string ⟨#[]⟩, .string ⟨#[]⟩]) := congrArg Prod.fst hz
  have h1 : i.size = 5 := congrArg (fun p => p.2.1) hz
  have h2 : i.bytes = 72 := congrArg (fun p => p.2.2) hz
  refine wpList_append_raw hgd s x _ ho base 76 i _ 5 72 Tryz.underlying29 hi h0 h1 h2 rfl (by omega) v fs.length (cellsE fs) hs hown sv gs.length (cellsE gs) hx hg.raw (cellsE_one gs) (by unfold maxLen; omega) hl hbase ?_
  intro q cp w' own gr _
  refine h q cp w' ?_ (rowGrown_below (Below.refl _ _) hbase gr (fun k e => (World.ownsRow.lt hown k e).1))
  show World.ownsRow _ _ _ _ _ _ _
  rw [List.length_append, cellsE_app]
  exact own
/-- One entry in a block of its own. -/
theorem files_one (w : World) (e : En) : FilesV (w.alloc (.cells #[.string e.name, .string e.val, .bool e.file, .string e.fname, .string e.typ] 76)) (.slice (some ⟨w.heap.size, 0, none⟩) 1 1) [e] := by
  have K := Bk.new w [.string e.name, .string e.val, .bool e.file, .string e.fname, .string e.typ] 76
  refine ⟨_, 1, rfl, .inr ⟨w.heap.size, 0, rfl, fun i hi => ?_⟩⟩
  obtain rfl : i = 0 := by have : i < 1 := hi; omega
  exact ⟨K.cell 0 rfl, K.cell 1 rfl, K.cell 2 rfl, K.cell 3 rfl, K.cell 4 rfl⟩

end Go.Proofs.YtnojgejcmaajmaaGreatDoor
