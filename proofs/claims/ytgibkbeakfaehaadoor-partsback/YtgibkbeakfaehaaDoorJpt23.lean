/- A block of the call's own. append of a row that lies anywhere to a row of the call's own. Entries in a row of the call's own. -/
import Derived.Test.YtgibkbeakfaehaaDoorJpt11

namespace Go.Proofs.YtgibkbeakfaehaaDoor
open Go.RowKit
theorem Bk.free {w : World} {n : Nat} {cs : List Value} {t : TypeId} (h : Bk w n cs t) (k : Nat) : w.frozen? ⟨n, k, none⟩ = false := by
  simp only [World.frozen?, h.lies]; simp
theorem Bk.set {w : World} {n : Nat} {cs : List Value} {t : TypeId} (h : Bk w n cs t) (k : Nat) (u : Value) : Bk (w.setCell ⟨n, k, none⟩ u) n (cs.set k u) t := by
  refine ⟨?_⟩
  simp only [World.setCell, Array.getElem?_modify, if_true, h.lies]
  simp
theorem Bk.other {w : World} {n m : Nat} {cs : List Value} {t : TypeId} (h : Bk w n cs t) (hm : m ≠ n) (k : Nat) (u : Value) : Bk (w.setCell ⟨m, k, none⟩ u) n cs t := ⟨(Below.heap_setCell _ _ _ _ (fun e => hm e.symm)).trans h.lies⟩
end Go.Proofs.YtgibkbeakfaehaaDoor

namespace Go.Proofs.YtgibkbeakfaehaaDoor
open Go.RowKit
theorem Bk.raw {w : World} {n : Nat} {cs : List Value} {t : TypeId} (h : Bk w n cs t) (k size : Nat) (hl : cs.length = k * size) (c : Nat) : Raw w size (.slice (some ⟨n, 0, none⟩) k c) k cs :=
  ⟨hl, _, c, rfl, .inr ⟨n, 0, rfl, fun j u hu => by rw [Nat.zero_add]; exact h.cell j hu⟩⟩
end Go.Proofs.YtgibkbeakfaehaaDoor

namespace Go.Proofs.YtgibkbeakfaehaaDoor
open Go.RowKit
set_option maxRecDepth 100000
theorem cellsE_app (x y : List En) : cellsE (x ++ y) = cellsE x ++ cellsE y := by simp [cellsE]
theorem cellsE_at : ∀ {fs : List En} {i : Nat} (h : i < fs.length) {j : Nat}, j < 5 → (cellsE fs)[i * 5 + j]? = (enCells fs[i])[j]?
  | e :: fs, 0, _, j, hj => by
    show (enCells e ++ cellsE fs)[0 * 5 + j]? = _
    rw [Nat.zero_mul, Nat.zero_add, List.getElem?_append_left (by show j < 5; exact hj)]
    rfl
  | e :: fs, i + 1, h, j, hj => by
    show (enCells e ++ cellsE fs)[(i + 1) * 5 + j]? = _
    rw [List.getElem?_append_right (by show 5 ≤ _; omega), show (i + 1) * 5 + j - (enCells e).length = i * 5 + j by show (i + 1) * 5 + j - 5 = _; omega]
    exact cellsE_at (fs := fs) (by simpa using h) hj
theorem files_own {w : World} {base : Nat} {v : Value} {fs : List En} (h : w.ownsRow base 44 5 v fs.length (cellsE fs)) : FilesV w v fs := by
  rcases h.2 with ⟨e, q⟩ | ⟨g, cap, cur, e, hb, hg, h1, h2, _⟩
  · have : fs = [] := List.eq_nil_of_length_eq_zero q
    subst this
    exact ⟨none, 0, e, .inl rfl⟩
  · refine ⟨_, cap, e, .inr ⟨g, 0, rfl, fun i hi => ?_⟩⟩
    subst e
    have C : ∀ j u, j < 5 → (enCells fs[i])[j]? = some u → w.cell? ⟨g, 0 + i * 5 + j, none⟩ = some u := fun j u hj hu => by
      rw [Nat.zero_add]
      exact owns_cell h rfl ((cellsE_at hi hj).trans hu)
    exact ⟨C 0 _ (by omega) rfl, C 1 _ (by omega) rfl, C 2 _ (by omega) rfl, C 3 _ (by omega) rfl, C 4 _ (by omega) rfl⟩
theorem OwnR.files {B : Nat} {w : World} {v : Value} {fs : List En} (h : OwnR B w v fs) : FilesV w v fs := files_own h
theorem OwnR.set {B : Nat} {w : World} {v : Value} {fs : List En} (h : OwnR B w v fs) {m : Nat} (hm : ∀ g, v.ownBlock = some g → g ≠ m) (k : Nat) (u : Value) : OwnR B (w.setCell ⟨m, k, none⟩ u) v fs := by
  refine ⟨h.1, ?_⟩
  rcases h.2 with q | ⟨g, cap, cur, e1, h1, h2, h3⟩
  · exact .inl q
  · exact .inr ⟨g, cap, cur, e1, h1, (Below.heap_setCell _ _ _ _ (hm g (by rw [e1]; rfl))).trans h2, h3⟩
theorem info_en : (Tryd.prog.info? 44).map (fun i => (i.zero, i.size, i.bytes)) = some (some (.agg #[.string ⟨#[]⟩, .string ⟨#[]⟩, .bool false, .string ⟨#[]⟩, .string ⟨#[]⟩]), 5, 72) := by kernel_rfl
theorem cellsE_len : ∀ (fs : List En), (cellsE fs).length = fs.length * 5
  | [] => rfl
  | e :: fs => by
    show (enCells e ++ cellsE fs).length = (fs.length + 1) * 5
    rw [List.length_append, cellsE_len fs]
    show 5 + _ = _
    omega
theorem cellsE_one : ∀ (fs : List En), ∀ u ∈ cellsE fs, u.oneCell' = true
  | [], u, h => by cases h
  | e :: fs, u, h => by
    have h : u ∈ enCells e ++ cellsE fs := h
    rcases List.mem_append.1 h with h | h
    · simp only [enCells, List.mem_cons, List.not_mem_nil, or_false] at h
      rcases h with rfl | rfl | rfl | rfl | rfl <;> rfl
    · exact cellsE_one fs u h
theorem FilesV.raw {w : World} {v : Value} {fs : List En} (h : FilesV w v fs) : Raw w 5 v fs.length (cellsE fs) := by
  obtain ⟨p, c, e, h⟩ := h
  refine ⟨cellsE_len fs, p, c, e, ?_⟩
  rcases h with h | ⟨b, o, e, h⟩
  · exact .inl (by rw [h]; rfl)
  · refine .inr ⟨b, o, e, fun j u hu => ?_⟩
    have hj : j < fs.length * 5 := by
      rw [← cellsE_len fs]
      exact (List.getElem?_eq_some_iff.1 hu).1
    have hi : j / 5 < fs.length := by omega
    have ej : j = j / 5 * 5 + j % 5 := by omega
    have E := h (j / 5) hi
    have q := cellsE_at hi (j := j % 5) (by omega)
    rw [← ej, hu] at q
    have hm : j % 5 = 0 ∨ j % 5 = 1 ∨ j % 5 = 2 ∨ j % 5 = 3 ∨ j % 5 = 4 := by omega
    have eo : o + j = o + j / 5 * 5 + j % 5 := by omega
    rw [eo]
    rcases hm with hm | hm | hm | hm | hm <;> rw [hm] at q ⊢ <;> cases q
    · exact E.c0
    · exact E.c1
    · exact E.c2
    · exact E.c3
    · exact E.c4
/-- Entries that lie anywhere, put behind an own row. -/
theorem wpList_append_en {ops : Array Oper} {rest : List Oper} {o : Oper} {a : Act} {w : World} {Q : Exit → Act → World → Prop} (hgd : o.guard = none) (s x : Operand)
    (ho : o.op = .call { callee := .builtin .append, args := #[s, x], argTypes := #[22, 22] })
    (base : Nat) (v : Value) (fs : List En) (hs : a.eval s = v) (hown : OwnR base w v fs) (sv : Value) (gs : List En) (hx : a.eval x = sv) (hg : FilesV w sv gs)
    (hl : (fs.length + gs.length) * 72 ≤ 140737488355328) (hbase : base ≤ w.heap.size)
    (h : ∀ q cp w', OwnR base w' (.slice q (fs.length + gs.length) cp) (fs ++ gs) → Below base w w' → wpList Tryd.prog ops Q rest (a.put o.dst (.slice q (fs.length + gs.length) cp)) w') : wpList Tryd.prog ops Q (o :: rest) a w := by
  obtain ⟨i, hi, hz⟩ := Option.map_eq_some_iff.1 info_en
  have h0 : i.zero = some (.agg #[.string ⟨#[]⟩, .string ⟨#[]⟩, .bool false, .string ⟨#[]⟩, .string ⟨#[]⟩]) := congrArg Prod.fst hz
  have h1 : i.size = 5 := congrArg (fun p => p.2.1) hz
  have h2 : i.bytes = 72 := congrArg (fun p => p.2.2) hz
  refine wpList_append_raw hgd s x _ ho base 44 i _ 5 72 Tryd.underlying22 hi h0 h1 h2 rfl (by omega) v fs.length (cellsE fs) hs hown sv gs.length (cellsE gs) hx hg.raw (cellsE_one gs) (by unfold maxLen; omega) hl hbase ?_
  intro q cp w' own gr _
  refine h q cp w' ?_ (rowGrown_below (Below.refl _ _) hbase gr (fun k e => (World.ownsRow.lt hown k e).1))
  show World.ownsRow _ _ _ _ _ _ _
  rw [List.length_append, cellsE_app]
  exact own
theorem OwnR.empty (B : Nat) (w : World) (h : B ≤ w.heap.size) : OwnR B (w.alloc (.cells #[] 44)) (.slice (some ⟨w.heap.size, 0, none⟩) 0 0) [] :=
  ⟨rfl, .inr ⟨w.heap.size, 0, #[], rfl, h, (Bk.new w [] 44).lies, Nat.le_refl _, Nat.zero_le _, rfl, rfl⟩⟩

end Go.Proofs.YtgibkbeakfaehaaDoor
