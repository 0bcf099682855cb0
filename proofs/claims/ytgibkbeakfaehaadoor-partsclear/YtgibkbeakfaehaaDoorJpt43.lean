/- Rows of texts that lie anywhere, read as they are and put into a row of the call's own. -/
import Derived.Test.YtgibkbeakfaehaaDoorJpt11

namespace Go.Proofs.YtgibkbeakfaehaaDoor
open Go.RowKit
set_option maxRecDepth 100000
theorem info_tx : (Tryd.prog.info? 9).map (fun i => (i.zero, i.size, i.bytes)) = some (some (.string ⟨#[]⟩), 1, 16) := by kernel_rfl
theorem draws_raw {w : World} {v : Value} {ds : List ByteArray} (h : DrawsV w v ds) : Raw w 1 v ds.length (ds.map Value.string) := by
  obtain ⟨p, c, e, h, _⟩ := h
  refine ⟨by simp, p, c, e, ?_⟩
  rcases h with h | ⟨b, o, e, h⟩
  · exact .inl (by rw [h]; rfl)
  · refine .inr ⟨b, o, e, fun j u hu => ?_⟩
    rw [List.getElem?_map] at hu
    cases q : ds[j]? with
    | none => rw [q] at hu; cases hu
    | some d =>
      rw [q] at hu
      cases hu
      obtain ⟨hj, rfl⟩ := List.getElem?_eq_some_iff.1 q
      exact h j hj
theorem draws_own {w : World} {base : Nat} {v : Value} {ds : List ByteArray} (h : w.ownsRow base 9 1 v ds.length (ds.map Value.string)) : DrawsV w v ds := by
  rcases h.2 with ⟨e, q⟩ | ⟨g, cap, cur, e, hb, hg, h1, h2, _⟩
  · have : ds = [] := List.eq_nil_of_length_eq_zero q
    subst this
    exact ⟨none, 0, e, .inl rfl, Nat.le_refl _⟩
  · refine ⟨_, cap, e, .inr ⟨g, 0, rfl, fun i hi => ?_⟩, h1⟩
    subst e
    rw [Nat.zero_add]
    exact owns_cell h rfl (by rw [List.getElem?_map, List.getElem?_eq_getElem hi]; rfl)
/-- Texts that lie anywhere, put into a row of the call's own. -/
theorem wpList_append_tx0 {ops : Array Oper} {rest : List Oper} {o : Oper} {a : Act} {w : World} {Q : Exit → Act → World → Prop} (hgd : o.guard = none) (s x : Operand)
    (ho : o.op = .call { callee := .builtin .append, args := #[s, x], argTypes := #[23, 23] })
    (base : Nat) (v : Value) (hs : a.eval s = v) (hown : w.ownsRow base 9 1 v 0 []) (sv : Value) (ds : List ByteArray) (hx : a.eval x = sv) (hg : DrawsV w sv ds)
    (hl : ds.length * 16 ≤ 140737488355328) (hbase : base ≤ w.heap.size)
    (h : ∀ q cp w', DrawsV w' (.slice q ds.length cp) ds → Below base w w' → wpList Tryd.prog ops Q rest (a.put o.dst (.slice q ds.length cp)) w') : wpList Tryd.prog ops Q (o :: rest) a w := by
  obtain ⟨i, hi, hz⟩ := Option.map_eq_some_iff.1 info_tx
  have h0 : i.zero = some (.string ⟨#[]⟩) := congrArg Prod.fst hz
  have h1 : i.size = 1 := congrArg (fun p => p.2.1) hz
  have h2 : i.bytes = 16 := congrArg (fun p => p.2.2) hz
  have e : 0 + ds.length = ds.length := Nat.zero_add _
  refine wpList_append_raw hgd s x _ ho base 9 i _ 1 16 Tryd.underlying23 hi h0 h1 h2 rfl (by omega) v 0 [] hs hown sv ds.length (ds.map Value.string) hx (draws_raw hg) (fun u hu => by obtain ⟨d, _, rfl⟩ := List.mem_map.1 hu; rfl) (by unfold maxLen; omega) (by rw [e]; exact hl) hbase ?_
  rw [e]
  intro q cp w' own gr _
  exact h q cp w' (draws_own own) (rowGrown_below (Below.refl _ _) hbase gr (fun k e => (World.ownsRow.lt hown k e).1))
theorem tx_empty (w : World) : (w.alloc (.cells #[] 9)).ownsRow w.heap.size 9 1 (.slice (some ⟨w.heap.size, 0, none⟩) 0 0) 0 [] :=
  ⟨rfl, .inr ⟨w.heap.size, 0, #[], rfl, Nat.le_refl _, (Bk.new w [] 9).lies, Nat.le_refl _, Nat.zero_le _, rfl, rfl⟩⟩

end Go.Proofs.YtgibkbeakfaehaaDoor
