/- Documents as they lie in the world. -/
import Derived.Test.YtmobcijigiacoaaJev2
import Derived.Test.YtmobcijigiacoaaJev4

namespace Go.Proofs.Ytmobcijigiacoaa
open Go.RowKit
/-- A row of numbers behind a slice. -/
def IntsV (w : World) (v : Value) (ks : List Int) : Prop := ∃ p c, v = .slice p ks.length c ∧ (ks = [] ∨ ∃ b o, p = some ⟨b, o, none⟩ ∧ ∀ i (h : i < ks.length), w.cell? ⟨b, o + i, none⟩ = some (.int .i64 ks[i]))
/-- A slice is no longer than its room. -/
def CapOK (v : Value) : Prop := ∀ p n c, v = .slice p n c → n ≤ c
/-- A node's five cells. -/
structure NodeAt (w : World) (b o : Nat) (n : Nd) (va vk : Value) : Prop where
  name : w.cell? ⟨b, o, none⟩ = some (.string n.name)
  text : w.cell? ⟨b, o + 1, none⟩ = some (.string n.text)
  attrs : w.cell? ⟨b, o + 2, none⟩ = some va
  parent : w.cell? ⟨b, o + 3, none⟩ = some (.int .i64 n.parent)
  kids : w.cell? ⟨b, o + 4, none⟩ = some vk
  at_ : AttrsV w va n.attrs
  ks : IntsV w vk n.kids
  cap : CapOK va
/-- A document behind a slice. -/
def NodesV (w : World) (v : Value) (l : List Nd) : Prop := ∃ p c, v = .slice p l.length c ∧ (l = [] ∨ ∃ b o, p = some ⟨b, o, none⟩ ∧ ∀ i (h : i < l.length), ∃ va vk, NodeAt w b (o + i * 5) l[i] va vk)
theorem cell_below {w w' : World} {p : Addr} {x : Value} (h : w.cell? p = some x) (hb : Below w.heap.size w w') : w'.cell? p = some x := (hb.cell (World.block_lt_of_cell? _ _ h)).trans h
theorem IntsV.below {w w' : World} {v : Value} {ks : List Int} (h : IntsV w v ks) (hb : Below w.heap.size w w') : IntsV w' v ks := by
  obtain ⟨p, c, e, h⟩ := h
  refine ⟨p, c, e, ?_⟩
  rcases h with h | ⟨b, o, e2, h⟩
  · exact .inl h
  · exact .inr ⟨b, o, e2, fun i hi => cell_below (h i hi) hb⟩
theorem AttrsV.below {w w' : World} {v : Value} {ax : List (ByteArray × ByteArray)} (h : AttrsV w v ax) (hb : Below w.heap.size w w') : AttrsV w' v ax := by
  obtain ⟨p, c, e, h⟩ := h
  refine ⟨p, c, e, ?_⟩
  rcases h with h | ⟨b, o, e2, h⟩
  · exact .inl h
  · exact .inr ⟨b, o, e2, fun i hi => ⟨cell_below (h i hi).1 hb, cell_below (h i hi).2 hb⟩⟩
theorem NodeAt.below {w w' : World} {b o : Nat} {n : Nd} {va vk : Value} (h : NodeAt w b o n va vk) (hb : Below w.heap.size w w') : NodeAt w' b o n va vk :=
  ⟨cell_below h.name hb, cell_below h.text hb, cell_below h.attrs hb, cell_below h.parent hb, cell_below h.kids hb, h.at_.below hb, h.ks.below hb, h.cap⟩
theorem NodesV.below {w w' : World} {v : Value} {l : List Nd} (h : NodesV w v l) (hb : Below w.heap.size w w') : NodesV w' v l := by
  obtain ⟨p, c, e, h⟩ := h
  refine ⟨p, c, e, ?_⟩
  rcases h with h | ⟨b, o, e2, h⟩
  · exact .inl h
  · refine .inr ⟨b, o, e2, fun i hi => ?_⟩
    obtain ⟨va, vk, hn⟩ := h i hi
    exact ⟨va, vk, hn.below hb⟩

end Go.Proofs.Ytmobcijigiacoaa
