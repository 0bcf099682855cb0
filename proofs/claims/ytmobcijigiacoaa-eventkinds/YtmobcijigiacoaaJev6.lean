/- append of a row that lies anywhere to a row of the call's own. Documents of the call's own. append of a row that lies anywhere (of none, too) to a row of the call's own. Rows of numbers, each in a row of the call's own, behind a row of pairs of the call's own. -/
import Derived.Test.YtmobcijigiacoaaRows
import Derived.Test.YtmobcijigiacoaaJev3
import Derived.Test.YtmobcijigiacoaaJev4
import Derived.Test.YtmobcijigiacoaaJev5
import Derived.Deep.AppendLies
import Derived.Maps.AppendAt
import Derived.Laws.OwnMore

namespace Go.Proofs.Ytmobcijigiacoaa
open Go.RowKit
theorem owns_cell {w : World} {base : Nat} {e : TypeId} {size : Nat} {v : Value} {n : Nat} {xs : List Value} (h : w.ownsRow base e size v n xs) {g : Nat} (hg : v.ownBlock = some g) {j : Nat} {u : Value} (hu : xs[j]? = some u) : w.cell? ⟨g, j, none⟩ = some u := by
  have := h.cells hg j u hu
  rwa [show (⟨g, 0, none⟩ : Addr).add j = ⟨g, j, none⟩ by unfold Addr.add; split <;> simp_all] at this
theorem owns_at {w : World} {base : Nat} {e : TypeId} {size : Nat} {v : Value} {n : Nat} {xs : List Value} (h : w.ownsRow base e size v n xs) (hn : 0 < n) : ∃ g cap, v = .slice (some ⟨g, 0, none⟩) n cap ∧ v.ownBlock = some g ∧ base ≤ g ∧ g < w.heap.size ∧ n ≤ cap ∧ cap ≤ maxLen := by
  rcases h.2 with ⟨_, h0⟩ | ⟨g, cap, cur, rfl, hb, hg, h1, h2, _⟩
  · omega
  · exact ⟨g, cap, rfl, rfl, hb, (Array.getElem?_eq_some_iff.1 hg).1, h1, h2⟩
end Go.Proofs.Ytmobcijigiacoaa

namespace Go.Proofs.Ytmobcijigiacoaa
open Go.RowKit
/-- What a call changed: blocks of a list, and new ones. -/
structure Chg (S : List Nat) (w w' : World) : Prop where
  os : w'.os = w.os
  tape : w'.tape = w.tape
  output : w'.output = w.output
  size : w.heap.size ≤ w'.heap.size
  block : ∀ k, k < w.heap.size → k ∉ S → w'.heap[k]? = w.heap[k]?
theorem Chg.refl (S : List Nat) (w : World) : Chg S w w := ⟨rfl, rfl, rfl, Nat.le_refl _, fun _ _ _ => rfl⟩
theorem Chg.mono {S S' : List Nat} {a b : World} (h : Chg S a b) (hs : ∀ k ∈ S, k < a.heap.size → k ∈ S') : Chg S' a b :=
  ⟨h.os, h.tape, h.output, h.size, fun i hi hn => h.block i hi fun q => hn (hs i q hi)⟩
theorem owns_mono {w : World} {base base' : Nat} {e : TypeId} {size : Nat} {v : Value} {n : Nat} {xs : List Value} (h : w.ownsRow base e size v n xs) (hb : base' ≤ base) : w.ownsRow base' e size v n xs := by
  refine ⟨h.1, ?_⟩
  rcases h.2 with hn' | ⟨g, cap, cur, rfl, hb', rest⟩
  · exact .inl hn'
  · exact .inr ⟨g, cap, cur, rfl, by omega, rest⟩
def cellsI (ks : List Int) : List Value := ks.map (.int .i64)
def cellsA (ax : List (ByteArray × ByteArray)) : List Value := ax.flatMap fun a => [.string a.1, .string a.2]
theorem cellsA_at : ∀ {ax : List (ByteArray × ByteArray)} {i : Nat} (h : i < ax.length), (cellsA ax)[i * 2]? = some (.string ax[i].1) ∧ (cellsA ax)[i * 2 + 1]? = some (.string ax[i].2)
  | a :: t, 0, _ => ⟨rfl, rfl⟩
  | a :: t, i + 1, h => by
    have := cellsA_at (ax := t) (i := i) (by simpa using h)
    rw [show (i + 1) * 2 = i * 2 + 1 + 1 by omega]
    exact this
def KidsO (base : Nat) (w : World) (v : Value) (ks : List Int) : Prop := w.ownsRow base 3 1 v ks.length (cellsI ks)
def AttrsO (base : Nat) (w : World) (v : Value) (ax : List (ByteArray × ByteArray)) : Prop := w.ownsRow base 68 2 v ax.length (cellsA ax)
theorem AttrsO.attrs {base : Nat} {w : World} {v : Value} {ax : List (ByteArray × ByteArray)} (h : AttrsO base w v ax) : AttrsV w v ax := by
  by_cases h0 : ax = []
  · rcases h.2 with ⟨rfl, _⟩ | ⟨g, cap, cur, rfl, _⟩
    · exact ⟨none, 0, by rw [h0]; rfl, .inl h0⟩
    · exact ⟨_, cap, rfl, .inl h0⟩
  · obtain ⟨g, cap, e, e2, _⟩ := owns_at h (List.length_pos_iff.2 h0)
    refine ⟨_, cap, e, .inr ⟨g, 0, rfl, fun i hi => ?_⟩⟩
    rw [Nat.zero_add]
    exact ⟨owns_cell h e2 (cellsA_at hi).1, owns_cell h e2 (cellsA_at hi).2⟩
/-- A node and where its rows lie. -/
structure NdV where
  n : Nd
  a : Value
  k : Value
def cellsN (x : NdV) : List Value := [.string x.n.name, .string x.n.text, x.a, .int .i64 x.n.parent, x.k]
def cellsV (L : List NdV) : List Value := L.flatMap cellsN
def blks (x : NdV) : List Nat := x.a.ownBlock.toList ++ x.k.ownBlock.toList
/-- A document of the call's own. -/
structure OwnD (base : Nat) (w : World) (v : Value) (L : List NdV) : Prop where
  row : w.ownsRow base 47 5 v L.length (cellsV L)
  at_ : ∀ x ∈ L, AttrsO base w x.a x.n.attrs
  ks : ∀ x ∈ L, KidsO base w x.k x.n.kids
  sep : (v.ownBlock.toList ++ L.flatMap blks).Nodup
theorem opt_mem {o : Option Nat} {k : Nat} : k ∈ o.toList ↔ o = some k := by cases o <;> simp [eq_comm]
theorem OwnD.lt {base : Nat} {w : World} {v : Value} {L : List NdV} (h : OwnD base w v L) {k : Nat} (hk : k ∈ v.ownBlock.toList ++ L.flatMap blks) : base ≤ k ∧ k < w.heap.size := by
  rcases List.mem_append.1 hk with q | q
  · exact h.row.lt k (opt_mem.1 q)
  · obtain ⟨x, h1, h2⟩ := List.mem_flatMap.1 q
    rcases List.mem_append.1 h2 with r | r
    · exact World.ownsRow.lt (h.at_ x h1) k (opt_mem.1 r)
    · exact World.ownsRow.lt (h.ks x h1) k (opt_mem.1 r)
theorem OwnD.mono {base base' : Nat} {w : World} {v : Value} {L : List NdV} (h : OwnD base w v L) (hb : base' ≤ base) : OwnD base' w v L :=
  ⟨owns_mono h.row hb, fun x hx => owns_mono (h.at_ x hx) hb, fun x hx => owns_mono (h.ks x hx) hb, h.sep⟩
end Go.Proofs.Ytmobcijigiacoaa

namespace Go.Proofs.Ytmobcijigiacoaa
open Go.RowKit
/-- A variable of the call's own: a block. -/
structure NB (w : World) (n : Nat) (cs : List Value) (t : TypeId) : Prop where
  lies : w.heap[n]? = some (.cells cs.toArray t (0, 0))
theorem NB.lt {w : World} {n : Nat} {cs : List Value} {t : TypeId} (h : NB w n cs t) : n < w.heap.size := (Array.getElem?_eq_some_iff.1 h.lies).1
end Go.Proofs.Ytmobcijigiacoaa

namespace Go.Proofs.Ytmobcijigiacoaa
open Go.RowKit
set_option maxRecDepth 100000
def hAt (V : List Value) (i : Nat) : Value := V.getD i (.slice none 0 0)
structure RowsH (B : Nat) (w : World) (v : Value) (G : List (List Int)) (V : List Value) (n : Nat) : Prop where
  len : V.length = G.length
  row : w.ownsRow B 57 2 v n V
  at_ : ∀ i (h : i < G.length), KidsO B w (hAt V i) G[i]
  far : ∀ i j b, i < G.length → j < G.length → (hAt V i).ownBlock = some b → (hAt V j).ownBlock = some b → i = j
theorem RowsH.lt {B : Nat} {w : World} {v : Value} {G : List (List Int)} {V : List Value} {n : Nat} (h : RowsH B w v G V n) {i b : Nat} (hi : i < G.length) (hb : (hAt V i).ownBlock = some b) : B ≤ b ∧ b < w.heap.size := World.ownsRow.lt (h.at_ i hi) b hb

end Go.Proofs.Ytmobcijigiacoaa
