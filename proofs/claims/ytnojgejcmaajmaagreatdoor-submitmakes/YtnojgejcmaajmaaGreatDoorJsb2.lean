/- Documents of the call's own. append of a row that lies anywhere (of none, too) to a row of the call's own. The way down in a document. The document's Order of layer 10. Which form a control belongs to, a form's elements, a label's control, what is disabled, as functions of documents. A select's options by way of its children. The program's way of asking for forms, elements, labels and what is disabled, told by the document's functions. Ways and questions of kinds, of the program and of the document. The types of kinds. The program's Lower and Same, and the document's Lower, answer by the small letters of a text, for every text. A control's state as it lies in the world. -/
import Derived.Test.YtnojgejcmaajmaaGreatDoorJsb1
import Derived.OwnWalk
import Derived.Deep.MidRow
import Derived.Shelf.Strconv.Clone

namespace Go.Proofs.YtnojgejcmaajmaaGreatDoor
open Go.RowKit
/-- What a call changed: blocks of a list, and new ones. -/
structure Chg (S : List Nat) (w w' : World) : Prop where
  os : w'.os = w.os
  tape : w'.tape = w.tape
  output : w'.output = w.output
  size : w.heap.size ≤ w'.heap.size
  block : ∀ k, k < w.heap.size → k ∉ S → w'.heap[k]? = w.heap[k]?
theorem Chg.refl (S : List Nat) (w : World) : Chg S w w := ⟨rfl, rfl, rfl, Nat.le_refl _, fun _ _ _ => rfl⟩
theorem Chg.trans {S : List Nat} {a b c : World} (h : Chg S a b) (k : Chg S b c) : Chg S a c :=
  ⟨k.os.trans h.os, k.tape.trans h.tape, k.output.trans h.output, Nat.le_trans h.size k.size, fun i hi hn => (k.block i (Nat.lt_of_lt_of_le hi h.size) hn).trans (h.block i hi hn)⟩
theorem Chg.mono {S S' : List Nat} {a b : World} (h : Chg S a b) (hs : ∀ k ∈ S, k < a.heap.size → k ∈ S') : Chg S' a b :=
  ⟨h.os, h.tape, h.output, h.size, fun i hi hn => h.block i hi fun q => hn (hs i q hi)⟩
theorem Chg.of_grown {w w' : World} {row : Option Nat} (h : w.grownBy w' row) : Chg row.toList w w' :=
  ⟨h.os, h.tape, h.output, h.size, fun i hi hn => h.block i hi fun e => hn (by rw [← e]; simp)⟩
theorem Chg.of_below {w w' : World} (h : Below w.heap.size w w') : Chg [] w w' := ⟨h.os, h.tape, h.output, h.size, fun i hi _ => h.block i hi⟩
theorem Chg.set (w : World) (p : Addr) (u : Value) : Chg [p.block] w (w.setCell p u) :=
  ⟨rfl, rfl, rfl, by simp [World.setCell], fun i _ hn => Below.heap_setCell _ _ _ _ (fun e => hn (by rw [e]; simp))⟩
theorem Chg.setB (w : World) (n k : Nat) (u : Value) : Chg [n] w (w.setCell ⟨n, k, none⟩ u) := Chg.set w ⟨n, k, none⟩ u
theorem Chg.nil {S : List Nat} {w w' : World} (h : Chg [] w w') : Chg S w w' := h.mono (fun _ q => by cases q)
theorem Chg.alloc (w : World) (o : Obj) : Chg [] w (w.alloc o) := ⟨rfl, rfl, rfl, by simp, fun i hi _ => Below.heap_alloc w o i hi⟩
theorem Chg.drewN (w : World) (n : Nat) : Chg [] w (w.drewN n) := ⟨rfl, rfl, rfl, Nat.le_refl _, fun _ _ _ => rfl⟩
theorem bel_drewN {B : Nat} {a w : World} (h : Below B a w) (n : Nat) : Below B a (w.drewN n) := ⟨h.os, h.tape, h.output, h.size, h.block⟩
theorem Chg.below {S : List Nat} {w w' : World} {B : Nat} (h : Chg S w w') (hB : B ≤ w.heap.size) (hs : ∀ k ∈ S, B ≤ k) : Below B w w' :=
  ⟨h.os, h.tape, h.output, h.size, fun k hk => h.block k (by omega) fun q => by have := hs k q; omega⟩
theorem Chg.none {S : List Nat} {a b : World} (h : Chg S a b) (hs : ∀ k ∈ S, a.heap.size ≤ k) : Below a.heap.size a b := h.below (Nat.le_refl _) hs
theorem Chg.cell {S : List Nat} {w w' : World} (h : Chg S w w') {p : Addr} {x : Value} (hp : w.cell? p = some x) (hn : p.block ∉ S) : w'.cell? p = some x :=
  (World.cell?_of_block (h.block p.block (World.block_lt_of_cell? w p hp) hn)).trans hp
theorem owns_kept {S : List Nat} {w w' : World} {base : Nat} {e : TypeId} {size : Nat} {v : Value} {n : Nat} {xs : List Value} (h : w.ownsRow base e size v n xs) (hc : Chg S w w') (hn : ∀ k, v.ownBlock = some k → k ∉ S) : w'.ownsRow base e size v n xs := by
  refine ⟨h.1, ?_⟩
  rcases h.2 with hn' | ⟨g, cap, cur, rfl, hb, hgg, rest⟩
  · exact .inl hn'
  · refine .inr ⟨g, cap, cur, rfl, hb, ?_, rest⟩
    rw [hc.block g (Array.getElem?_eq_some_iff.1 hgg).1 (hn g rfl)]
    exact hgg
theorem owns_mono {w : World} {base base' : Nat} {e : TypeId} {size : Nat} {v : Value} {n : Nat} {xs : List Value} (h : w.ownsRow base e size v n xs) (hb : base' ≤ base) : w.ownsRow base' e size v n xs := by
  refine ⟨h.1, ?_⟩
  rcases h.2 with hn' | ⟨g, cap, cur, rfl, hb', rest⟩
  · exact .inl hn'
  · exact .inr ⟨g, cap, cur, rfl, by omega, rest⟩
/-- A cell of such a row is stored into. -/
theorem owns_set {w : World} {base : Nat} {e : TypeId} {size : Nat} {v : Value} {n : Nat} {xs : List Value} (h : w.ownsRow base e size v n xs) {g : Nat} (hg : v.ownBlock = some g) (j : Nat) (u : Value) :
    (w.setCell ⟨g, j, none⟩ u).ownsRow base e size v n (xs.set j u) := by
  refine ⟨by rw [List.length_set]; exact h.1, ?_⟩
  rcases h.2 with ⟨rfl, _⟩ | ⟨g', cap, cur, rfl, hb, hgg, h1, h2, h3, h4⟩
  · simp [Value.ownBlock] at hg
  · simp only [Value.ownBlock, Option.some.injEq] at hg
    subst hg
    refine .inr ⟨g', cap, cur.setIfInBounds j u, rfl, hb, ?_, h1, h2, by simpa using h3, ?_⟩
    · simp only [World.setCell, Array.getElem?_modify, if_true, hgg]
      rfl
    · rw [Array.toList_setIfInBounds, List.take_set, h4]
theorem owns_cap {w : World} {base : Nat} {e : TypeId} {size : Nat} {v : Value} {n : Nat} {xs : List Value} (h : w.ownsRow base e size v n xs) : CapOK v := by
  intro p m c e
  rcases h.2 with ⟨rfl, h0⟩ | ⟨g, cap, cur, rfl, hb, hg, h1, h2, _⟩
  · cases e; omega
  · cases e; exact h1
def cellsI (ks : List Int) : List Value := ks.map (.int .i64)
def cellsA (ax : List (ByteArray × ByteArray)) : List Value := ax.flatMap fun a => [.string a.1, .string a.2]
theorem cellsI_len (ks : List Int) : (cellsI ks).length = ks.length := by simp [cellsI]
theorem cellsA_len (ax : List (ByteArray × ByteArray)) : (cellsA ax).length = ax.length * 2 := by
  unfold cellsA
  induction ax with
  | nil => rfl
  | cons a t ih => rw [List.flatMap_cons, List.length_append, ih]; simp; omega
theorem cellsI_app (x y : List Int) : cellsI (x ++ y) = cellsI x ++ cellsI y := by simp [cellsI]
theorem cellsI_at {ks : List Int} {i : Nat} (h : i < ks.length) : (cellsI ks)[i]? = some (.int .i64 ks[i]) := by simp [cellsI, h]
theorem cellsA_at : ∀ {ax : List (ByteArray × ByteArray)} {i : Nat} (h : i < ax.length), (cellsA ax)[i * 2]? = some (.string ax[i].1) ∧ (cellsA ax)[i * 2 + 1]? = some (.string ax[i].2)
  | a :: t, 0, _ => ⟨rfl, rfl⟩
  | a :: t, i + 1, h => by
    have := cellsA_at (ax := t) (i := i) (by simpa using h)
    rw [show (i + 1) * 2 = i * 2 + 1 + 1 by omega]
    exact this
theorem cellsI_one (ks : List Int) : ∀ u ∈ cellsI ks, u.oneCell' = true := by
  intro u hu
  obtain ⟨z, _, rfl⟩ := List.mem_map.1 hu
  rfl
theorem cellsA_one (ax : List (ByteArray × ByteArray)) : ∀ u ∈ cellsA ax, u.oneCell' = true := by
  intro u hu
  obtain ⟨a, _, h⟩ := List.mem_flatMap.1 hu
  simp at h
  rcases h with rfl | rfl <;> rfl
def KidsO (base : Nat) (w : World) (v : Value) (ks : List Int) : Prop := w.ownsRow base 3 1 v ks.length (cellsI ks)
def AttrsO (base : Nat) (w : World) (v : Value) (ax : List (ByteArray × ByteArray)) : Prop := w.ownsRow base 131 2 v ax.length (cellsA ax)
theorem KidsO.ints {base : Nat} {w : World} {v : Value} {ks : List Int} (h : KidsO base w v ks) : IntsV w v ks := by
  by_cases h0 : ks = []
  · rcases h.2 with ⟨rfl, _⟩ | ⟨g, cap, cur, rfl, _⟩
    · exact ⟨none, 0, by rw [h0]; rfl, .inl h0⟩
    · exact ⟨_, cap, rfl, .inl h0⟩
  · obtain ⟨g, cap, e, e2, _⟩ := owns_at h (List.length_pos_iff.2 h0)
    refine ⟨_, cap, e, .inr ⟨g, 0, rfl, fun i hi => ?_⟩⟩
    rw [Nat.zero_add]
    exact owns_cell h e2 (cellsI_at hi)
theorem AttrsO.attrs {base : Nat} {w : World} {v : Value} {ax : List (ByteArray × ByteArray)} (h : AttrsO base w v ax) : AttrsV w v ax := by
  by_cases h0 : ax = []
  · rcases h.2 with ⟨rfl, _⟩ | ⟨g, cap, cur, rfl, _⟩
    · exact ⟨none, 0, by rw [h0]; rfl, .inl h0⟩
    · exact ⟨_, cap, rfl, .inl h0⟩
  · obtain ⟨g, cap, e, e2, _⟩ := owns_at h (List.length_pos_iff.2 h0)
    refine ⟨_, cap, e, .inr ⟨g, 0, rfl, fun i hi => ?_⟩⟩
    rw [Nat.zero_add]
    exact ⟨owns_cell h e2 (cellsA_at hi).1, owns_cell h e2 (cellsA_at hi).2⟩
/-- A node and where its rows lie. -/
structure NdV where
  n : Nd
  a : Value
  k : Value
def cellsN (x : NdV) : List Value := [.string x.n.name, .string x.n.text, x.a, .int .i64 x.n.parent, x.k]
def cellsV (L : List NdV) : List Value := L.flatMap cellsN
theorem cellsV_app (x y : List NdV) : cellsV (x ++ y) = cellsV x ++ cellsV y := by simp [cellsV]
theorem cellsV_at : ∀ {L : List NdV} {i : Nat} (h : i < L.length) {j : Nat}, j < 5 → (cellsV L)[i * 5 + j]? = (cellsN L[i])[j]?
  | x :: L, 0, _, j, hj => by
    show (cellsN x ++ cellsV L)[0 * 5 + j]? = _
    rw [List.getElem?_append_left (by show _ < 5; omega), Nat.zero_mul, Nat.zero_add]; rfl
  | x :: L, i + 1, h, j, hj => by
    show (cellsN x ++ cellsV L)[(i + 1) * 5 + j]? = _
    rw [List.getElem?_append_right (by show 5 ≤ _; omega), show (i + 1) * 5 + j - (cellsN x).length = i * 5 + j by show (i + 1) * 5 + j - 5 = _; omega]
    exact cellsV_at (L := L) (by simpa using h) hj
def blks (x : NdV) : List Nat := x.a.ownBlock.toList ++ x.k.ownBlock.toList
def ndsOf (L : List NdV) : List Nd := L.map (·.n)
/-- A document of the call's own. -/
structure OwnD (base : Nat) (w : World) (v : Value) (L : List NdV) : Prop where
  row : w.ownsRow base 57 5 v L.length (cellsV L)
  at_ : ∀ x ∈ L, AttrsO base w x.a x.n.attrs
  ks : ∀ x ∈ L, KidsO base w x.k x.n.kids
  sep : (v.ownBlock.toList ++ L.flatMap blks).Nodup
theorem ndsOf_len (L : List NdV) : (ndsOf L).length = L.length := by simp [ndsOf]
theorem ndsOf_get {L : List NdV} {i : Nat} (h : i < (ndsOf L).length) : (ndsOf L)[i] = (L[i]'(by simpa [ndsOf] using h)).n := by simp [ndsOf]
theorem OwnD.nodeAt {base : Nat} {w : World} {v : Value} {L : List NdV} (h : OwnD base w v L) {g : Nat} (hg : v.ownBlock = some g) {i : Nat} (hi : i < L.length) : NodeAt w g (i * 5) L[i].n L[i].a L[i].k := by
  have c : ∀ j, j < 5 → ∀ u, (cellsN L[i])[j]? = some u → w.cell? ⟨g, i * 5 + j, none⟩ = some u := fun j hj u hu => owns_cell h.row hg ((cellsV_at hi hj).trans hu)
  exact ⟨c 0 (by omega) _ rfl, c 1 (by omega) _ rfl, c 2 (by omega) _ rfl, c 3 (by omega) _ rfl, c 4 (by omega) _ rfl, (h.at_ _ (List.getElem_mem _)).attrs, (h.ks _ (List.getElem_mem _)).ints, owns_cap (h.at_ _ (List.getElem_mem _))⟩
theorem OwnD.nodes {base : Nat} {w : World} {v : Value} {L : List NdV} (h : OwnD base w v L) : NodesV w v (ndsOf L) := by
  by_cases h0 : L = []
  · rcases h.row.2 with ⟨rfl, _⟩ | ⟨g, cap, cur, rfl, _⟩
    · exact ⟨none, 0, by rw [h0]; rfl, .inl (by rw [h0]; rfl)⟩
    · exact ⟨_, cap, by rw [ndsOf_len], .inl (by rw [h0]; rfl)⟩
  · obtain ⟨g, cap, e, e2, _⟩ := owns_at h.row (List.length_pos_iff.2 h0)
    refine ⟨_, cap, by rw [ndsOf_len]; exact e, .inr ⟨g, 0, rfl, fun i hi => ?_⟩⟩
    have hi' : i < L.length := by rwa [ndsOf_len] at hi
    rw [ndsOf_get hi, Nat.zero_add]
    exact ⟨_, _, h.nodeAt e2 hi'⟩
theorem opt_mem {o : Option Nat} {k : Nat} : k ∈ o.toList ↔ o = some k := by cases o <;> simp [eq_comm]
theorem OwnD.lt {base : Nat} {w : World} {v : Value} {L : List NdV} (h : OwnD base w v L) {k : Nat} (hk : k ∈ v.ownBlock.toList ++ L.flatMap blks) : base ≤ k ∧ k < w.heap.size := by
  rcases List.mem_append.1 hk with q | q
  · exact h.row.lt k (opt_mem.1 q)
  · obtain ⟨x, h1, h2⟩ := List.mem_flatMap.1 q
    rcases List.mem_append.1 h2 with r | r
    · exact World.ownsRow.lt (h.at_ x h1) k (opt_mem.1 r)
    · exact World.ownsRow.lt (h.ks x h1) k (opt_mem.1 r)
theorem OwnD.kept {base : Nat} {S : List Nat} {w w' : World} {v : Value} {L : List NdV} (h : OwnD base w v L) (hc : Chg S w w') (hs : ∀ k ∈ S, k ∉ v.ownBlock.toList ++ L.flatMap blks) : OwnD base w' v L := by
  refine ⟨owns_kept h.row hc fun k hk q => hs k q (List.mem_append_left _ (opt_mem.2 hk)), fun x hx => owns_kept (h.at_ x hx) hc fun k hk q => hs k q ?_, fun x hx => owns_kept (h.ks x hx) hc fun k hk q => hs k q ?_, h.sep⟩
  · exact List.mem_append_right _ (List.mem_flatMap.2 ⟨x, hx, List.mem_append_left _ (opt_mem.2 hk)⟩)
  · exact List.mem_append_right _ (List.mem_flatMap.2 ⟨x, hx, List.mem_append_right _ (opt_mem.2 hk)⟩)
theorem OwnD.below {base : Nat} {w w' : World} {v : Value} {L : List NdV} (h : OwnD base w v L) (hb : Below w.heap.size w w') : OwnD base w' v L := h.kept (Chg.of_below hb) (fun _ q => by cases q)
theorem OwnD.mono {base base' : Nat} {w : World} {v : Value} {L : List NdV} (h : OwnD base w v L) (hb : base' ≤ base) : OwnD base' w v L :=
  ⟨owns_mono h.row hb, fun x hx => owns_mono (h.at_ x hx) hb, fun x hx => owns_mono (h.ks x hx) hb, h.sep⟩
theorem set_mid {α : Type} {L : List α} {i : Nat} (h : i < L.length) (x' : α) : ∃ A B, L = A ++ L[i] :: B ∧ L.set i x' = A ++ x' :: B := by
  refine ⟨L.take i, L.drop (i + 1), ?_, ?_⟩
  · rw [← List.drop_eq_getElem_cons h, List.take_append_drop]
  · exact List.set_eq_take_append_cons_drop .. |>.trans (by rw [if_pos h])
theorem nodup_mid {V A X X' B : List Nat} {m : Nat} (h : (V ++ (A ++ (X ++ B))).Nodup) (hlt : ∀ k ∈ V ++ (A ++ (X ++ B)), k < m) (hX : X'.Nodup) (hs : ∀ k ∈ X', k ∈ X ∨ m ≤ k) : (V ++ (A ++ (X' ++ B))).Nodup := by
  rw [List.nodup_append] at h ⊢
  obtain ⟨h1, h2, h3⟩ := h
  rw [List.nodup_append] at h2
  obtain ⟨h4, h5, h6⟩ := h2
  rw [List.nodup_append] at h5
  obtain ⟨h7, h8, h9⟩ := h5
  have N : ∀ a, a ∈ V ∨ a ∈ A ∨ a ∈ B → a < m := fun a q => hlt a (by
    rcases q with q | q | q
    · exact List.mem_append_left _ q
    · exact List.mem_append_right _ (List.mem_append_left _ q)
    · exact List.mem_append_right _ (List.mem_append_right _ (List.mem_append_right _ q)))
  refine ⟨h1, ?_, fun a ha b hb => ?_⟩
  · rw [List.nodup_append]
    refine ⟨h4, ?_, fun a ha b hb => ?_⟩
    · rw [List.nodup_append]
      refine ⟨hX, h8, fun a ha b hb => ?_⟩
      rcases hs a ha with q | q
      · exact h9 a q b hb
      · have := N b (.inr (.inr hb)); omega
    · rcases List.mem_append.1 hb with q | q
      · rcases hs b q with r | r
        · exact h6 a ha b (List.mem_append_left _ r)
        · have := N a (.inr (.inl ha)); omega
      · exact h6 a ha b (List.mem_append_right _ q)
  · rcases List.mem_append.1 hb with q | q
    · exact h3 a ha b (List.mem_append_left _ q)
    · rcases List.mem_append.1 q with r | r
      · rcases hs b r with t | t
        · exact h3 a ha b (List.mem_append_right _ (List.mem_append_left _ t))
        · have := N a (.inl ha); omega
      · exact h3 a ha b (List.mem_append_right _ (List.mem_append_right _ r))
/-- One node is changed: its cells, its rows. -/
theorem OwnD.put {base : Nat} {S : List Nat} {w w' : World} {v : Value} {L : List NdV} (h : OwnD base w v L) {i : Nat} (hi : i < L.length) {x' : NdV} (hc : Chg S w w') (hS : ∀ k ∈ S, k < w.heap.size → v.ownBlock = some k ∨ k ∈ blks L[i])
    (hrow : w'.ownsRow base 57 5 v L.length (cellsV (L.set i x'))) (ha : AttrsO base w' x'.a x'.n.attrs) (hk : KidsO base w' x'.k x'.n.kids) (hb : ∀ k ∈ blks x', k ∈ blks L[i] ∨ w.heap.size ≤ k) (hd : (blks x').Nodup) : OwnD base w' v (L.set i x') := by
  obtain ⟨A, B, e1, e2⟩ := set_mid hi x'
  have hsep := h.sep
  have hlt : ∀ k ∈ v.ownBlock.toList ++ L.flatMap blks, k < w.heap.size := fun k hk => (h.lt hk).2
  generalize hx : L[i] = x at e1 hS hb
  have far : ∀ y, y ∈ A ∨ y ∈ B → ∀ k ∈ blks y, k ∉ S := by
    intro y hy k hk q
    rw [e1] at hsep hlt
    rw [List.flatMap_append, List.flatMap_cons] at hsep hlt
    have hk' : k ∈ A.flatMap blks ∨ k ∈ B.flatMap blks := by
      rcases hy with r | r
      · exact .inl (List.mem_flatMap.2 ⟨y, r, hk⟩)
      · exact .inr (List.mem_flatMap.2 ⟨y, r, hk⟩)
    have hm : k ∈ v.ownBlock.toList ++ (A.flatMap blks ++ (blks x ++ B.flatMap blks)) := by
      rcases hk' with r | r
      · exact List.mem_append_right _ (List.mem_append_left _ r)
      · exact List.mem_append_right _ (List.mem_append_right _ (List.mem_append_right _ r))
    rw [List.nodup_append] at hsep
    obtain ⟨_, s2, s3⟩ := hsep
    rw [List.nodup_append] at s2
    obtain ⟨_, s5, s6⟩ := s2
    rw [List.nodup_append] at s5
    rcases hS k q (hlt k hm) with r | r
    · refine s3 k (opt_mem.2 r) k ?_ rfl
      rcases hk' with t | t
      · exact List.mem_append_left _ t
      · exact List.mem_append_right _ (List.mem_append_right _ t)
    · rcases hk' with t | t
      · exact s6 k t k (List.mem_append_left _ r) rfl
      · exact s5.2.2 k r k t rfl
  refine ⟨by rw [List.length_set]; exact hrow, ?_, ?_, ?_⟩
  · intro y hy
    rw [e2] at hy
    have M : y = x' ∨ ((y ∈ A ∨ y ∈ B) ∧ y ∈ L) := by
      rw [e1]
      rcases List.mem_append.1 hy with q | q
      · exact .inr ⟨.inl q, List.mem_append_left _ q⟩
      · rcases List.mem_cons.1 q with r | r
        · exact .inl r
        · exact .inr ⟨.inr r, List.mem_append_right _ (List.mem_cons_of_mem _ r)⟩
    rcases M with q | ⟨q, r⟩
    · rw [q]; exact ha
    · exact owns_kept (h.at_ y r) hc fun k hk => far y q k (List.mem_append_left _ (opt_mem.2 hk))
  · intro y hy
    rw [e2] at hy
    have M : y = x' ∨ ((y ∈ A ∨ y ∈ B) ∧ y ∈ L) := by
      rw [e1]
      rcases List.mem_append.1 hy with q | q
      · exact .inr ⟨.inl q, List.mem_append_left _ q⟩
      · rcases List.mem_cons.1 q with r | r
        · exact .inl r
        · exact .inr ⟨.inr r, List.mem_append_right _ (List.mem_cons_of_mem _ r)⟩
    rcases M with q | ⟨q, r⟩
    · rw [q]; exact hk
    · exact owns_kept (h.ks y r) hc fun k hk => far y q k (List.mem_append_right _ (opt_mem.2 hk))
  · rw [e2, List.flatMap_append, List.flatMap_cons]
    rw [e1, List.flatMap_append, List.flatMap_cons] at hsep hlt
    exact nodup_mid hsep hlt hd hb
theorem Chg.drew (w : World) : Chg [] w w.drew := ⟨rfl, rfl, rfl, Nat.le_refl _, fun _ _ _ => rfl⟩
/-- A node is put behind all others. -/
theorem OwnD.push {base : Nat} {w w' : World} {v v' : Value} {L : List NdV} {x : NdV} (h : OwnD base w v L) (hc : Chg v.ownBlock.toList w w') (hrow : w'.ownsRow base 57 5 v' (L.length + 1) (cellsV L ++ cellsN x))
    (ha : AttrsO base w' x.a x.n.attrs) (hk : KidsO base w' x.k x.n.kids) (hd : (blks x).Nodup) (hb : ∀ k ∈ blks x, w.heap.size ≤ k ∧ v'.ownBlock ≠ some k) (hv : v'.ownBlock = v.ownBlock ∨ ∀ k, v'.ownBlock = some k → w.heap.size ≤ k) : OwnD base w' v' (L ++ [x]) := by
  have hsep := h.sep
  rw [List.nodup_append] at hsep
  obtain ⟨s1, s2, s3⟩ := hsep
  have far : ∀ y ∈ L, ∀ k ∈ blks y, k ∉ v.ownBlock.toList := fun y hy k hk q => s3 k q k (List.mem_flatMap.2 ⟨y, hy, hk⟩) rfl
  have lt : ∀ k ∈ L.flatMap blks, k < w.heap.size := fun k hk => (h.lt (List.mem_append_right _ hk)).2
  refine ⟨by rw [List.length_append, cellsV_app]; simpa [cellsV] using hrow, ?_, ?_, ?_⟩
  · intro y hy
    rcases List.mem_append.1 hy with q | q
    · exact owns_kept (h.at_ y q) hc fun k hk => far y q k (List.mem_append_left _ (opt_mem.2 hk))
    · rw [List.mem_singleton.1 q]; exact ha
  · intro y hy
    rcases List.mem_append.1 hy with q | q
    · exact owns_kept (h.ks y q) hc fun k hk => far y q k (List.mem_append_right _ (opt_mem.2 hk))
    · rw [List.mem_singleton.1 q]; exact hk
  · rw [List.flatMap_append, List.flatMap_singleton, List.nodup_append]
    refine ⟨by cases v'.ownBlock <;> simp, ?_, fun a ha' b hb' e => ?_⟩
    · rw [List.nodup_append]
      refine ⟨s2, hd, fun a ha' b hb' e => ?_⟩
      have := lt a ha'
      have := (hb b hb').1
      omega
    · subst e
      rcases List.mem_append.1 hb' with q | q
      · rcases hv with r | r
        · rw [r] at ha'; exact s3 a ha' a q rfl
        · have := r a (opt_mem.1 ha'); have := lt a q; omega
      · exact (hb a q).2 (opt_mem.1 ha')
end Go.Proofs.YtnojgejcmaajmaaGreatDoor

namespace Go.Proofs.YtnojgejcmaajmaaGreatDoor
open Go.RowKit
/-- Cells behind a slice, anywhere. -/
theorem IntsV.raw {w : World} {v : Value} {ks : List Int} (h : IntsV w v ks) : Raw w 1 v ks.length (cellsI ks) := by
  obtain ⟨p, c, rfl, h⟩ := h
  refine ⟨by rw [cellsI_len, Nat.mul_one], p, c, rfl, ?_⟩
  rcases h with rfl | ⟨b, o, rfl, h⟩
  · exact .inl rfl
  · refine .inr ⟨b, o, rfl, fun j u hu => ?_⟩
    have hj : j < ks.length := by have := (List.getElem?_eq_some_iff.1 hu).1; rwa [cellsI_len] at this
    rw [cellsI_at hj] at hu
    cases hu
    exact h j hj
theorem AttrsV.raw {w : World} {v : Value} {ax : List (ByteArray × ByteArray)} (h : AttrsV w v ax) : Raw w 2 v ax.length (cellsA ax) := by
  obtain ⟨p, c, rfl, h⟩ := h
  refine ⟨cellsA_len ax, p, c, rfl, ?_⟩
  rcases h with rfl | ⟨b, o, rfl, h⟩
  · exact .inl rfl
  · refine .inr ⟨b, o, rfl, fun j u hu => ?_⟩
    have hj : j < ax.length * 2 := by have := (List.getElem?_eq_some_iff.1 hu).1; rwa [cellsA_len] at this
    obtain ⟨k, hk⟩ : ∃ k, j = k * 2 ∨ j = k * 2 + 1 := ⟨j / 2, by omega⟩
    have hk1 : k < ax.length := by omega
    have hd := cellsA_at (ax := ax) (i := k) hk1
    have hc := h k hk1
    rcases hk with rfl | rfl
    · rw [hd.1] at hu
      cases hu
      exact hc.1
    · rw [hd.2] at hu
      cases hu
      rw [← Nat.add_assoc]; exact hc.2
theorem Raw.below {w w' : World} {size : Nat} {v : Value} {n : Nat} {xs : List Value} (h : Raw w size v n xs) (hb : Below w.heap.size w w') : Raw w' size v n xs := by
  obtain ⟨h1, p, c, e, h⟩ := h
  refine ⟨h1, p, c, e, ?_⟩
  rcases h with h | ⟨b, o, e2, h⟩
  · exact .inl h
  · exact .inr ⟨b, o, e2, fun j u hu => cell_below (h j u hu) hb⟩
theorem step_append_raw {P : Program} {ops : Array Oper} {o : Oper} {a : Act} {w : World} {K : Act → World → Prop} {Q : Exit → Act → World → Prop} {E : Prop} (hgd : o.guard = none) (s x : Operand) (t : TypeId)
    (ho : o.op = .call { callee := .builtin .append, args := #[s, x], argTypes := #[t, t] })
    (base : Nat) (e : TypeId) (i : TypeInfo) (z : Value) (size bytes : Nat) (ht : P.underlying t = some (.slice e)) (hi : P.info? e = some i) (hz : i.zero = some z)
    (hsize : i.size = size) (hby : i.bytes = bytes) (hzs : z.cells.size = size) (hsz : 0 < size)
    (v : Value) (n : Nat) (xs : List Value) (hs : a.eval s = v) (hown : w.ownsRow base e size v n xs)
    (sv : Value) (m : Nat) (news : List Value) (hx : a.eval x = sv) (hraw : Raw w size sv m news) (h1 : ∀ u ∈ news, u.oneCell' = true)
    (h63 : n + m ≤ maxLen) (hbytes : (n + m) * bytes ≤ 140737488355328) (hbase : base ≤ w.heap.size)
    (h : ∀ q cp w', w'.ownsRow base e size (.slice q (n + m) cp) (n + m) (xs ++ news) → w.grownBy w' v.ownBlock → ((Value.slice q (n + m) cp).ownBlock = v.ownBlock ∨ (Value.slice q (n + m) cp).ownBlock = some w.heap.size) → K (a.put o.dst (.slice q (n + m) cp)) w') :
    if Region.wanted o (yielded ops a.tmps) = true then Oper.wp P o a w K Q else E := by
  have hw : Region.wanted o (yielded ops a.tmps) = true := by simp [Region.wanted, hgd]
  rw [if_pos hw]
  exact wp_append_raw s x t ho base e i z size bytes ht hi hz hsize hby hzs hsz v n xs hs hown sv m news hx hraw h1 h63 hbytes hbase h
/-- A variable of the call's own: a block. -/
structure NB (w : World) (n : Nat) (cs : List Value) (t : TypeId) : Prop where
  lies : w.heap[n]? = some (.cells cs.toArray t (0, 0))
theorem NB.new (w : World) (cs : List Value) (t : TypeId) : NB (w.alloc (.cells cs.toArray t)) w.heap.size cs t := ⟨heap_alloc_new w _⟩
theorem NB.drew {w : World} {n : Nat} {cs : List Value} {t : TypeId} (h : NB w n cs t) : NB w.drew n cs t := ⟨h.lies⟩
theorem NB.lt {w : World} {n : Nat} {cs : List Value} {t : TypeId} (h : NB w n cs t) : n < w.heap.size := (Array.getElem?_eq_some_iff.1 h.lies).1
theorem NB.cell {w : World} {n : Nat} {cs : List Value} {t : TypeId} (h : NB w n cs t) (k : Nat) {u : Value} (hu : cs[k]? = some u) : w.cell? ⟨n, k, none⟩ = some u := by
  rw [cell_of_row w n k _ t (0, 0) h.lies]; simpa using hu
theorem NB.free {w : World} {n : Nat} {cs : List Value} {t : TypeId} (h : NB w n cs t) (k : Nat) : w.frozen? ⟨n, k, none⟩ = false := by
  simp only [World.frozen?, h.lies]; simp
theorem NB.chg {S : List Nat} {w w' : World} {n : Nat} {cs : List Value} {t : TypeId} (h : NB w n cs t) (hc : Chg S w w') (hn : n ∉ S) : NB w' n cs t := ⟨(hc.block n h.lt hn).trans h.lies⟩
theorem NB.set {w : World} {n : Nat} {cs : List Value} {t : TypeId} (h : NB w n cs t) (k : Nat) (u : Value) : NB (w.setCell ⟨n, k, none⟩ u) n (cs.set k u) t := by
  refine ⟨?_⟩
  simp only [World.setCell, Array.getElem?_modify, if_true, h.lies]
  simp
theorem NB.raw {w : World} {n : Nat} {cs : List Value} {t : TypeId} (h : NB w n cs t) (k size : Nat) (hl : cs.length = k * size) (c : Nat) : Raw w size (.slice (some ⟨n, 0, none⟩) k c) k cs :=
  ⟨hl, _, c, rfl, .inr ⟨n, 0, rfl, fun j u hu => by rw [Nat.zero_add]; exact h.cell j hu⟩⟩
theorem Raw.chg {S : List Nat} {w w' : World} {size : Nat} {v : Value} {n : Nat} {xs : List Value} (h : Raw w size v n xs) (hb : Chg S w w') (hn : ∀ b o c, v = .slice (some ⟨b, o, none⟩) n c → b ∉ S) : Raw w' size v n xs := by
  obtain ⟨h1, p, c, e, h⟩ := h
  refine ⟨h1, p, c, e, ?_⟩
  rcases h with h | ⟨b, o, e2, h⟩
  · exact .inl h
  · exact .inr ⟨b, o, e2, fun j u hu => hb.cell (h j u hu) (hn b o c (by rw [e, e2]))⟩
theorem infoN : (Tryz.prog.info? 57).map (fun i => (i.zero, i.size, i.bytes)) = some (some (.agg #[.string ⟨#[]⟩, .string ⟨#[]⟩, .slice none 0 0, .int .i64 0, .slice none 0 0]), 5, 88) := by kernel_rfl
theorem infoA : (Tryz.prog.info? 131).map (fun i => (i.zero, i.size, i.bytes)) = some (some (.agg #[.string ⟨#[]⟩, .string ⟨#[]⟩]), 2, 32) := by kernel_rfl
theorem infoI : (Tryz.prog.info? 3).map (fun i => (i.zero, i.size, i.bytes)) = some (some (.int .i64 0), 1, 8) := by kernel_rfl
end Go.Proofs.YtnojgejcmaajmaaGreatDoor

namespace Go.Proofs.YtnojgejcmaajmaaGreatDoor
open Go.RowKit
def inR (l : List Nd) (k : Int) : Prop := 0 ≤ k ∧ k < (l.length : Int)
def kidsI (l : List Nd) (k : Int) : List Int := (nd l k.toNat).kids
/-- A node and what is within it. -/
def downF (l : List Nd) : Nat → Int → List Int
  | 0, _ => []
  | n + 1, k => k :: (kidsI l k).flatMap (downF l n)
/-- So much fuel is enough. -/
def Sub (l : List Nd) : Nat → Int → Prop
  | 0, _ => False
  | n + 1, k => inR l k ∧ ∀ c ∈ kidsI l k, Sub l n c
/-- So many steps below a node without a parent. -/
def Dep (l : List Nd) : Nat → Int → Prop
  | 0, k => inR l k ∧ parI l k = -1
  | n + 1, k => inR l k ∧ Dep l n (parI l k)
theorem Dep.rng {l : List Nd} : ∀ {d : Nat} {k : Int}, Dep l d k → inR l k
  | 0, _, h => h.1
  | _ + 1, _, h => h.1
theorem Dep.one {l : List Nd} : ∀ {d e : Nat} {k : Int}, Dep l d k → Dep l e k → d = e
  | 0, 0, _, _, _ => rfl
  | 0, e + 1, k, h, g => by have := g.2.rng; rw [h.2] at this; exact absurd this.1 (by omega)
  | d + 1, 0, k, h, g => by have := h.2.rng; rw [g.2] at this; exact absurd this.1 (by omega)
  | d + 1, e + 1, k, h, g => by rw [Dep.one h.2 g.2]
/-- The nodes on the way up. -/
def upL (l : List Nd) : Nat → Int → List Int
  | 0, k => [k]
  | n + 1, k => k :: upL l n (parI l k)
theorem upL_len (l : List Nd) : ∀ (d : Nat) (k : Int), (upL l d k).length = d + 1
  | 0, _ => rfl
  | d + 1, k => by show (upL l d (parI l k)).length + 1 = _; rw [upL_len l d]
theorem upL_dep {l : List Nd} : ∀ {d : Nat} {k x : Int}, Dep l d k → x ∈ upL l d k → ∃ e, e ≤ d ∧ Dep l e x
  | 0, k, x, h, hx => by
    have : x = k := by simpa [upL] using hx
    rw [this]; exact ⟨0, Nat.le_refl _, h⟩
  | d + 1, k, x, h, hx => by
    rcases List.mem_cons.1 hx with q | q
    · rw [q]; exact ⟨d + 1, Nat.le_refl _, h⟩
    · obtain ⟨e, h1, h2⟩ := upL_dep h.2 q
      exact ⟨e, by omega, h2⟩
theorem upL_nodup {l : List Nd} : ∀ {d : Nat} {k : Int}, Dep l d k → (upL l d k).Nodup
  | 0, k, _ => by simp [upL]
  | d + 1, k, h => by
    refine List.nodup_cons.2 ⟨fun q => ?_, upL_nodup h.2⟩
    obtain ⟨e, h1, h2⟩ := upL_dep h.2 q
    have := Dep.one h2 h
    omega
theorem Dep.lt {l : List Nd} {d : Nat} {k : Int} (h : Dep l d k) : d < l.length := by
  have := nodup_len l.length (upL l d k) (upL_nodup h) (fun x hx => by
    obtain ⟨e, _, h2⟩ := upL_dep h hx
    exact h2.rng)
  rw [upL_len] at this
  omega
/-- Each child is there, tells its parent, and stands once. -/
structure Linked (l : List Nd) : Prop where
  kid : ∀ i, i < l.length → ∀ c ∈ (nd l i).kids, inR l c ∧ parI l c = (i : Int)
  once : ∀ i, i < l.length → (nd l i).kids.Nodup
theorem Linked.kidI {l : List Nd} (h : Linked l) {k c : Int} (hk : inR l k) (hc : c ∈ kidsI l k) : inR l c ∧ parI l c = k := by
  have := h.kid k.toNat (by have := hk.1; have := hk.2; omega) c hc
  rw [Int.toNat_of_nonneg hk.1] at this
  exact this
theorem Linked.onceI {l : List Nd} (h : Linked l) {k : Int} (hk : inR l k) : (kidsI l k).Nodup := h.once k.toNat (by have := hk.1; have := hk.2; omega)
theorem dep_sub {l : List Nd} (h : Linked l) : ∀ (f : Nat) {d : Nat} {k : Int}, Dep l d k → l.length ≤ d + f → Sub l f k
  | 0, d, k, hd, hf => by have := hd.lt; omega
  | f + 1, d, k, hd, hf => ⟨hd.rng, fun c hc => by
    have q := h.kidI hd.rng hc
    exact dep_sub h f (d := d + 1) (show inR l c ∧ Dep l d (parI l c) from ⟨q.1, by rw [q.2]; exact hd⟩) (by omega)⟩
theorem Sub.rng {l : List Nd} : ∀ {f : Nat} {k : Int}, Sub l f k → inR l k
  | 0, _, h => h.elim
  | _ + 1, _, h => h.1
theorem Sub.mono {l : List Nd} : ∀ {f : Nat} {k : Int}, Sub l f k → Sub l (f + 1) k
  | 0, _, h => h.elim
  | _ + 1, _, h => ⟨h.1, fun c hc => (h.2 c hc).mono⟩
theorem down_range {l : List Nd} : ∀ {f : Nat} {k x : Int}, Sub l f k → x ∈ downF l f k → inR l x
  | 0, _, _, h, _ => h.elim
  | f + 1, k, x, h, hx => by
    rcases List.mem_cons.1 hx with q | q
    · rw [q]; exact h.1
    · obtain ⟨c, h1, h2⟩ := List.mem_flatMap.1 q
      exact down_range (h.2 c h1) h2
theorem down_self {l : List Nd} {f : Nat} {k : Int} (h : Sub l f k) : k ∈ downF l f k := by
  cases f with
  | zero => exact h.elim
  | succ f => exact List.mem_cons_self ..
/-- Who is gone to is the first, or a child of one that is gone to. -/
theorem down_from {l : List Nd} : ∀ {f : Nat} {k x : Int}, Sub l f k → x ∈ downF l f k → x = k ∨ ∃ p, inR l p ∧ x ∈ kidsI l p
  | 0, _, _, h, _ => h.elim
  | f + 1, k, x, h, hx => by
    rcases List.mem_cons.1 hx with q | q
    · exact .inl q
    · obtain ⟨c, h1, h2⟩ := List.mem_flatMap.1 q
      rcases down_from (h.2 c h1) h2 with r | r
      · rw [r]; exact .inr ⟨k, h.1, h1⟩
      · exact .inr r
theorem down_kids {l : List Nd} : ∀ {f : Nat} {k p c : Int}, Sub l f k → p ∈ downF l f k → c ∈ kidsI l p → c ∈ downF l f k
  | 0, _, _, _, h, _, _ => h.elim
  | f + 1, k, p, c, h, hp, hc => by
    rcases List.mem_cons.1 hp with q | q
    · rw [q] at hc
      exact List.mem_cons_of_mem _ (List.mem_flatMap.2 ⟨c, hc, down_self (h.2 c hc)⟩)
    · obtain ⟨d, h1, h2⟩ := List.mem_flatMap.1 q
      exact List.mem_cons_of_mem _ (List.mem_flatMap.2 ⟨d, h1, down_kids (h.2 d h1) h2 hc⟩)
/-- So many steps up. -/
def upN (l : List Nd) : Nat → Int → Int
  | 0, k => k
  | n + 1, k => upN l n (parI l k)
theorem upN_succ (l : List Nd) : ∀ (n : Nat) (k : Int), upN l (n + 1) k = parI l (upN l n k)
  | 0, _ => rfl
  | n + 1, k => by show upN l (n + 1) (parI l k) = _; rw [upN_succ l n]; rfl
theorem down_dep {l : List Nd} (h : Linked l) : ∀ {f d : Nat} {k x : Int}, Dep l d k → x ∈ downF l f k → ∃ e, Dep l (d + e) x ∧ upN l e x = k
  | 0, _, _, _, _, hx => by cases hx
  | f + 1, d, k, x, hd, hx => by
    rcases List.mem_cons.1 hx with q | q
    · rw [q]; exact ⟨0, hd, rfl⟩
    · obtain ⟨c, h1, h2⟩ := List.mem_flatMap.1 q
      have r := h.kidI hd.rng h1
      obtain ⟨e, g1, g2⟩ := down_dep h (d := d + 1) (show inR l c ∧ Dep l d (parI l c) from ⟨r.1, by rw [r.2]; exact hd⟩) h2
      refine ⟨e + 1, by rw [show d + (e + 1) = d + 1 + e by omega]; exact g1, ?_⟩
      rw [upN_succ, g2, r.2]
theorem nodup_flat {α β : Type} {g : α → List β} : ∀ {L : List α}, L.Nodup → (∀ x ∈ L, (g x).Nodup) → (∀ x ∈ L, ∀ y ∈ L, ∀ z, z ∈ g x → z ∈ g y → x = y) → (L.flatMap g).Nodup
  | [], _, _, _ => by simp
  | a :: L, hn, h1, h2 => by
    have hn := List.nodup_cons.1 hn
    rw [List.flatMap_cons, List.nodup_append]
    refine ⟨h1 a (List.mem_cons_self ..), nodup_flat hn.2 (fun x hx => h1 x (List.mem_cons_of_mem _ hx)) (fun x hx y hy => h2 x (List.mem_cons_of_mem _ hx) y (List.mem_cons_of_mem _ hy)), fun x hx y hy e => ?_⟩
    obtain ⟨b, h3, h4⟩ := List.mem_flatMap.1 hy
    rw [← e] at h4
    have := h2 a (List.mem_cons_self ..) b (List.mem_cons_of_mem _ h3) x hx h4
    rw [this] at hn
    exact hn.1 h3
theorem down_nodup {l : List Nd} (h : Linked l) : ∀ {f d : Nat} {k : Int}, Dep l d k → (downF l f k).Nodup
  | 0, _, _, _ => by simp [downF]
  | f + 1, d, k, hd => by
    have D : ∀ c ∈ kidsI l k, Dep l (d + 1) c := fun c hc => by
      have r := h.kidI hd.rng hc
      exact show inR l c ∧ Dep l d (parI l c) from ⟨r.1, by rw [r.2]; exact hd⟩
    refine List.nodup_cons.2 ⟨fun q => ?_, nodup_flat (h.onceI hd.rng) (fun c hc => down_nodup h (D c hc)) (fun x hx y hy z h1 h2 => ?_)⟩
    · obtain ⟨c, h1, h2⟩ := List.mem_flatMap.1 q
      obtain ⟨e, g1, _⟩ := down_dep h (D c h1) h2
      have := Dep.one g1 hd
      omega
    · obtain ⟨e1, g1, g2⟩ := down_dep h (D x hx) h1
      obtain ⟨e2, g3, g4⟩ := down_dep h (D y hy) h2
      have := Dep.one g1 g3
      obtain rfl : e1 = e2 := by omega
      rw [← g2, ← g4]
/-- The nodes without a parent, in order of their numbers; all that they lead to. -/
def rootsL (l : List Nd) : List Int := ((List.range l.length).filter fun i => (nd l i).parent == -1).map fun i : Nat => (i : Int)
theorem mem_roots {l : List Nd} {r : Int} : r ∈ rootsL l ↔ inR l r ∧ parI l r = -1 := by
  unfold rootsL
  rw [List.mem_map]
  constructor
  · rintro ⟨i, hi, rfl⟩
    rw [List.mem_filter, List.mem_range, beq_iff_eq] at hi
    exact ⟨⟨by omega, by omega⟩, by unfold parI; rw [Int.toNat_natCast]; exact hi.2⟩
  · rintro ⟨⟨h1, h2⟩, h3⟩
    refine ⟨r.toNat, ?_, Int.toNat_of_nonneg h1⟩
    rw [List.mem_filter, List.mem_range, beq_iff_eq]
    exact ⟨by omega, h3⟩
theorem nodup_cast {L : List Nat} (h : L.Nodup) : (L.map fun i : Nat => (i : Int)).Nodup := List.pairwise_map.2 (h.imp fun {a b} hab e => hab (by omega))
theorem count_one {L : List Int} {x : Int} (h : L.Nodup) (hx : x ∈ L) : List.count x L = 1 := by
  have h1 := List.nodup_iff_count.1 h x
  have h2 := List.count_pos_iff.2 hx
  omega
theorem roots_nodup (l : List Nd) : (rootsL l).Nodup := by
  unfold rootsL
  refine nodup_cast ?_
  exact List.nodup_range.filter _
def allL (l : List Nd) : List Int := (rootsL l).flatMap (downF l l.length)
theorem root_dep {l : List Nd} {r : Int} (h : r ∈ rootsL l) : Dep l 0 r := mem_roots.1 h
theorem root_sub {l : List Nd} (h : Linked l) {r : Int} (hr : r ∈ rootsL l) : Sub l l.length r := dep_sub h _ (root_dep hr) (by omega)
theorem all_nodup {l : List Nd} (h : Linked l) : (allL l).Nodup := by
  refine nodup_flat (roots_nodup l) (fun r hr => down_nodup h (root_dep hr)) (fun x hx y hy z h1 h2 => ?_)
  obtain ⟨e1, g1, g2⟩ := down_dep h (root_dep hx) h1
  obtain ⟨e2, g3, g4⟩ := down_dep h (root_dep hy) h2
  have := Dep.one g1 g3
  obtain rfl : e1 = e2 := by omega
  rw [← g2, ← g4]
theorem all_range {l : List Nd} (h : Linked l) {x : Int} (hx : x ∈ allL l) : inR l x := by
  obtain ⟨r, h1, h2⟩ := List.mem_flatMap.1 hx
  exact down_range (root_sub h h1) h2
theorem all_full {l : List Nd} (h : Linked l) (hl : (allL l).length = l.length) {x : Int} (hx : inR l x) : x ∈ allL l := by
  by_cases q : x ∈ allL l
  · exact q
  · have := nodup_len l.length (x :: allL l) (List.nodup_cons.2 ⟨q, all_nodup h⟩) (fun y hy => by
      rcases List.mem_cons.1 hy with r | r
      · rw [r]; exact hx
      · exact all_range h r)
    rw [List.length_cons, hl] at this
    omega
theorem dep_climb {l : List Nd} : ∀ {d : Nat} {k : Int}, Dep l d k → climb l (d + 1) k < 0
  | 0, k, h => by
    show (if k < 0 then k else parI l k) < 0
    rw [if_neg (by have := h.1.1; omega), h.2]; omega
  | d + 1, k, h => by
    show (if k < 0 then k else climb l (d + 1) (parI l k)) < 0
    rw [if_neg (by have := h.1.1; omega)]
    exact dep_climb h.2
/-- What the program asks is what the document asks. -/
theorem right_of {l : List Nd} (h1 : 1 ≤ l.length ∧ l.length ≤ 400) (h2 : ¬ (nd l 0).name.size = 0) (h3 : (nd l 0).parent = -1) (h4 : ∀ i, i < l.length → aloneB (nd l i) = true) (h5 : Linked l) (h6 : (allL l).length = l.length) : Right l := by
  have A : ∀ i : Nat, i < l.length → ∃ d, Dep l d (i : Int) ∧ (parI l (i : Int) = -1 ∨ ∃ p, inR l p ∧ (i : Int) ∈ kidsI l p) := by
    intro i hi
    have := all_full h5 h6 (x := (i : Int)) ⟨by omega, by omega⟩
    obtain ⟨r, g1, g2⟩ := List.mem_flatMap.1 this
    obtain ⟨e, g3, _⟩ := down_dep h5 (root_dep g1) g2
    refine ⟨_, g3, ?_⟩
    rcases down_from (root_sub h5 g1) g2 with q | q
    · rw [q]; exact .inl (root_dep g1).2
    · exact .inr q
  have PI : ∀ i : Nat, parI l (i : Int) = (nd l i).parent := fun i => by unfold parI; rw [Int.toNat_natCast]
  have hp : ∀ i, i < l.length → -1 ≤ (nd l i).parent ∧ (nd l i).parent < l.length := by
    intro i hi
    obtain ⟨d, g1, g2⟩ := A i hi
    rw [← PI i]
    rcases g2 with q | ⟨p, q1, q2⟩
    · rw [q]; omega
    · rw [(h5.kidI q1 q2).2]
      have := q1.1; have := q1.2; omega
  refine ⟨h1, h2, h3, h4, hp, fun i hi q => ?_, fun i hi c hc => ?_, fun i hi => ?_⟩
  · obtain ⟨d, g1, g2⟩ := A i hi
    rcases g2 with r | ⟨p, q1, q2⟩
    · rw [PI i] at r; omega
    · have e := (h5.kidI q1 q2).2
      rw [PI i] at e
      rw [e]
      exact count_one (h5.onceI q1) q2
  · have := h5.kid i hi c hc
    exact ⟨this.1.1, this.1.2, this.2⟩
  · obtain ⟨d, g1, g2⟩ := A i hi
    exact ends_of (fun i hi => (hp i hi).2) (by omega) (dep_climb g1)
theorem right_linked {l : List Nd} (h : Right l) : Linked l := ⟨fun i hi c hc => by have := h.kid i hi c hc; exact ⟨⟨this.1, this.2.1⟩, this.2.2⟩, fun i hi => kids_nodup h hi⟩
theorem right_all {l : List Nd} (h : Right l) : ∀ (d : Nat) {k : Int}, inR l k → hgt l k ≤ d → k ∈ allL l
  | 0, k, hk, hd => by
    have := hgt_up (h.ende hk.2) (by have := hk.1; omega); omega
  | d + 1, k, hk, hd => by
    have n0 : ¬ k < 0 := by have := hk.1; omega
    have e := hgt_up (h.ende hk.2) n0
    have u := h.up n0 hk.2
    by_cases q : parI l k < 0
    · have r : k ∈ rootsL l := mem_roots.2 ⟨hk, by omega⟩
      exact List.mem_flatMap.2 ⟨k, r, down_self (root_sub (right_linked h) r)⟩
    · have ih := right_all h d (k := parI l k) ⟨by omega, u.2⟩ (by omega)
      obtain ⟨r, g1, g2⟩ := List.mem_flatMap.1 ih
      refine List.mem_flatMap.2 ⟨r, g1, down_kids (root_sub (right_linked h) g1) g2 ?_⟩
      have hk0 : k.toNat < l.length := by have := hk.2; omega
      have c := h.cnt k.toNat hk0 q
      rw [Int.toNat_of_nonneg hk.1] at c
      exact List.count_pos_iff.1 (by have c : List.count k (kidsI l (parI l k)) = 1 := c; omega)
theorem nodup_sub : ∀ {A B : List Int}, A.Nodup → (∀ x ∈ A, x ∈ B) → A.length ≤ B.length
  | [], _, _, _ => Nat.zero_le _
  | a :: A, B, hn, h => by
    have hn := List.nodup_cons.1 hn
    have ha := h a (List.mem_cons_self ..)
    have := nodup_sub (A := A) (B := B.erase a) hn.2 (fun x hx => by
      have := h x (List.mem_cons_of_mem _ hx)
      exact (List.mem_erase_of_ne (fun e => hn.1 (by rw [← e]; exact hx))).2 this)
    rw [List.length_erase_of_mem ha] at this
    have := List.length_pos_of_mem ha
    rw [List.length_cons]
    omega
theorem right_reached {l : List Nd} (h : Right l) : (allL l).length = l.length := by
  have h1 := nodup_len l.length (allL l) (all_nodup (right_linked h)) (fun x hx => all_range (right_linked h) hx)
  have h2 := nodup_sub (A := (List.range l.length).map fun i : Nat => (i : Int)) (B := allL l) (nodup_cast List.nodup_range) (fun x hx => by
    obtain ⟨i, g1, rfl⟩ := List.mem_map.1 hx
    have := List.mem_range.1 g1
    exact right_all h _ ⟨by omega, by omega⟩ (Nat.le_refl _))
  rw [List.length_map, List.length_range] at h2
  omega
/-- A node of a right document is so many steps below one without a parent. -/
theorem right_dep {l : List Nd} (h : Right l) {k : Int} (hk : inR l k) : ∃ d, Dep l d k := by
  obtain ⟨r, g1, g2⟩ := List.mem_flatMap.1 (right_all h _ hk (Nat.le_refl _))
  obtain ⟨e, g3, _⟩ := down_dep (right_linked h) (root_dep g1) g2
  exact ⟨_, g3⟩
theorem right_sub {l : List Nd} (h : Right l) {k : Int} (hk : inR l k) : Sub l l.length k := by
  obtain ⟨d, g⟩ := right_dep h hk
  exact dep_sub (right_linked h) _ g (by omega)
/-- The way by a list of those that are to be gone to is the same. -/
theorem order_row {l : List Nd} : ∀ (f : Nat) (ks : List Int) (N : Nat) (st : List Int), (∀ c ∈ ks, Sub l f c) → (ks.flatMap (downF l f)).length ≤ N → orderF l N (ks ++ st) = ks.flatMap (downF l f) ++ orderF l (N - (ks.flatMap (downF l f)).length) st := by
  intro f
  induction f with
  | zero =>
    intro ks N st h _
    cases ks with
    | nil => simp
    | cons c ks => exact (h c (List.mem_cons_self ..)).elim
  | succ f ihf =>
    intro ks
    induction ks with
    | nil => intro N st _ _; simp
    | cons c ks ihk =>
      intro N st h hN
      have hc := h c (List.mem_cons_self ..)
      have hf : (c :: ks).flatMap (downF l (f + 1)) = c :: ((kidsI l c).flatMap (downF l f) ++ ks.flatMap (downF l (f + 1))) := by
        rw [List.flatMap_cons]; rfl
      rw [hf] at hN ⊢
      rw [List.length_cons, List.length_append] at hN
      obtain ⟨M, rfl⟩ : ∃ M, N = M + 1 := ⟨N - 1, by omega⟩
      have e1 : orderF l (M + 1) (c :: ks ++ st) = c :: orderF l M (kidsI l c ++ (ks ++ st)) := rfl
      rw [e1, ihf (kidsI l c) M (ks ++ st) hc.2 (by omega), ihk _ st (fun x hx => h x (List.mem_cons_of_mem _ hx)) (by omega)]
      rw [List.cons_append, List.append_assoc, List.length_cons, List.length_append]
      congr 3
      congr 1
      omega
theorem order_down {l : List Nd} (h : Right l) {k : Int} (hk : inR l k) : orderP l k = downF l l.length k := by
  obtain ⟨d, g⟩ := right_dep h hk
  have hs := right_sub h hk
  have hn := nodup_len l.length (downF l l.length k) (down_nodup (right_linked h) g) (fun x hx => down_range hs hx)
  have := order_row (l := l) l.length [k] (l.length + 1) [] (fun c hc => by rw [List.mem_singleton.1 hc]; exact hs) (by simpa using (by omega : (downF l l.length k).length ≤ l.length + 1))
  rw [List.append_nil, List.flatMap_singleton] at this
  unfold orderP
  rw [this]
  have e : orderF l (l.length + 1 - (downF l l.length k).length) [] = [] := by
    cases l.length + 1 - (downF l l.length k).length <;> rfl
  rw [e, List.append_nil]
end Go.Proofs.YtnojgejcmaajmaaGreatDoor

namespace Go.Proofs.YtnojgejcmaajmaaGreatDoor
open Go.RowKit
set_option maxRecDepth 100000
/-- What is gone to, what is to be gone to, and what comes of it. -/
structure OInv (l : List Nd) (id : Int) (xs st : List Int) (R : List Int) : Prop where
  inv : Inv l id xs st
  go : ∃ N, l.length + 1 ≤ N + xs.length ∧ xs ++ orderF l N st = R
theorem OInv.few {l : List Nd} {id : Int} {xs st R : List Int} (h : OInv l id xs st R) : xs.length + st.length ≤ l.length := by
  have := nodup_len l.length (xs ++ st) h.inv.once (fun x hx => by have := h.inv.rng x hx; exact ⟨this.1, this.2.1⟩)
  rwa [List.length_append] at this
theorem OInv.step {l : List Nd} (hR : Right l) {id : Int} {xs st R : List Int} {k : Int} (h : OInv l id xs (k :: st) R) : OInv l id (xs ++ [k]) ((nd l k.toNat).kids ++ st) R := by
  refine ⟨inv_step hR h.inv, ?_⟩
  obtain ⟨N, h1, h2⟩ := h.go
  have := h.few
  rw [List.length_cons] at this
  obtain ⟨M, rfl⟩ : ∃ M, N = M + 1 := ⟨N - 1, by omega⟩
  refine ⟨M, by rw [List.length_append, List.length_singleton]; omega, ?_⟩
  rw [← h2, List.append_assoc]; rfl
end Go.Proofs.YtnojgejcmaajmaaGreatDoor

namespace Go.Proofs.YtnojgejcmaajmaaGreatDoor
open Go.RowKit
def oForm : ByteArray := ⟨#[102, 111, 114, 109]⟩
/-- A node's kind by its number. -/
def kI (l : List Nd) (i : Int) : Int := kN (nd l i.toNat)
end Go.Proofs.YtnojgejcmaajmaaGreatDoor

namespace Go.Proofs.YtnojgejcmaajmaaGreatDoor
open Go.RowKit
theorem seekR_in {t : ByteArray} {f l : Nat} : ∀ {n k x : Nat}, seekR t f l n k = some x → f ≤ x ∧ x ≤ l
  | 0, k, x, h => by cases h
  | n + 1, k, x, h => by
    unfold seekR at h
    split at h
    · rename_i q
      rw [Bool.and_eq_true, Bool.and_eq_true, Nat.ble_eq, Nat.ble_eq] at q
      cases h
      exact ⟨q.1, q.2.1⟩
    · exact seekR_in h
theorem kInt_in {r : Option Nat} {f l : Nat} {z : Int} (hz : (f : Int) ≤ z ∧ z ≤ (l : Int)) (h : ∀ x, r = some x → f ≤ x ∧ x ≤ l) : (f : Int) ≤ kInt r z ∧ kInt r z ≤ (l : Int) := by
  cases r with
  | none => exact hz
  | some x =>
    have := h x rfl
    show (f : Int) ≤ (x : Int) ∧ (x : Int) ≤ (l : Int)
    omega
theorem byT_in {o : Option ByteArray} {f l : Nat} {z : Int} (hz : (f : Int) ≤ z ∧ z ≤ (l : Int)) : (f : Int) ≤ byT o f l z ∧ byT o f l z ≤ (l : Int) := by
  cases o with
  | none => exact hz
  | some t => exact kInt_in hz (fun x e => seekR_in e)
theorem seekL_in {t : ByteArray} : ∀ {n k x : Nat}, seekL t n k = some x → lastN x = t
  | 0, k, x, h => by cases h
  | n + 1, k, x, h => by
    unfold seekL at h
    split at h
    · rename_i q; cases h; exact q
    · exact seekL_in h
theorem kOf_last {name : ByteArray} {o : Option ByteArray} {i : Nat} (h : kOf name o = 28 + (i : Int)) : lastN i = name := by
  unfold kOf at h
  split at h
  · have := byT_in (o := o) (f := 1) (l := 22) (z := 2) (by decide)
    omega
  · split at h
    · omega
    · split at h
      · omega
      · split at h
        · have := byT_in (o := o) (f := 25) (l := 27) (z := 25) (by decide)
          omega
        · split at h
          · omega
          · rename_i j e
            obtain rfl : j = i := by omega
            exact seekL_in e
end Go.Proofs.YtnojgejcmaajmaaGreatDoor

namespace Go.Proofs.YtnojgejcmaajmaaGreatDoor
open Go.RowKit
theorem kOf_frm {name : ByteArray} {o : Option ByteArray} : kOf name o = 30 ↔ name = oForm :=
  ⟨fun h => by have := kOf_last (i := 2) (o := o) (name := name) (by rw [h]; rfl); rw [← this]; rfl, fun h => by subst h; rfl⟩
end Go.Proofs.YtnojgejcmaajmaaGreatDoor

namespace Go.Proofs.YtnojgejcmaajmaaGreatDoor
open Go.RowKit
set_option maxRecDepth 100000
set_option maxHeartbeats 4000000 in
set_option maxRecDepth 100000 in
theorem between_any (k a b : Int) (w : World) :
    Calls Tryz.prog 141 #[.int .i64 k, .int .i64 a, .int .i64 b] w fun e w' => e = .returned (.bool (btwB k a b)) ∧ w' = w := by
  by_cases h1 : a ≤ k
  · by_cases h2 : k ≤ b
    · have E := hide (show btwB k a b = true from decide_eq_true ⟨h1, h2⟩)
      go_enter Tryz.func141, Tryz.ntmps141
      go_wp2_with fail
      go_ret
      exact ⟨ret_bool E.out.symm, rfl⟩
    · have E := hide (show btwB k a b = false from decide_eq_false (fun q => h2 q.2))
      have d2 : decide (k ≤ b) = false := decide_eq_false h2
      go_enter Tryz.func141, Tryz.ntmps141
      go_wp2_with fail
      go_ret
      exact ⟨ret_bool E.out.symm, rfl⟩
  · have E := hide (show btwB k a b = false from decide_eq_false (fun q => h1 q.1))
    have d1 : decide (a ≤ k) = false := decide_eq_false h1
    go_enter Tryz.func141, Tryz.ntmps141
    go_wp2_with fail
    go_ret
    exact ⟨ret_bool E.out.symm, rfl⟩
set_option maxHeartbeats 4000000 in
set_option maxRecDepth 100000 in
theorem fires_any (k : Int) (w : World) :
    Calls Tryz.prog 81 #[.int .i64 k] w fun e w' => e = .returned (.bool (fireB k)) ∧ w' = w := by
  rcases (show (k ≤ 18) ∨ (k = 19) ∨ (k = 20) ∨ (21 ≤ k ∧ k ≤ 24) ∨ (k = 25) ∨ (26 ≤ k) by omega) with q | q | q | q | q | q
  all_goals
    first | (have e1 : (k == 19) = false := by rw [beq_eq_false_iff_ne]; omega) | (have e1 : (k == 19) = true := by rw [beq_iff_eq]; omega)
    first | (have n1 : ¬ k = 19 := by omega) | (have n1 : (k != 19) = false := by unfold bne; rw [e1]; rfl)
    first | (have e2 : (k == 20) = false := by rw [beq_eq_false_iff_ne]; omega) | (have e2 : (k == 20) = true := by rw [beq_iff_eq]; omega)
    first | (have n2 : ¬ k = 20 := by omega) | (have n2 : (k != 20) = false := by unfold bne; rw [e2]; rfl)
    first | (have e3 : (k == 25) = false := by rw [beq_eq_false_iff_ne]; omega) | (have e3 : (k == 25) = true := by rw [beq_iff_eq]; omega)
    first | (have n3 : ¬ k = 25 := by omega) | (have n3 : (k != 25) = false := by unfold bne; rw [e3]; rfl)
    first | (have E := hide (show fireB k = false from decide_eq_false (by omega))) | (have E := hide (show fireB k = true from decide_eq_true (by omega)))
    clear q
    go_enter Tryz.func81, Tryz.ntmps81
    go_wp2_with fail
    go_ret
    exact ⟨ret_bool E.out.symm, rfl⟩
end Go.Proofs.YtnojgejcmaajmaaGreatDoor

namespace Go.Proofs.YtnojgejcmaajmaaGreatDoor
open Go.RowKit
set_option maxRecDepth 100000
/-- The program's two tables. -/
structure KTabs (w : World) : Prop where
  types : ∀ k, k < 30 → w.cell? ⟨1, k, none⟩ = some (.string (typeN k))
  last : ∀ k, k < 8 → w.cell? ⟨0, k, none⟩ = some (.string (lastN k))
theorem KTabs.below {w w' : World} (h : KTabs w) (hb : Below w.heap.size w w') : KTabs w' :=
  ⟨fun k hk => (hb.cell (World.block_lt_of_cell? _ _ (h.types k hk))).trans (h.types k hk), fun k hk => (hb.cell (World.block_lt_of_cell? _ _ (h.last k hk))).trans (h.last k hk)⟩
theorem index_types (k : Nat) (hk : k < 30) (w : World) :
    (Instr.index 140 (.agg #[.string (typeN 0), .string (typeN 1), .string (typeN 2), .string (typeN 3), .string (typeN 4), .string (typeN 5), .string (typeN 6), .string (typeN 7), .string (typeN 8), .string (typeN 9), .string (typeN 10), .string (typeN 11), .string (typeN 12), .string (typeN 13), .string (typeN 14), .string (typeN 15), .string (typeN 16), .string (typeN 17), .string (typeN 18), .string (typeN 19), .string (typeN 20), .string (typeN 21), .string (typeN 22), .string (typeN 23), .string (typeN 24), .string (typeN 25), .string (typeN 26), .string (typeN 27), .string (typeN 28), .string (typeN 29)]) (.int .i64 k)).run Tryz.prog w = .ok (.string (typeN k)) w := by
  match k, hk with
  | 0, _ => rfl
  | 1, _ => rfl
  | 2, _ => rfl
  | 3, _ => rfl
  | 4, _ => rfl
  | 5, _ => rfl
  | 6, _ => rfl
  | 7, _ => rfl
  | 8, _ => rfl
  | 9, _ => rfl
  | 10, _ => rfl
  | 11, _ => rfl
  | 12, _ => rfl
  | 13, _ => rfl
  | 14, _ => rfl
  | 15, _ => rfl
  | 16, _ => rfl
  | 17, _ => rfl
  | 18, _ => rfl
  | 19, _ => rfl
  | 20, _ => rfl
  | 21, _ => rfl
  | 22, _ => rfl
  | 23, _ => rfl
  | 24, _ => rfl
  | 25, _ => rfl
  | 26, _ => rfl
  | 27, _ => rfl
  | 28, _ => rfl
  | 29, _ => rfl
  | k + 30, h => exact absurd h (by omega)
theorem index_last (k : Nat) (hk : k < 8) (w : World) :
    (Instr.index 103 (.agg #[.string (lastN 0), .string (lastN 1), .string (lastN 2), .string (lastN 3), .string (lastN 4), .string (lastN 5), .string (lastN 6), .string (lastN 7)]) (.int .i64 k)).run Tryz.prog w = .ok (.string (lastN k)) w := by
  match k, hk with
  | 0, _ => rfl
  | 1, _ => rfl
  | 2, _ => rfl
  | 3, _ => rfl
  | 4, _ => rfl
  | 5, _ => rfl
  | 6, _ => rfl
  | 7, _ => rfl
  | k + 8, h => exact absurd h (by omega)
/-- A whole table, as it lies there. -/
theorem range_texts (w : World) (g n : Nat) (f : Nat → ByteArray) (h : ∀ k, k < n → w.cell? ⟨g, k, none⟩ = some (.string (f k))) : w.rangeAt g 0 ((List.range n).map fun k => Value.string (f k)) := by
  intro j v hv
  rw [Nat.zero_add]
  rw [List.getElem?_map] at hv
  by_cases hj : j < n
  · rw [List.getElem?_range hj] at hv
    cases hv
    exact h j hj
  · rw [List.getElem?_eq_none (by rw [List.length_range]; omega)] at hv
    cases hv
theorem load_types (w : World) (hT : KTabs w) : ∃ CS : List Value, w.rangeAt 1 0 CS ∧ (Tryz.prog.info? 140).map (·.size) = some CS.length ∧ ∀ (k : Nat) (_ : k < 30) W, (Instr.index 140 (.agg CS.toArray) (.int .i64 k)).run Tryz.prog W = .ok (.string (typeN k)) W :=
  ⟨_, range_texts w _ 30 typeN hT.types, by rw [List.length_map, List.length_range]; kernel_rfl, fun k hk W => index_types k hk W⟩
theorem load_last (w : World) (hT : KTabs w) : ∃ CS : List Value, w.rangeAt 0 0 CS ∧ (Tryz.prog.info? 103).map (·.size) = some CS.length ∧ ∀ (k : Nat) (_ : k < 8) W, (Instr.index 103 (.agg CS.toArray) (.int .i64 k)).run Tryz.prog W = .ok (.string (lastN k)) W :=
  ⟨_, range_texts w _ 8 lastN hT.last, by rw [List.length_map, List.length_range]; kernel_rfl, fun k hk W => index_last k hk W⟩
end Go.Proofs.YtnojgejcmaajmaaGreatDoor

namespace Go.Proofs.YtnojgejcmaajmaaGreatDoor
open Go.RowKit
set_option maxRecDepth 100000
theorem byteTypes : ByteTypes Tryz.prog 92 5 9 := ⟨Tryz.underlying92, Tryz.underlying5, Tryz.underlying9, by kernel_rfl⟩
/-- Behind k rounds: the first k bytes of the new row are small, the others as they were. -/
structure LowAt (w : World) (s : ByteArray) (k : Nat) (wr : World) : Prop where
  cells : ∀ j, j < s.size → wr.cell? ⟨w.heap.size, j, none⟩ = some (.int .u8 ((if j < k then lowB (byteAt s j) else byteAt s j).toNat : Int))
  free : ∀ j, j < s.size → wr.frozen? ⟨w.heap.size, j, none⟩ = false
  below : Below w.heap.size w wr
theorem lowAt_start (w : World) (s : ByteArray) : LowAt w s 0 (Lib.bytesWorld w 5 s) :=
  ⟨fun j hj => by rw [Lib.bytesWorld_cell _ _ _ _ hj]; rfl, fun j hj => bytes_free w 5 s j hj, bytes_below w 5 s⟩
theorem lowAt_here {w : World} {s : ByteArray} {k : Nat} {wr : World} (h : LowAt w s k wr) (hk : k < s.size) : wr.cell? ⟨w.heap.size, k, none⟩ = some (.int .u8 ((byteAt s k).toNat : Int)) := by
  rw [h.cells k hk, if_neg (by omega)]
theorem lowAt_yes {w : World} {s : ByteArray} {k : Nat} {wr : World} (h : LowAt w s k wr) (hk : k < s.size) (h1 : 65 ≤ (byteAt s k).toNat) (h2 : (byteAt s k).toNat ≤ 90) :
    LowAt w s (k + 1) (wr.setCell ⟨w.heap.size, k, none⟩ (.int .u8 (((byteAt s k).toNat : Int) - 65 + 97))) := by
  refine ⟨fun j hj => ?_, fun j hj => ?_, h.below.setCell (Nat.le_refl _) _⟩
  · by_cases e : j = k
    · subst e
      rw [World.cell?_setCell_same _ _ _ (lowAt_here h hk), if_pos (by omega), lowB_yes _ h1 h2]
      congr 2; omega
    · rw [World.cell?_setCell_other _ _ _ _ (fun x => e (by simpa using x.symm)), h.cells j hj]
      by_cases e2 : j < k
      · rw [if_pos e2, if_pos (by omega)]
      · rw [if_neg e2, if_neg (by omega)]
  · rw [World.frozen?_setCell]; exact h.free j hj
theorem lowAt_no {w : World} {s : ByteArray} {k : Nat} {wr : World} (h : LowAt w s k wr) (h1 : ¬ (65 ≤ (byteAt s k).toNat ∧ (byteAt s k).toNat ≤ 90)) : LowAt w s (k + 1) wr := by
  refine ⟨fun j hj => ?_, h.free, h.below⟩
  rw [h.cells j hj]
  by_cases e2 : j < k
  · rw [if_pos e2, if_pos (by omega)]
  · by_cases e : j = k
    · subst e; rw [if_neg (by omega), if_pos (by omega), lowB_no _ h1]
    · rw [if_neg e2, if_neg (by omega)]
theorem lowAt_end {w : World} {s : ByteArray} {wr : World} (h : LowAt w s s.size wr) (cap : Nat) :
    (convert 92 9 (.slice (some ⟨w.heap.size, 0, none⟩) s.size cap)).run Tryz.prog wr = .ok (.string (lowS s)) wr := by
  have hl : ((lowL s.data.toList).map fun c => (c.toNat : Int)).length = s.size := by simp [lowL]
  have := run_convert_bytes_arg (P := Tryz.prog) wr 92 5 byteTypes.sl byteTypes.el w.heap.size 0 s.size cap _ hl (fun i hi => by
    rw [Nat.zero_add, h.cells i hi, if_pos hi]
    simp [lowL, byteAt, List.getD, hi]) 9 byteTypes.str
  rw [this, strOfNums_bytes]; rfl
set_option maxHeartbeats 400000 in
theorem lower_any (s : ByteArray) (w : World) (hs : s.size ≤ maxLen) :
    Calls Tryz.prog 77 #[.string s] w fun e w' => e = .returned (.string (lowS s)) ∧ Below w.heap.size w w' := by
  unfold maxLen at hs
  have hconv := fun w => Lib.run_convert_string_bytes (P := Tryz.prog) w 9 92 5 s byteTypes.str byteTypes.sl byteTypes.el
  go_enter Tryz.func77, Tryz.ntmps77
  go_wp2
  go_loopw [10] (fun i wr => ∃ k : Nat, k ≤ s.size ∧ i = .int .i64 k ∧ LowAt w s k wr) (fun i _ => s.size - (intOf i).toNat)
  case atStart => exact ⟨0, Nat.zero_le _, rfl, lowAt_start w s⟩
  case round =>
    obtain ⟨k, hk, rfl, hl⟩ := hrel
    by_cases hlt : k < s.size
    · have hc := lowAt_here hl hlt
      have hf := hl.free k hlt
      have hb : ((byteAt s k).toNat : Int) ≤ 255 := by have := (byteAt s k).toNat_lt; omega
      have HY := hide (lowAt_yes hl hlt)
      have HN := hide (lowAt_no hl)
      go_wp2
      · go_roundw
        case rel => exact ⟨k + 1, by omega, by go_num, HY.out (by omega) (by omega)⟩
        case measure => simp [intOf]; omega
      · go_roundw
        case rel => exact ⟨k + 1, by omega, by go_num, HN.out (by omega)⟩
        case measure => simp [intOf]; omega
      · go_roundw
        case rel => exact ⟨k + 1, by omega, by go_num, HN.out (by omega)⟩
        case measure => simp [intOf]; omega
    · have e : k = s.size := by omega
      subst e
      have hend := lowAt_end hl (grownCap w s.size 0 5)
      go_wp2
      go_ret
      exact ⟨rfl, hl.below⟩
end Go.Proofs.YtnojgejcmaajmaaGreatDoor

namespace Go.Proofs.YtnojgejcmaajmaaGreatDoor
open Go.RowKit
/-- An entry at a place of a block. -/
structure EnAt (w : World) (b o : Nat) (e : En) : Prop where
  c0 : w.cell? ⟨b, o, none⟩ = some (.string e.name)
  c1 : w.cell? ⟨b, o + 1, none⟩ = some (.string e.val)
  c2 : w.cell? ⟨b, o + 2, none⟩ = some (.bool e.file)
  c3 : w.cell? ⟨b, o + 3, none⟩ = some (.string e.fname)
  c4 : w.cell? ⟨b, o + 4, none⟩ = some (.string e.typ)
theorem EnAt.below {w w' : World} {b o : Nat} {e : En} (h : EnAt w b o e) (hb : Below w.heap.size w w') : EnAt w' b o e := ⟨cell_below h.c0 hb, cell_below h.c1 hb, cell_below h.c2 hb, cell_below h.c3 hb, cell_below h.c4 hb⟩
/-- Entries behind a slice. -/
def FilesV (w : World) (v : Value) (fs : List En) : Prop := ∃ p c, v = .slice p fs.length c ∧ (fs = [] ∨ ∃ b o, p = some ⟨b, o, none⟩ ∧ ∀ i (h : i < fs.length), EnAt w b (o + i * 5) fs[i])
theorem FilesV.below {w w' : World} {v : Value} {fs : List En} (h : FilesV w v fs) (hb : Below w.heap.size w w') : FilesV w' v fs := by
  obtain ⟨p, c, e, h⟩ := h
  refine ⟨p, c, e, ?_⟩
  rcases h with h | ⟨b, o, e, h⟩
  · exact .inl h
  · exact .inr ⟨b, o, e, fun i hi => (h i hi).below hb⟩
/-- The cells of a control's state, but for its files. -/
def ctCells (c : Ct) (fv : Value) : List Value := [.string c.val, .bool c.dirty, .bool c.typed, .bool c.chk, .bool c.dchk, .bool c.mixed, .bool c.sel, .bool c.dsel, .string c.custom, fv]
def ctV (c : Ct) (fv : Value) : Value := .agg (ctCells c fv).toArray
/-- A control's state. -/
def CtlV (w : World) (v : Value) (c : Ct) : Prop := ∃ fv, v = ctV c fv ∧ FilesV w fv c.files
theorem CtlV.below {w w' : World} {v : Value} {c : Ct} (h : CtlV w v c) (hb : Below w.heap.size w w') : CtlV w' v c := by
  obtain ⟨fv, e, h⟩ := h
  exact ⟨fv, e, h.below hb⟩

end Go.Proofs.YtnojgejcmaajmaaGreatDoor
