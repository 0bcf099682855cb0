/- A block of the call's own. append of a row that lies anywhere to a row of the call's own. Documents of the call's own. append of a row that lies anywhere (of none, too) to a row of the call's own. Which form a control belongs to, a form's elements, a label's control, what is disabled, as functions of documents. The document's Lower, for every text that the form's reach lets in. -/
import Derived.Test.YtnojgejcmaajmaaDoorJsd12
import Derived.Deep.AppendLies
import Derived.Maps.AppendAt
import Derived.Laws.OwnMore
import Derived.OwnWalk

namespace Go.Proofs.YtnojgejcmaajmaaDoor
open Go.RowKit
structure Bk (w : World) (n : Nat) (cs : List Value) (t : TypeId) : Prop where
  lies : w.heap[n]? = some (.cells cs.toArray t (0, 0))
theorem Bk.new (w : World) (cs : List Value) (t : TypeId) : Bk (w.alloc (.cells cs.toArray t)) w.heap.size cs t := ⟨by
  show (w.heap.push (.cells cs.toArray t (0, 0)))[w.heap.size]? = _
  simp⟩
theorem Bk.lt {w : World} {n : Nat} {cs : List Value} {t : TypeId} (h : Bk w n cs t) : n < w.heap.size := (Array.getElem?_eq_some_iff.1 h.lies).1
theorem Bk.cell {w : World} {n : Nat} {cs : List Value} {t : TypeId} (h : Bk w n cs t) (k : Nat) {u : Value} (hu : cs[k]? = some u) : w.cell? ⟨n, k, none⟩ = some u := by
  simp only [World.cell?, h.lies]
  simpa using hu
theorem Bk.free {w : World} {n : Nat} {cs : List Value} {t : TypeId} (h : Bk w n cs t) (k : Nat) : w.frozen? ⟨n, k, none⟩ = false := by
  simp only [World.frozen?, h.lies]; simp
theorem Bk.below {w w' : World} {n : Nat} {cs : List Value} {t : TypeId} (h : Bk w n cs t) (hb : Below w.heap.size w w') : Bk w' n cs t := ⟨(hb.block n h.lt).trans h.lies⟩
theorem Bk.set {w : World} {n : Nat} {cs : List Value} {t : TypeId} (h : Bk w n cs t) (k : Nat) (u : Value) : Bk (w.setCell ⟨n, k, none⟩ u) n (cs.set k u) t := by
  refine ⟨?_⟩
  simp only [World.setCell, Array.getElem?_modify, if_true, h.lies]
  simp
end Go.Proofs.YtnojgejcmaajmaaDoor

namespace Go.Proofs.YtnojgejcmaajmaaDoor
open Go.RowKit
/-- Cells behind a slice, anywhere. -/
def Raw (w : World) (size : Nat) (v : Value) (n : Nat) (xs : List Value) : Prop := xs.length = n * size ∧ ∃ p c, v = .slice p n c ∧ (n = 0 ∨ ∃ b o, p = some ⟨b, o, none⟩ ∧ ∀ j u, xs[j]? = some u → w.cell? ⟨b, o + j, none⟩ = some u)
theorem run_append_raw0 {P : Program} (w : World) (t ty : TypeId) (base : Nat) (e : TypeId) (i : TypeInfo) (z : Value) (size bytes : Nat) (ht : P.underlying t = some (.slice e)) (hi : P.info? e = some i) (hz : i.zero = some z)
    (hsize : i.size = size) (hby : i.bytes = bytes) (hzs : z.cells.size = size) (hsz : 0 < size)
    (v : Value) (n : Nat) (xs : List Value) (hown : w.ownsRow base e size v n xs) (sv : Value) (m : Nat) (news : List Value) (hraw : Raw w size sv m news) (h1 : ∀ u ∈ news, u.oneCell' = true)
    (h63 : n + m ≤ maxLen) (hbytes : (n + m) * bytes ≤ 140737488355328) (hbase : base ≤ w.heap.size) :
    ∃ v' w', (Builtin.append_ #[t, t] ty #[v, sv]).run P w = .ok v' w' ∧ w'.ownsRow base e size v' (n + m) (xs ++ news) ∧ w.grownBy w' v.ownBlock ∧ (v'.ownBlock = v.ownBlock ∨ v'.ownBlock = some w.heap.size) := by
  obtain ⟨hl, p, c, rfl, hraw⟩ := hraw
  by_cases hp : p = none
  · subst hp
    have hm : m = 0 := by
      rcases hraw with q | ⟨b, o, q, _⟩
      · exact q
      · cases q
    subst hm
    have hn : news = [] := List.eq_nil_of_length_eq_zero (by rw [hl]; omega)
    subst hn
    refine ⟨v, w, ?_, by rw [Nat.add_zero, List.append_nil]; exact hown, ⟨rfl, rfl, rfl, Nat.le_refl _, fun _ _ _ => rfl⟩, .inl rfl⟩
    rcases hown.2 with ⟨rfl, rfl⟩ | ⟨g, cap, cur, rfl, hb, hg, hn1, hn2, hn3, hn4⟩
    · simp [Builtin.append_, run_underlying ht, sizeOf, typeInfo, hi, Builtin.lenOf, run_firstCells_none]
    · simp [Builtin.append_, run_underlying ht, sizeOf, typeInfo, hi, Builtin.lenOf, run_firstCells_none, hn1, storeCells]
  · obtain ⟨a, rfl⟩ : ∃ a, p = some a := Option.ne_none_iff_exists'.1 hp
    have hnews : ∀ j u, news[j]? = some u → w.cell? (a.add j) = some u := by
      intro j u hu
      rcases hraw with q | ⟨b, o, q, h⟩
      · subst q
        have hn : news = [] := List.eq_nil_of_length_eq_zero (by rw [hl]; omega)
        rw [hn] at hu; cases hu
      · cases q
        have hadd : (⟨b, o, none⟩ : Addr).add j = ⟨b, o + j, none⟩ := by unfold Addr.add; split <;> simp_all
        rw [hadd]; exact h j u hu
    obtain ⟨v', w', h2, h3, h4, _, h5⟩ := run_append_own_at (P := P) w base t ty e i z size bytes ht hi hz hsize hby hzs hsz v n xs hown a m c news hl hnews h1 h63 hbytes hbase
    exact ⟨v', w', h2, h3, h4, h5⟩
theorem run_append_raw {P : Program} (w : World) (t ty : TypeId) (base : Nat) (e : TypeId) (i : TypeInfo) (z : Value) (size bytes : Nat) (ht : P.underlying t = some (.slice e)) (hi : P.info? e = some i) (hz : i.zero = some z)
    (hsize : i.size = size) (hby : i.bytes = bytes) (hzs : z.cells.size = size) (hsz : 0 < size)
    (v : Value) (n : Nat) (xs : List Value) (hown : w.ownsRow base e size v n xs) (sv : Value) (m : Nat) (news : List Value) (hraw : Raw w size sv m news) (h1 : ∀ u ∈ news, u.oneCell' = true)
    (h63 : n + m ≤ maxLen) (hbytes : (n + m) * bytes ≤ 140737488355328) (hbase : base ≤ w.heap.size) :
    ∃ q cp w', (Builtin.append_ #[t, t] ty #[v, sv]).run P w = .ok (.slice q (n + m) cp) w' ∧ w'.ownsRow base e size (.slice q (n + m) cp) (n + m) (xs ++ news) ∧ w.grownBy w' v.ownBlock ∧ ((Value.slice q (n + m) cp).ownBlock = v.ownBlock ∨ (Value.slice q (n + m) cp).ownBlock = some w.heap.size) := by
  have F : ∃ v' w', (Builtin.append_ #[t, t] ty #[v, sv]).run P w = .ok v' w' ∧ w'.ownsRow base e size v' (n + m) (xs ++ news) ∧ w.grownBy w' v.ownBlock ∧ (v'.ownBlock = v.ownBlock ∨ v'.ownBlock = some w.heap.size) := run_append_raw0 w t ty base e i z size bytes ht hi hz hsize hby hzs hsz v n xs hown sv m news hraw h1 h63 hbytes hbase
  obtain ⟨v', w', f1, f2, f3, f4⟩ := F
  rcases f2.2 with ⟨rfl, q⟩ | ⟨g, cap, cur, rfl, _⟩
  · exact ⟨none, 0, w', by rw [f1, q], by rw [q] at f2 ⊢; exact f2, f3, by rw [q]; exact f4⟩
  · exact ⟨_, cap, w', f1, f2, f3, f4⟩
theorem wp_append_raw {P : Program} {o : Oper} {a : Act} {w : World} {K : Act → World → Prop} {Q : Exit → Act → World → Prop} (s x : Operand) (t : TypeId)
    (ho : o.op = .call { callee := .builtin .append, args := #[s, x], argTypes := #[t, t] })
    (base : Nat) (e : TypeId) (i : TypeInfo) (z : Value) (size bytes : Nat) (ht : P.underlying t = some (.slice e)) (hi : P.info? e = some i) (hz : i.zero = some z)
    (hsize : i.size = size) (hby : i.bytes = bytes) (hzs : z.cells.size = size) (hsz : 0 < size)
    (v : Value) (n : Nat) (xs : List Value) (hs : a.eval s = v) (hown : w.ownsRow base e size v n xs)
    (sv : Value) (m : Nat) (news : List Value) (hx : a.eval x = sv) (hraw : Raw w size sv m news) (h1 : ∀ u ∈ news, u.oneCell' = true)
    (h63 : n + m ≤ maxLen) (hbytes : (n + m) * bytes ≤ 140737488355328) (hbase : base ≤ w.heap.size)
    (h : ∀ q cp w', w'.ownsRow base e size (.slice q (n + m) cp) (n + m) (xs ++ news) → w.grownBy w' v.ownBlock → ((Value.slice q (n + m) cp).ownBlock = v.ownBlock ∨ (Value.slice q (n + m) cp).ownBlock = some w.heap.size) → K (a.put o.dst (.slice q (n + m) cp)) w') : o.wp P a w K Q := by
  obtain ⟨q, cp, w', hr, h2, h3, h4⟩ := run_append_raw (P := P) w t o.type base e i z size bytes ht hi hz hsize hby hzs hsz v n xs hown sv m news hraw h1 h63 hbytes hbase
  unfold Oper.wp execOp
  simp only [ho, resolve, invoke, builtin, Sem.run_bind, Sem.run_pure, Result.andThen_ok, List.map_toArray, List.map_cons, List.map_nil, hs, hx, hr]
  exact h q cp w' h2 h3 h4
theorem wpList_append_raw {P : Program} {ops : Array Oper} {rest : List Oper} {o : Oper} {a : Act} {w : World} {Q : Exit → Act → World → Prop} (hgd : o.guard = none) (s x : Operand) (t : TypeId)
    (ho : o.op = .call { callee := .builtin .append, args := #[s, x], argTypes := #[t, t] })
    (base : Nat) (e : TypeId) (i : TypeInfo) (z : Value) (size bytes : Nat) (ht : P.underlying t = some (.slice e)) (hi : P.info? e = some i) (hz : i.zero = some z)
    (hsize : i.size = size) (hby : i.bytes = bytes) (hzs : z.cells.size = size) (hsz : 0 < size)
    (v : Value) (n : Nat) (xs : List Value) (hs : a.eval s = v) (hown : w.ownsRow base e size v n xs)
    (sv : Value) (m : Nat) (news : List Value) (hx : a.eval x = sv) (hraw : Raw w size sv m news) (h1 : ∀ u ∈ news, u.oneCell' = true)
    (h63 : n + m ≤ maxLen) (hbytes : (n + m) * bytes ≤ 140737488355328) (hbase : base ≤ w.heap.size)
    (h : ∀ q cp w', w'.ownsRow base e size (.slice q (n + m) cp) (n + m) (xs ++ news) → w.grownBy w' v.ownBlock → ((Value.slice q (n + m) cp).ownBlock = v.ownBlock ∨ (Value.slice q (n + m) cp).ownBlock = some w.heap.size) → wpList P ops Q rest (a.put o.dst (.slice q (n + m) cp)) w') : wpList P ops Q (o :: rest) a w :=
  wpList_plain hgd fun _ hK => wp_append_raw s x t ho base e i z size bytes ht hi hz hsize hby hzs hsz v n xs hs hown sv m news hx hraw h1 h63 hbytes hbase fun q cp w' h2 h3 h4 => hK _ _ (h q cp w' h2 h3 h4)
theorem owns_cell {w : World} {base : Nat} {e : TypeId} {size : Nat} {v : Value} {n : Nat} {xs : List Value} (h : w.ownsRow base e size v n xs) {g : Nat} (hg : v.ownBlock = some g) {j : Nat} {u : Value} (hu : xs[j]? = some u) : w.cell? ⟨g, j, none⟩ = some u := by
  have := h.cells hg j u hu
  rwa [show (⟨g, 0, none⟩ : Addr).add j = ⟨g, j, none⟩ by unfold Addr.add; split <;> simp_all] at this
theorem owns_at {w : World} {base : Nat} {e : TypeId} {size : Nat} {v : Value} {n : Nat} {xs : List Value} (h : w.ownsRow base e size v n xs) (hn : 0 < n) : ∃ g cap, v = .slice (some ⟨g, 0, none⟩) n cap ∧ v.ownBlock = some g ∧ base ≤ g ∧ g < w.heap.size ∧ n ≤ cap ∧ cap ≤ maxLen := by
  rcases h.2 with ⟨_, h0⟩ | ⟨g, cap, cur, rfl, hb, hg, h1, h2, _⟩
  · omega
  · exact ⟨g, cap, rfl, rfl, hb, (Array.getElem?_eq_some_iff.1 hg).1, h1, h2⟩
theorem Bk.raw {w : World} {n : Nat} {cs : List Value} {t : TypeId} (h : Bk w n cs t) (k size : Nat) (hl : cs.length = k * size) (c : Nat) : Raw w size (.slice (some ⟨n, 0, none⟩) k c) k cs :=
  ⟨hl, _, c, rfl, .inr ⟨n, 0, rfl, fun j u hu => by rw [Nat.zero_add]; exact h.cell j hu⟩⟩
end Go.Proofs.YtnojgejcmaajmaaDoor

namespace Go.Proofs.YtnojgejcmaajmaaDoor
open Go.RowKit
/-- What a call changed: blocks of a list, and new ones. -/
structure Chg (S : List Nat) (w w' : World) : Prop where
  os : w'.os = w.os
  tape : w'.tape = w.tape
  output : w'.output = w.output
  size : w.heap.size ≤ w'.heap.size
  block : ∀ k, k < w.heap.size → k ∉ S → w'.heap[k]? = w.heap[k]?
theorem Chg.refl (S : List Nat) (w : World) : Chg S w w := ⟨rfl, rfl, rfl, Nat.le_refl _, fun _ _ _ => rfl⟩
theorem Chg.trans {S : List Nat} {a b c : World} (h : Chg S a b) (k : Chg S b c) : Chg S a c :=
  ⟨k.os.trans h.os, k.tape.trans h.tape, k.output.trans h.output, Nat.le_trans h.size k.size, fun i hi hn => (k.block i (Nat.lt_of_lt_of_le hi h.size) hn).trans (h.block i hi hn)⟩
theorem Chg.mono {S S' : List Nat} {a b : World} (h : Chg S a b) (hs : ∀ k ∈ S, k < a.heap.size → k ∈ S') : Chg S' a b :=
  ⟨h.os, h.tape, h.output, h.size, fun i hi hn => h.block i hi fun q => hn (hs i q hi)⟩
theorem Chg.of_grown {w w' : World} {row : Option Nat} (h : w.grownBy w' row) : Chg row.toList w w' :=
  ⟨h.os, h.tape, h.output, h.size, fun i hi hn => h.block i hi fun e => hn (by rw [← e]; simp)⟩
theorem Chg.of_below {w w' : World} (h : Below w.heap.size w w') : Chg [] w w' := ⟨h.os, h.tape, h.output, h.size, fun i hi _ => h.block i hi⟩
theorem Chg.set (w : World) (p : Addr) (u : Value) : Chg [p.block] w (w.setCell p u) :=
  ⟨rfl, rfl, rfl, by simp [World.setCell], fun i _ hn => Below.heap_setCell _ _ _ _ (fun e => hn (by rw [e]; simp))⟩
theorem Chg.setB (w : World) (n k : Nat) (u : Value) : Chg [n] w (w.setCell ⟨n, k, none⟩ u) := Chg.set w ⟨n, k, none⟩ u
theorem Chg.nil {S : List Nat} {w w' : World} (h : Chg [] w w') : Chg S w w' := h.mono (fun _ q => by cases q)
theorem Chg.alloc (w : World) (o : Obj) : Chg [] w (w.alloc o) := ⟨rfl, rfl, rfl, by simp, fun i hi _ => Below.heap_alloc w o i hi⟩
theorem Chg.drewN (w : World) (n : Nat) : Chg [] w (w.drewN n) := ⟨rfl, rfl, rfl, Nat.le_refl _, fun _ _ _ => rfl⟩
theorem bel_drewN {B : Nat} {a w : World} (h : Below B a w) (n : Nat) : Below B a (w.drewN n) := ⟨h.os, h.tape, h.output, h.size, h.block⟩
theorem Chg.below {S : List Nat} {w w' : World} {B : Nat} (h : Chg S w w') (hB : B ≤ w.heap.size) (hs : ∀ k ∈ S, B ≤ k) : Below B w w' :=
  ⟨h.os, h.tape, h.output, h.size, fun k hk => h.block k (by omega) fun q => by have := hs k q; omega⟩
theorem Chg.none {S : List Nat} {a b : World} (h : Chg S a b) (hs : ∀ k ∈ S, a.heap.size ≤ k) : Below a.heap.size a b := h.below (Nat.le_refl _) hs
theorem Chg.cell {S : List Nat} {w w' : World} (h : Chg S w w') {p : Addr} {x : Value} (hp : w.cell? p = some x) (hn : p.block ∉ S) : w'.cell? p = some x :=
  (World.cell?_of_block (h.block p.block (World.block_lt_of_cell? w p hp) hn)).trans hp
theorem owns_kept {S : List Nat} {w w' : World} {base : Nat} {e : TypeId} {size : Nat} {v : Value} {n : Nat} {xs : List Value} (h : w.ownsRow base e size v n xs) (hc : Chg S w w') (hn : ∀ k, v.ownBlock = some k → k ∉ S) : w'.ownsRow base e size v n xs := by
  refine ⟨h.1, ?_⟩
  rcases h.2 with hn' | ⟨g, cap, cur, rfl, hb, hgg, rest⟩
  · exact .inl hn'
  · refine .inr ⟨g, cap, cur, rfl, hb, ?_, rest⟩
    rw [hc.block g (Array.getElem?_eq_some_iff.1 hgg).1 (hn g rfl)]
    exact hgg
theorem owns_mono {w : World} {base base' : Nat} {e : TypeId} {size : Nat} {v : Value} {n : Nat} {xs : List Value} (h : w.ownsRow base e size v n xs) (hb : base' ≤ base) : w.ownsRow base' e size v n xs := by
  refine ⟨h.1, ?_⟩
  rcases h.2 with hn' | ⟨g, cap, cur, rfl, hb', rest⟩
  · exact .inl hn'
  · exact .inr ⟨g, cap, cur, rfl, by omega, rest⟩
theorem owns_cap {w : World} {base : Nat} {e : TypeId} {size : Nat} {v : Value} {n : Nat} {xs : List Value} (h : w.ownsRow base e size v n xs) : CapOK v := by
  intro p m c e
  rcases h.2 with ⟨rfl, h0⟩ | ⟨g, cap, cur, rfl, hb, hg, h1, h2, _⟩
  · cases e; omega
  · cases e; exact h1
def cellsI (ks : List Int) : List Value := ks.map (.int .i64)
def cellsA (ax : List (ByteArray × ByteArray)) : List Value := ax.flatMap fun a => [.string a.1, .string a.2]
theorem cellsI_len (ks : List Int) : (cellsI ks).length = ks.length := by simp [cellsI]
theorem cellsA_len (ax : List (ByteArray × ByteArray)) : (cellsA ax).length = ax.length * 2 := by
  unfold cellsA
  induction ax with
  | nil => rfl
  | cons a t ih => rw [List.flatMap_cons, List.length_append, ih]; simp; omega
theorem cellsI_app (x y : List Int) : cellsI (x ++ y) = cellsI x ++ cellsI y := by simp [cellsI]
theorem cellsI_at {ks : List Int} {i : Nat} (h : i < ks.length) : (cellsI ks)[i]? = some (.int .i64 ks[i]) := by simp [cellsI, h]
theorem cellsA_at : ∀ {ax : List (ByteArray × ByteArray)} {i : Nat} (h : i < ax.length), (cellsA ax)[i * 2]? = some (.string ax[i].1) ∧ (cellsA ax)[i * 2 + 1]? = some (.string ax[i].2)
  | a :: t, 0, _ => ⟨rfl, rfl⟩
  | a :: t, i + 1, h => by
    have := cellsA_at (ax := t) (i := i) (by simpa using h)
    rw [show (i + 1) * 2 = i * 2 + 1 + 1 by omega]
    exact this
theorem cellsI_one (ks : List Int) : ∀ u ∈ cellsI ks, u.oneCell' = true := by
  intro u hu
  obtain ⟨z, _, rfl⟩ := List.mem_map.1 hu
  rfl
theorem cellsA_one (ax : List (ByteArray × ByteArray)) : ∀ u ∈ cellsA ax, u.oneCell' = true := by
  intro u hu
  obtain ⟨a, _, h⟩ := List.mem_flatMap.1 hu
  simp at h
  rcases h with rfl | rfl <;> rfl
def KidsO (base : Nat) (w : World) (v : Value) (ks : List Int) : Prop := w.ownsRow base 3 1 v ks.length (cellsI ks)
def AttrsO (base : Nat) (w : World) (v : Value) (ax : List (ByteArray × ByteArray)) : Prop := w.ownsRow base 70 2 v ax.length (cellsA ax)
theorem KidsO.ints {base : Nat} {w : World} {v : Value} {ks : List Int} (h : KidsO base w v ks) : IntsV w v ks := by
  by_cases h0 : ks = []
  · rcases h.2 with ⟨rfl, _⟩ | ⟨g, cap, cur, rfl, _⟩
    · exact ⟨none, 0, by rw [h0]; rfl, .inl h0⟩
    · exact ⟨_, cap, rfl, .inl h0⟩
  · obtain ⟨g, cap, e, e2, _⟩ := owns_at h (List.length_pos_iff.2 h0)
    refine ⟨_, cap, e, .inr ⟨g, 0, rfl, fun i hi => ?_⟩⟩
    rw [Nat.zero_add]
    exact owns_cell h e2 (cellsI_at hi)
theorem AttrsO.attrs {base : Nat} {w : World} {v : Value} {ax : List (ByteArray × ByteArray)} (h : AttrsO base w v ax) : AttrsV w v ax := by
  by_cases h0 : ax = []
  · rcases h.2 with ⟨rfl, _⟩ | ⟨g, cap, cur, rfl, _⟩
    · exact ⟨none, 0, by rw [h0]; rfl, .inl h0⟩
    · exact ⟨_, cap, rfl, .inl h0⟩
  · obtain ⟨g, cap, e, e2, _⟩ := owns_at h (List.length_pos_iff.2 h0)
    refine ⟨_, cap, e, .inr ⟨g, 0, rfl, fun i hi => ?_⟩⟩
    rw [Nat.zero_add]
    exact ⟨owns_cell h e2 (cellsA_at hi).1, owns_cell h e2 (cellsA_at hi).2⟩
/-- A node and where its rows lie. -/
structure NdV where
  n : Nd
  a : Value
  k : Value
def cellsN (x : NdV) : List Value := [.string x.n.name, .string x.n.text, x.a, .int .i64 x.n.parent, x.k]
def cellsV (L : List NdV) : List Value := L.flatMap cellsN
theorem cellsV_app (x y : List NdV) : cellsV (x ++ y) = cellsV x ++ cellsV y := by simp [cellsV]
theorem cellsV_at : ∀ {L : List NdV} {i : Nat} (h : i < L.length) {j : Nat}, j < 5 → (cellsV L)[i * 5 + j]? = (cellsN L[i])[j]?
  | x :: L, 0, _, j, hj => by
    show (cellsN x ++ cellsV L)[0 * 5 + j]? = _
    rw [List.getElem?_append_left (by show _ < 5; omega), Nat.zero_mul, Nat.zero_add]; rfl
  | x :: L, i + 1, h, j, hj => by
    show (cellsN x ++ cellsV L)[(i + 1) * 5 + j]? = _
    rw [List.getElem?_append_right (by show 5 ≤ _; omega), show (i + 1) * 5 + j - (cellsN x).length = i * 5 + j by show (i + 1) * 5 + j - 5 = _; omega]
    exact cellsV_at (L := L) (by simpa using h) hj
def blks (x : NdV) : List Nat := x.a.ownBlock.toList ++ x.k.ownBlock.toList
def ndsOf (L : List NdV) : List Nd := L.map (·.n)
/-- A document of the call's own. -/
structure OwnD (base : Nat) (w : World) (v : Value) (L : List NdV) : Prop where
  row : w.ownsRow base 31 5 v L.length (cellsV L)
  at_ : ∀ x ∈ L, AttrsO base w x.a x.n.attrs
  ks : ∀ x ∈ L, KidsO base w x.k x.n.kids
  sep : (v.ownBlock.toList ++ L.flatMap blks).Nodup
theorem ndsOf_len (L : List NdV) : (ndsOf L).length = L.length := by simp [ndsOf]
theorem ndsOf_get {L : List NdV} {i : Nat} (h : i < (ndsOf L).length) : (ndsOf L)[i] = (L[i]'(by simpa [ndsOf] using h)).n := by simp [ndsOf]
theorem OwnD.nodeAt {base : Nat} {w : World} {v : Value} {L : List NdV} (h : OwnD base w v L) {g : Nat} (hg : v.ownBlock = some g) {i : Nat} (hi : i < L.length) : NodeAt w g (i * 5) L[i].n L[i].a L[i].k := by
  have c : ∀ j, j < 5 → ∀ u, (cellsN L[i])[j]? = some u → w.cell? ⟨g, i * 5 + j, none⟩ = some u := fun j hj u hu => owns_cell h.row hg ((cellsV_at hi hj).trans hu)
  exact ⟨c 0 (by omega) _ rfl, c 1 (by omega) _ rfl, c 2 (by omega) _ rfl, c 3 (by omega) _ rfl, c 4 (by omega) _ rfl, (h.at_ _ (List.getElem_mem _)).attrs, (h.ks _ (List.getElem_mem _)).ints, owns_cap (h.at_ _ (List.getElem_mem _))⟩
theorem OwnD.nodes {base : Nat} {w : World} {v : Value} {L : List NdV} (h : OwnD base w v L) : NodesV w v (ndsOf L) := by
  by_cases h0 : L = []
  · rcases h.row.2 with ⟨rfl, _⟩ | ⟨g, cap, cur, rfl, _⟩
    · exact ⟨none, 0, by rw [h0]; rfl, .inl (by rw [h0]; rfl)⟩
    · exact ⟨_, cap, by rw [ndsOf_len], .inl (by rw [h0]; rfl)⟩
  · obtain ⟨g, cap, e, e2, _⟩ := owns_at h.row (List.length_pos_iff.2 h0)
    refine ⟨_, cap, by rw [ndsOf_len]; exact e, .inr ⟨g, 0, rfl, fun i hi => ?_⟩⟩
    have hi' : i < L.length := by rwa [ndsOf_len] at hi
    rw [ndsOf_get hi, Nat.zero_add]
    exact ⟨_, _, h.nodeAt e2 hi'⟩
theorem opt_mem {o : Option Nat} {k : Nat} : k ∈ o.toList ↔ o = some k := by cases o <;> simp [eq_comm]
theorem OwnD.lt {base : Nat} {w : World} {v : Value} {L : List NdV} (h : OwnD base w v L) {k : Nat} (hk : k ∈ v.ownBlock.toList ++ L.flatMap blks) : base ≤ k ∧ k < w.heap.size := by
  rcases List.mem_append.1 hk with q | q
  · exact h.row.lt k (opt_mem.1 q)
  · obtain ⟨x, h1, h2⟩ := List.mem_flatMap.1 q
    rcases List.mem_append.1 h2 with r | r
    · exact World.ownsRow.lt (h.at_ x h1) k (opt_mem.1 r)
    · exact World.ownsRow.lt (h.ks x h1) k (opt_mem.1 r)
theorem OwnD.kept {base : Nat} {S : List Nat} {w w' : World} {v : Value} {L : List NdV} (h : OwnD base w v L) (hc : Chg S w w') (hs : ∀ k ∈ S, k ∉ v.ownBlock.toList ++ L.flatMap blks) : OwnD base w' v L := by
  refine ⟨owns_kept h.row hc fun k hk q => hs k q (List.mem_append_left _ (opt_mem.2 hk)), fun x hx => owns_kept (h.at_ x hx) hc fun k hk q => hs k q ?_, fun x hx => owns_kept (h.ks x hx) hc fun k hk q => hs k q ?_, h.sep⟩
  · exact List.mem_append_right _ (List.mem_flatMap.2 ⟨x, hx, List.mem_append_left _ (opt_mem.2 hk)⟩)
  · exact List.mem_append_right _ (List.mem_flatMap.2 ⟨x, hx, List.mem_append_right _ (opt_mem.2 hk)⟩)
theorem OwnD.below {base : Nat} {w w' : World} {v : Value} {L : List NdV} (h : OwnD base w v L) (hb : Below w.heap.size w w') : OwnD base w' v L := h.kept (Chg.of_below hb) (fun _ q => by cases q)
theorem OwnD.mono {base base' : Nat} {w : World} {v : Value} {L : List NdV} (h : OwnD base w v L) (hb : base' ≤ base) : OwnD base' w v L :=
  ⟨owns_mono h.row hb, fun x hx => owns_mono (h.at_ x hx) hb, fun x hx => owns_mono (h.ks x hx) hb, h.sep⟩
theorem set_mid {α : Type} {L : List α} {i : Nat} (h : i < L.length) (x' : α) : ∃ A B, L = A ++ L[i] :: B ∧ L.set i x' = A ++ x' :: B := by
  refine ⟨L.take i, L.drop (i + 1), ?_, ?_⟩
  · rw [← List.drop_eq_getElem_cons h, List.take_append_drop]
  · exact List.set_eq_take_append_cons_drop .. |>.trans (by rw [if_pos h])
theorem nodup_mid {V A X X' B : List Nat} {m : Nat} (h : (V ++ (A ++ (X ++ B))).Nodup) (hlt : ∀ k ∈ V ++ (A ++ (X ++ B)), k < m) (hX : X'.Nodup) (hs : ∀ k ∈ X', k ∈ X ∨ m ≤ k) : (V ++ (A ++ (X' ++ B))).Nodup := by
  rw [List.nodup_append] at h ⊢
  obtain ⟨h1, h2, h3⟩ := h
  rw [List.nodup_append] at h2
  obtain ⟨h4, h5, h6⟩ := h2
  rw [List.nodup_append] at h5
  obtain ⟨h7, h8, h9⟩ := h5
  have N : ∀ a, a ∈ V ∨ a ∈ A ∨ a ∈ B → a < m := fun a q => hlt a (by
    rcases q with q | q | q
    · exact List.mem_append_left _ q
    · exact List.mem_append_right _ (List.mem_append_left _ q)
    · exact List.mem_append_right _ (List.mem_append_right _ (List.mem_append_right _ q)))
  refine ⟨h1, ?_, fun a ha b hb => ?_⟩
  · rw [List.nodup_append]
    refine ⟨h4, ?_, fun a ha b hb => ?_⟩
    · rw [List.nodup_append]
      refine ⟨hX, h8, fun a ha b hb => ?_⟩
      rcases hs a ha with q | q
      · exact h9 a q b hb
      · have := N b (.inr (.inr hb)); omega
    · rcases List.mem_append.1 hb with q | q
      · rcases hs b q with r | r
        · exact h6 a ha b (List.mem_append_left _ r)
        · have := N a (.inr (.inl ha)); omega
      · exact h6 a ha b (List.mem_append_right _ q)
  · rcases List.mem_append.1 hb with q | q
    · exact h3 a ha b (List.mem_append_left _ q)
    · rcases List.mem_append.1 q with r | r
      · rcases hs b r with t | t
        · exact h3 a ha b (List.mem_append_right _ (List.mem_append_left _ t))
        · have := N a (.inl ha); omega
      · exact h3 a ha b (List.mem_append_right _ (List.mem_append_right _ r))
/-- One node is changed: its cells, its rows. -/
theorem OwnD.put {base : Nat} {S : List Nat} {w w' : World} {v : Value} {L : List NdV} (h : OwnD base w v L) {i : Nat} (hi : i < L.length) {x' : NdV} (hc : Chg S w w') (hS : ∀ k ∈ S, k < w.heap.size → v.ownBlock = some k ∨ k ∈ blks L[i])
    (hrow : w'.ownsRow base 31 5 v L.length (cellsV (L.set i x'))) (ha : AttrsO base w' x'.a x'.n.attrs) (hk : KidsO base w' x'.k x'.n.kids) (hb : ∀ k ∈ blks x', k ∈ blks L[i] ∨ w.heap.size ≤ k) (hd : (blks x').Nodup) : OwnD base w' v (L.set i x') := by
  obtain ⟨A, B, e1, e2⟩ := set_mid hi x'
  have hsep := h.sep
  have hlt : ∀ k ∈ v.ownBlock.toList ++ L.flatMap blks, k < w.heap.size := fun k hk => (h.lt hk).2
  generalize hx : L[i] = x at e1 hS hb
  have far : ∀ y, y ∈ A ∨ y ∈ B → ∀ k ∈ blks y, k ∉ S := by
    intro y hy k hk q
    rw [e1] at hsep hlt
    rw [List.flatMap_append, List.flatMap_cons] at hsep hlt
    have hk' : k ∈ A.flatMap blks ∨ k ∈ B.flatMap blks := by
      rcases hy with r | r
      · exact .inl (List.mem_flatMap.2 ⟨y, r, hk⟩)
      · exact .inr (List.mem_flatMap.2 ⟨y, r, hk⟩)
    have hm : k ∈ v.ownBlock.toList ++ (A.flatMap blks ++ (blks x ++ B.flatMap blks)) := by
      rcases hk' with r | r
      · exact List.mem_append_right _ (List.mem_append_left _ r)
      · exact List.mem_append_right _ (List.mem_append_right _ (List.mem_append_right _ r))
    rw [List.nodup_append] at hsep
    obtain ⟨_, s2, s3⟩ := hsep
    rw [List.nodup_append] at s2
    obtain ⟨_, s5, s6⟩ := s2
    rw [List.nodup_append] at s5
    rcases hS k q (hlt k hm) with r | r
    · refine s3 k (opt_mem.2 r) k ?_ rfl
      rcases hk' with t | t
      · exact List.mem_append_left _ t
      · exact List.mem_append_right _ (List.mem_append_right _ t)
    · rcases hk' with t | t
      · exact s6 k t k (List.mem_append_left _ r) rfl
      · exact s5.2.2 k r k t rfl
  refine ⟨by rw [List.length_set]; exact hrow, ?_, ?_, ?_⟩
  · intro y hy
    rw [e2] at hy
    have M : y = x' ∨ ((y ∈ A ∨ y ∈ B) ∧ y ∈ L) := by
      rw [e1]
      rcases List.mem_append.1 hy with q | q
      · exact .inr ⟨.inl q, List.mem_append_left _ q⟩
      · rcases List.mem_cons.1 q with r | r
        · exact .inl r
        · exact .inr ⟨.inr r, List.mem_append_right _ (List.mem_cons_of_mem _ r)⟩
    rcases M with q | ⟨q, r⟩
    · rw [q]; exact ha
    · exact owns_kept (h.at_ y r) hc fun k hk => far y q k (List.mem_append_left _ (opt_mem.2 hk))
  · intro y hy
    rw [e2] at hy
    have M : y = x' ∨ ((y ∈ A ∨ y ∈ B) ∧ y ∈ L) := by
      rw [e1]
      rcases List.mem_append.1 hy with q | q
      · exact .inr ⟨.inl q, List.mem_append_left _ q⟩
      · rcases List.mem_cons.1 q with r | r
        · exact .inl r
        · exact .inr ⟨.inr r, List.mem_append_right _ (List.mem_cons_of_mem _ r)⟩
    rcases M with q | ⟨q, r⟩
    · rw [q]; exact hk
    · exact owns_kept (h.ks y r) hc fun k hk => far y q k (List.mem_append_right _ (opt_mem.2 hk))
  · rw [e2, List.flatMap_append, List.flatMap_cons]
    rw [e1, List.flatMap_append, List.flatMap_cons] at hsep hlt
    exact nodup_mid hsep hlt hd hb
theorem Chg.drew (w : World) : Chg [] w w.drew := ⟨rfl, rfl, rfl, Nat.le_refl _, fun _ _ _ => rfl⟩
/-- A node is put behind all others. -/
theorem OwnD.push {base : Nat} {w w' : World} {v v' : Value} {L : List NdV} {x : NdV} (h : OwnD base w v L) (hc : Chg v.ownBlock.toList w w') (hrow : w'.ownsRow base 31 5 v' (L.length + 1) (cellsV L ++ cellsN x))
    (ha : AttrsO base w' x.a x.n.attrs) (hk : KidsO base w' x.k x.n.kids) (hd : (blks x).Nodup) (hb : ∀ k ∈ blks x, w.heap.size ≤ k ∧ v'.ownBlock ≠ some k) (hv : v'.ownBlock = v.ownBlock ∨ ∀ k, v'.ownBlock = some k → w.heap.size ≤ k) : OwnD base w' v' (L ++ [x]) := by
  have hsep := h.sep
  rw [List.nodup_append] at hsep
  obtain ⟨s1, s2, s3⟩ := hsep
  have far : ∀ y ∈ L, ∀ k ∈ blks y, k ∉ v.ownBlock.toList := fun y hy k hk q => s3 k q k (List.mem_flatMap.2 ⟨y, hy, hk⟩) rfl
  have lt : ∀ k ∈ L.flatMap blks, k < w.heap.size := fun k hk => (h.lt (List.mem_append_right _ hk)).2
  refine ⟨by rw [List.length_append, cellsV_app]; simpa [cellsV] using hrow, ?_, ?_, ?_⟩
  · intro y hy
    rcases List.mem_append.1 hy with q | q
    · exact owns_kept (h.at_ y q) hc fun k hk => far y q k (List.mem_append_left _ (opt_mem.2 hk))
    · rw [List.mem_singleton.1 q]; exact ha
  · intro y hy
    rcases List.mem_append.1 hy with q | q
    · exact owns_kept (h.ks y q) hc fun k hk => far y q k (List.mem_append_right _ (opt_mem.2 hk))
    · rw [List.mem_singleton.1 q]; exact hk
  · rw [List.flatMap_append, List.flatMap_singleton, List.nodup_append]
    refine ⟨by cases v'.ownBlock <;> simp, ?_, fun a ha' b hb' e => ?_⟩
    · rw [List.nodup_append]
      refine ⟨s2, hd, fun a ha' b hb' e => ?_⟩
      have := lt a ha'
      have := (hb b hb').1
      omega
    · subst e
      rcases List.mem_append.1 hb' with q | q
      · rcases hv with r | r
        · rw [r] at ha'; exact s3 a ha' a q rfl
        · have := r a (opt_mem.1 ha'); have := lt a q; omega
      · exact (hb a q).2 (opt_mem.1 ha')
end Go.Proofs.YtnojgejcmaajmaaDoor

namespace Go.Proofs.YtnojgejcmaajmaaDoor
open Go.RowKit
/-- Cells behind a slice, anywhere. -/
theorem IntsV.raw {w : World} {v : Value} {ks : List Int} (h : IntsV w v ks) : Raw w 1 v ks.length (cellsI ks) := by
  obtain ⟨p, c, rfl, h⟩ := h
  refine ⟨by rw [cellsI_len, Nat.mul_one], p, c, rfl, ?_⟩
  rcases h with rfl | ⟨b, o, rfl, h⟩
  · exact .inl rfl
  · refine .inr ⟨b, o, rfl, fun j u hu => ?_⟩
    have hj : j < ks.length := by have := (List.getElem?_eq_some_iff.1 hu).1; rwa [cellsI_len] at this
    rw [cellsI_at hj] at hu
    cases hu
    exact h j hj
theorem AttrsV.raw {w : World} {v : Value} {ax : List (ByteArray × ByteArray)} (h : AttrsV w v ax) : Raw w 2 v ax.length (cellsA ax) := by
  obtain ⟨p, c, rfl, h⟩ := h
  refine ⟨cellsA_len ax, p, c, rfl, ?_⟩
  rcases h with rfl | ⟨b, o, rfl, h⟩
  · exact .inl rfl
  · refine .inr ⟨b, o, rfl, fun j u hu => ?_⟩
    have hj : j < ax.length * 2 := by have := (List.getElem?_eq_some_iff.1 hu).1; rwa [cellsA_len] at this
    obtain ⟨k, hk⟩ : ∃ k, j = k * 2 ∨ j = k * 2 + 1 := ⟨j / 2, by omega⟩
    have hk1 : k < ax.length := by omega
    have hd := cellsA_at (ax := ax) (i := k) hk1
    have hc := h k hk1
    rcases hk with rfl | rfl
    · rw [hd.1] at hu
      cases hu
      exact hc.1
    · rw [hd.2] at hu
      cases hu
      rw [← Nat.add_assoc]; exact hc.2
theorem Raw.below {w w' : World} {size : Nat} {v : Value} {n : Nat} {xs : List Value} (h : Raw w size v n xs) (hb : Below w.heap.size w w') : Raw w' size v n xs := by
  obtain ⟨h1, p, c, e, h⟩ := h
  refine ⟨h1, p, c, e, ?_⟩
  rcases h with h | ⟨b, o, e2, h⟩
  · exact .inl h
  · exact .inr ⟨b, o, e2, fun j u hu => cell_below (h j u hu) hb⟩
theorem step_append_raw {P : Program} {ops : Array Oper} {o : Oper} {a : Act} {w : World} {K : Act → World → Prop} {Q : Exit → Act → World → Prop} {E : Prop} (hgd : o.guard = none) (s x : Operand) (t : TypeId)
    (ho : o.op = .call { callee := .builtin .append, args := #[s, x], argTypes := #[t, t] })
    (base : Nat) (e : TypeId) (i : TypeInfo) (z : Value) (size bytes : Nat) (ht : P.underlying t = some (.slice e)) (hi : P.info? e = some i) (hz : i.zero = some z)
    (hsize : i.size = size) (hby : i.bytes = bytes) (hzs : z.cells.size = size) (hsz : 0 < size)
    (v : Value) (n : Nat) (xs : List Value) (hs : a.eval s = v) (hown : w.ownsRow base e size v n xs)
    (sv : Value) (m : Nat) (news : List Value) (hx : a.eval x = sv) (hraw : Raw w size sv m news) (h1 : ∀ u ∈ news, u.oneCell' = true)
    (h63 : n + m ≤ maxLen) (hbytes : (n + m) * bytes ≤ 140737488355328) (hbase : base ≤ w.heap.size)
    (h : ∀ q cp w', w'.ownsRow base e size (.slice q (n + m) cp) (n + m) (xs ++ news) → w.grownBy w' v.ownBlock → ((Value.slice q (n + m) cp).ownBlock = v.ownBlock ∨ (Value.slice q (n + m) cp).ownBlock = some w.heap.size) → K (a.put o.dst (.slice q (n + m) cp)) w') :
    if Region.wanted o (yielded ops a.tmps) = true then Oper.wp P o a w K Q else E := by
  have hw : Region.wanted o (yielded ops a.tmps) = true := by simp [Region.wanted, hgd]
  rw [if_pos hw]
  exact wp_append_raw s x t ho base e i z size bytes ht hi hz hsize hby hzs hsz v n xs hs hown sv m news hx hraw h1 h63 hbytes hbase h
/-- A variable of the call's own: a block. -/
structure NB (w : World) (n : Nat) (cs : List Value) (t : TypeId) : Prop where
  lies : w.heap[n]? = some (.cells cs.toArray t (0, 0))
theorem NB.new (w : World) (cs : List Value) (t : TypeId) : NB (w.alloc (.cells cs.toArray t)) w.heap.size cs t := ⟨heap_alloc_new w _⟩
theorem NB.drew {w : World} {n : Nat} {cs : List Value} {t : TypeId} (h : NB w n cs t) : NB w.drew n cs t := ⟨h.lies⟩
theorem NB.lt {w : World} {n : Nat} {cs : List Value} {t : TypeId} (h : NB w n cs t) : n < w.heap.size := (Array.getElem?_eq_some_iff.1 h.lies).1
theorem NB.cell {w : World} {n : Nat} {cs : List Value} {t : TypeId} (h : NB w n cs t) (k : Nat) {u : Value} (hu : cs[k]? = some u) : w.cell? ⟨n, k, none⟩ = some u := by
  rw [cell_of_row w n k _ t (0, 0) h.lies]; simpa using hu
theorem NB.free {w : World} {n : Nat} {cs : List Value} {t : TypeId} (h : NB w n cs t) (k : Nat) : w.frozen? ⟨n, k, none⟩ = false := by
  simp only [World.frozen?, h.lies]; simp
theorem NB.chg {S : List Nat} {w w' : World} {n : Nat} {cs : List Value} {t : TypeId} (h : NB w n cs t) (hc : Chg S w w') (hn : n ∉ S) : NB w' n cs t := ⟨(hc.block n h.lt hn).trans h.lies⟩
theorem NB.set {w : World} {n : Nat} {cs : List Value} {t : TypeId} (h : NB w n cs t) (k : Nat) (u : Value) : NB (w.setCell ⟨n, k, none⟩ u) n (cs.set k u) t := by
  refine ⟨?_⟩
  simp only [World.setCell, Array.getElem?_modify, if_true, h.lies]
  simp
theorem NB.raw {w : World} {n : Nat} {cs : List Value} {t : TypeId} (h : NB w n cs t) (k size : Nat) (hl : cs.length = k * size) (c : Nat) : Raw w size (.slice (some ⟨n, 0, none⟩) k c) k cs :=
  ⟨hl, _, c, rfl, .inr ⟨n, 0, rfl, fun j u hu => by rw [Nat.zero_add]; exact h.cell j hu⟩⟩
theorem Raw.chg {S : List Nat} {w w' : World} {size : Nat} {v : Value} {n : Nat} {xs : List Value} (h : Raw w size v n xs) (hb : Chg S w w') (hn : ∀ b o c, v = .slice (some ⟨b, o, none⟩) n c → b ∉ S) : Raw w' size v n xs := by
  obtain ⟨h1, p, c, e, h⟩ := h
  refine ⟨h1, p, c, e, ?_⟩
  rcases h with h | ⟨b, o, e2, h⟩
  · exact .inl h
  · exact .inr ⟨b, o, e2, fun j u hu => hb.cell (h j u hu) (hn b o c (by rw [e, e2]))⟩
theorem infoN : (Tryd.prog.info? 31).map (fun i => (i.zero, i.size, i.bytes)) = some (some (.agg #[.string ⟨#[]⟩, .string ⟨#[]⟩, .slice none 0 0, .int .i64 0, .slice none 0 0]), 5, 88) := by kernel_rfl
theorem infoA : (Tryd.prog.info? 70).map (fun i => (i.zero, i.size, i.bytes)) = some (some (.agg #[.string ⟨#[]⟩, .string ⟨#[]⟩]), 2, 32) := by kernel_rfl
theorem infoI : (Tryd.prog.info? 3).map (fun i => (i.zero, i.size, i.bytes)) = some (some (.int .i64 0), 1, 8) := by kernel_rfl
end Go.Proofs.YtnojgejcmaajmaaDoor

namespace Go.Proofs.YtnojgejcmaajmaaDoor
open Go.RowKit
/-- A node's kind by its number. -/
def kI (l : List Nd) (i : Int) : Int := kN (nd l i.toNat)
end Go.Proofs.YtnojgejcmaajmaaDoor

namespace Go.Proofs.YtnojgejcmaajmaaDoor
open Go.RowKit
set_option maxRecDepth 100000
/-- 'out = append(out, c)', a row of bytes of the call's own, up to 2^47 - 1 of them. -/
theorem wpList_append_byteR {P : Program} {t e st : TypeId} (bt : ByteTypes P t e st) {ops : Array Oper} {rest : List Oper} {o : Oper} {a : Act} {Q : Exit → Act → World → Prop} (w : World) (y : Int)
    (hgd : o.guard = none) (s x : Operand) (ho : o.op = .call { callee := .builtin .append, args := #[s, x], argTypes := #[t, t] })
    (base : Nat) (v : Value) (l : List UInt8) (c : UInt8) (hy : y = (c.toNat : Int)) (hs : a.eval s = v) (hown : OwnsB e base w v l)
    (hx : a.eval x = .slice (some ⟨w.heap.size, 0, none⟩) 1 1) (hlen : l.length ≤ 140737488355327) (hbase : base ≤ w.heap.size)
    (h : ∀ v' w', OwnsB e base w' v' (l ++ [c]) → Below base w w' → wpList P ops Q rest (a.put o.dst v') w') : wpList P ops Q (o :: rest) a (w.alloc (.cells #[.int .u8 y] e)) := by
  subst hy
  obtain ⟨i, hi, hz0, hz1, hz2⟩ := info_parts bt.info
  have hown' : (w.alloc (.cells #[.int .u8 (c.toNat : Int)] e)).ownsRow base e 1 v l.length (l.map cellB) := World.ownsRow.alloc hown _
  refine wpList_append_own (P := P) _ hgd s x t ho base e i (.int .u8 0) 1 1 bt.sl hi hz0 hz1 hz2 rfl (by decide) v l.length (l.map cellB) hs hown' ⟨w.heap.size, 0, none⟩ 1 1 [cellB c] hx rfl (cell_one_new _ _ _) (fun u hu => by simp at hu; subst hu; rfl) (by unfold maxLen; omega) (by omega) (by simp; omega) ?_
  intro v' w' h1 h2 _
  refine h v' w' ?_ (((Below.refl base w).alloc hbase _).trans (grown_below hown' h2 (by simp; omega)))
  simpa [OwnsB] using h1
set_option maxHeartbeats 400000 in
theorem refLower_reach (s : ByteArray) (w : World) (hs : s.size ≤ 140737488351232) :
    Calls Tryd.prog 18 #[.string s] w fun e w' => e = .returned (.string (lowS s)) ∧ Below w.heap.size w w' := by
  go_enter Tryd.func18, Tryd.ntmps18
  go_wp2
  go_loopw [3, 4] (fun v i wr => ∃ k : Nat, k ≤ s.size ∧ i = .int .i64 k ∧ OwnsB 5 w.heap.size wr v (lowL (s.data.toList.take k)) ∧ Below w.heap.size w wr) (fun _ i _ => s.size - (intOf i).toNat)
  case atStart => exact ⟨0, Nat.zero_le _, rfl, OwnsB.nil _ _ _, Below.refl _ _⟩
  case round =>
    obtain ⟨k, hk, rfl, hown, hb⟩ := hrel
    by_cases hlt : k < s.size
    · have hll : (lowL (s.data.toList.take k)).length ≤ k := by rw [lowL_length]; exact List.length_take_le _ _
      have HT := hide (lowL_take s k hlt)
      have hsz := hb.size
      have hbe := byteAt_eq s k hlt
      rcases (show (65 ≤ (s[k].toNat : Int) ∧ (s[k].toNat : Int) ≤ 90) ∨ (65 ≤ (s[k].toNat : Int) ∧ 90 < (s[k].toNat : Int)) ∨ (s[k].toNat : Int) < 65 by omega) with ⟨h1, h2⟩ | ⟨h1, h2⟩ | h1
      · have HV : Hid ((s[k].toNat : Int) + 32 = ((lowB (byteAt s k)).toNat : Int)) := by
          rw [← hbe, lowB_yes _ (by omega) (by omega)]; exact (Int.natCast_add _ _).symm
        clear hbe
        go_wp2_with (at_builtin; refine wpList_append_byteR byteTypes wr _ rfl _ _ rfl w.heap.size _ _ (lowB (byteAt s k)) HV.out rfl hown rfl (by omega) (by omega) ?_; intro v' w' hown' hb')
        go_roundw
        case rel => exact ⟨k + 1, by omega, by go_num, by rw [HT.out]; exact hown', hb.trans hb'⟩
        case measure => simp [intOf]; omega
      · have HV : Hid ((s[k].toNat : Int) = ((lowB (byteAt s k)).toNat : Int)) := by
          rw [← hbe, lowB_no _ (by omega)]; exact rfl
        clear hbe
        go_wp2_with (at_builtin; refine wpList_append_byteR byteTypes wr _ rfl _ _ rfl w.heap.size _ _ (lowB (byteAt s k)) HV.out rfl hown rfl (by omega) (by omega) ?_; intro v' w' hown' hb')
        go_roundw
        case rel => exact ⟨k + 1, by omega, by go_num, by rw [HT.out]; exact hown', hb.trans hb'⟩
        case measure => simp [intOf]; omega
      · have HV : Hid ((s[k].toNat : Int) = ((lowB (byteAt s k)).toNat : Int)) := by
          rw [← hbe, lowB_no _ (by omega)]; exact rfl
        clear hbe
        go_wp2_with (at_builtin; refine wpList_append_byteR byteTypes wr _ rfl _ _ rfl w.heap.size _ _ (lowB (byteAt s k)) HV.out rfl hown rfl (by omega) (by omega) ?_; intro v' w' hown' hb')
        go_roundw
        case rel => exact ⟨k + 1, by omega, by go_num, by rw [HT.out]; exact hown', hb.trans hb'⟩
        case measure => simp [intOf]; omega
    · have e : k = s.size := by omega
      subst e
      have ht : s.data.toList.take s.size = s.data.toList := List.take_of_length_le (by simp)
      rw [ht] at hown
      have hend := hown.text byteTypes
      go_wp2
      go_ret
      exact ⟨rfl, hb⟩

end Go.Proofs.YtnojgejcmaajmaaDoor
