/- append of a row that lies anywhere (of none, too) to a row of the call's own: at the operation, at a region's list, at a step of a region that draws. Conditions: the lengths that append asks. -/
import Derived.Test.YtkloahpkjbohoaaDocW
import Derived.Maps.AppendAt
namespace Go.Proofs.Ytkloahpkjbohoaa
open Go.RowKit

/-- Cells behind a slice, anywhere. -/
def Raw (w : World) (size : Nat) (v : Value) (n : Nat) (xs : List Value) : Prop := xs.length = n * size ∧ ∃ p c, v = .slice p n c ∧ (n = 0 ∨ ∃ b o, p = some ⟨b, o, none⟩ ∧ ∀ j u, xs[j]? = some u → w.cell? ⟨b, o + j, none⟩ = some u)
theorem IntsV.raw {w : World} {v : Value} {ks : List Int} (h : IntsV w v ks) : Raw w 1 v ks.length (cellsI ks) := by
  obtain ⟨p, c, rfl, h⟩ := h
  refine ⟨by rw [cellsI_len, Nat.mul_one], p, c, rfl, ?_⟩
  rcases h with rfl | ⟨b, o, rfl, h⟩
  · exact .inl rfl
  · refine .inr ⟨b, o, rfl, fun j u hu => ?_⟩
    have hj : j < ks.length := by have := (List.getElem?_eq_some_iff.1 hu).1; rwa [cellsI_len] at this
    rw [cellsI_at hj] at hu
    cases hu
    exact h j hj
theorem AttrsV.raw {w : World} {v : Value} {ax : List (ByteArray × ByteArray)} (h : AttrsV w v ax) : Raw w 2 v ax.length (cellsA ax) := by
  obtain ⟨p, c, rfl, h⟩ := h
  refine ⟨cellsA_len ax, p, c, rfl, ?_⟩
  rcases h with rfl | ⟨b, o, rfl, h⟩
  · exact .inl rfl
  · refine .inr ⟨b, o, rfl, fun j u hu => ?_⟩
    have hj : j < ax.length * 2 := by have := (List.getElem?_eq_some_iff.1 hu).1; rwa [cellsA_len] at this
    obtain ⟨k, hk⟩ : ∃ k, j = k * 2 ∨ j = k * 2 + 1 := ⟨j / 2, by omega⟩
    have hk1 : k < ax.length := by omega
    have hd := cellsA_at (ax := ax) (i := k) hk1
    have hc := h k hk1
    rcases hk with rfl | rfl
    · rw [hd.1] at hu
      cases hu
      exact hc.1
    · rw [hd.2] at hu
      cases hu
      rw [← Nat.add_assoc]; exact hc.2
theorem Raw.below {w w' : World} {size : Nat} {v : Value} {n : Nat} {xs : List Value} (h : Raw w size v n xs) (hb : Below w.heap.size w w') : Raw w' size v n xs := by
  obtain ⟨h1, p, c, e, h⟩ := h
  refine ⟨h1, p, c, e, ?_⟩
  rcases h with h | ⟨b, o, e2, h⟩
  · exact .inl h
  · exact .inr ⟨b, o, e2, fun j u hu => cell_below (h j u hu) hb⟩
theorem run_append_raw0 {P : Program} (w : World) (t ty : TypeId) (base : Nat) (e : TypeId) (i : TypeInfo) (z : Value) (size bytes : Nat) (ht : P.underlying t = some (.slice e)) (hi : P.info? e = some i) (hz : i.zero = some z)
    (hsize : i.size = size) (hby : i.bytes = bytes) (hzs : z.cells.size = size) (hsz : 0 < size)
    (v : Value) (n : Nat) (xs : List Value) (hown : w.ownsRow base e size v n xs) (sv : Value) (m : Nat) (news : List Value) (hraw : Raw w size sv m news) (h1 : ∀ u ∈ news, u.oneCell' = true)
    (h63 : n + m ≤ maxLen) (hbytes : (n + m) * bytes ≤ 140737488355328) (hbase : base ≤ w.heap.size) :
    ∃ v' w', (Builtin.append_ #[t, t] ty #[v, sv]).run P w = .ok v' w' ∧ w'.ownsRow base e size v' (n + m) (xs ++ news) ∧ w.grownBy w' v.ownBlock ∧ (v'.ownBlock = v.ownBlock ∨ v'.ownBlock = some w.heap.size) := by
  obtain ⟨hl, p, c, rfl, hraw⟩ := hraw
  by_cases hp : p = none
  · subst hp
    have hm : m = 0 := by
      rcases hraw with q | ⟨b, o, q, _⟩
      · exact q
      · cases q
    subst hm
    have hn : news = [] := List.eq_nil_of_length_eq_zero (by rw [hl]; omega)
    subst hn
    refine ⟨v, w, ?_, by rw [Nat.add_zero, List.append_nil]; exact hown, ⟨rfl, rfl, rfl, Nat.le_refl _, fun _ _ _ => rfl⟩, .inl rfl⟩
    rcases hown.2 with ⟨rfl, rfl⟩ | ⟨g, cap, cur, rfl, hb, hg, hn1, hn2, hn3, hn4⟩
    · simp [Builtin.append_, run_underlying ht, sizeOf, typeInfo, hi, Builtin.lenOf, run_firstCells_none]
    · simp [Builtin.append_, run_underlying ht, sizeOf, typeInfo, hi, Builtin.lenOf, run_firstCells_none, hn1, storeCells]
  · obtain ⟨a, rfl⟩ : ∃ a, p = some a := Option.ne_none_iff_exists'.1 hp
    have hnews : ∀ j u, news[j]? = some u → w.cell? (a.add j) = some u := by
      intro j u hu
      rcases hraw with q | ⟨b, o, q, h⟩
      · subst q
        have hn : news = [] := List.eq_nil_of_length_eq_zero (by rw [hl]; omega)
        rw [hn] at hu; cases hu
      · cases q
        have hadd : (⟨b, o, none⟩ : Addr).add j = ⟨b, o + j, none⟩ := by unfold Addr.add; split <;> simp_all
        rw [hadd]; exact h j u hu
    obtain ⟨v', w', h2, h3, h4, _, h5⟩ := run_append_own_at (P := P) w base t ty e i z size bytes ht hi hz hsize hby hzs hsz v n xs hown a m c news hl hnews h1 h63 hbytes hbase
    exact ⟨v', w', h2, h3, h4, h5⟩
theorem run_append_raw {P : Program} (w : World) (t ty : TypeId) (base : Nat) (e : TypeId) (i : TypeInfo) (z : Value) (size bytes : Nat) (ht : P.underlying t = some (.slice e)) (hi : P.info? e = some i) (hz : i.zero = some z)
    (hsize : i.size = size) (hby : i.bytes = bytes) (hzs : z.cells.size = size) (hsz : 0 < size)
    (v : Value) (n : Nat) (xs : List Value) (hown : w.ownsRow base e size v n xs) (sv : Value) (m : Nat) (news : List Value) (hraw : Raw w size sv m news) (h1 : ∀ u ∈ news, u.oneCell' = true)
    (h63 : n + m ≤ maxLen) (hbytes : (n + m) * bytes ≤ 140737488355328) (hbase : base ≤ w.heap.size) :
    ∃ q cp w', (Builtin.append_ #[t, t] ty #[v, sv]).run P w = .ok (.slice q (n + m) cp) w' ∧ w'.ownsRow base e size (.slice q (n + m) cp) (n + m) (xs ++ news) ∧ w.grownBy w' v.ownBlock ∧ ((Value.slice q (n + m) cp).ownBlock = v.ownBlock ∨ (Value.slice q (n + m) cp).ownBlock = some w.heap.size) := by
  have F : ∃ v' w', (Builtin.append_ #[t, t] ty #[v, sv]).run P w = .ok v' w' ∧ w'.ownsRow base e size v' (n + m) (xs ++ news) ∧ w.grownBy w' v.ownBlock ∧ (v'.ownBlock = v.ownBlock ∨ v'.ownBlock = some w.heap.size) := run_append_raw0 w t ty base e i z size bytes ht hi hz hsize hby hzs hsz v n xs hown sv m news hraw h1 h63 hbytes hbase
  obtain ⟨v', w', f1, f2, f3, f4⟩ := F
  rcases f2.2 with ⟨rfl, q⟩ | ⟨g, cap, cur, rfl, _⟩
  · exact ⟨none, 0, w', by rw [f1, q], by rw [q] at f2 ⊢; exact f2, f3, by rw [q]; exact f4⟩
  · exact ⟨_, cap, w', f1, f2, f3, f4⟩

theorem wp_append_raw {P : Program} {o : Oper} {a : Act} {w : World} {K : Act → World → Prop} {Q : Exit → Act → World → Prop} (s x : Operand) (t : TypeId)
    (ho : o.op = .call { callee := .builtin .append, args := #[s, x], argTypes := #[t, t] })
    (base : Nat) (e : TypeId) (i : TypeInfo) (z : Value) (size bytes : Nat) (ht : P.underlying t = some (.slice e)) (hi : P.info? e = some i) (hz : i.zero = some z)
    (hsize : i.size = size) (hby : i.bytes = bytes) (hzs : z.cells.size = size) (hsz : 0 < size)
    (v : Value) (n : Nat) (xs : List Value) (hs : a.eval s = v) (hown : w.ownsRow base e size v n xs)
    (sv : Value) (m : Nat) (news : List Value) (hx : a.eval x = sv) (hraw : Raw w size sv m news) (h1 : ∀ u ∈ news, u.oneCell' = true)
    (h63 : n + m ≤ maxLen) (hbytes : (n + m) * bytes ≤ 140737488355328) (hbase : base ≤ w.heap.size)
    (h : ∀ q cp w', w'.ownsRow base e size (.slice q (n + m) cp) (n + m) (xs ++ news) → w.grownBy w' v.ownBlock → ((Value.slice q (n + m) cp).ownBlock = v.ownBlock ∨ (Value.slice q (n + m) cp).ownBlock = some w.heap.size) → K (a.put o.dst (.slice q (n + m) cp)) w') : o.wp P a w K Q := by
  obtain ⟨q, cp, w', hr, h2, h3, h4⟩ := run_append_raw (P := P) w t o.type base e i z size bytes ht hi hz hsize hby hzs hsz v n xs hown sv m news hraw h1 h63 hbytes hbase
  unfold Oper.wp execOp
  simp only [ho, resolve, invoke, builtin, Sem.run_bind, Sem.run_pure, Result.andThen_ok, List.map_toArray, List.map_cons, List.map_nil, hs, hx, hr]
  exact h q cp w' h2 h3 h4
theorem wpList_append_raw {P : Program} {ops : Array Oper} {rest : List Oper} {o : Oper} {a : Act} {w : World} {Q : Exit → Act → World → Prop} (hgd : o.guard = none) (s x : Operand) (t : TypeId)
    (ho : o.op = .call { callee := .builtin .append, args := #[s, x], argTypes := #[t, t] })
    (base : Nat) (e : TypeId) (i : TypeInfo) (z : Value) (size bytes : Nat) (ht : P.underlying t = some (.slice e)) (hi : P.info? e = some i) (hz : i.zero = some z)
    (hsize : i.size = size) (hby : i.bytes = bytes) (hzs : z.cells.size = size) (hsz : 0 < size)
    (v : Value) (n : Nat) (xs : List Value) (hs : a.eval s = v) (hown : w.ownsRow base e size v n xs)
    (sv : Value) (m : Nat) (news : List Value) (hx : a.eval x = sv) (hraw : Raw w size sv m news) (h1 : ∀ u ∈ news, u.oneCell' = true)
    (h63 : n + m ≤ maxLen) (hbytes : (n + m) * bytes ≤ 140737488355328) (hbase : base ≤ w.heap.size)
    (h : ∀ q cp w', w'.ownsRow base e size (.slice q (n + m) cp) (n + m) (xs ++ news) → w.grownBy w' v.ownBlock → ((Value.slice q (n + m) cp).ownBlock = v.ownBlock ∨ (Value.slice q (n + m) cp).ownBlock = some w.heap.size) → wpList P ops Q rest (a.put o.dst (.slice q (n + m) cp)) w') : wpList P ops Q (o :: rest) a w :=
  wpList_plain hgd fun _ hK => wp_append_raw s x t ho base e i z size bytes ht hi hz hsize hby hzs hsz v n xs hs hown sv m news hx hraw h1 h63 hbytes hbase fun q cp w' h2 h3 h4 => hK _ _ (h q cp w' h2 h3 h4)
theorem step_append_raw {P : Program} {ops : Array Oper} {o : Oper} {a : Act} {w : World} {K : Act → World → Prop} {Q : Exit → Act → World → Prop} {E : Prop} (hgd : o.guard = none) (s x : Operand) (t : TypeId)
    (ho : o.op = .call { callee := .builtin .append, args := #[s, x], argTypes := #[t, t] })
    (base : Nat) (e : TypeId) (i : TypeInfo) (z : Value) (size bytes : Nat) (ht : P.underlying t = some (.slice e)) (hi : P.info? e = some i) (hz : i.zero = some z)
    (hsize : i.size = size) (hby : i.bytes = bytes) (hzs : z.cells.size = size) (hsz : 0 < size)
    (v : Value) (n : Nat) (xs : List Value) (hs : a.eval s = v) (hown : w.ownsRow base e size v n xs)
    (sv : Value) (m : Nat) (news : List Value) (hx : a.eval x = sv) (hraw : Raw w size sv m news) (h1 : ∀ u ∈ news, u.oneCell' = true)
    (h63 : n + m ≤ maxLen) (hbytes : (n + m) * bytes ≤ 140737488355328) (hbase : base ≤ w.heap.size)
    (h : ∀ q cp w', w'.ownsRow base e size (.slice q (n + m) cp) (n + m) (xs ++ news) → w.grownBy w' v.ownBlock → ((Value.slice q (n + m) cp).ownBlock = v.ownBlock ∨ (Value.slice q (n + m) cp).ownBlock = some w.heap.size) → K (a.put o.dst (.slice q (n + m) cp)) w') :
    if Region.wanted o (yielded ops a.tmps) = true then Oper.wp P o a w K Q else E := by
  have hw : Region.wanted o (yielded ops a.tmps) = true := by simp [Region.wanted, hgd]
  rw [if_pos hw]
  exact wp_append_raw s x t ho base e i z size bytes ht hi hz hsize hby hzs hsz v n xs hs hown sv m news hx hraw h1 h63 hbytes hbase h

/-- A variable of the call's own: a block. -/
structure NB (w : World) (n : Nat) (cs : List Value) (t : TypeId) : Prop where
  lies : w.heap[n]? = some (.cells cs.toArray t (0, 0))
theorem NB.new (w : World) (cs : List Value) (t : TypeId) : NB (w.alloc (.cells cs.toArray t)) w.heap.size cs t := ⟨heap_alloc_new w _⟩
theorem NB.drew {w : World} {n : Nat} {cs : List Value} {t : TypeId} (h : NB w n cs t) : NB w.drew n cs t := ⟨h.lies⟩
theorem NB.lt {w : World} {n : Nat} {cs : List Value} {t : TypeId} (h : NB w n cs t) : n < w.heap.size := (Array.getElem?_eq_some_iff.1 h.lies).1
theorem NB.cell {w : World} {n : Nat} {cs : List Value} {t : TypeId} (h : NB w n cs t) (k : Nat) {u : Value} (hu : cs[k]? = some u) : w.cell? ⟨n, k, none⟩ = some u := by
  rw [cell_of_row w n k _ t (0, 0) h.lies]; simpa using hu
theorem NB.free {w : World} {n : Nat} {cs : List Value} {t : TypeId} (h : NB w n cs t) (k : Nat) : w.frozen? ⟨n, k, none⟩ = false := by
  simp only [World.frozen?, h.lies]; simp
theorem NB.chg {S : List Nat} {w w' : World} {n : Nat} {cs : List Value} {t : TypeId} (h : NB w n cs t) (hc : Chg S w w') (hn : n ∉ S) : NB w' n cs t := ⟨(hc.block n h.lt hn).trans h.lies⟩
theorem NB.set {w : World} {n : Nat} {cs : List Value} {t : TypeId} (h : NB w n cs t) (k : Nat) (u : Value) : NB (w.setCell ⟨n, k, none⟩ u) n (cs.set k u) t := by
  refine ⟨?_⟩
  simp only [World.setCell, Array.getElem?_modify, if_true, h.lies]
  simp
theorem NB.raw {w : World} {n : Nat} {cs : List Value} {t : TypeId} (h : NB w n cs t) (k size : Nat) (hl : cs.length = k * size) (c : Nat) : Raw w size (.slice (some ⟨n, 0, none⟩) k c) k cs :=
  ⟨hl, _, c, rfl, .inr ⟨n, 0, rfl, fun j u hu => by rw [Nat.zero_add]; exact h.cell j hu⟩⟩
theorem Raw.chg {S : List Nat} {w w' : World} {size : Nat} {v : Value} {n : Nat} {xs : List Value} (h : Raw w size v n xs) (hb : Chg S w w') (hn : ∀ b o c, v = .slice (some ⟨b, o, none⟩) n c → b ∉ S) : Raw w' size v n xs := by
  obtain ⟨h1, p, c, e, h⟩ := h
  refine ⟨h1, p, c, e, ?_⟩
  rcases h with h | ⟨b, o, e2, h⟩
  · exact .inl h
  · exact .inr ⟨b, o, e2, fun j u hu => hb.cell (h j u hu) (hn b o c (by rw [e, e2]))⟩

theorem infoN : (Try.prog.info? 45).map (fun i => (i.zero, i.size, i.bytes)) = some (some (.agg #[.string ⟨#[]⟩, .string ⟨#[]⟩, .slice none 0 0, .int .i64 0, .slice none 0 0]), 5, 88) := by kernel_rfl
theorem infoA : (Try.prog.info? 48).map (fun i => (i.zero, i.size, i.bytes)) = some (some (.agg #[.string ⟨#[]⟩, .string ⟨#[]⟩]), 2, 32) := by kernel_rfl
theorem infoI : (Try.prog.info? 3).map (fun i => (i.zero, i.size, i.bytes)) = some (some (.int .i64 0), 1, 8) := by kernel_rfl

end Go.Proofs.Ytkloahpkjbohoaa
