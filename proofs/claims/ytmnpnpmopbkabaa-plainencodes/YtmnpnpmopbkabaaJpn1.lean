/- Facts of no program. append of a row that lies anywhere to a row of the call's own. Entries in a row of the call's own. The program's NoBreaks answers by the function of 'Ends'. The program's Pairs answers by the function of 'Ends'. The program's Plain of layer 19. A row of entries of the call's own outlives other writes. The program's Encode, Split of layer 21. Stage 21's wakes and its laws PlainEncodes, PlainBodies, walked. -/
import Derived.Test.YtmnpnpmopbkabaaJpn8
import Derived.Test.YtmnpnpmopbkabaaJpn9
import Derived.Lib.SplitLaws
import Derived.Lib.IndexAny
import Derived.Lib.CutLaws
import Derived.Shelf.Strings.Cut

namespace Go.Proofs.Ytmnpnpmopbkabaa
open Go.RowKit
theorem hide {p : Prop} (h : p) : Hid p := h
/-- Two calls behind one another. -/
theorem chain {w w1 w2 : World} (h1 : Below w.heap.size w w1) (h2 : Below w1.heap.size w1 w2) : Below w.heap.size w w2 := h1.trans (h2.mono h1.size)
end Go.Proofs.Ytmnpnpmopbkabaa

namespace Go.Proofs.Ytmnpnpmopbkabaa
open Go.RowKit
/-- Cells behind a slice, anywhere. -/
def Raw (w : World) (size : Nat) (v : Value) (n : Nat) (xs : List Value) : Prop := xs.length = n * size ∧ ∃ p c, v = .slice p n c ∧ (n = 0 ∨ ∃ b o, p = some ⟨b, o, none⟩ ∧ ∀ j u, xs[j]? = some u → w.cell? ⟨b, o + j, none⟩ = some u)
theorem run_append_raw0 {P : Program} (w : World) (t ty : TypeId) (base : Nat) (e : TypeId) (i : TypeInfo) (z : Value) (size bytes : Nat) (ht : P.underlying t = some (.slice e)) (hi : P.info? e = some i) (hz : i.zero = some z)
    (hsize : i.size = size) (hby : i.bytes = bytes) (hzs : z.cells.size = size) (hsz : 0 < size)
    (v : Value) (n : Nat) (xs : List Value) (hown : w.ownsRow base e size v n xs) (sv : Value) (m : Nat) (news : List Value) (hraw : Raw w size sv m news) (h1 : ∀ u ∈ news, u.oneCell' = true)
    (h63 : n + m ≤ maxLen) (hbytes : (n + m) * bytes ≤ 140737488355328) (hbase : base ≤ w.heap.size) :
    ∃ v' w', (Builtin.append_ #[t, t] ty #[v, sv]).run P w = .ok v' w' ∧ w'.ownsRow base e size v' (n + m) (xs ++ news) ∧ w.grownBy w' v.ownBlock ∧ (v'.ownBlock = v.ownBlock ∨ v'.ownBlock = some w.heap.size) := by
  obtain ⟨hl, p, c, rfl, hraw⟩ := hraw
  by_cases hp : p = none
  · subst hp
    have hm : m = 0 := by
      rcases hraw with q | ⟨b, o, q, _⟩
      · exact q
      · cases q
    subst hm
    have hn : news = [] := List.eq_nil_of_length_eq_zero (by rw [hl]; omega)
    subst hn
    refine ⟨v, w, ?_, by rw [Nat.add_zero, List.append_nil]; exact hown, ⟨rfl, rfl, rfl, Nat.le_refl _, fun _ _ _ => rfl⟩, .inl rfl⟩
    rcases hown.2 with ⟨rfl, rfl⟩ | ⟨g, cap, cur, rfl, hb, hg, hn1, hn2, hn3, hn4⟩
    · simp [Builtin.append_, run_underlying ht, sizeOf, typeInfo, hi, Builtin.lenOf, run_firstCells_none]
    · simp [Builtin.append_, run_underlying ht, sizeOf, typeInfo, hi, Builtin.lenOf, run_firstCells_none, hn1, storeCells]
  · obtain ⟨a, rfl⟩ : ∃ a, p = some a := Option.ne_none_iff_exists'.1 hp
    have hnews : ∀ j u, news[j]? = some u → w.cell? (a.add j) = some u := by
      intro j u hu
      rcases hraw with q | ⟨b, o, q, h⟩
      · subst q
        have hn : news = [] := List.eq_nil_of_length_eq_zero (by rw [hl]; omega)
        rw [hn] at hu; cases hu
      · cases q
        have hadd : (⟨b, o, none⟩ : Addr).add j = ⟨b, o + j, none⟩ := by unfold Addr.add; split <;> simp_all
        rw [hadd]; exact h j u hu
    obtain ⟨v', w', h2, h3, h4, _, h5⟩ := run_append_own_at (P := P) w base t ty e i z size bytes ht hi hz hsize hby hzs hsz v n xs hown a m c news hl hnews h1 h63 hbytes hbase
    exact ⟨v', w', h2, h3, h4, h5⟩
theorem run_append_raw {P : Program} (w : World) (t ty : TypeId) (base : Nat) (e : TypeId) (i : TypeInfo) (z : Value) (size bytes : Nat) (ht : P.underlying t = some (.slice e)) (hi : P.info? e = some i) (hz : i.zero = some z)
    (hsize : i.size = size) (hby : i.bytes = bytes) (hzs : z.cells.size = size) (hsz : 0 < size)
    (v : Value) (n : Nat) (xs : List Value) (hown : w.ownsRow base e size v n xs) (sv : Value) (m : Nat) (news : List Value) (hraw : Raw w size sv m news) (h1 : ∀ u ∈ news, u.oneCell' = true)
    (h63 : n + m ≤ maxLen) (hbytes : (n + m) * bytes ≤ 140737488355328) (hbase : base ≤ w.heap.size) :
    ∃ q cp w', (Builtin.append_ #[t, t] ty #[v, sv]).run P w = .ok (.slice q (n + m) cp) w' ∧ w'.ownsRow base e size (.slice q (n + m) cp) (n + m) (xs ++ news) ∧ w.grownBy w' v.ownBlock ∧ ((Value.slice q (n + m) cp).ownBlock = v.ownBlock ∨ (Value.slice q (n + m) cp).ownBlock = some w.heap.size) := by
  have F : ∃ v' w', (Builtin.append_ #[t, t] ty #[v, sv]).run P w = .ok v' w' ∧ w'.ownsRow base e size v' (n + m) (xs ++ news) ∧ w.grownBy w' v.ownBlock ∧ (v'.ownBlock = v.ownBlock ∨ v'.ownBlock = some w.heap.size) := run_append_raw0 w t ty base e i z size bytes ht hi hz hsize hby hzs hsz v n xs hown sv m news hraw h1 h63 hbytes hbase
  obtain ⟨v', w', f1, f2, f3, f4⟩ := F
  rcases f2.2 with ⟨rfl, q⟩ | ⟨g, cap, cur, rfl, _⟩
  · exact ⟨none, 0, w', by rw [f1, q], by rw [q] at f2 ⊢; exact f2, f3, by rw [q]; exact f4⟩
  · exact ⟨_, cap, w', f1, f2, f3, f4⟩
theorem wp_append_raw {P : Program} {o : Oper} {a : Act} {w : World} {K : Act → World → Prop} {Q : Exit → Act → World → Prop} (s x : Operand) (t : TypeId)
    (ho : o.op = .call { callee := .builtin .append, args := #[s, x], argTypes := #[t, t] })
    (base : Nat) (e : TypeId) (i : TypeInfo) (z : Value) (size bytes : Nat) (ht : P.underlying t = some (.slice e)) (hi : P.info? e = some i) (hz : i.zero = some z)
    (hsize : i.size = size) (hby : i.bytes = bytes) (hzs : z.cells.size = size) (hsz : 0 < size)
    (v : Value) (n : Nat) (xs : List Value) (hs : a.eval s = v) (hown : w.ownsRow base e size v n xs)
    (sv : Value) (m : Nat) (news : List Value) (hx : a.eval x = sv) (hraw : Raw w size sv m news) (h1 : ∀ u ∈ news, u.oneCell' = true)
    (h63 : n + m ≤ maxLen) (hbytes : (n + m) * bytes ≤ 140737488355328) (hbase : base ≤ w.heap.size)
    (h : ∀ q cp w', w'.ownsRow base e size (.slice q (n + m) cp) (n + m) (xs ++ news) → w.grownBy w' v.ownBlock → ((Value.slice q (n + m) cp).ownBlock = v.ownBlock ∨ (Value.slice q (n + m) cp).ownBlock = some w.heap.size) → K (a.put o.dst (.slice q (n + m) cp)) w') : o.wp P a w K Q := by
  obtain ⟨q, cp, w', hr, h2, h3, h4⟩ := run_append_raw (P := P) w t o.type base e i z size bytes ht hi hz hsize hby hzs hsz v n xs hown sv m news hraw h1 h63 hbytes hbase
  unfold Oper.wp execOp
  simp only [ho, resolve, invoke, builtin, Sem.run_bind, Sem.run_pure, Result.andThen_ok, List.map_toArray, List.map_cons, List.map_nil, hs, hx, hr]
  exact h q cp w' h2 h3 h4
theorem wpList_append_raw {P : Program} {ops : Array Oper} {rest : List Oper} {o : Oper} {a : Act} {w : World} {Q : Exit → Act → World → Prop} (hgd : o.guard = none) (s x : Operand) (t : TypeId)
    (ho : o.op = .call { callee := .builtin .append, args := #[s, x], argTypes := #[t, t] })
    (base : Nat) (e : TypeId) (i : TypeInfo) (z : Value) (size bytes : Nat) (ht : P.underlying t = some (.slice e)) (hi : P.info? e = some i) (hz : i.zero = some z)
    (hsize : i.size = size) (hby : i.bytes = bytes) (hzs : z.cells.size = size) (hsz : 0 < size)
    (v : Value) (n : Nat) (xs : List Value) (hs : a.eval s = v) (hown : w.ownsRow base e size v n xs)
    (sv : Value) (m : Nat) (news : List Value) (hx : a.eval x = sv) (hraw : Raw w size sv m news) (h1 : ∀ u ∈ news, u.oneCell' = true)
    (h63 : n + m ≤ maxLen) (hbytes : (n + m) * bytes ≤ 140737488355328) (hbase : base ≤ w.heap.size)
    (h : ∀ q cp w', w'.ownsRow base e size (.slice q (n + m) cp) (n + m) (xs ++ news) → w.grownBy w' v.ownBlock → ((Value.slice q (n + m) cp).ownBlock = v.ownBlock ∨ (Value.slice q (n + m) cp).ownBlock = some w.heap.size) → wpList P ops Q rest (a.put o.dst (.slice q (n + m) cp)) w') : wpList P ops Q (o :: rest) a w :=
  wpList_plain hgd fun _ hK => wp_append_raw s x t ho base e i z size bytes ht hi hz hsize hby hzs hsz v n xs hs hown sv m news hx hraw h1 h63 hbytes hbase fun q cp w' h2 h3 h4 => hK _ _ (h q cp w' h2 h3 h4)
theorem owns_cell {w : World} {base : Nat} {e : TypeId} {size : Nat} {v : Value} {n : Nat} {xs : List Value} (h : w.ownsRow base e size v n xs) {g : Nat} (hg : v.ownBlock = some g) {j : Nat} {u : Value} (hu : xs[j]? = some u) : w.cell? ⟨g, j, none⟩ = some u := by
  have := h.cells hg j u hu
  rwa [show (⟨g, 0, none⟩ : Addr).add j = ⟨g, j, none⟩ by unfold Addr.add; split <;> simp_all] at this
theorem owns_below {w w' : World} {base : Nat} {e : TypeId} {size : Nat} {v : Value} {n : Nat} {xs : List Value} (h : w.ownsRow base e size v n xs) (hb : Below w.heap.size w w') : w'.ownsRow base e size v n xs := by
  refine ⟨h.1, ?_⟩
  rcases h.2 with q | ⟨g, cap, cur, e1, h1, h2, h3⟩
  · exact .inl q
  · exact .inr ⟨g, cap, cur, e1, h1, (hb.block g (Array.getElem?_eq_some_iff.1 h2).1).trans h2, h3⟩
theorem Bk.raw {w : World} {n : Nat} {cs : List Value} {t : TypeId} (h : Bk w n cs t) (k size : Nat) (hl : cs.length = k * size) (c : Nat) : Raw w size (.slice (some ⟨n, 0, none⟩) k c) k cs :=
  ⟨hl, _, c, rfl, .inr ⟨n, 0, rfl, fun j u hu => by rw [Nat.zero_add]; exact h.cell j hu⟩⟩
/-- Blocks below a bound are left alone by an append to a row that lies above it. -/
theorem rowGrown_below {B : Nat} {a w w' : World} {row : Option Nat} (h : Below B a w) (hB : B ≤ w.heap.size) (hg : w.grownBy w' row) (hr : ∀ k, row = some k → B ≤ k) : Below B a w' :=
  ⟨hg.os.trans h.os, hg.tape.trans h.tape, hg.output.trans h.output, Nat.le_trans h.size hg.size, fun k hk => (hg.block k (by omega) (fun e => by have := hr k e.symm; omega)).trans (h.block k hk)⟩
end Go.Proofs.Ytmnpnpmopbkabaa

namespace Go.Proofs.Ytmnpnpmopbkabaa
open Go.RowKit
set_option maxRecDepth 100000
/-- The cells of a file. -/
def enCells (e : En) : List Value := [.string e.name, .string e.val, .bool e.file, .string e.fname, .string e.typ]
def cellsE (fs : List En) : List Value := fs.flatMap enCells
theorem cellsE_app (x y : List En) : cellsE (x ++ y) = cellsE x ++ cellsE y := by simp [cellsE]
theorem cellsE_at : ∀ {fs : List En} {i : Nat} (h : i < fs.length) {j : Nat}, j < 5 → (cellsE fs)[i * 5 + j]? = (enCells fs[i])[j]?
  | e :: fs, 0, _, j, hj => by
    show (enCells e ++ cellsE fs)[0 * 5 + j]? = _
    rw [Nat.zero_mul, Nat.zero_add, List.getElem?_append_left (by show j < 5; exact hj)]
    rfl
  | e :: fs, i + 1, h, j, hj => by
    show (enCells e ++ cellsE fs)[(i + 1) * 5 + j]? = _
    rw [List.getElem?_append_right (by show 5 ≤ _; omega), show (i + 1) * 5 + j - (enCells e).length = i * 5 + j by show (i + 1) * 5 + j - 5 = _; omega]
    exact cellsE_at (fs := fs) (by simpa using h) hj
theorem files_own {w : World} {base : Nat} {v : Value} {fs : List En} (h : w.ownsRow base 32 5 v fs.length (cellsE fs)) : FilesV w v fs := by
  rcases h.2 with ⟨e, q⟩ | ⟨g, cap, cur, e, hb, hg, h1, h2, _⟩
  · have : fs = [] := List.eq_nil_of_length_eq_zero q
    subst this
    exact ⟨none, 0, e, .inl rfl⟩
  · refine ⟨_, cap, e, .inr ⟨g, 0, rfl, fun i hi => ?_⟩⟩
    subst e
    have C : ∀ j u, j < 5 → (enCells fs[i])[j]? = some u → w.cell? ⟨g, 0 + i * 5 + j, none⟩ = some u := fun j u hj hu => by
      rw [Nat.zero_add]
      exact owns_cell h rfl ((cellsE_at hi hj).trans hu)
    exact ⟨C 0 _ (by omega) rfl, C 1 _ (by omega) rfl, C 2 _ (by omega) rfl, C 3 _ (by omega) rfl, C 4 _ (by omega) rfl⟩
/-- Files in a row of the call's own. -/
def OwnR (B : Nat) (w : World) (v : Value) (fs : List En) : Prop := w.ownsRow B 32 5 v fs.length (cellsE fs)
theorem OwnR.files {B : Nat} {w : World} {v : Value} {fs : List En} (h : OwnR B w v fs) : FilesV w v fs := files_own h
theorem OwnR.below {B : Nat} {w w' : World} {v : Value} {fs : List En} (h : OwnR B w v fs) (hb : Below w.heap.size w w') : OwnR B w' v fs := owns_below h hb
theorem OwnR.mono {B B' : Nat} {w : World} {v : Value} {fs : List En} (h : OwnR B w v fs) (hb : B' ≤ B) : OwnR B' w v fs := by
  refine ⟨h.1, ?_⟩
  rcases h.2 with hn' | ⟨g, cap, cur, rfl, hb', rest⟩
  · exact .inl hn'
  · exact .inr ⟨g, cap, cur, rfl, by omega, rest⟩
theorem OwnR.form {B : Nat} {w : World} {v : Value} {fs : List En} (h : OwnR B w v fs) : ∃ p c, v = .slice p fs.length c := by
  obtain ⟨p, c, e, _⟩ := h.files
  exact ⟨p, c, e⟩
theorem info_en : (Try.prog.info? 32).map (fun i => (i.zero, i.size, i.bytes)) = some (some (.agg #[.string ⟨#[]⟩, .string ⟨#[]⟩, .bool false, .string ⟨#[]⟩, .string ⟨#[]⟩]), 5, 72) := by kernel_rfl
theorem cellsE_len : ∀ (fs : List En), (cellsE fs).length = fs.length * 5
  | [] => rfl
  | e :: fs => by
    show (enCells e ++ cellsE fs).length = (fs.length + 1) * 5
    rw [List.length_append, cellsE_len fs]
    show 5 + _ = _
    omega
theorem cellsE_one : ∀ (fs : List En), ∀ u ∈ cellsE fs, u.oneCell' = true
  | [], u, h => by cases h
  | e :: fs, u, h => by
    have h : u ∈ enCells e ++ cellsE fs := h
    rcases List.mem_append.1 h with h | h
    · simp only [enCells, List.mem_cons, List.not_mem_nil, or_false] at h
      rcases h with rfl | rfl | rfl | rfl | rfl <;> rfl
    · exact cellsE_one fs u h
theorem FilesV.raw {w : World} {v : Value} {fs : List En} (h : FilesV w v fs) : Raw w 5 v fs.length (cellsE fs) := by
  obtain ⟨p, c, e, h⟩ := h
  refine ⟨cellsE_len fs, p, c, e, ?_⟩
  rcases h with h | ⟨b, o, e, h⟩
  · exact .inl (by rw [h]; rfl)
  · refine .inr ⟨b, o, e, fun j u hu => ?_⟩
    have hj : j < fs.length * 5 := by
      rw [← cellsE_len fs]
      exact (List.getElem?_eq_some_iff.1 hu).1
    have hi : j / 5 < fs.length := by omega
    have ej : j = j / 5 * 5 + j % 5 := by omega
    have E := h (j / 5) hi
    have q := cellsE_at hi (j := j % 5) (by omega)
    rw [← ej, hu] at q
    have hm : j % 5 = 0 ∨ j % 5 = 1 ∨ j % 5 = 2 ∨ j % 5 = 3 ∨ j % 5 = 4 := by omega
    have eo : o + j = o + j / 5 * 5 + j % 5 := by omega
    rw [eo]
    rcases hm with hm | hm | hm | hm | hm <;> rw [hm] at q ⊢ <;> cases q
    · exact E.c0
    · exact E.c1
    · exact E.c2
    · exact E.c3
    · exact E.c4
theorem OwnR.nil (B : Nat) (w : World) : OwnR B w (.slice none 0 0) [] := World.ownsRow_nil _ _ _ _
/-- Entries that lie anywhere, put behind an own row. -/
theorem wpList_append_en {ops : Array Oper} {rest : List Oper} {o : Oper} {a : Act} {w : World} {Q : Exit → Act → World → Prop} (hgd : o.guard = none) (s x : Operand)
    (ho : o.op = .call { callee := .builtin .append, args := #[s, x], argTypes := #[22, 22] })
    (base : Nat) (v : Value) (fs : List En) (hs : a.eval s = v) (hown : OwnR base w v fs) (sv : Value) (gs : List En) (hx : a.eval x = sv) (hg : FilesV w sv gs)
    (hl : (fs.length + gs.length) * 72 ≤ 140737488355328) (hbase : base ≤ w.heap.size)
    (h : ∀ q cp w', OwnR base w' (.slice q (fs.length + gs.length) cp) (fs ++ gs) → Below base w w' → wpList Try.prog ops Q rest (a.put o.dst (.slice q (fs.length + gs.length) cp)) w') : wpList Try.prog ops Q (o :: rest) a w := by
  obtain ⟨i, hi, hz⟩ := Option.map_eq_some_iff.1 info_en
  have h0 : i.zero = some (.agg #[.string ⟨#[]⟩, .string ⟨#[]⟩, .bool false, .string ⟨#[]⟩, .string ⟨#[]⟩]) := congrArg Prod.fst hz
  have h1 : i.size = 5 := congrArg (fun p => p.2.1) hz
  have h2 : i.bytes = 72 := congrArg (fun p => p.2.2) hz
  refine wpList_append_raw hgd s x _ ho base 32 i _ 5 72 Try.underlying22 hi h0 h1 h2 rfl (by omega) v fs.length (cellsE fs) hs hown sv gs.length (cellsE gs) hx hg.raw (cellsE_one gs) (by unfold maxLen; omega) hl hbase ?_
  intro q cp w' own gr _
  refine h q cp w' ?_ (rowGrown_below (Below.refl _ _) hbase gr (fun k e => (World.ownsRow.lt hown k e).1))
  show World.ownsRow _ _ _ _ _ _ _
  rw [List.length_append, cellsE_app]
  exact own
/-- One entry in a block of its own. -/
theorem files_one (w : World) (e : En) : FilesV (w.alloc (.cells #[.string e.name, .string e.val, .bool e.file, .string e.fname, .string e.typ] 32)) (.slice (some ⟨w.heap.size, 0, none⟩) 1 1) [e] := by
  have K := Bk.new w [.string e.name, .string e.val, .bool e.file, .string e.fname, .string e.typ] 32
  refine ⟨_, 1, rfl, .inr ⟨w.heap.size, 0, rfl, fun i hi => ?_⟩⟩
  obtain rfl : i = 0 := by have : i < 1 := hi; omega
  exact ⟨K.cell 0 rfl, K.cell 1 rfl, K.cell 2 rfl, K.cell 3 rfl, K.cell 4 rfl⟩
end Go.Proofs.Ytmnpnpmopbkabaa

namespace Go.Proofs.Ytmnpnpmopbkabaa
open Go.RowKit
set_option maxRecDepth 100000
set_option maxHeartbeats 400000 in
theorem withEnds_any (s e : ByteArray) (w : World) (hs : s.size ≤ 1099511627776) (he : e.size ≤ 2) :
    Calls Try.prog 23 #[.string s, .string e] w fun r w' => r = .returned (.string (endsS e s)) ∧ Below w.heap.size w w' := by
  go_enter Try.func23, Try.ntmps23
  go_wp2_with fail
  refine (grow_fresh s.size w (by omega)).mono ?_
  rintro r w1 ⟨rfl, h1, b1⟩
  go_wp2_with fail
  go_loopw [13] (fun i wr => ∃ k : Nat, k ≤ s.size ∧ i = .int .i64 k ∧ HoldsB w.heap.size w.heap.size (endsP e.data.toList 0 (s.data.toList.take k)) wr ∧ Below w.heap.size w wr) (fun i _ => s.size - (intOf i).toNat)
  case atStart => exact ⟨0, Nat.zero_le _, rfl, h1, b1⟩
  case round =>
    obtain ⟨k, hk, rfl, hh, hb⟩ := hrel
    by_cases hlt : k < s.size
    · have hle := endsP_take_le e s k he
      have HT := hide (endsP_take e.data.toList s k hlt)
      have hsz := hb.size
      have HE := hide (byteAt_eq s k hlt)
      go_wp2_with fail
      · have h10 : (s[k].toNat : Int) = 10 := by assumption
        have h0 : 0 < k := by assumption
        have h13 : ((((s[k - 1]'(by omega)).toNat : Int)) == 13) = true := by assumption
        rw [HE.out] at h10
        rw [prevAt_eq s k hlt h0, beq_iff_eq] at h13
        go_roundw
        case rel => exact ⟨k + 1, by omega, by go_num, by rw [HT.out, piece_none ((b10 _).2 h10) ((b13 _).2 h13), List.append_nil]; exact hh, hb⟩
        case measure => simp [intOf]; omega
      · have h10 : (s[k].toNat : Int) = 10 := by assumption
        have h0 : 0 < k := by assumption
        have h13 : ((((s[k - 1]'(by omega)).toNat : Int)) == 13) = false := by assumption
        rw [HE.out] at h10
        rw [prevAt_eq s k hlt h0, beq_eq_false_iff_ne] at h13
        have HP := hide (piece_end (e := e.data.toList) (p := prevAt s k) (c := byteAt s k) (fun h => h13 ((b13 _).1 h.2)) (.inl ((b10 _).2 h10)))
        refine (writeString _ _ _ e wr hh (by omega) hb.size).mono ?_
        rintro r w2 ⟨rfl, h2, b2⟩
        go_wp2_with fail
        go_roundw
        case rel => exact ⟨k + 1, by omega, by go_num, by rw [HT.out, HP.out]; exact h2, hb.trans b2⟩
        case measure => simp [intOf]; omega
      · have h10 : (s[k].toNat : Int) = 10 := by assumption
        have h0 : ¬ 0 < k := by assumption
        rw [HE.out] at h10
        have HP := hide (piece_end (e := e.data.toList) (p := prevAt s k) (c := byteAt s k) (fun h => by have := h.2; unfold prevAt at this; rw [if_pos (by omega)] at this; exact absurd this (by decide)) (.inl ((b10 _).2 h10)))
        refine (writeString _ _ _ e wr hh (by omega) hb.size).mono ?_
        rintro r w2 ⟨rfl, h2, b2⟩
        go_wp2_with fail
        go_roundw
        case rel => exact ⟨k + 1, by omega, by go_num, by rw [HT.out, HP.out]; exact h2, hb.trans b2⟩
        case measure => simp [intOf]; omega
      · have h10 : ¬ (s[k].toNat : Int) = 10 := by assumption
        have h13 : ((s[k].toNat : Int) == 10) = true ∨ ((s[k].toNat : Int) == 13) = true := by assumption
        rw [HE.out] at h10 h13
        rw [beq_iff_eq, beq_iff_eq] at h13
        have HP := hide (piece_end (e := e.data.toList) (p := prevAt s k) (c := byteAt s k) (fun h => h10 ((b10 _).1 h.1)) (.inr ((b13 _).2 (by omega))))
        refine (writeString _ _ _ e wr hh (by omega) hb.size).mono ?_
        rintro r w2 ⟨rfl, h2, b2⟩
        go_wp2_with fail
        go_roundw
        case rel => exact ⟨k + 1, by omega, by go_num, by rw [HT.out, HP.out]; exact h2, hb.trans b2⟩
        case measure => simp [intOf]; omega
      · have h10 : ¬ (s[k].toNat : Int) = 10 := by assumption
        have h13 : ((s[k].toNat : Int) == 10) = false ∧ ((s[k].toNat : Int) == 13) = false := by assumption
        rw [HE.out] at h10 h13
        rw [beq_eq_false_iff_ne, beq_eq_false_iff_ne] at h13
        have HP := hide (piece_byte (e := e.data.toList) (p := prevAt s k) (c := byteAt s k) (fun h => h10 ((b10 _).1 h)) (fun h => h13.2 ((b13 _).1 h)))
        rw [HE.out]
        refine (writeByte _ _ _ (byteAt s k) wr hh (by omega) hb.size).mono ?_
        rintro r w2 ⟨rfl, h2, b2⟩
        go_wp2_with fail
        go_roundw
        case rel => exact ⟨k + 1, by omega, by go_num, by rw [HT.out, HP.out]; exact h2, hb.trans b2⟩
        case measure => simp [intOf]; omega
    · have e : k = s.size := by omega
      subst e
      rw [take_all] at hh
      go_wp2_with fail
      refine (builderText _ _ _ _ hh hb.size).mono ?_
      rintro r w2 ⟨rfl, b2⟩
      go_wp2_with fail
      go_ret
      exact ⟨rfl, hb.trans b2⟩
end Go.Proofs.Ytmnpnpmopbkabaa

namespace Go.Proofs.Ytmnpnpmopbkabaa
open Go.RowKit
set_option maxRecDepth 100000
set_option maxHeartbeats 400000 in
theorem pairs_any (s : ByteArray) (w : World) (hs : s.size ≤ 1099511627776) :
    Calls Try.prog 21 #[.string s] w fun r w' => r = .returned (.string (pairsS s)) ∧ Below w.heap.size w w' := by
  go_enter Try.func21, Try.ntmps21
  go_wp2_with fail
  refine (withEnds_any s ⟨#[13, 10]⟩ _ hs (by decide)).mono ?_
  rintro r w1 ⟨rfl, b1⟩
  go_wp2_with fail
  go_ret
  exact ⟨rfl, b1⟩
end Go.Proofs.Ytmnpnpmopbkabaa

namespace Go.Proofs.Ytmnpnpmopbkabaa
open Go.RowKit
set_option maxRecDepth 100000
set_option maxHeartbeats 4000000 in
theorem urPlainO_any (n : Nat) (v : Value) (l : List En) (w : World) (hv : FilesV w v l) (hn : n ≤ 10000000) (hl : EnsOK n l) :
    Calls Try.prog 14 #[v] w fun e w' => ∃ v', e = .returned v' ∧ OwnR w.heap.size w' v' (plainU l) ∧ Below w.heap.size w w' := by
  obtain ⟨p, c, rfl, hv⟩ := hv
  have HV := hide hv
  have h60 := hl.len
  have HL := hide hl
  clear hv hl
  go_enter Try.func14, Try.ntmps14
  go_wp2_with fail
  go_loopw [3, 9] (fun ov iv wr => ∃ (k : Nat) (q : Option Addr) (cp : Nat), k ≤ l.length ∧ iv = .int .i64 k ∧ ov = .slice q k cp ∧ Hid (OwnR w.heap.size wr (.slice q k cp) (plainU (l.take k))) ∧ Hid (Below w.heap.size w wr)) (fun _ iv _ => l.length - (intOf iv).toNat)
  case atStart => exact ⟨0, none, 0, Nat.zero_le _, rfl, rfl, OwnR.nil _ _, Below.refl _ _⟩
  case round =>
    rename World => wr
    obtain ⟨k, q, cp, hk, rfl, rfl, OW, BW⟩ := hrel
    by_cases g : k < l.length
    · have k1 : (k : Int) < (l.length : Int) := by omega
      have k0 : (0 : Int) ≤ (k : Int) := by omega
      obtain ⟨b, o, rfl, hc⟩ : ∃ b o, p = some ⟨b, o, none⟩ ∧ ∀ i (h : i < l.length), EnAt w b (o + i * 5) l[i] := by
        rcases HV.out with t | t
        · rw [t] at g; simp at g
        · exact t
      have EA := (hc k g).below BW.out
      have a0 := EA.c0
      have a1 := EA.c1
      have a2 := EA.c2
      have a3 := EA.c3
      have a4 := EA.c4
      have sz := HL.out.ent _ (List.getElem_mem g)
      have TK := hide (plain_take l g)
      have PL := hide (plain_len l k hk)
      have s0 := sz.1
      have s1 := sz.2.1
      have s2 := sz.2.2.1
      have EP : Hid (plE l[k] = ⟨pairsS l[k].name, pairsS (if l[k].file = true then l[k].fname else l[k].val), false, ⟨#[]⟩, ⟨#[]⟩⟩) := rfl
      have H0 := hide (fun W => pairs_any l[k].name W (by omega))
      have H1 := hide (fun W => pairs_any l[k].val W (by omega))
      have H2 := hide (fun W => pairs_any l[k].fname W (by omega))
      clear hc EA HV HL sz s0 s1 s2
      generalize plE l[k] = pe at *
      generalize l[k].name = t0 at *
      generalize l[k].val = t1 at *
      generalize l[k].fname = t2 at *
      generalize l[k].typ = t3 at *
      generalize l[k].file = fb at *
      cases fb with
      | true =>
        rw [if_pos (by decide)] at EP
        clear H1
        have AL0 : Hid (Below wr.heap.size wr (wr.alloc (.cells #[.string t0, .string t1, .bool true, .string t2, .string t3] 32))) := (Below.refl _ wr).alloc (Nat.le_refl _) _
        have BW0 := hide (chain BW.out AL0.out)
        have OW0 := hide (OW.out.below AL0.out)
        clear AL0 BW OW
        go_wp2_with fail
        refine (H0.out _).mono ?_
        rintro e w1 ⟨rfl, b1⟩
        have B1 := hide (chain BW0.out b1)
        have O1 := hide (OW0.out.below b1)
        clear b1 a0 a1 a2 a3 a4 BW0 OW0
        go_wp2_with fail
        refine (H2.out _).mono ?_
        rintro e w2 ⟨rfl, b2⟩
        have B2 := hide (chain B1.out b2)
        have O2 := hide (O1.out.below b2)
        clear b2 B1 O1 H0 H2
        generalize pairsS t0 = u0 at *
        generalize pairsS t2 = u1 at *
        have F1 := hide (files_one w2 ⟨u0, u1, false, ⟨#[]⟩, ⟨#[]⟩⟩)
        have AL : Hid (Below w2.heap.size w2 (w2.alloc (.cells #[.string u0, .string u1, .bool false, .string ⟨#[]⟩, .string ⟨#[]⟩] 32))) := (Below.refl _ w2).alloc (Nat.le_refl _) _
        have B3 := hide (chain B2.out AL.out)
        have O3 := hide (O2.out.below AL.out)
        have SZ := hide (Nat.le_trans B2.out.size AL.out.size)
        clear AL B2 O2
        go_wp2_with (at_builtin; refine wpList_append_en rfl _ _ rfl w.heap.size _ (plainU (l.take k)) rfl O3.out _ [⟨u0, u1, false, ⟨#[]⟩, ⟨#[]⟩⟩] rfl F1.out (by rw [PL.out]; show (k + 1) * 72 ≤ _; omega) SZ.out ?_; intro q8 c8 w8 o8 b8)
        have O8 : Hid (OwnR w.heap.size w8 (.slice q8 (k + 1) c8) (plainU (l.take (k + 1)))) := by
          show OwnR _ _ _ _
          rw [TK.out, EP.out]
          have := o8
          rw [PL.out] at this
          exact this
        have B8 := hide (B3.out.trans b8)
        clear o8 b8 F1 O3 B3 SZ TK EP
        rw [PL.out]
        clear PL
        go_roundw
        case rel => exact ⟨k + 1, q8, c8, by omega, by go_num, rfl, O8, B8⟩
        case measure => simp [intOf]; omega
      | false =>
        rw [if_neg (by decide)] at EP
        clear H2
        have AL0 : Hid (Below wr.heap.size wr (wr.alloc (.cells #[.string t0, .string t1, .bool false, .string t2, .string t3] 32))) := (Below.refl _ wr).alloc (Nat.le_refl _) _
        have BW0 := hide (chain BW.out AL0.out)
        have OW0 := hide (OW.out.below AL0.out)
        clear AL0 BW OW
        go_wp2_with fail
        refine (H0.out _).mono ?_
        rintro e w1 ⟨rfl, b1⟩
        have B1 := hide (chain BW0.out b1)
        have O1 := hide (OW0.out.below b1)
        clear b1 a0 a1 a2 a3 a4 BW0 OW0
        go_wp2_with fail
        refine (H1.out _).mono ?_
        rintro e w2 ⟨rfl, b2⟩
        have B2 := hide (chain B1.out b2)
        have O2 := hide (O1.out.below b2)
        clear b2 B1 O1 H0 H1
        generalize pairsS t0 = u0 at *
        generalize pairsS t1 = u1 at *
        have F1 := hide (files_one w2 ⟨u0, u1, false, ⟨#[]⟩, ⟨#[]⟩⟩)
        have AL : Hid (Below w2.heap.size w2 (w2.alloc (.cells #[.string u0, .string u1, .bool false, .string ⟨#[]⟩, .string ⟨#[]⟩] 32))) := (Below.refl _ w2).alloc (Nat.le_refl _) _
        have B3 := hide (chain B2.out AL.out)
        have O3 := hide (O2.out.below AL.out)
        have SZ := hide (Nat.le_trans B2.out.size AL.out.size)
        clear AL B2 O2
        go_wp2_with (at_builtin; refine wpList_append_en rfl _ _ rfl w.heap.size _ (plainU (l.take k)) rfl O3.out _ [⟨u0, u1, false, ⟨#[]⟩, ⟨#[]⟩⟩] rfl F1.out (by rw [PL.out]; show (k + 1) * 72 ≤ _; omega) SZ.out ?_; intro q8 c8 w8 o8 b8)
        have O8 : Hid (OwnR w.heap.size w8 (.slice q8 (k + 1) c8) (plainU (l.take (k + 1)))) := by
          show OwnR _ _ _ _
          rw [TK.out, EP.out]
          have := o8
          rw [PL.out] at this
          exact this
        have B8 := hide (B3.out.trans b8)
        clear o8 b8 F1 O3 B3 SZ TK EP
        rw [PL.out]
        clear PL
        go_roundw
        case rel => exact ⟨k + 1, q8, c8, by omega, by go_num, rfl, O8, B8⟩
        case measure => simp [intOf]; omega
    · obtain rfl : k = l.length := by omega
      rw [List.take_length] at OW
      clear HV HL
      go_wp2_with fail
      go_ret
      exact ⟨_, rfl, OW.out, BW.out⟩
end Go.Proofs.Ytmnpnpmopbkabaa

namespace Go.Proofs.Ytmnpnpmopbkabaa
open Go.RowKit
theorem OwnR.oth {B b : Nat} {w w' : World} {v : Value} {fs : List En} (h : OwnR B w v fs) (hb : OthK b w w') (hn : b < B) : OwnR B w' v fs := by
  refine ⟨h.1, ?_⟩
  rcases h.2 with q | ⟨g, cap, cur, rfl, h1, h2, h3⟩
  · exact .inl q
  · exact .inr ⟨g, cap, cur, rfl, h1, hb g _ h2 (fun e => by cases e; omega) (fun c fz e => by cases e), h3⟩
theorem en_ty : 32 ≠ 5 := by decide
theorem OwnR.cellsAt {B : Nat} {w : World} {q : Option Addr} {c : Nat} {p : List En} (h : OwnR B w (.slice q p.length c) p) (k : Nat) (g : k < p.length) : ∃ b o, q = some ⟨b, o, none⟩ ∧ EnAt w b (o + k * 5) p[k] := by
  obtain ⟨q', c', eq, hq⟩ := h.files
  cases eq
  rcases hq with t | ⟨b, o, rfl, hc⟩
  · rw [t] at g; simp at g
  · exact ⟨b, o, rfl, hc k g⟩
theorem plain_rest {l : List En} : ∀ e ∈ plainU l, e.file = false ∧ e.fname = ⟨#[]⟩ ∧ e.typ = ⟨#[]⟩ := by
  intro e he
  obtain ⟨x, _, rfl⟩ := List.mem_map.1 he
  exact ⟨rfl, rfl, rfl⟩
end Go.Proofs.Ytmnpnpmopbkabaa

namespace Go.Proofs.Ytmnpnpmopbkabaa
open Go.RowKit
set_option maxRecDepth 100000
set_option maxHeartbeats 8000000 in
theorem plEncode_any (n : Nat) (v : Value) (l : List En) (w : World) (hv : FilesV w v l) (hn : n ≤ 1000000) (hl : EnsOK n l) (_hT : PlTabs w) :
    Calls Try.prog 8 #[v] w fun e w' => e = .returned (.string (txt (encN l))) ∧ Below w.heap.size w w' := by
  have ALB : Hid (Below w.heap.size w (w.alloc (.cells #[.pointer none, .slice none 0 0] 36))) := (Below.refl _ w).alloc (Nat.le_refl _) _
  have HP := hide (urPlainO_any n v l _ (hv.below ALB.out) (by omega) hl)
  have HBN := hide (HoldsK.new w)
  have szB : (w.alloc (.cells #[.pointer none, .slice none 0 0] 36)).heap.size = w.heap.size + 1 := by simp
  have PS := hide (plain_sizesN hl)
  have PE := hide (plain_rest (l := l))
  have PN : Hid ((plainU l).length ≤ 200) := by show _ ≤ _; unfold plainU; rw [List.length_map]; exact hl.len
  have PT := hide (fun k => enN_len PS.out PN.out k)
  have EE : Hid (txt (enN (plainU l) (plainU l).length) = txt (encN l)) := by show _ = _; unfold enN encN; rw [List.take_length]
  obtain ⟨pl, cl, rfl⟩ : ∃ p c, v = .slice p l.length c := by obtain ⟨p, c, e, _⟩ := hv; exact ⟨p, c, e⟩
  have p200 := PN.out
  have SZB := hide szB
  generalize plainU l = p at *
  generalize txt (encN l) = RES at *
  clear hv hl PN szB
  go_enter Try.func8, Try.ntmps8
  go_wp2_with fail
  refine HP.out.mono ?_
  rintro e wp ⟨vp, rfl, op, bp⟩
  obtain ⟨q, cq, rfl⟩ := op.form
  have PF : Hid (OwnR (w.heap.size + 1) wp (.slice q p.length cq) p) := by show OwnR _ _ _ _; rw [← SZB.out]; exact op
  have h1 := HBN.out.below bp
  have BP := hide (ALB.out.trans (bp.mono ALB.out.size))
  clear op bp HP HBN ALB SZB
  go_wp2_with fail
  go_loopw [9] (fun iv wr => ∃ k : Nat, k ≤ p.length ∧ iv = .int .i64 k ∧ HoldsK w.heap.size w.heap.size (enN p k) wr ∧ Hid (Below w.heap.size w wr) ∧ Hid (OthK w.heap.size wp wr)) (fun iv _ => p.length - (intOf iv).toNat)
  case atStart => exact ⟨0, Nat.zero_le _, rfl, h1, BP, OthK.refl _ _⟩
  case round =>
    rename World => wr
    obtain ⟨k, hk, rfl, HB, BW, KW⟩ := hrel
    clear BP h1
    by_cases g : k < p.length
    · have k1 : (k : Int) < (p.length : Int) := by omega
      have k0 : (0 : Int) ≤ (k : Int) := by omega
      obtain ⟨b, o, rfl, EA⟩ := (PF.out.oth KW.out (Nat.lt_succ_self _)).cellsAt k g
      have sz := PS.out _ (List.getElem_mem g)
      obtain ⟨pe1, pe2, pe3⟩ := PE.out _ (List.getElem_mem g)
      have L0 := PT.out k
      have a0 := EA.c0
      have a1 := EA.c1
      have a2 := EA.c2
      have a3 := EA.c3
      have a4 := EA.c4
      rw [pe1] at a2
      rw [pe2] at a3
      rw [pe3] at a4
      have EX : Hid (enN p (k + 1) = (((enN p k ++ bL p[k].name) ++ [61]) ++ bL p[k].val) ++ [13, 10]) := enN_next g
      clear EA pe1 pe2 pe3 PS PT PF EE PE
      obtain ⟨sz0, sz1⟩ := sz
      generalize enN p k = C at *
      generalize p[k].name = t0 at *
      generalize p[k].val = t1 at *
      have LC : C.length ≤ 1000000000 := by omega
      clear L0
      have AL0 : Hid (Below wr.heap.size wr (wr.alloc (.cells #[.string t0, .string t1, .bool false, .string ⟨#[]⟩, .string ⟨#[]⟩] 32))) := (Below.refl _ wr).alloc (Nat.le_refl _) _
      have K1 := hide (Bk.new wr [.string t0, .string t1, .bool false, .string ⟨#[]⟩, .string ⟨#[]⟩] 32)
      have HB1 := hide (HB.below AL0.out)
      have sw1 := Nat.le_trans BW.out.size AL0.out.size
      have BW1 := hide (BW.out.trans (AL0.out.mono BW.out.size))
      have KW1 := hide (KW.out.then AL0.out)
      have nb : wr.heap.size ≠ w.heap.size := by have := holdsK_lt HB; omega
      have tb := en_ty
      have sx : (⟨#[13, 10]⟩ : ByteArray).size = 2 := rfl
      have x0 := K1.out.cell 0 rfl
      clear AL0 HB BW KW
      go_wp2_with fail
      refine (writeStringK w.heap.size w.heap.size C t0 _ HB1.out (by omega) sw1).mono ?_
      rintro e w3 ⟨rfl, h3, b3, k3⟩
      have K3 := hide (K1.out.oth k3 nb tb)
      have m3 := Nat.le_trans sw1 b3.size
      have BW3 := hide (BW1.out.trans b3)
      have KW3 := hide (KW1.out.trans k3)
      clear b3 k3 K1 x0 HB1 BW1 KW1 sw1
      go_wp2_with fail
      refine (writeByteK w.heap.size w.heap.size _ 61 _ h3 (by simp only [List.length_append, Array.length_toList, ByteArray.size_data]; omega) m3).mono ?_
      rintro e w4 ⟨rfl, h4, b4, k4⟩
      have K4 := hide (K3.out.oth k4 nb tb)
      have m4 := Nat.le_trans m3 b4.size
      have BW4 := hide (BW3.out.trans b4)
      have KW4 := hide (KW3.out.trans k4)
      have x1 := K4.out.cell 1 rfl
      clear h3 b4 k4 K3 m3 BW3 KW3
      go_wp2_with fail
      refine (writeStringK w.heap.size w.heap.size _ t1 _ h4 (by simp only [List.length_append, List.length_cons, List.length_nil, Array.length_toList, ByteArray.size_data]; omega) m4).mono ?_
      rintro e w5 ⟨rfl, h5, b5, k5⟩
      have m5 := Nat.le_trans m4 b5.size
      have BW5 := hide (BW4.out.trans b5)
      have KW5 := hide (KW4.out.trans k5)
      clear h4 b5 k5 K4 x1 m4 BW4 KW4
      go_wp2_with fail
      refine (writeStringK w.heap.size w.heap.size _ ⟨#[13, 10]⟩ _ h5 (by simp only [List.length_append, List.length_cons, List.length_nil, Array.length_toList, ByteArray.size_data]; omega) m5).mono ?_
      rintro e w6 ⟨rfl, h6, b6, k6⟩
      have BW6 := hide (BW5.out.trans b6)
      have KW6 := hide (KW5.out.trans k6)
      have H6 : HoldsK w.heap.size w.heap.size (enN p (k + 1)) w6 := by rw [EX.out]; exact h6
      clear h5 b6 k6 m5 BW5 KW5 h6
      go_wp2_with fail
      go_roundw
      case rel => exact ⟨k + 1, by omega, by go_num, H6, BW6, KW6⟩
      case measure => simp [intOf]; omega
    · obtain rfl : k = p.length := by omega
      clear PF PS PT PE
      go_wp2_with fail
      refine (builderTextK _ _ _ _ HB BW.out.size).mono ?_
      rintro e w2 ⟨rfl, h2, b2, _⟩
      have B2 := BW.out.trans b2
      rw [EE.out]
      clear EE
      go_wp2_with fail
      go_ret
      exact ⟨rfl, B2⟩
end Go.Proofs.Ytmnpnpmopbkabaa

namespace Go.Proofs.Ytmnpnpmopbkabaa
open Go.RowKit
set_option maxRecDepth 100000
def plWl : List En := [⟨⟨#[97]⟩, ⟨#[49]⟩, false, ⟨#[]⟩, ⟨#[]⟩⟩]
theorem pl_enc : txt (encN plWl) = ⟨#[97, 61, 49, 13, 10]⟩ := by kernel_rfl
theorem pl_ok : EnsOK 10 plWl := ⟨by decide, fun e q => by
  simp only [plWl, List.mem_cons, List.not_mem_nil, or_false] at q
  subst q
  decide⟩
theorem beq_txtN (s : ByteArray) : (s.toList == s.toList) = true := by simp
set_option maxHeartbeats 8000000 in
theorem plWakes_any (w : World) (hT : PlTabs w) :
    Calls Try.prog 6 #[] w fun e w' => e = .returned (.bool true) ∧ Below w.heap.size w w' := by
  have AL : Hid (Below w.heap.size w (w.alloc (.cells #[.string ⟨#[97]⟩, .string ⟨#[49]⟩, .bool false, .string ⟨#[]⟩, .string ⟨#[]⟩] 32))) := (Below.refl _ w).alloc (Nat.le_refl _) _
  have FV : Hid (FilesV (w.alloc (.cells #[.string ⟨#[97]⟩, .string ⟨#[49]⟩, .bool false, .string ⟨#[]⟩, .string ⟨#[]⟩] 32)) (.slice (some ⟨w.heap.size, 0, none⟩) 1 1) plWl) := files_one w ⟨⟨#[97]⟩, ⟨#[49]⟩, false, ⟨#[]⟩, ⟨#[]⟩⟩
  have HE := hide (plEncode_any 10 _ plWl _ FV.out (by omega) pl_ok (hT.below AL.out))
  rw [pl_enc] at HE
  clear FV hT
  go_enter Try.func6, Try.ntmps6
  go_wp2_with fail
  refine HE.out.mono ?_
  rintro e w1 ⟨rfl, b1⟩
  go_wp2_with fail
  go_ret
  exact ⟨rfl, chain AL.out b1⟩

end Go.Proofs.Ytmnpnpmopbkabaa
