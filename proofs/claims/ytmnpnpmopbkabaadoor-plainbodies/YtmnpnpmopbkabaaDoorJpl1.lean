/- Facts of no program. append of a row that lies anywhere to a row of the call's own. Entries in a row of the call's own. -/
import Derived.Test.YtmnpnpmopbkabaaDoorRows
import Derived.Test.YtmnpnpmopbkabaaDoorJpl6
import Derived.Deep.AppendLies
import Derived.Maps.AppendAt
import Derived.Laws.OwnMore

namespace Go.Proofs.YtmnpnpmopbkabaaDoor
open Go.RowKit
theorem hide {p : Prop} (h : p) : Hid p := h
theorem ret_int {k : IntKind} {a b : Int} (h : a = b) : Ending.returned (.int k a) = .returned (.int k b) := by rw [h]
theorem ret_bool {a b : Bool} (h : a = b) : Ending.returned (.bool a) = .returned (.bool b) := by rw [h]
/-- Two calls behind one another. -/
theorem chain {w w1 w2 : World} (h1 : Below w.heap.size w w1) (h2 : Below w1.heap.size w1 w2) : Below w.heap.size w w2 := h1.trans (h2.mono h1.size)
end Go.Proofs.YtmnpnpmopbkabaaDoor

namespace Go.Proofs.YtmnpnpmopbkabaaDoor
open Go.RowKit
/-- Cells behind a slice, anywhere. -/
def Raw (w : World) (size : Nat) (v : Value) (n : Nat) (xs : List Value) : Prop := xs.length = n * size ∧ ∃ p c, v = .slice p n c ∧ (n = 0 ∨ ∃ b o, p = some ⟨b, o, none⟩ ∧ ∀ j u, xs[j]? = some u → w.cell? ⟨b, o + j, none⟩ = some u)
theorem run_append_raw0 {P : Program} (w : World) (t ty : TypeId) (base : Nat) (e : TypeId) (i : TypeInfo) (z : Value) (size bytes : Nat) (ht : P.underlying t = some (.slice e)) (hi : P.info? e = some i) (hz : i.zero = some z)
    (hsize : i.size = size) (hby : i.bytes = bytes) (hzs : z.cells.size = size) (hsz : 0 < size)
    (v : Value) (n : Nat) (xs : List Value) (hown : w.ownsRow base e size v n xs) (sv : Value) (m : Nat) (news : List Value) (hraw : Raw w size sv m news) (h1 : ∀ u ∈ news, u.oneCell' = true)
    (h63 : n + m ≤ maxLen) (hbytes : (n + m) * bytes ≤ 140737488355328) (hbase : base ≤ w.heap.size) :
    ∃ v' w', (Builtin.append_ #[t, t] ty #[v, sv]).run P w = .ok v' w' ∧ w'.ownsRow base e size v' (n + m) (xs ++ news) ∧ w.grownBy w' v.ownBlock ∧ (v'.ownBlock = v.ownBlock ∨ v'.ownBlock = some w.heap.size) := by
  obtain ⟨hl, p, c, rfl, hraw⟩ := hraw
  by_cases hp : p = none
  · subst hp
    have hm : m = 0 := by
      rcases hraw with q | ⟨b, o, q, _⟩
      · exact q
      · cases q
    subst hm
    have hn : news = [] := List.eq_nil_of_length_eq_zero (by rw [hl]; omega)
    subst hn
    refine ⟨v, w, ?_, by rw [Nat.add_zero, List.append_nil]; exact hown, ⟨rfl, rfl, rfl, Nat.le_refl _, fun _ _ _ => rfl⟩, .inl rfl⟩
    rcases hown.2 with ⟨rfl, rfl⟩ | ⟨g, cap, cur, rfl, hb, hg, hn1, hn2, hn3, hn4⟩
    · simp [Builtin.append_, run_underlying ht, sizeOf, typeInfo, hi, Builtin.lenOf, run_firstCells_none]
    · simp [Builtin.append_, run_underlying ht, sizeOf, typeInfo, hi, Builtin.lenOf, run_firstCells_none, hn1, storeCells]
  · obtain ⟨a, rfl⟩ : ∃ a, p = some a := Option.ne_none_iff_exists'.1 hp
    have hnews : ∀ j u, news[j]? = some u → w.cell? (a.add j) = some u := by
      intro j u hu
      rcases hraw with q | ⟨b, o, q, h⟩
      · subst q
        have hn : news = [] := List.eq_nil_of_length_eq_zero (by rw [hl]; omega)
        rw [hn] at hu; cases hu
      · cases q
        have hadd : (⟨b, o, none⟩ : Addr).add j = ⟨b, o + j, none⟩ := by unfold Addr.add; split <;> simp_all
        rw [hadd]; exact h j u hu
    obtain ⟨v', w', h2, h3, h4, _, h5⟩ := run_append_own_at (P := P) w base t ty e i z size bytes ht hi hz hsize hby hzs hsz v n xs hown a m c news hl hnews h1 h63 hbytes hbase
    exact ⟨v', w', h2, h3, h4, h5⟩
theorem run_append_raw {P : Program} (w : World) (t ty : TypeId) (base : Nat) (e : TypeId) (i : TypeInfo) (z : Value) (size bytes : Nat) (ht : P.underlying t = some (.slice e)) (hi : P.info? e = some i) (hz : i.zero = some z)
    (hsize : i.size = size) (hby : i.bytes = bytes) (hzs : z.cells.size = size) (hsz : 0 < size)
    (v : Value) (n : Nat) (xs : List Value) (hown : w.ownsRow base e size v n xs) (sv : Value) (m : Nat) (news : List Value) (hraw : Raw w size sv m news) (h1 : ∀ u ∈ news, u.oneCell' = true)
    (h63 : n + m ≤ maxLen) (hbytes : (n + m) * bytes ≤ 140737488355328) (hbase : base ≤ w.heap.size) :
    ∃ q cp w', (Builtin.append_ #[t, t] ty #[v, sv]).run P w = .ok (.slice q (n + m) cp) w' ∧ w'.ownsRow base e size (.slice q (n + m) cp) (n + m) (xs ++ news) ∧ w.grownBy w' v.ownBlock ∧ ((Value.slice q (n + m) cp).ownBlock = v.ownBlock ∨ (Value.slice q (n + m) cp).ownBlock = some w.heap.size) := by
  have F : ∃ v' w', (Builtin.append_ #[t, t] ty #[v, sv]).run P w = .ok v' w' ∧ w'.ownsRow base e size v' (n + m) (xs ++ news) ∧ w.grownBy w' v.ownBlock ∧ (v'.ownBlock = v.ownBlock ∨ v'.ownBlock = some w.heap.size) := run_append_raw0 w t ty base e i z size bytes ht hi hz hsize hby hzs hsz v n xs hown sv m news hraw h1 h63 hbytes hbase
  obtain ⟨v', w', f1, f2, f3, f4⟩ := F
  rcases f2.2 with ⟨rfl, q⟩ | ⟨g, cap, cur, rfl, _⟩
  · exact ⟨none, 0, w', by rw [f1, q], by rw [q] at f2 ⊢; exact f2, f3, by rw [q]; exact f4⟩
  · exact ⟨_, cap, w', f1, f2, f3, f4⟩
theorem wp_append_raw {P : Program} {o : Oper} {a : Act} {w : World} {K : Act → World → Prop} {Q : Exit → Act → World → Prop} (s x : Operand) (t : TypeId)
    (ho : o.op = .call { callee := .builtin .append, args := #[s, x], argTypes := #[t, t] })
    (base : Nat) (e : TypeId) (i : TypeInfo) (z : Value) (size bytes : Nat) (ht : P.underlying t = some (.slice e)) (hi : P.info? e = some i) (hz : i.zero = some z)
    (hsize : i.size = size) (hby : i.bytes = bytes) (hzs : z.cells.size = size) (hsz : 0 < size)
    (v : Value) (n : Nat) (xs : List Value) (hs : a.eval s = v) (hown : w.ownsRow base e size v n xs)
    (sv : Value) (m : Nat) (news : List Value) (hx : a.eval x = sv) (hraw : Raw w size sv m news) (h1 : ∀ u ∈ news, u.oneCell' = true)
    (h63 : n + m ≤ maxLen) (hbytes : (n + m) * bytes ≤ 140737488355328) (hbase : base ≤ w.heap.size)
    (h : ∀ q cp w', w'.ownsRow base e size (.slice q (n + m) cp) (n + m) (xs ++ news) → w.grownBy w' v.ownBlock → ((Value.slice q (n + m) cp).ownBlock = v.ownBlock ∨ (Value.slice q (n + m) cp).ownBlock = some w.heap.size) → K (a.put o.dst (.slice q (n + m) cp)) w') : o.wp P a w K Q := by
  obtain ⟨q, cp, w', hr, h2, h3, h4⟩ := run_append_raw (P := P) w t o.type base e i z size bytes ht hi hz hsize hby hzs hsz v n xs hown sv m news hraw h1 h63 hbytes hbase
  unfold Oper.wp execOp
  simp only [ho, resolve, invoke, builtin, Sem.run_bind, Sem.run_pure, Result.andThen_ok, List.map_toArray, List.map_cons, List.map_nil, hs, hx, hr]
  exact h q cp w' h2 h3 h4
theorem wpList_append_raw {P : Program} {ops : Array Oper} {rest : List Oper} {o : Oper} {a : Act} {w : World} {Q : Exit → Act → World → Prop} (hgd : o.guard = none) (s x : Operand) (t : TypeId)
    (ho : o.op = .call { callee := .builtin .append, args := #[s, x], argTypes := #[t, t] })
    (base : Nat) (e : TypeId) (i : TypeInfo) (z : Value) (size bytes : Nat) (ht : P.underlying t = some (.slice e)) (hi : P.info? e = some i) (hz : i.zero = some z)
    (hsize : i.size = size) (hby : i.bytes = bytes) (hzs : z.cells.size = size) (hsz : 0 < size)
    (v : Value) (n : Nat) (xs : List Value) (hs : a.eval s = v) (hown : w.ownsRow base e size v n xs)
    (sv : Value) (m : Nat) (news : List Value) (hx : a.eval x = sv) (hraw : Raw w size sv m news) (h1 : ∀ u ∈ news, u.oneCell' = true)
    (h63 : n + m ≤ maxLen) (hbytes : (n + m) * bytes ≤ 140737488355328) (hbase : base ≤ w.heap.size)
    (h : ∀ q cp w', w'.ownsRow base e size (.slice q (n + m) cp) (n + m) (xs ++ news) → w.grownBy w' v.ownBlock → ((Value.slice q (n + m) cp).ownBlock = v.ownBlock ∨ (Value.slice q (n + m) cp).ownBlock = some w.heap.size) → wpList P ops Q rest (a.put o.dst (.slice q (n + m) cp)) w') : wpList P ops Q (o :: rest) a w :=
  wpList_plain hgd fun _ hK => wp_append_raw s x t ho base e i z size bytes ht hi hz hsize hby hzs hsz v n xs hs hown sv m news hx hraw h1 h63 hbytes hbase fun q cp w' h2 h3 h4 => hK _ _ (h q cp w' h2 h3 h4)
theorem owns_cell {w : World} {base : Nat} {e : TypeId} {size : Nat} {v : Value} {n : Nat} {xs : List Value} (h : w.ownsRow base e size v n xs) {g : Nat} (hg : v.ownBlock = some g) {j : Nat} {u : Value} (hu : xs[j]? = some u) : w.cell? ⟨g, j, none⟩ = some u := by
  have := h.cells hg j u hu
  rwa [show (⟨g, 0, none⟩ : Addr).add j = ⟨g, j, none⟩ by unfold Addr.add; split <;> simp_all] at this
theorem owns_below {w w' : World} {base : Nat} {e : TypeId} {size : Nat} {v : Value} {n : Nat} {xs : List Value} (h : w.ownsRow base e size v n xs) (hb : Below w.heap.size w w') : w'.ownsRow base e size v n xs := by
  refine ⟨h.1, ?_⟩
  rcases h.2 with q | ⟨g, cap, cur, e1, h1, h2, h3⟩
  · exact .inl q
  · exact .inr ⟨g, cap, cur, e1, h1, (hb.block g (Array.getElem?_eq_some_iff.1 h2).1).trans h2, h3⟩
theorem Bk.raw {w : World} {n : Nat} {cs : List Value} {t : TypeId} (h : Bk w n cs t) (k size : Nat) (hl : cs.length = k * size) (c : Nat) : Raw w size (.slice (some ⟨n, 0, none⟩) k c) k cs :=
  ⟨hl, _, c, rfl, .inr ⟨n, 0, rfl, fun j u hu => by rw [Nat.zero_add]; exact h.cell j hu⟩⟩
/-- Blocks below a bound are left alone by an append to a row that lies above it. -/
theorem rowGrown_below {B : Nat} {a w w' : World} {row : Option Nat} (h : Below B a w) (hB : B ≤ w.heap.size) (hg : w.grownBy w' row) (hr : ∀ k, row = some k → B ≤ k) : Below B a w' :=
  ⟨hg.os.trans h.os, hg.tape.trans h.tape, hg.output.trans h.output, Nat.le_trans h.size hg.size, fun k hk => (hg.block k (by omega) (fun e => by have := hr k e.symm; omega)).trans (h.block k hk)⟩
end Go.Proofs.YtmnpnpmopbkabaaDoor

namespace Go.Proofs.YtmnpnpmopbkabaaDoor
open Go.RowKit
set_option maxRecDepth 100000
/-- The cells of a file. -/
def enCells (e : En) : List Value := [.string e.name, .string e.val, .bool e.file, .string e.fname, .string e.typ]
def cellsE (fs : List En) : List Value := fs.flatMap enCells
theorem cellsE_app (x y : List En) : cellsE (x ++ y) = cellsE x ++ cellsE y := by simp [cellsE]
theorem cellsE_at : ∀ {fs : List En} {i : Nat} (h : i < fs.length) {j : Nat}, j < 5 → (cellsE fs)[i * 5 + j]? = (enCells fs[i])[j]?
  | e :: fs, 0, _, j, hj => by
    show (enCells e ++ cellsE fs)[0 * 5 + j]? = _
    rw [Nat.zero_mul, Nat.zero_add, List.getElem?_append_left (by show j < 5; exact hj)]
    rfl
  | e :: fs, i + 1, h, j, hj => by
    show (enCells e ++ cellsE fs)[(i + 1) * 5 + j]? = _
    rw [List.getElem?_append_right (by show 5 ≤ _; omega), show (i + 1) * 5 + j - (enCells e).length = i * 5 + j by show (i + 1) * 5 + j - 5 = _; omega]
    exact cellsE_at (fs := fs) (by simpa using h) hj
theorem files_own {w : World} {base : Nat} {v : Value} {fs : List En} (h : w.ownsRow base 34 5 v fs.length (cellsE fs)) : FilesV w v fs := by
  rcases h.2 with ⟨e, q⟩ | ⟨g, cap, cur, e, hb, hg, h1, h2, _⟩
  · have : fs = [] := List.eq_nil_of_length_eq_zero q
    subst this
    exact ⟨none, 0, e, .inl rfl⟩
  · refine ⟨_, cap, e, .inr ⟨g, 0, rfl, fun i hi => ?_⟩⟩
    subst e
    have C : ∀ j u, j < 5 → (enCells fs[i])[j]? = some u → w.cell? ⟨g, 0 + i * 5 + j, none⟩ = some u := fun j u hj hu => by
      rw [Nat.zero_add]
      exact owns_cell h rfl ((cellsE_at hi hj).trans hu)
    exact ⟨C 0 _ (by omega) rfl, C 1 _ (by omega) rfl, C 2 _ (by omega) rfl, C 3 _ (by omega) rfl, C 4 _ (by omega) rfl⟩
/-- Files in a row of the call's own. -/
def OwnR (B : Nat) (w : World) (v : Value) (fs : List En) : Prop := w.ownsRow B 34 5 v fs.length (cellsE fs)
theorem OwnR.files {B : Nat} {w : World} {v : Value} {fs : List En} (h : OwnR B w v fs) : FilesV w v fs := files_own h
theorem OwnR.below {B : Nat} {w w' : World} {v : Value} {fs : List En} (h : OwnR B w v fs) (hb : Below w.heap.size w w') : OwnR B w' v fs := owns_below h hb
theorem OwnR.mono {B B' : Nat} {w : World} {v : Value} {fs : List En} (h : OwnR B w v fs) (hb : B' ≤ B) : OwnR B' w v fs := by
  refine ⟨h.1, ?_⟩
  rcases h.2 with hn' | ⟨g, cap, cur, rfl, hb', rest⟩
  · exact .inl hn'
  · exact .inr ⟨g, cap, cur, rfl, by omega, rest⟩
theorem OwnR.form {B : Nat} {w : World} {v : Value} {fs : List En} (h : OwnR B w v fs) : ∃ p c, v = .slice p fs.length c := by
  obtain ⟨p, c, e, _⟩ := h.files
  exact ⟨p, c, e⟩
theorem info_en : (Tryd.prog.info? 34).map (fun i => (i.zero, i.size, i.bytes)) = some (some (.agg #[.string ⟨#[]⟩, .string ⟨#[]⟩, .bool false, .string ⟨#[]⟩, .string ⟨#[]⟩]), 5, 72) := by kernel_rfl
theorem cellsE_len : ∀ (fs : List En), (cellsE fs).length = fs.length * 5
  | [] => rfl
  | e :: fs => by
    show (enCells e ++ cellsE fs).length = (fs.length + 1) * 5
    rw [List.length_append, cellsE_len fs]
    show 5 + _ = _
    omega
theorem cellsE_one : ∀ (fs : List En), ∀ u ∈ cellsE fs, u.oneCell' = true
  | [], u, h => by cases h
  | e :: fs, u, h => by
    have h : u ∈ enCells e ++ cellsE fs := h
    rcases List.mem_append.1 h with h | h
    · simp only [enCells, List.mem_cons, List.not_mem_nil, or_false] at h
      rcases h with rfl | rfl | rfl | rfl | rfl <;> rfl
    · exact cellsE_one fs u h
theorem FilesV.raw {w : World} {v : Value} {fs : List En} (h : FilesV w v fs) : Raw w 5 v fs.length (cellsE fs) := by
  obtain ⟨p, c, e, h⟩ := h
  refine ⟨cellsE_len fs, p, c, e, ?_⟩
  rcases h with h | ⟨b, o, e, h⟩
  · exact .inl (by rw [h]; rfl)
  · refine .inr ⟨b, o, e, fun j u hu => ?_⟩
    have hj : j < fs.length * 5 := by
      rw [← cellsE_len fs]
      exact (List.getElem?_eq_some_iff.1 hu).1
    have hi : j / 5 < fs.length := by omega
    have ej : j = j / 5 * 5 + j % 5 := by omega
    have E := h (j / 5) hi
    have q := cellsE_at hi (j := j % 5) (by omega)
    rw [← ej, hu] at q
    have hm : j % 5 = 0 ∨ j % 5 = 1 ∨ j % 5 = 2 ∨ j % 5 = 3 ∨ j % 5 = 4 := by omega
    have eo : o + j = o + j / 5 * 5 + j % 5 := by omega
    rw [eo]
    rcases hm with hm | hm | hm | hm | hm <;> rw [hm] at q ⊢ <;> cases q
    · exact E.c0
    · exact E.c1
    · exact E.c2
    · exact E.c3
    · exact E.c4
theorem OwnR.nil (B : Nat) (w : World) : OwnR B w (.slice none 0 0) [] := World.ownsRow_nil _ _ _ _
/-- Entries that lie anywhere, put behind an own row. -/
theorem wpList_append_en {ops : Array Oper} {rest : List Oper} {o : Oper} {a : Act} {w : World} {Q : Exit → Act → World → Prop} (hgd : o.guard = none) (s x : Operand)
    (ho : o.op = .call { callee := .builtin .append, args := #[s, x], argTypes := #[22, 22] })
    (base : Nat) (v : Value) (fs : List En) (hs : a.eval s = v) (hown : OwnR base w v fs) (sv : Value) (gs : List En) (hx : a.eval x = sv) (hg : FilesV w sv gs)
    (hl : (fs.length + gs.length) * 72 ≤ 140737488355328) (hbase : base ≤ w.heap.size)
    (h : ∀ q cp w', OwnR base w' (.slice q (fs.length + gs.length) cp) (fs ++ gs) → Below base w w' → wpList Tryd.prog ops Q rest (a.put o.dst (.slice q (fs.length + gs.length) cp)) w') : wpList Tryd.prog ops Q (o :: rest) a w := by
  obtain ⟨i, hi, hz⟩ := Option.map_eq_some_iff.1 info_en
  have h0 : i.zero = some (.agg #[.string ⟨#[]⟩, .string ⟨#[]⟩, .bool false, .string ⟨#[]⟩, .string ⟨#[]⟩]) := congrArg Prod.fst hz
  have h1 : i.size = 5 := congrArg (fun p => p.2.1) hz
  have h2 : i.bytes = 72 := congrArg (fun p => p.2.2) hz
  refine wpList_append_raw hgd s x _ ho base 34 i _ 5 72 Tryd.underlying22 hi h0 h1 h2 rfl (by omega) v fs.length (cellsE fs) hs hown sv gs.length (cellsE gs) hx hg.raw (cellsE_one gs) (by unfold maxLen; omega) hl hbase ?_
  intro q cp w' own gr _
  refine h q cp w' ?_ (rowGrown_below (Below.refl _ _) hbase gr (fun k e => (World.ownsRow.lt hown k e).1))
  show World.ownsRow _ _ _ _ _ _ _
  rw [List.length_append, cellsE_app]
  exact own
/-- One entry in a block of its own. -/
theorem files_one (w : World) (e : En) : FilesV (w.alloc (.cells #[.string e.name, .string e.val, .bool e.file, .string e.fname, .string e.typ] 34)) (.slice (some ⟨w.heap.size, 0, none⟩) 1 1) [e] := by
  have K := Bk.new w [.string e.name, .string e.val, .bool e.file, .string e.fname, .string e.typ] 34
  refine ⟨_, 1, rfl, .inr ⟨w.heap.size, 0, rfl, fun i hi => ?_⟩⟩
  obtain rfl : i = 0 := by have : i < 1 := hi; omega
  exact ⟨K.cell 0 rfl, K.cell 1 rfl, K.cell 2 rfl, K.cell 3 rfl, K.cell 4 rfl⟩
theorem wpList_append_en0 {ops : Array Oper} {rest : List Oper} {o : Oper} {a : Act} {w : World} {Q : Exit → Act → World → Prop} (hgd : o.guard = none) (s x : Operand)
    (ho : o.op = .call { callee := .builtin .append, args := #[s, x], argTypes := #[22, 22] })
    (base : Nat) (v : Value) (hs : a.eval s = v) (hown : OwnR base w v []) (sv : Value) (gs : List En) (hx : a.eval x = sv) (hg : FilesV w sv gs)
    (hl : gs.length * 72 ≤ 140737488355328) (hbase : base ≤ w.heap.size)
    (h : ∀ q cp w', OwnR base w' (.slice q gs.length cp) gs → Below base w w' → wpList Tryd.prog ops Q rest (a.put o.dst (.slice q gs.length cp)) w') : wpList Tryd.prog ops Q (o :: rest) a w := by
  have e : ([] : List En).length + gs.length = gs.length := Nat.zero_add _
  refine wpList_append_en hgd s x ho base v [] hs hown sv gs hx hg (by rw [e]; exact hl) hbase ?_
  rw [e]
  exact h
theorem OwnR.empty (B : Nat) (w : World) (h : B ≤ w.heap.size) : OwnR B (w.alloc (.cells #[] 34)) (.slice (some ⟨w.heap.size, 0, none⟩) 0 0) [] :=
  ⟨rfl, .inr ⟨w.heap.size, 0, #[], rfl, h, (Bk.new w [] 34).lies, Nat.le_refl _, Nat.zero_le _, rfl, rfl⟩⟩

end Go.Proofs.YtmnpnpmopbkabaaDoor
