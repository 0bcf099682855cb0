/- Listeners and calls as they lie in the world. -/
import Derived.Test.YtmobcijigiacoaaJev11

namespace Go.Proofs.Ytmobcijigiacoaa
open Go.RowKit
/-- A listener's cells: what it does is a row that nobody looks into. -/
def lsCells (x : Ls) (a : Value) : List Value := [.int .i64 x.node, .string x.typ, .bool x.cap, a]
def aAt (A : List Value) (i : Nat) : Value := A.getD i (.slice none 0 0)
def cellsL : List Ls → List Value → List Value
  | [], _ => []
  | x :: xs, A => lsCells x (aAt A 0) ++ cellsL xs (A.drop 1)
theorem aAt_drop (A : List Value) (i : Nat) : aAt (A.drop 1) i = aAt A (i + 1) := by
  unfold aAt
  rw [List.getD_eq_getElem?_getD, List.getD_eq_getElem?_getD, List.getElem?_drop, Nat.add_comm]
theorem cellsL_len : ∀ {xs : List Ls} {A : List Value}, (cellsL xs A).length = xs.length * 4
  | [], _ => rfl
  | x :: xs, A => by
    show (lsCells x (aAt A 0) ++ cellsL xs (A.drop 1)).length = _
    rw [List.length_append, cellsL_len, List.length_cons]
    show 4 + _ = _
    omega
theorem cellsL_at : ∀ {xs : List Ls} {A : List Value} {i : Nat} (h : i < xs.length) {j : Nat}, j < 4 → (cellsL xs A)[i * 4 + j]? = (lsCells xs[i] (aAt A i))[j]?
  | [], _, i, h, _, _ => by simp at h
  | x :: xs, A, 0, _, j, hj => by
    show (lsCells x (aAt A 0) ++ cellsL xs (A.drop 1))[0 * 4 + j]? = _
    rw [Nat.zero_mul, Nat.zero_add, List.getElem?_append_left (show j < 4 from hj)]
    rfl
  | x :: xs, A, i + 1, h, j, hj => by
    show (lsCells x (aAt A 0) ++ cellsL xs (A.drop 1))[(i + 1) * 4 + j]? = _
    rw [List.getElem?_append_right (show 4 ≤ (i + 1) * 4 + j by omega), show (i + 1) * 4 + j - (lsCells x (aAt A 0)).length = i * 4 + j by show (i + 1) * 4 + j - 4 = _; omega, cellsL_at (xs := xs) (by simpa using h) hj, aAt_drop]
    rfl
def LsAt (w : World) (b o : Nat) (x : Ls) (a : Value) : Prop := ∀ j u, (lsCells x a)[j]? = some u → w.cell? ⟨b, o + j, none⟩ = some u
structure ActsOK (A : List Value) : Prop where
  sl : ∀ i, ∃ p n c, aAt A i = .slice p n c
def LsF (w : World) (v : Value) (all : List Ls) (A : List Value) : Prop := ActsOK A ∧ ∃ p k, v = .slice p all.length k ∧ (all = [] ∨ ∃ b o, p = some ⟨b, o, none⟩ ∧ ∀ i (h : i < all.length), LsAt w b (o + i * 4) all[i] (aAt A i))
def LsV (w : World) (v : Value) (all : List Ls) : Prop := ∃ A, LsF w v all A
theorem LsAt.below {w w' : World} {b o : Nat} {x : Ls} {a : Value} (h : LsAt w b o x a) (hb : Below w.heap.size w w') : LsAt w' b o x a := fun j u hu => cell_below (h j u hu) hb
theorem LsF.below {w w' : World} {v : Value} {all : List Ls} {A : List Value} (h : LsF w v all A) (hb : Below w.heap.size w w') : LsF w' v all A := by
  obtain ⟨h1, p, k, e, h⟩ := h
  refine ⟨h1, p, k, e, h.imp id ?_⟩
  rintro ⟨b, o, e2, h⟩
  exact ⟨b, o, e2, fun i hi => (h i hi).below hb⟩
theorem LsV.below {w w' : World} {v : Value} {all : List Ls} (h : LsV w v all) (hb : Below w.heap.size w w') : LsV w' v all := by
  obtain ⟨A, h⟩ := h
  exact ⟨A, h.below hb⟩
theorem LsF.raw {w : World} {v : Value} {all : List Ls} {A : List Value} (h : LsF w v all A) : Raw w 4 v all.length (cellsL all A) := by
  obtain ⟨_, p, k, rfl, h⟩ := h
  refine ⟨cellsL_len, p, k, rfl, ?_⟩
  rcases h with rfl | ⟨b, o, rfl, h⟩
  · exact .inl rfl
  · refine .inr ⟨b, o, rfl, fun j u hu => ?_⟩
    have hj : j < all.length * 4 := by
      have := (List.getElem?_eq_some_iff.1 hu).1
      rw [cellsL_len] at this
      exact this
    have hi : j / 4 < all.length := by omega
    have hd := cellsL_at (A := A) hi (j := j % 4) (by omega)
    rw [show j / 4 * 4 + j % 4 = j by omega] at hd
    have := h (j / 4) hi (j % 4) u (by rw [← hd]; exact hu)
    rwa [show o + j / 4 * 4 + j % 4 = o + j by omega] at this
/-- Listeners in a row of the call's own. -/
structure LsO (B : Nat) (w : World) (v : Value) (all : List Ls) (A : List Value) : Prop where
  acts : ActsOK A
  row : w.ownsRow B 41 4 v all.length (cellsL all A)
theorem LsO.below {B : Nat} {w w' : World} {v : Value} {all : List Ls} {A : List Value} (h : LsO B w v all A) (hb : Below w.heap.size w w') : LsO B w' v all A := ⟨h.acts, owns_below h.row hb⟩
theorem acts_nil : ActsOK [] := ⟨fun i => ⟨none, 0, 0, by unfold aAt; rfl⟩⟩
/-- Calls. -/
def cellsK (cs : List Cl) : List Value := cs.flatMap fun c => [.int .i64 c.1, .int .i64 c.2.1, .int .i64 c.2.2]
theorem cellsK_len : ∀ {cs : List Cl}, (cellsK cs).length = cs.length * 3
  | [] => rfl
  | c :: cs => by
    show ([_, _, _] ++ cellsK cs).length = _
    rw [List.length_append, cellsK_len]
    show 3 + cs.length * 3 = (cs.length + 1) * 3
    omega
theorem cellsK_app (x y : List Cl) : cellsK (x ++ y) = cellsK x ++ cellsK y := by simp [cellsK]
theorem cellsK_at : ∀ {cs : List Cl} {i : Nat} (h : i < cs.length) {j : Nat}, j < 3 → (cellsK cs)[i * 3 + j]? = ([Value.int .i64 cs[i].1, .int .i64 cs[i].2.1, .int .i64 cs[i].2.2])[j]?
  | [], i, h, _, _ => by simp at h
  | c :: cs, 0, _, j, hj => by
    show ([Value.int .i64 c.1, .int .i64 c.2.1, .int .i64 c.2.2] ++ cellsK cs)[0 * 3 + j]? = _
    rw [Nat.zero_mul, Nat.zero_add, List.getElem?_append_left (show j < 3 from hj)]
    rfl
  | c :: cs, i + 1, h, j, hj => by
    show ([Value.int .i64 c.1, .int .i64 c.2.1, .int .i64 c.2.2] ++ cellsK cs)[(i + 1) * 3 + j]? = _
    rw [List.getElem?_append_right (show 3 ≤ (i + 1) * 3 + j by omega), show (i + 1) * 3 + j - ([Value.int .i64 c.1, .int .i64 c.2.1, .int .i64 c.2.2]).length = i * 3 + j by show (i + 1) * 3 + j - 3 = _; omega, cellsK_at (by simpa using h) hj]
    rfl
def ClsV (w : World) (v : Value) (cs : List Cl) : Prop := ∃ p k, v = .slice p cs.length k ∧ (cs = [] ∨ ∃ b o, p = some ⟨b, o, none⟩ ∧ ∀ i (h : i < cs.length), w.cell? ⟨b, o + i * 3, none⟩ = some (.int .i64 cs[i].1) ∧ w.cell? ⟨b, o + i * 3 + 1, none⟩ = some (.int .i64 cs[i].2.1) ∧ w.cell? ⟨b, o + i * 3 + 2, none⟩ = some (.int .i64 cs[i].2.2))
def ClsO (B : Nat) (w : World) (v : Value) (cs : List Cl) : Prop := w.ownsRow B 38 3 v cs.length (cellsK cs)
theorem ClsV.below {w w' : World} {v : Value} {cs : List Cl} (h : ClsV w v cs) (hb : Below w.heap.size w w') : ClsV w' v cs := by
  obtain ⟨p, k, e, h⟩ := h
  refine ⟨p, k, e, h.imp id ?_⟩
  rintro ⟨b, o, e2, h⟩
  exact ⟨b, o, e2, fun i hi => ⟨cell_below (h i hi).1 hb, cell_below (h i hi).2.1 hb, cell_below (h i hi).2.2 hb⟩⟩
theorem ClsO.cls {B : Nat} {w : World} {v : Value} {cs : List Cl} (h : ClsO B w v cs) : ClsV w v cs := by
  by_cases h0 : cs = []
  · rcases h.2 with ⟨rfl, _⟩ | ⟨g, cap, cur, rfl, _⟩
    · exact ⟨none, 0, by rw [h0]; rfl, .inl h0⟩
    · exact ⟨_, cap, rfl, .inl h0⟩
  · obtain ⟨g, cap, e, e2, _⟩ := owns_at h (List.length_pos_iff.2 h0)
    refine ⟨_, cap, e, .inr ⟨g, 0, rfl, fun i hi => ?_⟩⟩
    rw [Nat.zero_add]
    exact ⟨owns_cell h e2 (cellsK_at (j := 0) hi (by omega)), owns_cell h e2 (cellsK_at (j := 1) hi (by omega)), owns_cell h e2 (cellsK_at (j := 2) hi (by omega))⟩
theorem ClsV.raw {w : World} {v : Value} {cs : List Cl} (h : ClsV w v cs) : Raw w 3 v cs.length (cellsK cs) := by
  obtain ⟨p, k, rfl, h⟩ := h
  refine ⟨cellsK_len, p, k, rfl, ?_⟩
  rcases h with rfl | ⟨b, o, rfl, h⟩
  · exact .inl rfl
  · refine .inr ⟨b, o, rfl, fun j u hu => ?_⟩
    have hj : j < cs.length * 3 := by
      have := (List.getElem?_eq_some_iff.1 hu).1
      rw [cellsK_len] at this
      exact this
    have hi : j / 3 < cs.length := by omega
    have hd := cellsK_at hi (j := j % 3) (by omega)
    rw [show j / 3 * 3 + j % 3 = j by omega, hu] at hd
    have ho : o + j / 3 * 3 + j % 3 = o + j := by omega
    have t := h (j / 3) hi
    rcases (show j % 3 = 0 ∨ j % 3 = 1 ∨ j % 3 = 2 by omega) with q | q | q
    · rw [q] at hd ho
      cases hd
      rw [← ho]; exact t.1
    · rw [q] at hd ho
      cases hd
      rw [← ho]; exact t.2.1
    · rw [q] at hd ho
      cases hd
      rw [← ho]; exact t.2.2
theorem info_call : (Try.prog.info? 38).map (fun i => (i.zero, i.size, i.bytes)) = some (some (.agg #[.int .i64 0, .int .i64 0, .int .i64 0]), 3, 24) := by kernel_rfl

end Go.Proofs.Ytmobcijigiacoaa
