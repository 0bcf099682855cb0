/- Entries in a row of the call's own. The program's copied of layer 14. The program's copying of states. -/
import Derived.Test.YtdbabciafifnaaaGreatDoorJvb24
import Derived.Deep.RegionHeld3

namespace Go.Proofs.YtdbabciafifnaaaGreatDoor
open Go.RowKit
set_option maxRecDepth 100000
/-- The cells of a file. -/
def enCells (e : En) : List Value := [.string e.name, .string e.val, .bool e.file, .string e.fname, .string e.typ]
def cellsE (fs : List En) : List Value := fs.flatMap enCells
theorem cellsE_at : ∀ {fs : List En} {i : Nat} (h : i < fs.length) {j : Nat}, j < 5 → (cellsE fs)[i * 5 + j]? = (enCells fs[i])[j]?
  | e :: fs, 0, _, j, hj => by
    show (enCells e ++ cellsE fs)[0 * 5 + j]? = _
    rw [Nat.zero_mul, Nat.zero_add, List.getElem?_append_left (by show j < 5; exact hj)]
    rfl
  | e :: fs, i + 1, h, j, hj => by
    show (enCells e ++ cellsE fs)[(i + 1) * 5 + j]? = _
    rw [List.getElem?_append_right (by show 5 ≤ _; omega), show (i + 1) * 5 + j - (enCells e).length = i * 5 + j by show (i + 1) * 5 + j - 5 = _; omega]
    exact cellsE_at (fs := fs) (by simpa using h) hj
theorem files_own {w : World} {base : Nat} {v : Value} {fs : List En} (h : w.ownsRow base 132 5 v fs.length (cellsE fs)) : FilesV w v fs := by
  rcases h.2 with ⟨e, q⟩ | ⟨g, cap, cur, e, hb, hg, h1, h2, _⟩
  · have : fs = [] := List.eq_nil_of_length_eq_zero q
    subst this
    exact ⟨none, 0, e, .inl rfl⟩
  · refine ⟨_, cap, e, .inr ⟨g, 0, rfl, fun i hi => ?_⟩⟩
    subst e
    have C : ∀ j u, j < 5 → (enCells fs[i])[j]? = some u → w.cell? ⟨g, 0 + i * 5 + j, none⟩ = some u := fun j u hj hu => by
      rw [Nat.zero_add]
      exact owns_cell h rfl ((cellsE_at hi hj).trans hu)
    exact ⟨C 0 _ (by omega) rfl, C 1 _ (by omega) rfl, C 2 _ (by omega) rfl, C 3 _ (by omega) rfl, C 4 _ (by omega) rfl⟩
/-- Files in a row of the call's own. -/
def OwnR (B : Nat) (w : World) (v : Value) (fs : List En) : Prop := w.ownsRow B 132 5 v fs.length (cellsE fs)
theorem OwnR.files {B : Nat} {w : World} {v : Value} {fs : List En} (h : OwnR B w v fs) : FilesV w v fs := files_own h
theorem OwnR.below {B : Nat} {w w' : World} {v : Value} {fs : List En} (h : OwnR B w v fs) (hb : Below w.heap.size w w') : OwnR B w' v fs := owns_below h hb
theorem OwnR.mono {B B' : Nat} {w : World} {v : Value} {fs : List En} (h : OwnR B w v fs) (hb : B' ≤ B) : OwnR B' w v fs := by
  refine ⟨h.1, ?_⟩
  rcases h.2 with hn' | ⟨g, cap, cur, rfl, hb', rest⟩
  · exact .inl hn'
  · exact .inr ⟨g, cap, cur, rfl, by omega, rest⟩
theorem OwnR.at_ {B : Nat} {w : World} {v : Value} {fs : List En} (h : OwnR B w v fs) (g : Nat) (hg : v.ownBlock = some g) : B ≤ g ∧ g < w.heap.size := ⟨(h.lt g hg).1, (h.lt g hg).2⟩
theorem OwnR.set {B : Nat} {w : World} {v : Value} {fs : List En} (h : OwnR B w v fs) {m : Nat} (hm : ∀ g, v.ownBlock = some g → g ≠ m) (k : Nat) (u : Value) : OwnR B (w.setCell ⟨m, k, none⟩ u) v fs := by
  refine ⟨h.1, ?_⟩
  rcases h.2 with q | ⟨g, cap, cur, e1, h1, h2, h3⟩
  · exact .inl q
  · exact .inr ⟨g, cap, cur, e1, h1, (Below.heap_setCell _ _ _ _ (hm g (by rw [e1]; rfl))).trans h2, h3⟩
theorem OwnR.nil (B : Nat) (w : World) : OwnR B w (.slice none 0 0) [] := World.ownsRow_nil _ _ _ _
end Go.Proofs.YtdbabciafifnaaaGreatDoor

namespace Go.Proofs.YtdbabciafifnaaaGreatDoor
open Go.RowKit
set_option maxRecDepth 100000
theorem list_same : ∀ {l : List Value} {k : Nat} {u : Value}, l[k]? = some u → l.set k u = l
  | _ :: _, 0, _, h => by cases h; rfl
  | a :: l, k + 1, u, h => by show a :: l.set k u = _; rw [list_same (l := l) (k := k) h]
theorem Bk.same {w : World} {n : Nat} {cs : List Value} {t : TypeId} (h : Bk w n cs t) (k : Nat) {u : Value} (hu : cs[k]? = some u) : Bk (w.setCell ⟨n, k, none⟩ u) n cs t := by
  have := h.set k u
  rwa [list_same hu] at this
end Go.Proofs.YtdbabciafifnaaaGreatDoor

namespace Go.Proofs.YtdbabciafifnaaaGreatDoor
open Go.RowKit
set_option maxRecDepth 100000
/-- The files of states, each in a row of the call's own. -/
structure FsO (B : Nat) (w : World) (C : List Ct) (F : List Value) : Prop where
  len : F.length = C.length
  at_ : ∀ i (h : i < C.length), OwnR B w (fvAt F i) C[i].files
theorem FsO.below {B : Nat} {w w' : World} {C : List Ct} {F : List Value} (h : FsO B w C F) (hb : Below w.heap.size w w') : FsO B w' C F := ⟨h.len, fun i hi => (h.at_ i hi).below hb⟩
theorem FsO.files {B : Nat} {w : World} {C : List Ct} {F : List Value} (h : FsO B w C F) : FilesIn w C F := ⟨h.len, fun i hi => (h.at_ i hi).files⟩
theorem FsO.mono {B B' : Nat} {w : World} {C : List Ct} {F : List Value} (h : FsO B w C F) (hb : B' ≤ B) : FsO B' w C F := ⟨h.len, fun i hi => (h.at_ i hi).mono hb⟩

end Go.Proofs.YtdbabciafifnaaaGreatDoor
