/- What a call of layer 15's document has about it. -/
import Derived.Test.YtemikdmkjgmflaaGreatDoorJoz25

namespace Go.Proofs.YtemikdmkjgmflaaGreatDoor
open Go.RowKit
set_option maxRecDepth 100000
/-- States of its own. -/
theorem OEnv.rowed {w W W' : World} {nv cv ov ov' : Value} {C C' : List Ct} {F F' : List Value} (h : OEnv w W nv cv ov C F (.slice none 0 0) []) (b : Below W.heap.size W W') (hr : CtsO W.heap.size W' ov' C' F') : OEnv w W' nv cv ov' C' F' (.slice none 0 0) [] := by
  have k := h.step b
  exact ⟨k.bel, k.doc, ⟨hr.len, owns_mono hr.row h.big⟩, k.kid, fun _ q => by cases q⟩
/-- A list of its own. -/
theorem OEnv.listed {w W W' : World} {nv cv ov av' : Value} {C : List Ct} {F : List Value} {all' : List Int} (h : OEnv w W nv cv ov C F (.slice none 0 0) []) (b : Below W.heap.size W W') (hk : KidsO W.heap.size W' av' all') : OEnv w W' nv cv ov C F av' all' := by
  have k := h.step b
  refine ⟨k.bel, k.doc, k.row, owns_mono hk h.big, fun j q t => ?_⟩
  have h1 := (World.ownsRow.lt hk j q).1
  have h2 := (World.ownsRow.lt h.row.row j t).2
  omega
theorem files_upd {w : World} {C : List Ct} {F : List Value} {f : Int → Ct → Ct} {all : List Int} (h : FilesIn w C F) (hf : ∀ i c, (f i c).files = c.files) : FilesIn w (updP f all C) F :=
  h.other (updC_len ..) (fun i h1 h2 => by
    rw [upd_at h1]
    split
    · exact hf _ _
    · rfl)
theorem own_sel {w W : World} {nv cv av : Value} {po : Option Addr} {n co : Nat} {C : List Ct} {F : List Value} {all : List Int} (h : OEnv w W nv cv (.slice po n co) C F av all) {r : Nat} (hr : r < C.length) :
    ∃ gv, po = some ⟨gv, 0, none⟩ ∧ W.cell? ⟨gv, r * 10 + 6, none⟩ = some (.bool C[r].sel) ∧ W.cell? ⟨gv, r * 10 + 7, none⟩ = some (.bool C[r].dsel) ∧ (∀ j, W.frozen? ⟨gv, j, none⟩ = false) ∧ w.heap.size + 1 ≤ gv ∧ (Value.slice po n co).ownBlock = some gv := by
  obtain ⟨g, cap, e, eb, ge, _⟩ := owns_at h.row.row (by omega)
  cases e
  exact ⟨g, rfl, h.row.at_ eb hr 6 _ rfl, h.row.at_ eb hr 7 _ rfl, fun j => owns_free h.row.row eb j, ge, eb⟩
theorem own_num {w W : World} {nv cv ov : Value} {pa : Option Addr} {ca : Nat} {C : List Ct} {F : List Value} {all : List Int} (h : OEnv w W nv cv ov C F (.slice pa all.length ca) all) {k : Nat} (hk : k < all.length) :
    ∃ ga, pa = some ⟨ga, 0, none⟩ ∧ W.cell? ⟨ga, k, none⟩ = some (.int .i64 all[k]) ∧ (Value.slice pa all.length ca).ownBlock = some ga := by
  obtain ⟨g, cap, e, eb, _⟩ := owns_at h.kid (by omega)
  cases e
  exact ⟨g, rfl, owns_cell h.kid eb (cellsI_at hk), eb⟩

end Go.Proofs.YtemikdmkjgmflaaGreatDoor
