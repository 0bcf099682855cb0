/- A select's options and which of them are selected, as functions of documents and states. -/
import Derived.Test.YtemikdmkjgmflaaDoorJod5

namespace Go.Proofs.YtemikdmkjgmflaaDoor
open Go.RowKit
def oSld : ByteArray := ⟨#[115, 101, 108, 101, 99, 116, 101, 100]⟩
def rstF (l : List Nd) (i : Int) (c : Ct) : Ct := { c with sel := hasA (nd l i.toNat) oSld, dsel := false }
def resetC (l : List Nd) (C : List Ct) (sel : Int) : List Ct := fixP l (updP (rstF l) (listP l sel) C) sel
def resetO (l : List Nd) (C : List Ct) (sel : Int) : List Ct := if rightD l C = true then resetC l C sel else []
theorem st_upd {f : Int → Ct → Ct} {all : List Int} {C : List Ct} {i : Int} (h0 : 0 ≤ i) (h : i < C.length) : st (updP f all C) i = if i ∈ all then f i (st C i) else st C i := by
  have hi : i.toNat < C.length := by omega
  have e : ((i.toNat : Nat) : Int) = i := by omega
  unfold st
  rw [List.getD_eq_getElem?_getD, List.getElem?_eq_getElem (by rw [updC_len]; exact hi), Option.getD_some, upd_at hi, List.getD_eq_getElem?_getD, List.getElem?_eq_getElem hi, Option.getD_some, e]
theorem last_in {C : List Ct} {all : List Int} (h : 0 ≤ lastP C all) : lastP C all ∈ all ∧ (st C (lastP C all)).sel = true := by
  unfold lastP at *
  cases e : (all.filter fun i => (st C i).sel).getLast? with
  | none => rw [e] at h; simp at h
  | some x => exact List.mem_filter.1 (List.mem_of_getLast? e)
theorem fix_len (l : List Nd) (C : List Ct) (sel : Int) : (fixP l C sel).length = C.length := by
  unfold fixP
  split
  · exact updC_len ..
  · rfl
theorem rightD_len {l : List Nd} {C C' : List Ct} (h : C'.length = C.length) : rightD l C' = rightD l C := by unfold rightD; rw [h]
theorem pick_in {l : List Nd} {C : List Ct} {sel : Int} {all : List Int} : pickP l C sel all = -1 ∨ pickP l C sel all ∈ all := by
  unfold pickP
  split
  · rename_i h; exact .inr (last_in h).1
  · split
    · cases e : all.find? fun i => !offP l i with
      | none => exact .inl rfl
      | some x => exact .inr (List.mem_of_find?_eq_some e)
    · exact .inl rfl
theorem st_only {C : List Ct} {all : List Int} {p i : Int} (hi : i ∈ all) (h0 : 0 ≤ i) (h : i < C.length) : (st (onlyP C all p) i).sel = decide (i = p) := by
  unfold onlyP
  rw [st_upd h0 h, if_pos hi]; rfl

end Go.Proofs.YtemikdmkjgmflaaDoor
