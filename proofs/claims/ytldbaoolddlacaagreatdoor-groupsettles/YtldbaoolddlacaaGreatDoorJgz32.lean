/- The document's Right, Copied, Only of layer 15. -/
import Derived.Test.YtldbaoolddlacaaGreatDoorJgz3
import Derived.Test.YtldbaoolddlacaaGreatDoorJgz22
import Derived.Deep.RegionLaw

namespace Go.Proofs.YtldbaoolddlacaaGreatDoor
open Go.RowKit
set_option maxRecDepth 100000
theorem infoC : (Tryz.prog.info? 43).map (fun i => (i.zero, i.size, i.bytes)) = some (some (.agg #[.string ⟨#[]⟩, .bool false, .bool false, .bool false, .bool false, .bool false, .bool false, .bool false, .string ⟨#[]⟩, .slice none 0 0]), 10, 64) := by kernel_rfl
theorem cts_form {w : World} {v : Value} {C : List Ct} (h : CtsV w v C) : ∃ p k, v = .slice p C.length k := by
  obtain ⟨F, _, p, k, e, _⟩ := h
  exact ⟨p, k, e⟩
theorem nds_form {w : World} {v : Value} {l : List Nd} (h : NodesV w v l) : ∃ p k, v = .slice p l.length k := by
  obtain ⟨p, k, e, _⟩ := h
  exact ⟨p, k, e⟩
set_option maxHeartbeats 8000000 in
theorem refORight_any (nv cv : Value) (l : List Nd) (C : List Ct) (w : World) (hD : DocV w nv cv l C) (hz : DocSz l) (hC : CsOK C) :
    Calls Tryz.prog 12 #[.agg #[nv, cv]] w fun e w' => e = .returned (.bool (rightD l C)) ∧ Below w.heap.size w w' := by
  have HB : Hid (∀ o : Obj, Below w.heap.size w (w.alloc o)) := fun o => (Below.refl _ w).alloc (Nat.le_refl _) _
  have HR := hide (fun W (hb : Below w.heap.size w W) => refDocRight_any nv l W (hD.nds.below hb) hz)
  obtain ⟨p, c, rfl⟩ := nds_form hD.nds
  obtain ⟨p2, c2, rfl⟩ := cts_form hD.cts
  have hl := hz.len
  have hl2 := hC.len
  have K0 := hide (Bk.new w [.slice p l.length c, .slice p2 C.length c2] 25)
  clear hD hz hC
  cases h : rightB l with
  | false =>
    have E : Hid (rightD l C = false) := by show _ = _; unfold rightD; rw [h]; rfl
    rw [h] at HR
    clear h
    go_enter Tryz.func12, Tryz.ntmps12
    go_wp2_with fail
    refine (HR.out _ (HB.out _)).mono ?_
    rintro e w1 ⟨rfl, b1⟩
    go_wp2_with fail
    go_ret
    exact ⟨ret_bool E.out.symm, chain (HB.out _) b1⟩
  | true =>
    have E : Hid (rightD l C = ((l.length : Int) == (C.length : Int))) := by show _ = _; unfold rightD; rw [h, Bool.true_and]; rfl
    rw [h] at HR
    clear h
    go_enter Tryz.func12, Tryz.ntmps12
    go_wp2_with fail
    refine (HR.out _ (HB.out _)).mono ?_
    rintro e w1 ⟨rfl, b1⟩
    have K1 := K0.out.below b1
    have c0 := K1.cell 0 rfl
    have c1 := K1.cell 1 rfl
    go_wp2_with fail
    go_ret
    exact ⟨ret_bool E.out.symm, chain (HB.out _) b1⟩
set_option maxHeartbeats 8000000 in
theorem refOCopied_any (v : Value) (C : List Ct) (F : List Value) (w : World) (hv : CtsF w v C F) (hC : CsOK C) :
    Calls Tryz.prog 22 #[v] w fun e w' => ∃ v', e = .returned v' ∧ CtsO w.heap.size w' v' C F ∧ Below w.heap.size w w' := by
  have RW := hide hv.raw
  have ONE := hide (cellsC_one hv.1)
  have HF := hide hv.1
  have hl := hC.len
  obtain ⟨iC, hI0, hI1, hI2, hI3⟩ := info_parts infoC
  obtain ⟨p, c, rfl⟩ := cts_form ⟨F, hv⟩
  clear hv hC
  go_enter Tryz.func22, Tryz.ntmps22
  go_wp2_with (at_builtin; refine wpList_append_raw rfl _ _ _ rfl w.heap.size 43 iC _ 10 64 Tryz.underlying23 hI0 hI1 hI2 hI3 rfl (by omega) (.slice none 0 0) 0 [] rfl (World.ownsRow_nil _ _ _ _) _ C.length (cellsC C F) rfl RW.out ONE.out (by unfold maxLen; omega) (by omega) (Nat.le_refl _) ?_; intro q1 c1 w1 own1 gr1 at1)
  rw [Nat.zero_add] at own1 at1
  rw [List.nil_append] at own1
  have B1 : Hid (Below w.heap.size w w1) := (Chg.of_grown gr1).none (fun k q => by simp [Value.ownBlock] at q)
  have O1 : Hid (CtsO w.heap.size w1 (.slice q1 C.length c1) C F) := ⟨HF.out.len, own1⟩
  clear own1 gr1 at1 RW ONE
  go_ret
  exact ⟨_, rfl, O1.out, B1.out⟩
theorem CtsO.form {base : Nat} {w : World} {v : Value} {C : List Ct} {F : List Value} (h : CtsO base w v C F) : ∃ p k, v = .slice p C.length k ∧ C.length ≤ k := by
  rcases h.row.2 with ⟨e, q⟩ | ⟨g, cap, cur, e, hb, hg, h1, h2, _⟩
  · exact ⟨none, 0, by rw [e, q], by omega⟩
  · exact ⟨_, cap, e, h1⟩

end Go.Proofs.YtldbaoolddlacaaGreatDoor
