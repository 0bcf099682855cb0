/- A select's options and which of them are selected, as functions of documents and states. The document's Right, Copied, Only of layer 15. The example of layer 15's statements, and how long the states are that its functions answer. -/
import Derived.Test.YtemikdmkjgmflaaDoorJod19

namespace Go.Proofs.YtemikdmkjgmflaaDoor
open Go.RowKit
theorem upd_all {f : Int → Ct → Ct} {all : List Int} {C : List Ct} : updP f (all.take all.length) C = updP f all C := by rw [List.take_length]
end Go.Proofs.YtemikdmkjgmflaaDoor

namespace Go.Proofs.YtemikdmkjgmflaaDoor
open Go.RowKit
set_option maxRecDepth 100000
theorem ctdsel_set (c : Ct) (fv : Value) (b : Bool) : (ctCells c fv).set 7 (.bool b) = ctCells { c with dsel := b } fv := rfl
set_option maxHeartbeats 8000000 in
theorem refOnly_any (base base2 : Nat) (v av : Value) (C : List Ct) (F : List Value) (all : List Int) (p : Int) (w : World) (hO : CtsO base w v C F) (hA : KidsO base2 w av all) (hs : ∀ k, av.ownBlock = some k → v.ownBlock ≠ some k) (hn : all.Nodup) (hr : ∀ i ∈ all, 0 ≤ i ∧ i < (C.length : Int)) (hl : C.length ≤ 2199023255552) (hla : all.length ≤ 400) :
    Calls Tryd.prog 32 #[v, av, .int .i64 p] w fun e w' => e = .returned (.tuple #[]) ∧ CtsO base w' v (onlyP C all p) F ∧ Chg v.ownBlock.toList w w' := by
  obtain ⟨pv, cv, ev, hcv⟩ := hO.form
  obtain ⟨pa, ca, ea, hca⟩ := kids_form hA
  have O0 : Hid (CtsO base w v (updP (onlyF p) (all.take 0) C) F) := by show CtsO _ _ _ _ _; rw [List.take_zero, upd_nil]; exact hO
  have HA := hide hA
  have HS := hide hs
  have ST := hide (fun (k m : Nat) (hk : k < all.length) (hm : all[k] = (m : Int)) (hl : m < C.length) => upd_step (f := onlyF p) (C := C) hk hn hm hl)
  have RG := hide hr
  have VB : Hid (0 < C.length → ∃ g, v = .slice (some ⟨g, 0, none⟩) C.length cv ∧ v.ownBlock = some g ∧ pv = some ⟨g, 0, none⟩) := by
    intro q
    obtain ⟨g, cap, e, eb, _⟩ := owns_at hO.row q
    rw [ev] at e
    cases e
    exact ⟨g, ev, eb, rfl⟩
  have AB : Hid (0 < all.length → ∃ ga, av.ownBlock = some ga ∧ pa = some ⟨ga, 0, none⟩) := by
    intro q
    obtain ⟨g, cap, e, eb, _⟩ := owns_at hA q
    rw [ea] at e
    cases e
    exact ⟨g, eb, rfl⟩
  have EV := hide ev
  have EA := hide ea
  rw [ev, ea]
  clear hO hA hs hr ev ea
  go_enter Tryd.func32, Tryd.ntmps32
  go_wp2_with fail
  go_loopw [6] (fun iv wr => ∃ k : Nat, k ≤ all.length ∧ iv = .int .i64 k ∧ Hid (CtsO base wr v (updP (onlyF p) (all.take k) C) F) ∧ Hid (Chg v.ownBlock.toList w wr)) (fun iv _ => all.length - (intOf iv).toNat)
  case atStart => exact ⟨0, Nat.zero_le _, rfl, O0, Chg.refl _ _⟩
  case round =>
    rename World => wr
    obtain ⟨k, hk, rfl, OW, CH⟩ := hrel
    clear O0
    by_cases g : k < all.length
    · have k1 : (k : Int) < (all.length : Int) := by omega
      have rx := RG.out all[k] (List.getElem_mem g)
      obtain ⟨q, eq, hq⟩ := nat_of (z := all[k]) (n := C.length) (by omega) rx.2
      obtain ⟨gv, _, ebv, rfl⟩ := VB.out (by omega)
      obtain ⟨ga, eba, rfl⟩ := AB.out (by omega)
      have nga : ga ≠ gv := fun t => HS.out ga eba (by rw [ebv, t])
      have x0 : wr.cell? ⟨ga, k, none⟩ = some (.int .i64 (q : Int)) := by
        have h1 := owns_kept HA.out CH.out (fun k' hk' qq => HS.out k' hk' (opt_mem.1 qq))
        rw [← eq]
        exact owns_cell h1 eba (cellsI_at g)
      have st := ST.out k q g eq hq
      have lq : q < (updP (onlyF p) (all.take k) C).length := by rw [updC_len]; exact hq
      have eC : (updP (onlyF p) (all.take k) C)[q] = C[q] := by
        have := st.2
        rw [List.getElem?_eq_getElem lq] at this
        exact Option.some.inj this
      have y0 : wr.cell? ⟨gv, q * 10 + 6, none⟩ = some (.bool C[q].sel) := by
        have := OW.out.at_ ebv lq 6 _ rfl
        rw [eC] at this
        exact this
      have y1 : wr.frozen? ⟨gv, q * 10 + 6, none⟩ = false := owns_free OW.out.row ebv _
      have PUT := hide (fun W (h : CtsO base W v (updP (onlyF p) (all.take k) C) F) => by
        have := h.put (c' := onlyF p (q : Int) C[q]) ebv lq (j := 6) (by omega) (u := .bool ((q : Int) == p)) (by rw [eC]; exact ctsel_set _ _ _)
        rw [st.1] at this
        exact this)
      have EBV := hide ebv
      have q1 : (q : Int) < (C.length : Int) := by omega
      have q0 : (0 : Int) ≤ (q : Int) := by omega
      clear ST RG VB AB HS HA rx eq st eC lq eba hn ebv
      go_wp2_with fail
      go_region
      go_wp2_with fail
      go_roundw
      case rel => exact ⟨k + 1, by omega, by go_num, ⟨(PUT.out _ OW.out).len, (PUT.out _ OW.out).row⟩, CH.out.trans (((Chg.setB wr gv _ _).mono (fun t q _ => by rw [List.mem_singleton.1 q]; exact opt_mem.2 EBV.out)).trans (Chg.drew _).nil)⟩
      case measure => simp [intOf]; omega
    · obtain rfl : k = all.length := by omega
      have OE : Hid (CtsO base wr v (onlyP C all p) F) := by
        have := OW.out
        rw [upd_all] at this
        exact this
      rw [EV.out] at OE CH
      clear ST RG VB AB HS HA OW
      go_wp2_with fail
      refine bodyPost_end (results_none rfl _ _ _) rfl ?_
      exact ⟨rfl, OE.out, CH.out⟩
end Go.Proofs.YtemikdmkjgmflaaDoor

namespace Go.Proofs.YtemikdmkjgmflaaDoor
open Go.RowKit
theorem nil_csok : CsOK [] := ⟨by decide, fun c q => (by cases q), fun c q => (by cases q)⟩
theorem alike_upd {f : Int → Ct → Ct} {all : List Int} {C : List Ct} (hf : ∀ i c, (f i c).files = c.files ∧ (f i c).val = c.val ∧ (f i c).custom = c.custom) : Alike C (updP f all C) := ⟨updC_len .., fun i h => by
  have hi : i < C.length := by rw [updC_len] at h; exact h
  refine ⟨C[i], List.getElem_mem hi, ?_⟩
  rw [upd_at hi]
  split
  · exact hf _ _
  · exact ⟨rfl, rfl, rfl⟩⟩
theorem alike_only (C : List Ct) (all : List Int) (p : Int) : Alike C (onlyP C all p) := alike_upd fun _ _ => ⟨rfl, rfl, rfl⟩

end Go.Proofs.YtemikdmkjgmflaaDoor
