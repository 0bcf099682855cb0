/- The document's Attr, SameFiles, Same of layer 14. The document's Same of layer 15, at states that are alike. -/
import Derived.Test.YtldbaoolddlacaaDoorJgd42

namespace Go.Proofs.YtldbaoolddlacaaDoor
open Go.RowKit
set_option maxRecDepth 100000
theorem belR {B : Nat} {a w : World} (h : Below B a w) (n : Nat) : Below B a (w.drewN n) := ⟨h.os, h.tape, h.output, h.size, h.block⟩
set_option maxHeartbeats 4000000 in
set_option maxRecDepth 100000 in
theorem refSameFiles_yes (a b : Value) (fs : List En) (w : World) (ha : FilesV w a fs) (hb : FilesV w b fs) (hl : fs.length ≤ 4398046511104) :
    Calls Tryd.prog 46 #[a, b] w fun e w' => e = .returned (.bool true) ∧ Below w.heap.size w w' := by
  obtain ⟨p, c, rfl, ha⟩ := ha
  obtain ⟨q, d, rfl, hb⟩ := hb
  have bl : ((fs.length : Int) != (fs.length : Int)) = false := by simp
  go_enter Tryd.func46, Tryd.ntmps46
  go_wp2_with fail
  go_loopw [5] (fun iv wr => ∃ k : Nat, k ≤ fs.length ∧ iv = .int .i64 k ∧ Hid (Below w.heap.size w wr)) (fun iv _ => fs.length - (intOf iv).toNat)
  case atStart => exact ⟨0, Nat.zero_le _, rfl, Below.refl _ _⟩
  case round =>
    rename World => wr
    obtain ⟨k, hk, rfl, BW⟩ := hrel
    by_cases h : k < fs.length
    · have i1 : (k : Int) < (fs.length : Int) := by omega
      have i0 : (0 : Int) ≤ (k : Int) := by omega
      rcases ha with ha | ⟨b1, o1, rfl, ha⟩
      · rw [ha] at h; simp at h
      rcases hb with hb | ⟨b2, o2, rfl, hb⟩
      · rw [hb] at h; simp at h
      have E1 := (ha k h).below BW.out
      have E2 := (hb k h).below BW.out
      obtain ⟨x0, x1, x2, x3, x4⟩ := E1
      obtain ⟨y0, y1, y2, y3, y4⟩ := E2
      generalize fs[k] = en at *
      obtain ⟨n0, n1, n2, n3, n4⟩ := en
      clear ha hb
      go_wp2_with fail
      go_quiet (fail)
      go_wp2_with fail
      go_roundw
      case rel => exact ⟨k + 1, by omega, by go_num, belR BW.out _⟩
      case measure => simp [intOf]; omega
    · obtain rfl : k = fs.length := by omega
      go_wp2_with fail
      go_ret
      exact ⟨rfl, BW.out⟩
set_option maxHeartbeats 4000000 in
set_option maxRecDepth 100000 in
theorem refCtSame_yes (va vb : Value) (C : Ct) (w : World) (ha : CtlV w va C) (hb : CtlV w vb C) (hl : C.files.length ≤ 4398046511104) :
    Calls Tryd.prog 29 #[va, vb] w fun e w' => e = .returned (.bool true) ∧ Below w.heap.size w w' := by
  obtain ⟨fa, rfl, ha⟩ := ha
  obtain ⟨fb, rfl, hb⟩ := hb
  have HS := hide (fun W (q : Below w.heap.size w W) => refSameFiles_yes fa fb C.files W (ha.below q) (hb.below q) hl)
  obtain ⟨pa, ca, rfl, _⟩ := ha
  obtain ⟨pb, cb, rfl, _⟩ := hb
  unfold ctV ctCells
  obtain ⟨c0, c1, c2, c3, c4, c5, c6, c7, c8, c9⟩ := C
  have BB : Hid (∀ o1 o2, Below w.heap.size w ((w.alloc o1).alloc o2)) := fun o1 o2 => ((Below.refl _ w).alloc (Nat.le_refl _) _).alloc ((Below.refl _ w).alloc (Nat.le_refl _) o1).size _
  clear hl
  go_enter Tryd.func29, Tryd.ntmps29
  go_wp2_with fail
  refine (HS.out _ (BB.out _ _)).mono ?_
  rintro e w1 ⟨rfl, b1⟩
  go_wp2_with fail
  go_ret
  exact ⟨rfl, chain (BB.out _ _) b1⟩
end Go.Proofs.YtldbaoolddlacaaDoor

namespace Go.Proofs.YtldbaoolddlacaaDoor
open Go.RowKit
set_option maxRecDepth 100000
set_option maxHeartbeats 8000000 in
theorem refOSame_yes (va vb : Value) (C : List Ct) (w : World) (ha : CtsV w va C) (hb : CtsV w vb C) (hC : CsOK C) :
    Calls Tryd.prog 13 #[va, vb] w fun e w' => e = .returned (.bool true) ∧ Below w.heap.size w w' := by
  obtain ⟨Fa, fa, pa, ka, rfl, ha⟩ := ha
  obtain ⟨Fb, fb, pb, kb, rfl, hb⟩ := hb
  have hl := hC.len
  have FA := hide fa
  have FB := hide fb
  have HA := hide ha
  have HB := hide hb
  have HZ := hide hC
  have e1 : ((C.length : Int) != (C.length : Int)) = false := by simp
  clear ha hb hC fa fb
  go_enter Tryd.func13, Tryd.ntmps13
  go_wp2_with fail
  go_loopw [5] (fun iv wr => ∃ j : Nat, j ≤ C.length ∧ iv = .int .i64 j ∧ Hid (Below w.heap.size w wr)) (fun iv _ => C.length - (intOf iv).toNat)
  case atStart => exact ⟨0, Nat.zero_le _, rfl, Below.refl _ _⟩
  case round =>
    rename World => wr
    obtain ⟨j, hj, rfl, BW⟩ := hrel
    by_cases g : j < C.length
    · have j1 : (j : Int) < (C.length : Int) := by omega
      have j0 : (0 : Int) ≤ (j : Int) := by omega
      have ha' : ∃ b o, pa = some ⟨b, o, none⟩ ∧ ∀ i (h : i < C.length), CtAt w b (o + i * 10) C[i] (fvAt Fa i) := by
        rcases HA.out with q | q
        · rw [q] at g; simp at g
        · exact q
      have hb' : ∃ b o, pb = some ⟨b, o, none⟩ ∧ ∀ i (h : i < C.length), CtAt w b (o + i * 10) C[i] (fvAt Fb i) := by
        rcases HB.out with q | q
        · rw [q] at g; simp at g
        · exact q
      obtain ⟨ba, oa, rfl, ha1⟩ := ha'
      obtain ⟨bb, ob, rfl, hb1⟩ := hb'
      have hA := (ha1 j g).below BW.out
      have hB := (hb1 j g).below BW.out
      have x0 : wr.cell? ⟨ba, oa + j * 10, none⟩ = some (.string C[j].val) := hA 0 _ rfl
      have x1 : wr.cell? ⟨ba, oa + j * 10 + 1, none⟩ = some (.bool C[j].dirty) := hA 1 _ rfl
      have x2 : wr.cell? ⟨ba, oa + j * 10 + 2, none⟩ = some (.bool C[j].typed) := hA 2 _ rfl
      have x3 : wr.cell? ⟨ba, oa + j * 10 + 3, none⟩ = some (.bool C[j].chk) := hA 3 _ rfl
      have x4 : wr.cell? ⟨ba, oa + j * 10 + 4, none⟩ = some (.bool C[j].dchk) := hA 4 _ rfl
      have x5 : wr.cell? ⟨ba, oa + j * 10 + 5, none⟩ = some (.bool C[j].mixed) := hA 5 _ rfl
      have x6 : wr.cell? ⟨ba, oa + j * 10 + 6, none⟩ = some (.bool C[j].sel) := hA 6 _ rfl
      have x7 : wr.cell? ⟨ba, oa + j * 10 + 7, none⟩ = some (.bool C[j].dsel) := hA 7 _ rfl
      have x8 : wr.cell? ⟨ba, oa + j * 10 + 8, none⟩ = some (.string C[j].custom) := hA 8 _ rfl
      have x9 : wr.cell? ⟨ba, oa + j * 10 + 9, none⟩ = some (fvAt Fa j) := hA 9 _ rfl
      have y0 : wr.cell? ⟨bb, ob + j * 10, none⟩ = some (.string C[j].val) := hB 0 _ rfl
      have y1 : wr.cell? ⟨bb, ob + j * 10 + 1, none⟩ = some (.bool C[j].dirty) := hB 1 _ rfl
      have y2 : wr.cell? ⟨bb, ob + j * 10 + 2, none⟩ = some (.bool C[j].typed) := hB 2 _ rfl
      have y3 : wr.cell? ⟨bb, ob + j * 10 + 3, none⟩ = some (.bool C[j].chk) := hB 3 _ rfl
      have y4 : wr.cell? ⟨bb, ob + j * 10 + 4, none⟩ = some (.bool C[j].dchk) := hB 4 _ rfl
      have y5 : wr.cell? ⟨bb, ob + j * 10 + 5, none⟩ = some (.bool C[j].mixed) := hB 5 _ rfl
      have y6 : wr.cell? ⟨bb, ob + j * 10 + 6, none⟩ = some (.bool C[j].sel) := hB 6 _ rfl
      have y7 : wr.cell? ⟨bb, ob + j * 10 + 7, none⟩ = some (.bool C[j].dsel) := hB 7 _ rfl
      have y8 : wr.cell? ⟨bb, ob + j * 10 + 8, none⟩ = some (.string C[j].custom) := hB 8 _ rfl
      have y9 : wr.cell? ⟨bb, ob + j * 10 + 9, none⟩ = some (fvAt Fb j) := hB 9 _ rfl
      have fz := (HZ.out.fs C[j] (List.getElem_mem g)).len
      have HS : Hid (∀ W, Below w.heap.size w W → Calls Tryd.prog 29 #[.agg #[.string C[j].val, .bool C[j].dirty, .bool C[j].typed, .bool C[j].chk, .bool C[j].dchk, .bool C[j].mixed, .bool C[j].sel, .bool C[j].dsel, .string C[j].custom, fvAt Fa j], .agg #[.string C[j].val, .bool C[j].dirty, .bool C[j].typed, .bool C[j].chk, .bool C[j].dchk, .bool C[j].mixed, .bool C[j].sel, .bool C[j].dsel, .string C[j].custom, fvAt Fb j]] W fun e w' => e = .returned (.bool true) ∧ Below W.heap.size W w') := fun W hb => refCtSame_yes _ _ C[j] W ⟨fvAt Fa j, rfl, (FA.out.at_ j g).below hb⟩ ⟨fvAt Fb j, rfl, (FB.out.at_ j g).below hb⟩ fz
      obtain ⟨p1, n1, e2, r1⟩ := FA.out.at_ j g
      obtain ⟨p2, n2, e3, r2⟩ := FB.out.at_ j g
      rw [e2] at x9 HS
      rw [e3] at y9 HS
      clear HA HB FA FB HZ ha1 hb1 hA hB e2 e3 r1 r2
      generalize C[j].files.length = nf at *
      generalize C[j].val = c0 at *
      generalize C[j].dirty = c1 at *
      generalize C[j].typed = c2 at *
      generalize C[j].chk = c3 at *
      generalize C[j].dchk = c4 at *
      generalize C[j].mixed = c5 at *
      generalize C[j].sel = c6 at *
      generalize C[j].dsel = c7 at *
      generalize C[j].custom = c8 at *
      go_wp2_with fail
      go_region_held3 (fun w' => w'.cell? ⟨ba, oa + j * 10, none⟩ = some (.string c0) ∧ w'.cell? ⟨ba, oa + j * 10 + 1, none⟩ = some (.bool c1) ∧ w'.cell? ⟨ba, oa + j * 10 + 2, none⟩ = some (.bool c2) ∧ w'.cell? ⟨ba, oa + j * 10 + 3, none⟩ = some (.bool c3) ∧ w'.cell? ⟨ba, oa + j * 10 + 4, none⟩ = some (.bool c4) ∧ w'.cell? ⟨ba, oa + j * 10 + 5, none⟩ = some (.bool c5) ∧ w'.cell? ⟨ba, oa + j * 10 + 6, none⟩ = some (.bool c6) ∧ w'.cell? ⟨ba, oa + j * 10 + 7, none⟩ = some (.bool c7) ∧ w'.cell? ⟨ba, oa + j * 10 + 8, none⟩ = some (.string c8) ∧ w'.cell? ⟨ba, oa + j * 10 + 9, none⟩ = some (.slice p1 nf n1) ∧ w'.cell? ⟨bb, ob + j * 10, none⟩ = some (.string c0) ∧ w'.cell? ⟨bb, ob + j * 10 + 1, none⟩ = some (.bool c1) ∧ w'.cell? ⟨bb, ob + j * 10 + 2, none⟩ = some (.bool c2) ∧ w'.cell? ⟨bb, ob + j * 10 + 3, none⟩ = some (.bool c3) ∧ w'.cell? ⟨bb, ob + j * 10 + 4, none⟩ = some (.bool c4) ∧ w'.cell? ⟨bb, ob + j * 10 + 5, none⟩ = some (.bool c5) ∧ w'.cell? ⟨bb, ob + j * 10 + 6, none⟩ = some (.bool c6) ∧ w'.cell? ⟨bb, ob + j * 10 + 7, none⟩ = some (.bool c7) ∧ w'.cell? ⟨bb, ob + j * 10 + 8, none⟩ = some (.string c8) ∧ w'.cell? ⟨bb, ob + j * 10 + 9, none⟩ = some (.slice p2 nf n2)) (first | go_keep | exact ⟨cell_below x0 UR.out, cell_below x1 UR.out, cell_below x2 UR.out, cell_below x3 UR.out, cell_below x4 UR.out, cell_below x5 UR.out, cell_below x6 UR.out, cell_below x7 UR.out, cell_below x8 UR.out, cell_below x9 UR.out, cell_below y0 UR.out, cell_below y1 UR.out, cell_below y2 UR.out, cell_below y3 UR.out, cell_below y4 UR.out, cell_below y5 UR.out, cell_below y6 UR.out, cell_below y7 UR.out, cell_below y8 UR.out, cell_below y9 UR.out⟩)
        (first | (go_at_call 29; refine (HS.out _ (belR BW.out 1)).mono ?_; rintro e wv ⟨rfl, bv⟩; have UR : Hid (Below wr.heap.size wr wv) := undrewO bv))
      go_wp2_with fail
      go_roundw
      case rel => exact ⟨j + 1, by omega, by go_num, chain BW.out UR.out⟩
      case measure => simp [intOf]; omega
    · obtain rfl : j = C.length := by omega
      clear HA HB FA FB HZ
      go_wp2_with fail
      go_ret
      exact ⟨rfl, BW.out⟩

end Go.Proofs.YtldbaoolddlacaaDoor
