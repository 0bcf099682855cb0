/- The program's functions of layer 24 that its laws call, by the names that the laws' walks use, over the tables that each law's road names. The example of layer 15's statements, as their own function lays it in the world. Stage 24's own copied and long. The program's tables of layer 20's road read as its text lays them. The program's tables of layer 24's road read as its text lays them. -/
import Derived.Test.YtnojgejcmaajmaaGreatDoorJsb9
import Derived.Test.YtnojgejcmaajmaaGreatDoorJsb27
import Derived.Test.YtnojgejcmaajmaaGreatDoorJsb30

namespace Go.Proofs.YtnojgejcmaajmaaGreatDoor
open Go.RowKit
theorem SbTabs.mx {w : World} (h : SbTabs w) : SomeMax w := h.2.1.2.2
end Go.Proofs.YtnojgejcmaajmaaGreatDoor

namespace Go.Proofs.YtnojgejcmaajmaaGreatDoor
open Go.RowKit
set_option maxRecDepth 100000
theorem bk_next {w : World} {o : Obj} {n : Nat} (h : w.heap.size = n) : (w.alloc o).heap.size = n + 1 := by rw [← h]; simp
theorem Bk.at' {w : World} {cs : List Value} {t : TypeId} {n : Nat} (h : w.heap.size = n) : Bk (w.alloc (.cells cs.toArray t)) n cs t := by rw [← h]; exact Bk.new w cs t
theorem addr_neO {b b' o o' : Nat} (h : b ≠ b') : (⟨b, o, none⟩ : Addr) ≠ ⟨b', o', none⟩ := fun e => h (by cases e; rfl)
theorem belRO {B : Nat} {a w : World} (h : Below B a w) (n : Nat) : Below B a (w.drewN n) := ⟨h.os, h.tape, h.output, h.size, h.block⟩
theorem own_form {B : Nat} {w : World} {v : Value} {L : List NdV} {l : List Nd} (h : OwnD B w v L) (e : ndsOf L = l) : ∃ p c, v = .slice p l.length c := by
  obtain ⟨p, c, q, _⟩ := h.nodes
  rw [e] at q
  exact ⟨p, c, q⟩
theorem CtsO.chg {base : Nat} {S : List Nat} {w w' : World} {v : Value} {C : List Ct} {F : List Value} (h : CtsO base w v C F) (hc : Chg S w w') (hs : ∀ k ∈ S, k < base) : CtsO base w' v C F :=
  ⟨h.len, owns_kept h.row hc (fun k hk q => by have := (h.row.lt k hk).1; have := hs k q; omega)⟩
theorem OwnD.chg {base : Nat} {S : List Nat} {w w' : World} {v : Value} {L : List NdV} (h : OwnD base w v L) (hc : Chg S w w') (hs : ∀ k ∈ S, k < base) : OwnD base w' v L :=
  h.kept hc (fun k q r => by have := (h.lt r).1; have := hs k q; omega)
end Go.Proofs.YtnojgejcmaajmaaGreatDoor

namespace Go.Proofs.YtnojgejcmaajmaaGreatDoor
open Go.RowKit
set_option maxRecDepth 100000
def lngS (l : List En) (ds : List ByteArray) : Bool := longU l || (decide (20 < ds.length) || ds.any fun d => decide (500 < d.size))
theorem lngS_yes {l : List En} {ds : List ByteArray} (h : longU l = true ∨ 20 < ds.length ∨ ∃ d ∈ ds, 500 < d.size) : lngS l ds = true := by
  unfold lngS
  rcases h with h | h | ⟨d, hd, h⟩
  · rw [h]; rfl
  · rw [decide_eq_true h, Bool.true_or, Bool.or_true]
  · have e : ds.any (fun d => decide (500 < d.size)) = true := List.any_eq_true.2 ⟨d, hd, decide_eq_true h⟩
    rw [e, Bool.or_true, Bool.or_true]
theorem lngS_no {l : List En} {ds : List ByteArray} (h : longU l = false) (g : ds.length ≤ 20) (k : ∀ d ∈ ds, d.size ≤ 500) : lngS l ds = false := by
  have e : ds.any (fun d => decide (500 < d.size)) = false := List.any_eq_false.2 fun d hd => by have := k d hd; simp; omega
  unfold lngS
  rw [h, e, decide_eq_false (by omega)]; rfl
theorem lngS_out {l : List En} {ds : List ByteArray} (h : lngS l ds = false) : longU l = false ∧ ds.length ≤ 20 ∧ ∀ d ∈ ds, d.size ≤ 500 := by
  refine ⟨Bool.eq_false_iff.2 fun t => ?_, Nat.not_lt.1 fun t => ?_, fun d hd => Nat.not_lt.1 fun t => ?_⟩
  · rw [lngS_yes (Or.inl t)] at h; cases h
  · rw [lngS_yes (Or.inr (Or.inl t))] at h; cases h
  · rw [lngS_yes (Or.inr (Or.inr ⟨d, hd, t⟩))] at h; cases h
set_option maxHeartbeats 8000000 in
theorem sbLong_any (v dv : Value) (l : List En) (ds : List ByteArray) (w : World) (hv : FilesV w v l) (hf : l.length ≤ 4398046511104) (hd : DrawsV w dv ds) (hl : ds.length ≤ 4611686018427387904) (hz : ∀ d ∈ ds, d.size ≤ maxLen) :
    Calls Tryz.prog 7 #[v, dv] w fun e w' => e = .returned (.bool (lngS l ds)) ∧ w' = w := by
  have KT : Hid (longU l = true ∨ 20 < ds.length ∨ (∃ d ∈ ds, 500 < d.size) → lngS l ds = true) := lngS_yes
  have KF : Hid (longU l = false → ds.length ≤ 20 → (∀ d ∈ ds, d.size ≤ 500) → lngS l ds = false) := lngS_no
  generalize lngS l ds = B at *
  have HLg := hide (refLong_any v l w hv hf)
  have DV := hide hd
  have HS : Hid (∀ d ∈ ds, d.size ≤ 9223372036854775807) := hz
  obtain ⟨pd, cd, rfl⟩ : ∃ p c, dv = .slice p ds.length c := by obtain ⟨p, c, e, _⟩ := hd; exact ⟨p, c, e⟩
  obtain ⟨p, c, rfl⟩ := files_formP hv
  clear hv hf hd hz
  cases lg : longU l with
  | true =>
    rw [lg] at HLg
    obtain rfl : B = true := KT.out (Or.inl lg)
    clear lg DV HS KT KF
    go_enter Tryz.func7, Tryz.ntmps7
    go_wp2_with fail
    refine HLg.out.mono ?_
    rintro e w1 ⟨rfl, hu⟩
    obtain rfl : w = w1 := hu.symm
    go_wp2_with fail
    go_ret
    exact ⟨rfl, rfl⟩
  | false =>
    rw [lg] at HLg
    replace KF := hide (KF.out lg)
    clear lg
    by_cases g : 20 < ds.length
    · have d1 : decide (20 < (ds.length : Int)) = true := decide_eq_true (by omega)
      obtain rfl : B = true := KT.out (Or.inr (Or.inl g))
      clear DV HS KT KF
      go_enter Tryz.func7, Tryz.ntmps7
      go_wp2_with fail
      refine HLg.out.mono ?_
      rintro e w1 ⟨rfl, hu⟩
      obtain rfl : w = w1 := hu.symm
      go_wp2_with fail
      go_ret
      exact ⟨rfl, rfl⟩
    · have d1 : decide (20 < (ds.length : Int)) = false := decide_eq_false (by omega)
      replace KF := hide (KF.out (by omega))
      clear g
      go_enter Tryz.func7, Tryz.ntmps7
      go_wp2_with fail
      refine HLg.out.mono ?_
      rintro e w1 ⟨rfl, hu⟩
      obtain rfl : w = w1 := hu.symm
      clear HLg
      go_wp2_with fail
      go_loop [15] (fun iv => ∃ k : Nat, k ≤ ds.length ∧ iv = .int .i64 k ∧ Hid (∀ i (h : i < ds.length), i < k → ds[i].size ≤ 500)) (fun iv => ds.length - (intOf iv).toNat)
      case atStart => exact ⟨0, Nat.zero_le _, rfl, fun i h hi => by omega⟩
      case round =>
        obtain ⟨k, hk, rfl, ZK⟩ := hrel
        by_cases g : k < ds.length
        · have d0 : decide ((k : Int) < (ds.length : Int)) = true := decide_eq_true (by omega)
          have k1 : (k : Int) < (ds.length : Int) := by omega
          have k0 : (0 : Int) ≤ (k : Int) := by omega
          obtain ⟨bb, oo, rfl, x0⟩ := draw_of DV.out g
          have zm := HS.out _ (List.getElem_mem g)
          by_cases gz : 500 < ds[k].size
          · have d2 : decide (500 < (ds[k].size : Int)) = true := decide_eq_true (by omega)
            obtain rfl : B = true := KT.out (Or.inr (Or.inr ⟨_, List.getElem_mem g, gz⟩))
            clear ZK HS DV KT KF
            go_wp2_with fail
            go_ret
            exact ⟨rfl, rfl⟩
          · have d2 : decide (500 < (ds[k].size : Int)) = false := decide_eq_false (by omega)
            have gz' : ds[k].size ≤ 500 := by omega
            have ZN : Hid (∀ i (h : i < ds.length), i < k + 1 → ds[i].size ≤ 500) := fun i h hi => by
              by_cases e : i = k
              · subst e; exact gz'
              · exact ZK.out i h (by omega)
            clear ZK HS DV gz gz' KT KF
            go_wp2_with fail
            go_round
            case rel => exact ⟨k + 1, by omega, by go_num, ZN⟩
            case measure => simp [intOf]; omega
        · obtain rfl : k = ds.length := by omega
          have DS : Hid (∀ d ∈ ds, d.size ≤ 500) := fun d hd => by
            obtain ⟨i, hi, rfl⟩ := List.mem_iff_getElem.1 hd
            exact ZK.out i hi hi
          obtain rfl : B = false := KF.out DS.out
          clear ZK HS DV KT KF DS
          go_wp2_with fail
          go_ret
          exact ⟨rfl, rfl⟩
set_option maxHeartbeats 8000000 in
theorem sbCopied_any (nv cv : Value) (l : List Nd) (C : List Ct) (w : World) (hD : DocV w nv cv l C) (hz : DocSz l) (hC : CsOK C) :
    Calls Tryz.prog 9 #[.agg #[nv, cv]] w fun e w' => ∃ nv' cv', e = .returned (.agg #[nv', cv']) ∧ DocV w' nv' cv' l C ∧ Below w.heap.size w w' := by
  obtain ⟨F, hF⟩ := hD.cts
  have H1 := hide (fun W (hb : Below w.heap.size w W) => refCopied_any nv l W (hD.nds.below hb) hz)
  have H2 := hide (fun W (hb : Below w.heap.size w W) => refOCopied_any cv C F W (hF.below hb) hC)
  have FI := hide hF.1
  obtain ⟨pn, kn, rfl⟩ := nds_form hD.nds
  obtain ⟨pc, kc, rfl⟩ := cts_form hD.cts
  have B0 : Hid (Below w.heap.size w ((w.alloc (.cells #[.slice pn l.length kn, .slice pc C.length kc] 25)).alloc (.cells #[.slice none 0 0, .slice none 0 0] 25))) := ((Below.refl _ w).alloc (Nat.le_refl _) _).alloc ((Below.refl _ w).alloc (Nat.le_refl _) (.cells #[.slice pn l.length kn, .slice pc C.length kc] 25)).size _
  have ND := hide ((Bk.new w [.slice pn l.length kn, .slice pc C.length kc] 25).below ((Below.refl _ (w.alloc (.cells #[.slice pn l.length kn, .slice pc C.length kc] 25))).alloc (Nat.le_refl _) (.cells #[.slice none 0 0, .slice none 0 0] 25)))
  have NR : Hid (Bk ((w.alloc (.cells #[.slice pn l.length kn, .slice pc C.length kc] 25)).alloc (.cells #[.slice none 0 0, .slice none 0 0] 25)) (w.heap.size + 1) [.slice none 0 0, .slice none 0 0] 25) := Bk.at' (bk_next rfl)
  clear hD hz hC hF
  go_enter Tryz.func9, Tryz.ntmps9
  go_upto_region 1 with fail
  generalize (w.alloc (.cells #[.slice pn l.length kn, .slice pc C.length kc] 25)).alloc (.cells #[.slice none 0 0, .slice none 0 0] 25) = w0 at *
  have x0 := ND.out.cell 0 rfl
  have x1 := ND.out.cell 1 rfl
  have r0 := NR.out.cell 0 rfl
  have r1 := NR.out.cell 1 rfl
  have s0 := NR.out.free 0
  have s1 := NR.out.free 1
  have l0 : w.heap.size + 1 < w0.heap.size := NR.out.lt
  go_region_held3 (fun w' => w'.cell? ⟨w.heap.size, 0, none⟩ = some (.slice pn l.length kn) ∧ w'.cell? ⟨w.heap.size, 1, none⟩ = some (.slice pc C.length kc)) (first | go_keep | exact ⟨cell_below x0 U1.out, cell_below x1 U1.out⟩ | exact ⟨cell_below x0 U2.out, cell_below x1 U2.out⟩ | exact ⟨(World.cell?_setCell_other _ _ _ _ (addr_neO (Nat.succ_ne_self _))).trans ((World.cell?_setCell_other _ _ _ _ (addr_neO (Nat.succ_ne_self _))).trans (cell_below x0 U2.out)), (World.cell?_setCell_other _ _ _ _ (addr_neO (Nat.succ_ne_self _))).trans ((World.cell?_setCell_other _ _ _ _ (addr_neO (Nat.succ_ne_self _))).trans (cell_below x1 U2.out))⟩)
    (first | (go_at_call 17; refine (H1.out _ (belRO B0.out 1)).mono ?_; rintro e w1 ⟨v1, L1, rfl, o1, e1, b1⟩; have O1 := hide o1; have E1 := hide e1; obtain ⟨p1, k1, rfl⟩ := own_form o1 e1; clear o1 e1; have U1 : Hid (Below w0.heap.size w0 w1) := undrewO b1) | (go_at_call 32; refine (H2.out _ (chain B0.out U1.out)).mono ?_; rintro e w2 ⟨v2, rfl, o2, b2⟩; have O2 := hide o2; obtain ⟨p2, k2, rfl, _⟩ := o2.form; clear o2; have U2 : Hid (Below w0.heap.size w0 w2) := chain U1.out b2; have y0 := cell_below r0 U2.out; have y1 := cell_below r1 U2.out; have z0 := (U2.out.frozen (World.block_lt_of_cell? _ _ r0)).trans s0; have z1 := (U2.out.frozen (World.block_lt_of_cell? _ _ r1)).trans s1))
  go_wp2_with fail
  refine bodyPost_ret (v := .agg #[.slice p1 l.length k1, .slice p2 C.length k2]) (by simp [results, go_sem, y0, y1]) rfl ?_
  have CH : Chg [w.heap.size + 1] w2 ((w2.setCell ⟨w.heap.size + 1, 0, none⟩ (.slice p1 l.length k1)).setCell ⟨w.heap.size + 1, 1, none⟩ (.slice p2 C.length k2)) := (Chg.setB _ _ _ _).trans (Chg.setB _ _ _ _)
  have BF : Below w.heap.size w ((w2.setCell ⟨w.heap.size + 1, 0, none⟩ (.slice p1 l.length k1)).setCell ⟨w.heap.size + 1, 1, none⟩ (.slice p2 C.length k2)) := ((chain B0.out U2.out).setCell (Nat.le_succ _) _).setCell (Nat.le_succ _) _
  have N1 := ((O1.out.below b2).chg CH (fun k q => by rw [List.mem_singleton.1 q]; exact l0)).nodes
  rw [E1.out] at N1
  exact ⟨_, _, rfl, ⟨N1, (O2.out.chg CH (fun k q => by rw [List.mem_singleton.1 q]; have := U1.out.size; omega)).cts (FI.out.below BF)⟩, BF⟩
end Go.Proofs.YtnojgejcmaajmaaGreatDoor

namespace Go.Proofs.YtnojgejcmaajmaaGreatDoor
open Go.RowKit
set_option maxRecDepth 100000
def sgL : List (List UInt8 × List UInt8) := [([10], [37, 48, 65]), ([13], [37, 48, 68]), ([34], [37, 50, 50])]
theorem sg_eq : (Rows.laid_counterfoil_parts_signs : DataW Unit) = .agg (sgL.map fun u => .agg [.lit (.string u.1), .lit (.string u.2)]) := by kernel_rfl
theorem one_cellS {cs : List Value} {b o : Nat} {u : Value} (h : (((cs.drop b).take 2).drop o).take 1 = [u]) : cs[b + o]? = some u := by
  have e := congrArg (·[0]?) h
  have e' : ((((cs.drop b).take 2).drop o).take 1)[0]? = some u := e
  rw [List.getElem?_take, if_pos (by decide), List.getElem?_drop, List.getElem?_take] at e'
  split at e'
  · rw [List.getElem?_drop, Nat.add_zero] at e'; exact e'
  · cases e'
theorem cellsSg : Tryz.prog.cellsOf 176 = 2 := by kernel_rfl
theorem cellsS1P : Tryz.prog.cellsOf 9 = 1 := by kernel_rfl
theorem sg_row {w : World} (h : Lib.VarReads Tryz.prog w "counterfoil/parts.signs" Rows.laid_counterfoil_parts_signs) (k : Nat) (hk : k < 3) (a b : List UInt8) (hr : sgL[k]? = some (a, b)) :
    w.cell? ⟨3, k * 2, none⟩ = some (.string (txt a)) ∧ w.cell? ⟨3, k * 2 + 1, none⟩ = some (.string (txt b)) := by
  rw [sg_eq] at h
  obtain ⟨g, t, cs, fuel, p, hg, hty, hvar, hd⟩ := h
  have e1 : g = 3 := Option.some.inj (hg.symm.trans (by kernel_rfl))
  subst e1
  have e2 : t = 177 := Option.some.inj (hty.symm.trans (by kernel_rfl))
  subst e2
  obtain ⟨fuel', d, q, hdi, hx⟩ := Lib.array_elem Tryz.underlying177 hd k hk
  rw [cellsSg] at hx
  obtain ⟨xs, n, _, ex, hl, hlen, hf⟩ := DataW.trod_struct Tryz.underlying176 hx
  match xs, hlen with
  | [y0, y1], _ =>
    have f0 := hf 0 _ rfl
    have f1 := hf 1 _ rfl
    obtain ⟨z0, c0, r0, _⟩ := DataW.trod_string Tryz.underlying9 f0
    obtain ⟨z1, c1, r1, _⟩ := DataW.trod_string Tryz.underlying9 f1
    subst r0 r1
    have ed : d = .agg [.lit (.string z0.data.toList), .lit (.string z1.data.toList)] := congrArg Prod.fst ex
    rw [ed, List.getElem?_map, hr] at hdi
    simp only [Option.map_some, Option.some.injEq, DataW.agg.injEq, List.cons.injEq, DataW.lit.injEq, Lit.string.injEq, and_true] at hdi
    obtain ⟨h0, h1⟩ := hdi
    replace c0 : (((cs.toList.drop (k * 2)).take 2).drop 0).take (Tryz.prog.cellsOf 9) = [.string z0] := c0
    replace c1 : (((cs.toList.drop (k * 2)).take 2).drop 1).take (Tryz.prog.cellsOf 9) = [.string z1] := c1
    rw [cellsS1P] at c0 c1
    have t0 : txt a = z0 := by rw [h0]; exact txt_is z0
    have t1 : txt b = z1 := by rw [h1]; exact txt_is z1
    refine ⟨?_, ?_⟩
    · rw [World.var?_cell hg hvar, t0, ← Array.getElem?_toList]; exact one_cellS (o := 0) c0
    · rw [World.var?_cell hg hvar, t1, ← Array.getElem?_toList]; exact one_cellS (o := 1) c1
theorem sgP_of {w : World} (h : Lib.VarReads Tryz.prog w "counterfoil/parts.signs" Rows.laid_counterfoil_parts_signs) : SgP w :=
  ⟨(sg_row h 0 (by decide) _ _ rfl).1, (sg_row h 0 (by decide) _ _ rfl).2, (sg_row h 1 (by decide) _ _ rfl).1, (sg_row h 1 (by decide) _ _ rfl).2, (sg_row h 2 (by decide) _ _ rfl).1, (sg_row h 2 (by decide) _ _ rfl).2⟩
end Go.Proofs.YtnojgejcmaajmaaGreatDoor

namespace Go.Proofs.YtnojgejcmaajmaaGreatDoor
open Go.RowKit
/-- What the rows of SubmitMakes and SubmitBack list. -/
def sbLaid : List (String × DataW Unit) := [("unicode/utf8.acceptRanges", Rows.laid_unicode_utf8_acceptRanges), ("counterfoil/escape.signs", Rows.laid_counterfoil_escape_signs), ("counterfoil/escape.digits", Rows.laid_counterfoil_escape_digits), ("counterfoil/kinds.types", Rows.laid_counterfoil_kinds_types), ("counterfoil/kinds.lastNames", Rows.laid_counterfoil_kinds_lastNames), ("counterfoil/parts.signs", Rows.laid_counterfoil_parts_signs), ("unicode/utf8.first", Rows.laid_unicode_utf8_first)]
theorem sbTabs_at {W : World} (hL : laidMet Tryz.prog sbLaid W) (hsh : W.ShapedOpen Tryz.prog) : SbTabs W :=
  ⟨ktabs_of (Lib.laidMet.reads hL (.tail _ (.tail _ (.tail _ (.head _))))) (Lib.laidMet.reads hL (.tail _ (.tail _ (.tail _ (.tail _ (.head _)))))),
   ⟨signs_of (Lib.laidMet.reads hL (.tail _ (.head _))), digs_of (Lib.laidMet.reads hL (.tail _ (.tail _ (.head _)))), max_of hsh⟩,
   sgP_of (Lib.laidMet.reads hL (.tail _ (.tail _ (.tail _ (.tail _ (.tail _ (.head _))))))), max_of hsh⟩

end Go.Proofs.YtnojgejcmaajmaaGreatDoor
