/- The document's Make of layer 24. The program's Make of layer 24. -/
import Derived.Test.YtnojgejcmaajmaaGreatDoorJsb28
import Derived.Test.YtnojgejcmaajmaaGreatDoorJsb31

namespace Go.Proofs.YtnojgejcmaajmaaGreatDoor
open Go.RowKit
set_option maxRecDepth 100000
theorem draws_formS {w : World} {v : Value} {ds : List ByteArray} (h : DrawsV w v ds) : ∃ p c, v = .slice p ds.length c := by
  obtain ⟨p, c, e, _⟩ := h
  exact ⟨p, c, e⟩
theorem Bk.atS {w : World} {cs : List Value} {t : TypeId} {n : Nat} (h : w.heap.size = n) : Bk (w.alloc (.cells cs.toArray t)) n cs t := by rw [← h]; exact Bk.new w cs t
theorem al_nextS (w : World) (o : Obj) : (w.alloc o).heap.size = w.heap.size + 1 := by simp
theorem ret_pl {a b : Array Value} {c d : Int} (h : a = b) (g : c = d) : Ending.returned (.tuple #[.agg a, .int .i64 c]) = .returned (.tuple #[.agg b, .int .i64 d]) := by rw [h, g]
end Go.Proofs.YtnojgejcmaajmaaGreatDoor

namespace Go.Proofs.YtnojgejcmaajmaaGreatDoor
open Go.RowKit
set_option maxRecDepth 100000
theorem kn_frm {l : List Nd} {m : Nat} (hm : m < l.length) : kI l (m : Int) = 30 ↔ nmI l (m : Int) = oForm := by
  unfold kI kN nmI
  rw [Int.toNat_natCast, nd_at hm]
  exact kOf_frm
/-- The settings' closure, in a world where what it has captured lies. -/
abbrev ToldB (w : World) (v : Value) (m : Nat) (l : List Nd) (sub : Int) (Bi Bl Bs Bf : Nat) : Prop := ToldC w v (m : Int) sub (firesP l sub) Bi Bl Bs Bf
set_option maxHeartbeats 32000000 in
theorem sbMake_any (n : Nat) (nv cv v dv : Value) (l : List Nd) (C : List Ct) (form sub : Int) (es : List En) (ds : List ByteArray) (w : World) (hD : DocV w nv cv l C) (hz : DocSz l) (hC : CsOK C) (hv : FilesV w v es) (hd : DrawsV w dv ds) (hn : n ≤ 1000000) (he : EnsOK n es) (h5 : ∀ d ∈ ds, d.size ≤ 500) (hT : KTabs w ∧ PlTabs w) :
    Calls Tryz.prog 8 #[.agg #[nv, cv], .int .i64 form, .int .i64 sub, v, dv] w fun e w' => e = .returned (.tuple #[.agg (makP l C form sub es ds).1.vals.toArray, .int .i64 (makP l C form sub es ds).2]) ∧ Below w.heap.size w w' := by
  have HR := hide (fun W (hb : Below w.heap.size w W) => opRightG_any nv cv l C W (hD.below hb) hz)
  obtain ⟨p, c, rfl⟩ := nds_formW hD.nds
  obtain ⟨p2, c2, rfl⟩ := cts_form hD.cts
  have HI := hide (fun W (_ : Below w.heap.size w W) => (sbIsThere_any p l.length c form W).mono fun e w' (h : e = .returned (.bool (hereB l.length form)) ∧ w' = W) => (⟨h.1, by rw [h.2]; exact Below.refl _ _⟩ : e = .returned (.bool (hereB l.length form)) ∧ Below W.heap.size W w'))
  have hl := hz.len
  have hl2 := hC.len
  cases h : hereB l.length form with
  | false =>
    have EM : makP l C form sub es ds = (pl0, 4) := by unfold makP; rw [if_pos (.inr (by rw [hasN_here, h]; rfl))]
    rw [h] at HI
    obtain ⟨pe, ce, rfl⟩ := files_formP hv
    obtain ⟨pd, cd, rfl⟩ := draws_formS hd
    clear hz hC hv hd he h5 hD h hT HR
    obtain ⟨RA, hRA⟩ : ∃ R, Hid ((makP l C form sub es ds).1.vals.toArray = R) := ⟨_, show _ = _ from rfl⟩
    obtain ⟨RB, hRB⟩ : ∃ R, Hid ((makP l C form sub es ds).2 = R) := ⟨_, show _ = _ from rfl⟩
    rw [hRA.out, hRB.out]
    have R1 : Hid (RA = #[.string ⟨#[]⟩, .string ⟨#[]⟩, .string ⟨#[]⟩, .string ⟨#[]⟩, .string ⟨#[]⟩]) := by show _ = _; rw [← hRA.out, EM]; rfl
    have R2 : Hid (RB = 4) := by show _ = _; rw [← hRB.out, EM]
    clear EM hRA hRB
    go_enter Tryz.func8, Tryz.ntmps8
    go_upto_region 1 with fail
    have D0 : Hid (Bk ((w.alloc (.cells #[.slice p l.length c, .slice p2 C.length c2] 25)).alloc (.cells #[.string ⟨#[]⟩, .string ⟨#[]⟩, .string ⟨#[]⟩, .string ⟨#[]⟩, .string ⟨#[]⟩] 33)) w.heap.size [.slice p l.length c, .slice p2 C.length c2] 25) := (Bk.new w [.slice p l.length c, .slice p2 C.length c2] 25).below ((Below.refl _ _).alloc (Nat.le_refl _) _)
    have D1 : Hid (Bk ((w.alloc (.cells #[.slice p l.length c, .slice p2 C.length c2] 25)).alloc (.cells #[.string ⟨#[]⟩, .string ⟨#[]⟩, .string ⟨#[]⟩, .string ⟨#[]⟩, .string ⟨#[]⟩] 33)) (w.heap.size + 1) [.string ⟨#[]⟩, .string ⟨#[]⟩, .string ⟨#[]⟩, .string ⟨#[]⟩, .string ⟨#[]⟩] 33) := Bk.atS (al_nextS w _)
    have BB : Hid (Below w.heap.size w ((w.alloc (.cells #[.slice p l.length c, .slice p2 C.length c2] 25)).alloc (.cells #[.string ⟨#[]⟩, .string ⟨#[]⟩, .string ⟨#[]⟩, .string ⟨#[]⟩, .string ⟨#[]⟩] 33))) := ((Below.refl _ w).alloc (Nat.le_refl _) _).alloc (by rw [al_nextS]; exact Nat.le_succ _) _
    have n1le : w.heap.size ≤ w.heap.size + 1 := Nat.le_succ _
    have n01 : w.heap.size ≠ w.heap.size + 1 := by omega
    generalize ((w.alloc (.cells #[.slice p l.length c, .slice p2 C.length c2] 25)).alloc (.cells #[.string ⟨#[]⟩, .string ⟨#[]⟩, .string ⟨#[]⟩, .string ⟨#[]⟩, .string ⟨#[]⟩] 33)) = w0 at *
    generalize w.heap.size + 1 = n1 at *
    have c0 := D0.out.cell 0 rfl
    have c1 := D0.out.cell 1 rfl
    have g0 := D1.out.cell 0 rfl
    have h0 := D1.out.free 0
    have g1 := D1.out.cell 1 rfl
    have h1 := D1.out.free 1
    have g2 := D1.out.cell 2 rfl
    have h2 := D1.out.free 2
    have g3 := D1.out.cell 3 rfl
    have h3 := D1.out.free 3
    have g4 := D1.out.cell 4 rfl
    have h4 := D1.out.free 4
    go_wp2_with fail
    refine (HI.out _ BB.out).mono ?_
    rintro e w1 ⟨rfl, bx⟩
    clear c0 c1 g0 g1 g2 g3 g4 h0 h1 h2 h3 h4
    replace BB := hide (chain BB.out bx)
    replace D0 := hide (D0.out.below bx)
    replace D1 := hide (D1.out.below bx)
    clear bx
    have c0 := D0.out.cell 0 rfl
    have c1 := D0.out.cell 1 rfl
    have g0 := D1.out.cell 0 rfl
    have h0 := D1.out.free 0
    have g1 := D1.out.cell 1 rfl
    have h1 := D1.out.free 1
    have g2 := D1.out.cell 2 rfl
    have h2 := D1.out.free 2
    have g3 := D1.out.cell 3 rfl
    have h3 := D1.out.free 3
    have g4 := D1.out.cell 4 rfl
    have h4 := D1.out.free 4
    go_wp2_with fail
    refine bodyPost_ret (v := .tuple #[.agg #[.string ⟨#[]⟩, .string ⟨#[]⟩, .string ⟨#[]⟩, .string ⟨#[]⟩, .string ⟨#[]⟩], .int .i64 4]) (by simp [results, go_sem, g0, g1, g2, g3, g4]) rfl ?_
    exact ⟨ret_pl R1.out.symm R2.out.symm, low5 BB.out n1le _ _ _ _ _⟩
  | true =>
    rw [h] at HI
    cases hr : rightD l C with
    | false =>
      have EM : makP l C form sub es ds = (pl0, 4) := by unfold makP; rw [if_pos (.inl hr)]
      rw [hr] at HR
      obtain ⟨pe, ce, rfl⟩ := files_formP hv
      obtain ⟨pd, cd, rfl⟩ := draws_formS hd
      clear hz hC hv hd he h5 hD h hT hr
      obtain ⟨RA, hRA⟩ : ∃ R, Hid ((makP l C form sub es ds).1.vals.toArray = R) := ⟨_, show _ = _ from rfl⟩
      obtain ⟨RB, hRB⟩ : ∃ R, Hid ((makP l C form sub es ds).2 = R) := ⟨_, show _ = _ from rfl⟩
      rw [hRA.out, hRB.out]
      have R1 : Hid (RA = #[.string ⟨#[]⟩, .string ⟨#[]⟩, .string ⟨#[]⟩, .string ⟨#[]⟩, .string ⟨#[]⟩]) := by show _ = _; rw [← hRA.out, EM]; rfl
      have R2 : Hid (RB = 4) := by show _ = _; rw [← hRB.out, EM]
      clear EM hRA hRB
      go_enter Tryz.func8, Tryz.ntmps8
      go_upto_region 1 with fail
      have D0 : Hid (Bk ((w.alloc (.cells #[.slice p l.length c, .slice p2 C.length c2] 25)).alloc (.cells #[.string ⟨#[]⟩, .string ⟨#[]⟩, .string ⟨#[]⟩, .string ⟨#[]⟩, .string ⟨#[]⟩] 33)) w.heap.size [.slice p l.length c, .slice p2 C.length c2] 25) := (Bk.new w [.slice p l.length c, .slice p2 C.length c2] 25).below ((Below.refl _ _).alloc (Nat.le_refl _) _)
      have D1 : Hid (Bk ((w.alloc (.cells #[.slice p l.length c, .slice p2 C.length c2] 25)).alloc (.cells #[.string ⟨#[]⟩, .string ⟨#[]⟩, .string ⟨#[]⟩, .string ⟨#[]⟩, .string ⟨#[]⟩] 33)) (w.heap.size + 1) [.string ⟨#[]⟩, .string ⟨#[]⟩, .string ⟨#[]⟩, .string ⟨#[]⟩, .string ⟨#[]⟩] 33) := Bk.atS (al_nextS w _)
      have BB : Hid (Below w.heap.size w ((w.alloc (.cells #[.slice p l.length c, .slice p2 C.length c2] 25)).alloc (.cells #[.string ⟨#[]⟩, .string ⟨#[]⟩, .string ⟨#[]⟩, .string ⟨#[]⟩, .string ⟨#[]⟩] 33))) := ((Below.refl _ w).alloc (Nat.le_refl _) _).alloc (by rw [al_nextS]; exact Nat.le_succ _) _
      have n1le : w.heap.size ≤ w.heap.size + 1 := Nat.le_succ _
      have n01 : w.heap.size ≠ w.heap.size + 1 := by omega
      generalize ((w.alloc (.cells #[.slice p l.length c, .slice p2 C.length c2] 25)).alloc (.cells #[.string ⟨#[]⟩, .string ⟨#[]⟩, .string ⟨#[]⟩, .string ⟨#[]⟩, .string ⟨#[]⟩] 33)) = w0 at *
      generalize w.heap.size + 1 = n1 at *
      have c0 := D0.out.cell 0 rfl
      have c1 := D0.out.cell 1 rfl
      have g0 := D1.out.cell 0 rfl
      have h0 := D1.out.free 0
      have g1 := D1.out.cell 1 rfl
      have h1 := D1.out.free 1
      have g2 := D1.out.cell 2 rfl
      have h2 := D1.out.free 2
      have g3 := D1.out.cell 3 rfl
      have h3 := D1.out.free 3
      have g4 := D1.out.cell 4 rfl
      have h4 := D1.out.free 4
      go_wp2_with fail
      refine (HI.out _ BB.out).mono ?_
      rintro e w1 ⟨rfl, bx⟩
      clear c0 c1 g0 g1 g2 g3 g4 h0 h1 h2 h3 h4
      replace BB := hide (chain BB.out bx)
      replace D0 := hide (D0.out.below bx)
      replace D1 := hide (D1.out.below bx)
      clear bx
      have c0 := D0.out.cell 0 rfl
      have c1 := D0.out.cell 1 rfl
      have g0 := D1.out.cell 0 rfl
      have h0 := D1.out.free 0
      have g1 := D1.out.cell 1 rfl
      have h1 := D1.out.free 1
      have g2 := D1.out.cell 2 rfl
      have h2 := D1.out.free 2
      have g3 := D1.out.cell 3 rfl
      have h3 := D1.out.free 3
      have g4 := D1.out.cell 4 rfl
      have h4 := D1.out.free 4
      go_wp2_with fail
      refine (HR.out _ BB.out).mono ?_
      rintro e w2 ⟨rfl, bx⟩
      clear c0 c1 g0 g1 g2 g3 g4 h0 h1 h2 h3 h4
      replace BB := hide (chain BB.out bx)
      replace D0 := hide (D0.out.below bx)
      replace D1 := hide (D1.out.below bx)
      clear bx
      have c0 := D0.out.cell 0 rfl
      have c1 := D0.out.cell 1 rfl
      have g0 := D1.out.cell 0 rfl
      have h0 := D1.out.free 0
      have g1 := D1.out.cell 1 rfl
      have h1 := D1.out.free 1
      have g2 := D1.out.cell 2 rfl
      have h2 := D1.out.free 2
      have g3 := D1.out.cell 3 rfl
      have h3 := D1.out.free 3
      have g4 := D1.out.cell 4 rfl
      have h4 := D1.out.free 4
      go_wp2_with fail
      refine bodyPost_ret (v := .tuple #[.agg #[.string ⟨#[]⟩, .string ⟨#[]⟩, .string ⟨#[]⟩, .string ⟨#[]⟩, .string ⟨#[]⟩], .int .i64 4]) (by simp [results, go_sem, g0, g1, g2, g3, g4]) rfl ?_
      exact ⟨ret_pl R1.out.symm R2.out.symm, low5 BB.out n1le _ _ _ _ _⟩
    | true =>
      rw [hr] at HR
      obtain ⟨m, rfl, hm⟩ := here_of h
      have hR := (rightD_is hr).1
      have hN : hasN l (m : Int) = true := by rw [hasN_here, h, right_is.2 hR]; rfl
      obtain ⟨b, o, va, pk, nk, ck, rfl, N⟩ := node_ofW hD.nds hm
      have nz := hz.nds _ (List.getElem_mem hm)
      have HKo := hide (fun W (hb : Below w.heap.size w W) => of_any l[m] va (.slice pk nk ck) W (hT.1.below hb) (N.at_.below hb) nz.attrs nz.tx)
      have EK : kOf l[m].name (tyOf l[m].attrs) = kI l (m : Int) := by unfold kI kN; rw [Int.toNat_natCast, nd_at hm]
      rw [EK] at HKo
      clear EK
      obtain ⟨pa, ca, rfl, hxx⟩ := N.at_
      clear hxx nz
      have nc0 := hide N.name
      have nc1 := hide N.text
      have nc2 := hide N.attrs
      have nc3 := hide N.parent
      have nc4 := hide N.kids
      have m0 : (0 : Int) ≤ (m : Int) := by omega
      have m1 : (m : Int) < (l.length : Int) := by omega
      clear N
      by_cases hf : nmI l (m : Int) = oForm
      · have kq : (kI l (m : Int) == 30) = true := by rw [beq_iff_eq]; exact (kn_frm hm).2 hf
        have kn : (kI l (m : Int) != 30) = false := by unfold bne; rw [kq]; rfl
        have HSe := hide (fun W (hb : Below w.heap.size w W) => sbSettings_any (.slice (some ⟨b, o, none⟩) l.length c) l m sub W (hD.nds.below hb) hz (hT.1.below hb))
        have HM := hide (fun Bi Bl Bs Bf W (hb : Below w.heap.size w W) (hc : ToldB W (.slice (some ⟨b, o, none⟩) l.length c) m l sub Bi Bl Bs Bf) => sbMet_any (.slice (some ⟨b, o, none⟩) l.length c) l m sub Bi Bl Bs Bf W (hD.nds.below hb) hz hm hR hc)
        have HK := hide (fun Bi Bl Bs Bf W (hb : Below w.heap.size w W) (hc : ToldB W (.slice (some ⟨b, o, none⟩) l.length c) m l sub Bi Bl Bs Bf) => sbKn_any (.slice (some ⟨b, o, none⟩) l.length c) l m sub Bi Bl Bs Bf W (hD.nds.below hb) hz hm hR hc)
        rw [← met_here hN] at HM
        rw [← kn_here hN] at HK
        have HA := hide (fun Bi Bl Bs Bf W (hb : Below w.heap.size w W) (hc : ToldB W (.slice (some ⟨b, o, none⟩) l.length c) m l sub Bi Bl Bs Bf) => sbTold_any ⟨#[102, 111, 114, 109, 97, 99, 116, 105, 111, 110]⟩ ⟨#[97, 99, 116, 105, 111, 110]⟩ (.slice (some ⟨b, o, none⟩) l.length c) l m sub Bi Bl Bs Bf W (hD.nds.below hb) hz hm hc)
        have HT := hide (fun Bi Bl Bs Bf W (hb : Below w.heap.size w W) (hc : ToldB W (.slice (some ⟨b, o, none⟩) l.length c) m l sub Bi Bl Bs Bf) => sbTold_any ⟨#[102, 111, 114, 109, 116, 97, 114, 103, 101, 116]⟩ ⟨#[116, 97, 114, 103, 101, 116]⟩ (.slice (some ⟨b, o, none⟩) l.length c) l m sub Bi Bl Bs Bf W (hD.nds.below hb) hz hm hc)
        have sA := set_small hR hm sub ⟨#[102, 111, 114, 109, 97, 99, 116, 105, 111, 110]⟩ ⟨#[97, 99, 116, 105, 111, 110]⟩
        have sT := set_small hR hm sub ⟨#[102, 111, 114, 109, 116, 97, 114, 103, 101, 116]⟩ ⟨#[116, 97, 114, 103, 101, 116]⟩
        rw [show setP_SubP l (m : Int) sub ⟨#[102, 111, 114, 109, 97, 99, 116, 105, 111, 110]⟩ ⟨#[97, 99, 116, 105, 111, 110]⟩ = actP l (m : Int) sub from rfl] at HA sA
        rw [show setP_SubP l (m : Int) sub ⟨#[102, 111, 114, 109, 116, 97, 114, 103, 101, 116]⟩ ⟨#[116, 97, 114, 103, 101, 116]⟩ = tarP l (m : Int) sub from rfl] at HT sT
        have HCa := hide (fun W (_ : Below w.heap.size w W) => clone_any (actP l (m : Int) sub) W (Nat.le_trans sA (by decide)))
        have HCt := hide (fun W (_ : Below w.heap.size w W) => clone_any (tarP l (m : Int) sub) W (Nat.le_trans sT (by decide)))
        have HF := hide (fun W (hb : Below w.heap.size w W) => sbFires_any (.slice (some ⟨b, o, none⟩) l.length c) l sub W (hD.nds.below hb) hz (hT.1.below hb))
        have HV := hide (fun W (hb : Below w.heap.size w W) => vaValue_any (.slice (some ⟨b, o, none⟩) l.length c) (.slice p2 C.length c2) l C sub W (hD.below hb) hz hC (hT.1.below hb))
        have HE := hide (fun W (hb : Below w.heap.size w W) => urEncode_any n v es W (hv.below hb) hn he (hT.2.below hb).1)
        have HQ := hide (fun W (hb : Below w.heap.size w W) => sbQuery_any (actP l (m : Int) sub) (urlS es) W (Nat.le_trans sA (by decide)) (Nat.le_trans (urlS_few hn he) (by decide)) (hT.2.below hb).1.2.2)
        have HC := hide (fun W (hb : Below w.heap.size w W) => sbCarried_any n (knP l (m : Int) sub) v dv es ds W (hv.below hb) (hd.below hb) hn he h5 (hT.2.below hb))
        have MET := met_is (sub := sub) hN
        have EG : Hid (metP l (m : Int) sub = sGet → makP l C (m : Int) sub es ds = (getP l (m : Int) sub es, 0)) := fun q => by unfold makP; rw [if_neg (by rw [hr, hN]; simp), if_neg (fun t => t hf), if_pos q]
        have ED : Hid (metP l (m : Int) sub = sDia → makP l C (m : Int) sub es ds = (diaP l C (m : Int) sub, 0)) := fun q => by unfold makP; rw [if_neg (by rw [hr, hN]; simp), if_neg (fun t => t hf), if_neg (by rw [q]; decide), if_pos q]
        have EP := hide (fun q => car_mak (C := C) (sub := sub) (es := es) (ds := ds) hr hN hf q)
        have EV : Hid (firesP l sub = true → valN l C sub = valE l C sub) := fun q => by
          obtain ⟨k, rfl, hk⟩ := fires_in q
          unfold valN
          rw [if_pos ⟨hr, hasN_of hk (right_is.2 hR)⟩]
        obtain ⟨pe, ce, rfl⟩ := files_formP hv
        obtain ⟨pd, cd, rfl⟩ := draws_formS hd
        clear hz hC hv hd he h5 hr hD h hf hN hR sA sT hT
        obtain ⟨RA, hRA⟩ : ∃ R, Hid ((makP l C (m : Int) sub es ds).1.vals.toArray = R) := ⟨_, show _ = _ from rfl⟩
        obtain ⟨RB, hRB⟩ : ∃ R, Hid ((makP l C (m : Int) sub es ds).2 = R) := ⟨_, show _ = _ from rfl⟩
        rw [hRA.out, hRB.out]
        have FEQ : Hid (metP l (m : Int) sub = metP l (m : Int) sub) := rfl
        clear FEQ
        obtain ⟨me, hme⟩ : ∃ s, metP l (m : Int) sub = s := ⟨_, rfl⟩
        obtain ⟨ta, hta⟩ : ∃ s, tarP l (m : Int) sub = s := ⟨_, rfl⟩
        rw [hme] at HM MET EG ED EP
        rw [hta] at HT HCt
        replace hta := hide hta
        clear hme
        generalize l[m].name = n0 at *
        generalize l[m].text = n1x at *
        generalize l[m].parent = n3 at *
        generalize l[m].attrs.length = n5 at *
        replace kq := hide kq
        go_enter Tryz.func8, Tryz.ntmps8
        go_upto_region 1 with fail
        have D0 : Hid (Bk ((w.alloc (.cells #[.slice (some ⟨b, o, none⟩) l.length c, .slice p2 C.length c2] 25)).alloc (.cells #[.string ⟨#[]⟩, .string ⟨#[]⟩, .string ⟨#[]⟩, .string ⟨#[]⟩, .string ⟨#[]⟩] 33)) w.heap.size [.slice (some ⟨b, o, none⟩) l.length c, .slice p2 C.length c2] 25) := (Bk.new w [.slice (some ⟨b, o, none⟩) l.length c, .slice p2 C.length c2] 25).below ((Below.refl _ _).alloc (Nat.le_refl _) _)
        have D1 : Hid (Bk ((w.alloc (.cells #[.slice (some ⟨b, o, none⟩) l.length c, .slice p2 C.length c2] 25)).alloc (.cells #[.string ⟨#[]⟩, .string ⟨#[]⟩, .string ⟨#[]⟩, .string ⟨#[]⟩, .string ⟨#[]⟩] 33)) (w.heap.size + 1) [.string ⟨#[]⟩, .string ⟨#[]⟩, .string ⟨#[]⟩, .string ⟨#[]⟩, .string ⟨#[]⟩] 33) := Bk.atS (al_nextS w _)
        have BB : Hid (Below w.heap.size w ((w.alloc (.cells #[.slice (some ⟨b, o, none⟩) l.length c, .slice p2 C.length c2] 25)).alloc (.cells #[.string ⟨#[]⟩, .string ⟨#[]⟩, .string ⟨#[]⟩, .string ⟨#[]⟩, .string ⟨#[]⟩] 33))) := ((Below.refl _ w).alloc (Nat.le_refl _) _).alloc (by rw [al_nextS]; exact Nat.le_succ _) _
        have n1le : w.heap.size ≤ w.heap.size + 1 := Nat.le_succ _
        have n01 : w.heap.size ≠ w.heap.size + 1 := by omega
        generalize ((w.alloc (.cells #[.slice (some ⟨b, o, none⟩) l.length c, .slice p2 C.length c2] 25)).alloc (.cells #[.string ⟨#[]⟩, .string ⟨#[]⟩, .string ⟨#[]⟩, .string ⟨#[]⟩, .string ⟨#[]⟩] 33)) = w0 at *
        generalize w.heap.size + 1 = n1 at *
        have c0 := D0.out.cell 0 rfl
        have c1 := D0.out.cell 1 rfl
        have g0 := D1.out.cell 0 rfl
        have h0 := D1.out.free 0
        have g1 := D1.out.cell 1 rfl
        have h1 := D1.out.free 1
        have g2 := D1.out.cell 2 rfl
        have h2 := D1.out.free 2
        have g3 := D1.out.cell 3 rfl
        have h3 := D1.out.free 3
        have g4 := D1.out.cell 4 rfl
        have h4 := D1.out.free 4
        go_wp2_with fail
        refine (HI.out _ BB.out).mono ?_
        rintro e w1 ⟨rfl, bx⟩
        clear c0 c1 g0 g1 g2 g3 g4 h0 h1 h2 h3 h4
        replace BB := hide (chain BB.out bx)
        replace D0 := hide (D0.out.below bx)
        replace D1 := hide (D1.out.below bx)
        clear bx
        have c0 := D0.out.cell 0 rfl
        have c1 := D0.out.cell 1 rfl
        have g0 := D1.out.cell 0 rfl
        have h0 := D1.out.free 0
        have g1 := D1.out.cell 1 rfl
        have h1 := D1.out.free 1
        have g2 := D1.out.cell 2 rfl
        have h2 := D1.out.free 2
        have g3 := D1.out.cell 3 rfl
        have h3 := D1.out.free 3
        have g4 := D1.out.cell 4 rfl
        have h4 := D1.out.free 4
        go_wp2_with fail
        refine (HR.out _ BB.out).mono ?_
        rintro e w2 ⟨rfl, bx⟩
        clear c0 c1 g0 g1 g2 g3 g4 h0 h1 h2 h3 h4
        replace BB := hide (chain BB.out bx)
        replace D0 := hide (D0.out.below bx)
        replace D1 := hide (D1.out.below bx)
        clear bx
        have c0 := D0.out.cell 0 rfl
        have c1 := D0.out.cell 1 rfl
        have g0 := D1.out.cell 0 rfl
        have h0 := D1.out.free 0
        have g1 := D1.out.cell 1 rfl
        have h1 := D1.out.free 1
        have g2 := D1.out.cell 2 rfl
        have h2 := D1.out.free 2
        have g3 := D1.out.cell 3 rfl
        have h3 := D1.out.free 3
        have g4 := D1.out.cell 4 rfl
        have h4 := D1.out.free 4
        have q0 := cell_below nc0.out BB.out
        have q1 := cell_below nc1.out BB.out
        have q2 := cell_below nc2.out BB.out
        have q3 := cell_below nc3.out BB.out
        have q4 := cell_below nc4.out BB.out
        have kn' := kn
        go_wp2_with fail
        refine (HKo.out _ BB.out).mono ?_
        rintro e w3 ⟨rfl, bx⟩
        clear c0 c1 g0 g1 g2 g3 g4 h0 h1 h2 h3 h4
        replace BB := hide (chain BB.out bx)
        replace D0 := hide (D0.out.below bx)
        replace D1 := hide (D1.out.below bx)
        clear bx
        have c0 := D0.out.cell 0 rfl
        have c1 := D0.out.cell 1 rfl
        have g0 := D1.out.cell 0 rfl
        have h0 := D1.out.free 0
        have g1 := D1.out.cell 1 rfl
        have h1 := D1.out.free 1
        have g2 := D1.out.cell 2 rfl
        have h2 := D1.out.free 2
        have g3 := D1.out.cell 3 rfl
        have h3 := D1.out.free 3
        have g4 := D1.out.cell 4 rfl
        have h4 := D1.out.free 4
        clear q0 q1 q2 q3 q4 nc0 nc1 nc2 nc3 nc4
        go_wp2_with fail
        refine (HSe.out _ BB.out).mono ?_
        rintro e ws ⟨Bi, Bl, Bs, Bf, rfl, hc, bx⟩
        clear c0 c1 g0 g1 g2 g3 g4 h0 h1 h2 h3 h4
        replace BB := hide (chain BB.out bx)
        replace D0 := hide (D0.out.below bx)
        replace D1 := hide (D1.out.below bx)
        have TC : Hid (ToldB ws (.slice (some ⟨b, o, none⟩) l.length c) m l sub Bi Bl Bs Bf) := hc
        replace HM := hide (HM.out Bi Bl Bs Bf)
        replace HK := hide (HK.out Bi Bl Bs Bf)
        replace HA := hide (HA.out Bi Bl Bs Bf)
        replace HT := hide (HT.out Bi Bl Bs Bf)
        clear hc bx HSe HKo HI HR kq kn kn'
        have c0 := D0.out.cell 0 rfl
        have c1 := D0.out.cell 1 rfl
        have g0 := D1.out.cell 0 rfl
        have h0 := D1.out.free 0
        have g1 := D1.out.cell 1 rfl
        have h1 := D1.out.free 1
        have g2 := D1.out.cell 2 rfl
        have h2 := D1.out.free 2
        have g3 := D1.out.cell 3 rfl
        have h3 := D1.out.free 3
        have g4 := D1.out.cell 4 rfl
        have h4 := D1.out.free 4
        go_wp2_with fail
        refine (HA.out _ BB.out TC.out).mono ?_
        rintro e w4 ⟨rfl, bx⟩
        clear c0 c1 g0 g1 g2 g3 g4 h0 h1 h2 h3 h4
        replace BB := hide (chain BB.out bx)
        replace D0 := hide (D0.out.below bx)
        replace D1 := hide (D1.out.below bx)
        replace TC := hide (TC.out.below bx)
        clear bx
        have c0 := D0.out.cell 0 rfl
        have c1 := D0.out.cell 1 rfl
        have g0 := D1.out.cell 0 rfl
        have h0 := D1.out.free 0
        have g1 := D1.out.cell 1 rfl
        have h1 := D1.out.free 1
        have g2 := D1.out.cell 2 rfl
        have h2 := D1.out.free 2
        have g3 := D1.out.cell 3 rfl
        have h3 := D1.out.free 3
        have g4 := D1.out.cell 4 rfl
        have h4 := D1.out.free 4
        go_wp2_with fail
        refine (HM.out _ BB.out TC.out).mono ?_
        rintro e w5 ⟨rfl, bx⟩
        clear c0 c1 g0 g1 g2 g3 g4 h0 h1 h2 h3 h4
        replace BB := hide (chain BB.out bx)
        replace D0 := hide (D0.out.below bx)
        replace D1 := hide (D1.out.below bx)
        replace TC := hide (TC.out.below bx)
        clear bx
        have c0 := D0.out.cell 0 rfl
        have c1 := D0.out.cell 1 rfl
        have g0 := D1.out.cell 0 rfl
        have h0 := D1.out.free 0
        have g1 := D1.out.cell 1 rfl
        have h1 := D1.out.free 1
        have g2 := D1.out.cell 2 rfl
        have h2 := D1.out.free 2
        have g3 := D1.out.cell 3 rfl
        have h3 := D1.out.free 3
        have g4 := D1.out.cell 4 rfl
        have h4 := D1.out.free 4
        go_wp2_with fail
        refine (HT.out _ BB.out TC.out).mono ?_
        rintro e w6 ⟨rfl, bx⟩
        clear c0 c1 g0 g1 g2 g3 g4 h0 h1 h2 h3 h4
        replace BB := hide (chain BB.out bx)
        replace D0 := hide (D0.out.below bx)
        replace D1 := hide (D1.out.below bx)
        replace TC := hide (TC.out.below bx)
        clear bx
        have c0 := D0.out.cell 0 rfl
        have c1 := D0.out.cell 1 rfl
        have g0 := D1.out.cell 0 rfl
        have h0 := D1.out.free 0
        have g1 := D1.out.cell 1 rfl
        have h1 := D1.out.free 1
        have g2 := D1.out.cell 2 rfl
        have h2 := D1.out.free 2
        have g3 := D1.out.cell 3 rfl
        have h3 := D1.out.free 3
        have g4 := D1.out.cell 4 rfl
        have h4 := D1.out.free 4
        go_wp2_with fail
        refine (HCt.out _ BB.out).mono ?_
        rintro e wq ⟨rfl, bx⟩
        clear c0 c1 g0 g1 g2 g3 g4 h0 h1 h2 h3 h4
        replace BB := hide (chain BB.out bx)
        replace D0 := hide (D0.out.below bx)
        replace D1 := hide (D1.out.below bx)
        replace TC := hide (TC.out.below bx)
        clear bx
        have c0 := D0.out.cell 0 rfl
        have c1 := D0.out.cell 1 rfl
        have g0 := D1.out.cell 0 rfl
        have h0 := D1.out.free 0
        have g1 := D1.out.cell 1 rfl
        have h1 := D1.out.free 1
        have g2 := D1.out.cell 2 rfl
        have h2 := D1.out.free 2
        have g3 := D1.out.cell 3 rfl
        have h3 := D1.out.free 3
        have g4 := D1.out.cell 4 rfl
        have h4 := D1.out.free 4
        go_upto_region 8 with fail
        have KE : Hid (Bk (wq.alloc (.cells #[.string me, .string ⟨#[]⟩, .string ta, .string ⟨#[]⟩, .string ⟨#[]⟩] 33)) wq.heap.size [.string me, .string ⟨#[]⟩, .string ta, .string ⟨#[]⟩, .string ⟨#[]⟩] 33) := Bk.new wq _ _
        have AZ : Hid (Below wq.heap.size wq (wq.alloc (.cells #[.string me, .string ⟨#[]⟩, .string ta, .string ⟨#[]⟩, .string ⟨#[]⟩] 33))) := (Below.refl _ _).alloc (Nat.le_refl _) _
        have LT1 := D1.out.lt
        have LT0 := D0.out.lt
        have lE0 := BB.out.size
        replace D0 := hide (D0.out.below AZ.out)
        replace D1 := hide (D1.out.below AZ.out)
        replace TC := hide (TC.out.below AZ.out)
        replace BB := hide (chain BB.out AZ.out)
        clear AZ
        clear c0 c1 g0 g1 g2 g3 g4 h0 h1 h2 h3 h4
        generalize wq.alloc (.cells #[.string me, .string ⟨#[]⟩, .string ta, .string ⟨#[]⟩, .string ⟨#[]⟩] 33) = wr at *
        generalize wq.heap.size = E at *
        have ne0 : ¬ w.heap.size = E := by omega
        have ne1 : ¬ n1 = E := by omega
        have ne0' : ¬ E = w.heap.size := by omega
        have ne1' : ¬ E = n1 := by omega
        have n01' : ¬ n1 = w.heap.size := fun e => n01 e.symm
        have lE : w.heap.size ≤ E := by omega
        clear LT1 LT0 lE0
        clear HM HA HT HCt
        rcases MET with q | q | q
        · have EM := EG.out q
          have a1 : (me.toList == [112, 111, 115, 116]) = false := lit_no (by rw [q]; decide)
          have a3 : (me.toList == [100, 105, 97, 108, 111, 103]) = false := lit_no (by rw [q]; decide)
          have R1 : Hid (RA = #[.string me, .string (txt (qryL (bL (actP l (m : Int) sub)) (bL (urlS es)))), .string ta, .string ⟨#[]⟩, .string ⟨#[]⟩]) := by show _ = _; rw [← hRA.out, EM]; rw [← hta.out, q]; rfl
          have R2 : Hid (RB = 0) := by show _ = _; rw [← hRB.out, EM]
          clear EM hRA hRB
          clear EG ED EP EV hta q HK HCa HF HV HC
          generalize txt (qryL (bL (actP l (m : Int) sub)) (bL (urlS es))) = qq at *
          generalize actP l (m : Int) sub = ac at *
          generalize urlS es = us at *
          have c0 := D0.out.cell 0 rfl
          have c1 := D0.out.cell 1 rfl
          have g0 := D1.out.cell 0 rfl
          have h0 := D1.out.free 0
          have g1 := D1.out.cell 1 rfl
          have h1 := D1.out.free 1
          have g2 := D1.out.cell 2 rfl
          have h2 := D1.out.free 2
          have g3 := D1.out.cell 3 rfl
          have h3 := D1.out.free 3
          have g4 := D1.out.cell 4 rfl
          have h4 := D1.out.free 4
          have e0 := KE.out.cell 0 rfl
          have f0 := KE.out.free 0
          have e1 := KE.out.cell 1 rfl
          have f1 := KE.out.free 1
          have e2 := KE.out.cell 2 rfl
          have f2 := KE.out.free 2
          have e3 := KE.out.cell 3 rfl
          have f3 := KE.out.free 3
          have e4 := KE.out.cell 4 rfl
          have f4 := KE.out.free 4
          go_wp2_with fail
          refine (HE.out _ BB.out).mono ?_
          rintro e w7 ⟨rfl, bx⟩
          clear c0 c1 g0 g1 g2 g3 g4 h0 h1 h2 h3 h4 e0 e1 e2 e3 e4 f0 f1 f2 f3 f4
          replace BB := hide (chain BB.out bx)
          replace D0 := hide (D0.out.below bx)
          replace D1 := hide (D1.out.below bx)
          replace KE := hide (KE.out.below bx)
          replace TC := hide (TC.out.below bx)
          clear bx
          have c0 := D0.out.cell 0 rfl
          have c1 := D0.out.cell 1 rfl
          have g0 := D1.out.cell 0 rfl
          have h0 := D1.out.free 0
          have g1 := D1.out.cell 1 rfl
          have h1 := D1.out.free 1
          have g2 := D1.out.cell 2 rfl
          have h2 := D1.out.free 2
          have g3 := D1.out.cell 3 rfl
          have h3 := D1.out.free 3
          have g4 := D1.out.cell 4 rfl
          have h4 := D1.out.free 4
          have e0 := KE.out.cell 0 rfl
          have f0 := KE.out.free 0
          have e1 := KE.out.cell 1 rfl
          have f1 := KE.out.free 1
          have e2 := KE.out.cell 2 rfl
          have f2 := KE.out.free 2
          have e3 := KE.out.cell 3 rfl
          have f3 := KE.out.free 3
          have e4 := KE.out.cell 4 rfl
          have f4 := KE.out.free 4
          go_wp2_with fail
          refine (HQ.out _ BB.out).mono ?_
          rintro e w8 ⟨rfl, bx⟩
          clear c0 c1 g0 g1 g2 g3 g4 h0 h1 h2 h3 h4 e0 e1 e2 e3 e4 f0 f1 f2 f3 f4
          replace BB := hide (chain BB.out bx)
          replace D0 := hide (D0.out.below bx)
          replace D1 := hide (D1.out.below bx)
          replace KE := hide (KE.out.below bx)
          replace TC := hide (TC.out.below bx)
          clear bx
          have c0 := D0.out.cell 0 rfl
          have c1 := D0.out.cell 1 rfl
          have g0 := D1.out.cell 0 rfl
          have h0 := D1.out.free 0
          have g1 := D1.out.cell 1 rfl
          have h1 := D1.out.free 1
          have g2 := D1.out.cell 2 rfl
          have h2 := D1.out.free 2
          have g3 := D1.out.cell 3 rfl
          have h3 := D1.out.free 3
          have g4 := D1.out.cell 4 rfl
          have h4 := D1.out.free 4
          have e0 := KE.out.cell 0 rfl
          have f0 := KE.out.free 0
          have e1 := KE.out.cell 1 rfl
          have f1 := KE.out.free 1
          have e2 := KE.out.cell 2 rfl
          have f2 := KE.out.free 2
          have e3 := KE.out.cell 3 rfl
          have f3 := KE.out.free 3
          have e4 := KE.out.cell 4 rfl
          have f4 := KE.out.free 4
          go_wp2_with fail
          refine bodyPost_ret (v := .tuple #[.agg #[.string me, .string qq, .string ta, .string ⟨#[]⟩, .string ⟨#[]⟩], .int .i64 0]) (by simp [results, go_sem, g0, g1, g2, g3, g4]) rfl ?_
          exact ⟨ret_pl R1.out.symm R2.out.symm, low5 (BB.out.setCell (p := ⟨E, 1, none⟩) lE _) n1le _ _ _ _ _⟩
        · have EM := ED.out q
          have a1 : (me.toList == [112, 111, 115, 116]) = false := lit_no (by rw [q]; decide)
          have a3 : (me.toList == [100, 105, 97, 108, 111, 103]) = true := lit_yes q
          cases hfi : firesP l sub with
          | false =>
            rw [hfi] at HF
            have R1 : Hid (RA = #[.string me, .string ⟨#[]⟩, .string ta, .string ⟨#[]⟩, .string ⟨#[]⟩]) := by show _ = _; rw [← hRA.out, EM]; rw [← hta.out, q]; unfold diaP; rw [hfi]; rfl
            have R2 : Hid (RB = 0) := by show _ = _; rw [← hRB.out, EM]
            clear EM hRA hRB
            clear EG ED EP EV hta q HK HCa HV HC HE HQ hfi
            generalize actP l (m : Int) sub = ac at *
            have c0 := D0.out.cell 0 rfl
            have c1 := D0.out.cell 1 rfl
            have g0 := D1.out.cell 0 rfl
            have h0 := D1.out.free 0
            have g1 := D1.out.cell 1 rfl
            have h1 := D1.out.free 1
            have g2 := D1.out.cell 2 rfl
            have h2 := D1.out.free 2
            have g3 := D1.out.cell 3 rfl
            have h3 := D1.out.free 3
            have g4 := D1.out.cell 4 rfl
            have h4 := D1.out.free 4
            have e0 := KE.out.cell 0 rfl
            have f0 := KE.out.free 0
            have e1 := KE.out.cell 1 rfl
            have f1 := KE.out.free 1
            have e2 := KE.out.cell 2 rfl
            have f2 := KE.out.free 2
            have e3 := KE.out.cell 3 rfl
            have f3 := KE.out.free 3
            have e4 := KE.out.cell 4 rfl
            have f4 := KE.out.free 4
            go_wp2_with fail
            refine (HF.out _ BB.out).mono ?_
            rintro e w7 ⟨rfl, bx⟩
            clear c0 c1 g0 g1 g2 g3 g4 h0 h1 h2 h3 h4 e0 e1 e2 e3 e4 f0 f1 f2 f3 f4
            replace BB := hide (chain BB.out bx)
            replace D0 := hide (D0.out.below bx)
            replace D1 := hide (D1.out.below bx)
            replace KE := hide (KE.out.below bx)
            replace TC := hide (TC.out.below bx)
            clear bx
            have c0 := D0.out.cell 0 rfl
            have c1 := D0.out.cell 1 rfl
            have g0 := D1.out.cell 0 rfl
            have h0 := D1.out.free 0
            have g1 := D1.out.cell 1 rfl
            have h1 := D1.out.free 1
            have g2 := D1.out.cell 2 rfl
            have h2 := D1.out.free 2
            have g3 := D1.out.cell 3 rfl
            have h3 := D1.out.free 3
            have g4 := D1.out.cell 4 rfl
            have h4 := D1.out.free 4
            have e0 := KE.out.cell 0 rfl
            have f0 := KE.out.free 0
            have e1 := KE.out.cell 1 rfl
            have f1 := KE.out.free 1
            have e2 := KE.out.cell 2 rfl
            have f2 := KE.out.free 2
            have e3 := KE.out.cell 3 rfl
            have f3 := KE.out.free 3
            have e4 := KE.out.cell 4 rfl
            have f4 := KE.out.free 4
            go_wp2_with fail
            refine bodyPost_ret (v := .tuple #[.agg #[.string me, .string ⟨#[]⟩, .string ta, .string ⟨#[]⟩, .string ⟨#[]⟩], .int .i64 0]) (by simp [results, go_sem, g0, g1, g2, g3, g4]) rfl ?_
            exact ⟨ret_pl R1.out.symm R2.out.symm, low5 BB.out n1le _ _ _ _ _⟩
          | true =>
            rw [hfi] at HF
            have ev := EV.out hfi
            have R1 : Hid (RA = #[.string me, .string ⟨#[]⟩, .string ta, .string (valN l C sub), .string ⟨#[]⟩]) := by show _ = _; rw [← hRA.out, EM]; rw [← hta.out, q, ev]; unfold diaP; rw [hfi]; rfl
            have R2 : Hid (RB = 0) := by show _ = _; rw [← hRB.out, EM]
            clear EM hRA hRB
            clear EG ED EP EV hta q HK HCa HC HE HQ hfi ev
            generalize actP l (m : Int) sub = ac at *
            generalize valN l C sub = ve at *
            have c0 := D0.out.cell 0 rfl
            have c1 := D0.out.cell 1 rfl
            have g0 := D1.out.cell 0 rfl
            have h0 := D1.out.free 0
            have g1 := D1.out.cell 1 rfl
            have h1 := D1.out.free 1
            have g2 := D1.out.cell 2 rfl
            have h2 := D1.out.free 2
            have g3 := D1.out.cell 3 rfl
            have h3 := D1.out.free 3
            have g4 := D1.out.cell 4 rfl
            have h4 := D1.out.free 4
            have e0 := KE.out.cell 0 rfl
            have f0 := KE.out.free 0
            have e1 := KE.out.cell 1 rfl
            have f1 := KE.out.free 1
            have e2 := KE.out.cell 2 rfl
            have f2 := KE.out.free 2
            have e3 := KE.out.cell 3 rfl
            have f3 := KE.out.free 3
            have e4 := KE.out.cell 4 rfl
            have f4 := KE.out.free 4
            go_wp2_with fail
            refine (HF.out _ BB.out).mono ?_
            rintro e w7 ⟨rfl, bx⟩
            clear c0 c1 g0 g1 g2 g3 g4 h0 h1 h2 h3 h4 e0 e1 e2 e3 e4 f0 f1 f2 f3 f4
            replace BB := hide (chain BB.out bx)
            replace D0 := hide (D0.out.below bx)
            replace D1 := hide (D1.out.below bx)
            replace KE := hide (KE.out.below bx)
            replace TC := hide (TC.out.below bx)
            clear bx
            have c0 := D0.out.cell 0 rfl
            have c1 := D0.out.cell 1 rfl
            have g0 := D1.out.cell 0 rfl
            have h0 := D1.out.free 0
            have g1 := D1.out.cell 1 rfl
            have h1 := D1.out.free 1
            have g2 := D1.out.cell 2 rfl
            have h2 := D1.out.free 2
            have g3 := D1.out.cell 3 rfl
            have h3 := D1.out.free 3
            have g4 := D1.out.cell 4 rfl
            have h4 := D1.out.free 4
            have e0 := KE.out.cell 0 rfl
            have f0 := KE.out.free 0
            have e1 := KE.out.cell 1 rfl
            have f1 := KE.out.free 1
            have e2 := KE.out.cell 2 rfl
            have f2 := KE.out.free 2
            have e3 := KE.out.cell 3 rfl
            have f3 := KE.out.free 3
            have e4 := KE.out.cell 4 rfl
            have f4 := KE.out.free 4
            go_wp2_with fail
            refine (HV.out _ BB.out).mono ?_
            rintro e w8 ⟨rfl, bx⟩
            clear c0 c1 g0 g1 g2 g3 g4 h0 h1 h2 h3 h4 e0 e1 e2 e3 e4 f0 f1 f2 f3 f4
            replace BB := hide (chain BB.out bx)
            replace D0 := hide (D0.out.below bx)
            replace D1 := hide (D1.out.below bx)
            replace KE := hide (KE.out.below bx)
            replace TC := hide (TC.out.below bx)
            clear bx
            have c0 := D0.out.cell 0 rfl
            have c1 := D0.out.cell 1 rfl
            have g0 := D1.out.cell 0 rfl
            have h0 := D1.out.free 0
            have g1 := D1.out.cell 1 rfl
            have h1 := D1.out.free 1
            have g2 := D1.out.cell 2 rfl
            have h2 := D1.out.free 2
            have g3 := D1.out.cell 3 rfl
            have h3 := D1.out.free 3
            have g4 := D1.out.cell 4 rfl
            have h4 := D1.out.free 4
            have e0 := KE.out.cell 0 rfl
            have f0 := KE.out.free 0
            have e1 := KE.out.cell 1 rfl
            have f1 := KE.out.free 1
            have e2 := KE.out.cell 2 rfl
            have f2 := KE.out.free 2
            have e3 := KE.out.cell 3 rfl
            have f3 := KE.out.free 3
            have e4 := KE.out.cell 4 rfl
            have f4 := KE.out.free 4
            go_wp2_with fail
            refine bodyPost_ret (v := .tuple #[.agg #[.string me, .string ⟨#[]⟩, .string ta, .string ve, .string ⟨#[]⟩], .int .i64 0]) (by simp [results, go_sem, g0, g1, g2, g3, g4]) rfl ?_
            exact ⟨ret_pl R1.out.symm R2.out.symm, low5 (BB.out.setCell (p := ⟨E, 3, none⟩) lE _) n1le _ _ _ _ _⟩
        · have a1 : (me.toList == [112, 111, 115, 116]) = true := lit_yes q
          rcases EP.out q with ⟨hE, EM⟩ | ⟨hE, EM⟩
          · rw [hE] at HC
            have R1 : Hid (RA = #[.string ⟨#[]⟩, .string ⟨#[]⟩, .string ⟨#[]⟩, .string ⟨#[]⟩, .string ⟨#[]⟩]) := by show _ = _; rw [← hRA.out, EM]; rfl
            have R2 : Hid (RB = 10) := by show _ = _; rw [← hRB.out, EM]
            clear EM hRA hRB
            clear EG ED EP EV hta q HCa HF HV HE HQ hE
            generalize knP l (m : Int) sub = kk at *
            generalize (carP kk es ds).1.1 = bt at *
            generalize (carP kk es ds).1.2 = bY at *
            generalize actP l (m : Int) sub = ac at *
            have c0 := D0.out.cell 0 rfl
            have c1 := D0.out.cell 1 rfl
            have g0 := D1.out.cell 0 rfl
            have h0 := D1.out.free 0
            have g1 := D1.out.cell 1 rfl
            have h1 := D1.out.free 1
            have g2 := D1.out.cell 2 rfl
            have h2 := D1.out.free 2
            have g3 := D1.out.cell 3 rfl
            have h3 := D1.out.free 3
            have g4 := D1.out.cell 4 rfl
            have h4 := D1.out.free 4
            have e0 := KE.out.cell 0 rfl
            have f0 := KE.out.free 0
            have e1 := KE.out.cell 1 rfl
            have f1 := KE.out.free 1
            have e2 := KE.out.cell 2 rfl
            have f2 := KE.out.free 2
            have e3 := KE.out.cell 3 rfl
            have f3 := KE.out.free 3
            have e4 := KE.out.cell 4 rfl
            have f4 := KE.out.free 4
            go_wp2_with fail
            refine (HK.out _ BB.out TC.out).mono ?_
            rintro e w7 ⟨rfl, bx⟩
            clear c0 c1 g0 g1 g2 g3 g4 h0 h1 h2 h3 h4 e0 e1 e2 e3 e4 f0 f1 f2 f3 f4
            replace BB := hide (chain BB.out bx)
            replace D0 := hide (D0.out.below bx)
            replace D1 := hide (D1.out.below bx)
            replace KE := hide (KE.out.below bx)
            replace TC := hide (TC.out.below bx)
            clear bx
            have c0 := D0.out.cell 0 rfl
            have c1 := D0.out.cell 1 rfl
            have g0 := D1.out.cell 0 rfl
            have h0 := D1.out.free 0
            have g1 := D1.out.cell 1 rfl
            have h1 := D1.out.free 1
            have g2 := D1.out.cell 2 rfl
            have h2 := D1.out.free 2
            have g3 := D1.out.cell 3 rfl
            have h3 := D1.out.free 3
            have g4 := D1.out.cell 4 rfl
            have h4 := D1.out.free 4
            have e0 := KE.out.cell 0 rfl
            have f0 := KE.out.free 0
            have e1 := KE.out.cell 1 rfl
            have f1 := KE.out.free 1
            have e2 := KE.out.cell 2 rfl
            have f2 := KE.out.free 2
            have e3 := KE.out.cell 3 rfl
            have f3 := KE.out.free 3
            have e4 := KE.out.cell 4 rfl
            have f4 := KE.out.free 4
            go_wp2_with fail
            refine (HC.out _ BB.out).mono ?_
            rintro e w8 ⟨rfl, bx⟩
            clear c0 c1 g0 g1 g2 g3 g4 h0 h1 h2 h3 h4 e0 e1 e2 e3 e4 f0 f1 f2 f3 f4
            replace BB := hide (chain BB.out bx)
            replace D0 := hide (D0.out.below bx)
            replace D1 := hide (D1.out.below bx)
            replace KE := hide (KE.out.below bx)
            replace TC := hide (TC.out.below bx)
            clear bx
            have c0 := D0.out.cell 0 rfl
            have c1 := D0.out.cell 1 rfl
            have g0 := D1.out.cell 0 rfl
            have h0 := D1.out.free 0
            have g1 := D1.out.cell 1 rfl
            have h1 := D1.out.free 1
            have g2 := D1.out.cell 2 rfl
            have h2 := D1.out.free 2
            have g3 := D1.out.cell 3 rfl
            have h3 := D1.out.free 3
            have g4 := D1.out.cell 4 rfl
            have h4 := D1.out.free 4
            have e0 := KE.out.cell 0 rfl
            have f0 := KE.out.free 0
            have e1 := KE.out.cell 1 rfl
            have f1 := KE.out.free 1
            have e2 := KE.out.cell 2 rfl
            have f2 := KE.out.free 2
            have e3 := KE.out.cell 3 rfl
            have f3 := KE.out.free 3
            have e4 := KE.out.cell 4 rfl
            have f4 := KE.out.free 4
            go_wp2_with fail
            refine bodyPost_ret (v := .tuple #[.agg #[.string ⟨#[]⟩, .string ⟨#[]⟩, .string ⟨#[]⟩, .string ⟨#[]⟩, .string ⟨#[]⟩], .int .i64 10]) (by simp [results, go_sem, g0, g1, g2, g3, g4]) rfl ?_
            exact ⟨ret_pl R1.out.symm R2.out.symm, low5 BB.out n1le _ _ _ _ _⟩
          · rw [hE] at HC
            have R1 : Hid (RA = #[.string me, .string (actP l (m : Int) sub), .string ta, .string (carP (knP l (m : Int) sub) es ds).1.1, .string (carP (knP l (m : Int) sub) es ds).1.2]) := by show _ = _; rw [← hRA.out, EM]; rw [← hta.out, q]; rfl
            have R2 : Hid (RB = 0) := by show _ = _; rw [← hRB.out, EM]
            clear EM hRA hRB
            clear EG ED EP EV hta q HF HV HE HQ hE
            generalize knP l (m : Int) sub = kk at *
            generalize (carP kk es ds).1.1 = bt at *
            generalize (carP kk es ds).1.2 = bY at *
            generalize actP l (m : Int) sub = ac at *
            have c0 := D0.out.cell 0 rfl
            have c1 := D0.out.cell 1 rfl
            have g0 := D1.out.cell 0 rfl
            have h0 := D1.out.free 0
            have g1 := D1.out.cell 1 rfl
            have h1 := D1.out.free 1
            have g2 := D1.out.cell 2 rfl
            have h2 := D1.out.free 2
            have g3 := D1.out.cell 3 rfl
            have h3 := D1.out.free 3
            have g4 := D1.out.cell 4 rfl
            have h4 := D1.out.free 4
            have e0 := KE.out.cell 0 rfl
            have f0 := KE.out.free 0
            have e1 := KE.out.cell 1 rfl
            have f1 := KE.out.free 1
            have e2 := KE.out.cell 2 rfl
            have f2 := KE.out.free 2
            have e3 := KE.out.cell 3 rfl
            have f3 := KE.out.free 3
            have e4 := KE.out.cell 4 rfl
            have f4 := KE.out.free 4
            go_wp2_with fail
            refine (HK.out _ BB.out TC.out).mono ?_
            rintro e w7 ⟨rfl, bx⟩
            clear c0 c1 g0 g1 g2 g3 g4 h0 h1 h2 h3 h4 e0 e1 e2 e3 e4 f0 f1 f2 f3 f4
            replace BB := hide (chain BB.out bx)
            replace D0 := hide (D0.out.below bx)
            replace D1 := hide (D1.out.below bx)
            replace KE := hide (KE.out.below bx)
            replace TC := hide (TC.out.below bx)
            clear bx
            have c0 := D0.out.cell 0 rfl
            have c1 := D0.out.cell 1 rfl
            have g0 := D1.out.cell 0 rfl
            have h0 := D1.out.free 0
            have g1 := D1.out.cell 1 rfl
            have h1 := D1.out.free 1
            have g2 := D1.out.cell 2 rfl
            have h2 := D1.out.free 2
            have g3 := D1.out.cell 3 rfl
            have h3 := D1.out.free 3
            have g4 := D1.out.cell 4 rfl
            have h4 := D1.out.free 4
            have e0 := KE.out.cell 0 rfl
            have f0 := KE.out.free 0
            have e1 := KE.out.cell 1 rfl
            have f1 := KE.out.free 1
            have e2 := KE.out.cell 2 rfl
            have f2 := KE.out.free 2
            have e3 := KE.out.cell 3 rfl
            have f3 := KE.out.free 3
            have e4 := KE.out.cell 4 rfl
            have f4 := KE.out.free 4
            go_wp2_with fail
            refine (HC.out _ BB.out).mono ?_
            rintro e w8 ⟨rfl, bx⟩
            clear c0 c1 g0 g1 g2 g3 g4 h0 h1 h2 h3 h4 e0 e1 e2 e3 e4 f0 f1 f2 f3 f4
            replace BB := hide (chain BB.out bx)
            replace D0 := hide (D0.out.below bx)
            replace D1 := hide (D1.out.below bx)
            replace KE := hide (KE.out.below bx)
            replace TC := hide (TC.out.below bx)
            clear bx
            have c0 := D0.out.cell 0 rfl
            have c1 := D0.out.cell 1 rfl
            have g0 := D1.out.cell 0 rfl
            have h0 := D1.out.free 0
            have g1 := D1.out.cell 1 rfl
            have h1 := D1.out.free 1
            have g2 := D1.out.cell 2 rfl
            have h2 := D1.out.free 2
            have g3 := D1.out.cell 3 rfl
            have h3 := D1.out.free 3
            have g4 := D1.out.cell 4 rfl
            have h4 := D1.out.free 4
            have e0 := KE.out.cell 0 rfl
            have f0 := KE.out.free 0
            have e1 := KE.out.cell 1 rfl
            have f1 := KE.out.free 1
            have e2 := KE.out.cell 2 rfl
            have f2 := KE.out.free 2
            have e3 := KE.out.cell 3 rfl
            have f3 := KE.out.free 3
            have e4 := KE.out.cell 4 rfl
            have f4 := KE.out.free 4
            go_wp2_with fail
            refine (HCa.out _ BB.out).mono ?_
            rintro e w9 ⟨rfl, bx⟩
            clear c0 c1 g0 g1 g2 g3 g4 h0 h1 h2 h3 h4 e0 e1 e2 e3 e4 f0 f1 f2 f3 f4
            replace BB := hide (chain BB.out bx)
            replace D0 := hide (D0.out.below bx)
            replace D1 := hide (D1.out.below bx)
            replace KE := hide (KE.out.below bx)
            replace TC := hide (TC.out.below bx)
            clear bx
            have c0 := D0.out.cell 0 rfl
            have c1 := D0.out.cell 1 rfl
            have g0 := D1.out.cell 0 rfl
            have h0 := D1.out.free 0
            have g1 := D1.out.cell 1 rfl
            have h1 := D1.out.free 1
            have g2 := D1.out.cell 2 rfl
            have h2 := D1.out.free 2
            have g3 := D1.out.cell 3 rfl
            have h3 := D1.out.free 3
            have g4 := D1.out.cell 4 rfl
            have h4 := D1.out.free 4
            have e0 := KE.out.cell 0 rfl
            have f0 := KE.out.free 0
            have e1 := KE.out.cell 1 rfl
            have f1 := KE.out.free 1
            have e2 := KE.out.cell 2 rfl
            have f2 := KE.out.free 2
            have e3 := KE.out.cell 3 rfl
            have f3 := KE.out.free 3
            have e4 := KE.out.cell 4 rfl
            have f4 := KE.out.free 4
            go_wp2_with fail
            refine bodyPost_ret (v := .tuple #[.agg #[.string me, .string ac, .string ta, .string bt, .string bY], .int .i64 0]) (by simp [results, go_sem, g0, g1, g2, g3, g4]) rfl ?_
            exact ⟨ret_pl R1.out.symm R2.out.symm, low5 (((BB.out.setCell (p := ⟨E, 1, none⟩) lE _).setCell (p := ⟨E, 3, none⟩) lE _).setCell (p := ⟨E, 4, none⟩) lE _) n1le _ _ _ _ _⟩
      · have kq : (kI l (m : Int) == 30) = false := by rw [beq_eq_false_iff_ne]; exact fun e => hf ((kn_frm hm).1 e)
        have kn : (kI l (m : Int) != 30) = true := by unfold bne; rw [kq]; rfl
        have EM : makP l C (m : Int) sub es ds = (pl0, 3) := by unfold makP; rw [if_neg (by rw [hr, hN]; simp), if_pos hf]
        obtain ⟨pe, ce, rfl⟩ := files_formP hv
        obtain ⟨pd, cd, rfl⟩ := draws_formS hd
        clear hz hC hv hd he h5 hD h hT hr hN hR hf
        obtain ⟨RA, hRA⟩ : ∃ R, Hid ((makP l C (m : Int) sub es ds).1.vals.toArray = R) := ⟨_, show _ = _ from rfl⟩
        obtain ⟨RB, hRB⟩ : ∃ R, Hid ((makP l C (m : Int) sub es ds).2 = R) := ⟨_, show _ = _ from rfl⟩
        rw [hRA.out, hRB.out]
        have R1 : Hid (RA = #[.string ⟨#[]⟩, .string ⟨#[]⟩, .string ⟨#[]⟩, .string ⟨#[]⟩, .string ⟨#[]⟩]) := by show _ = _; rw [← hRA.out, EM]; rfl
        have R2 : Hid (RB = 3) := by show _ = _; rw [← hRB.out, EM]
        clear EM hRA hRB
        generalize l[m].name = n0 at *
        generalize l[m].text = n1x at *
        generalize l[m].parent = n3 at *
        generalize l[m].attrs.length = n5 at *
        replace kq := hide kq
        generalize kI l (m : Int) = kk at *
        go_enter Tryz.func8, Tryz.ntmps8
        go_upto_region 1 with fail
        have D0 : Hid (Bk ((w.alloc (.cells #[.slice (some ⟨b, o, none⟩) l.length c, .slice p2 C.length c2] 25)).alloc (.cells #[.string ⟨#[]⟩, .string ⟨#[]⟩, .string ⟨#[]⟩, .string ⟨#[]⟩, .string ⟨#[]⟩] 33)) w.heap.size [.slice (some ⟨b, o, none⟩) l.length c, .slice p2 C.length c2] 25) := (Bk.new w [.slice (some ⟨b, o, none⟩) l.length c, .slice p2 C.length c2] 25).below ((Below.refl _ _).alloc (Nat.le_refl _) _)
        have D1 : Hid (Bk ((w.alloc (.cells #[.slice (some ⟨b, o, none⟩) l.length c, .slice p2 C.length c2] 25)).alloc (.cells #[.string ⟨#[]⟩, .string ⟨#[]⟩, .string ⟨#[]⟩, .string ⟨#[]⟩, .string ⟨#[]⟩] 33)) (w.heap.size + 1) [.string ⟨#[]⟩, .string ⟨#[]⟩, .string ⟨#[]⟩, .string ⟨#[]⟩, .string ⟨#[]⟩] 33) := Bk.atS (al_nextS w _)
        have BB : Hid (Below w.heap.size w ((w.alloc (.cells #[.slice (some ⟨b, o, none⟩) l.length c, .slice p2 C.length c2] 25)).alloc (.cells #[.string ⟨#[]⟩, .string ⟨#[]⟩, .string ⟨#[]⟩, .string ⟨#[]⟩, .string ⟨#[]⟩] 33))) := ((Below.refl _ w).alloc (Nat.le_refl _) _).alloc (by rw [al_nextS]; exact Nat.le_succ _) _
        have n1le : w.heap.size ≤ w.heap.size + 1 := Nat.le_succ _
        have n01 : w.heap.size ≠ w.heap.size + 1 := by omega
        generalize ((w.alloc (.cells #[.slice (some ⟨b, o, none⟩) l.length c, .slice p2 C.length c2] 25)).alloc (.cells #[.string ⟨#[]⟩, .string ⟨#[]⟩, .string ⟨#[]⟩, .string ⟨#[]⟩, .string ⟨#[]⟩] 33)) = w0 at *
        generalize w.heap.size + 1 = n1 at *
        have c0 := D0.out.cell 0 rfl
        have c1 := D0.out.cell 1 rfl
        have g0 := D1.out.cell 0 rfl
        have h0 := D1.out.free 0
        have g1 := D1.out.cell 1 rfl
        have h1 := D1.out.free 1
        have g2 := D1.out.cell 2 rfl
        have h2 := D1.out.free 2
        have g3 := D1.out.cell 3 rfl
        have h3 := D1.out.free 3
        have g4 := D1.out.cell 4 rfl
        have h4 := D1.out.free 4
        go_wp2_with fail
        refine (HI.out _ BB.out).mono ?_
        rintro e w1 ⟨rfl, bx⟩
        clear c0 c1 g0 g1 g2 g3 g4 h0 h1 h2 h3 h4
        replace BB := hide (chain BB.out bx)
        replace D0 := hide (D0.out.below bx)
        replace D1 := hide (D1.out.below bx)
        clear bx
        have c0 := D0.out.cell 0 rfl
        have c1 := D0.out.cell 1 rfl
        have g0 := D1.out.cell 0 rfl
        have h0 := D1.out.free 0
        have g1 := D1.out.cell 1 rfl
        have h1 := D1.out.free 1
        have g2 := D1.out.cell 2 rfl
        have h2 := D1.out.free 2
        have g3 := D1.out.cell 3 rfl
        have h3 := D1.out.free 3
        have g4 := D1.out.cell 4 rfl
        have h4 := D1.out.free 4
        go_wp2_with fail
        refine (HR.out _ BB.out).mono ?_
        rintro e w2 ⟨rfl, bx⟩
        clear c0 c1 g0 g1 g2 g3 g4 h0 h1 h2 h3 h4
        replace BB := hide (chain BB.out bx)
        replace D0 := hide (D0.out.below bx)
        replace D1 := hide (D1.out.below bx)
        clear bx
        have c0 := D0.out.cell 0 rfl
        have c1 := D0.out.cell 1 rfl
        have g0 := D1.out.cell 0 rfl
        have h0 := D1.out.free 0
        have g1 := D1.out.cell 1 rfl
        have h1 := D1.out.free 1
        have g2 := D1.out.cell 2 rfl
        have h2 := D1.out.free 2
        have g3 := D1.out.cell 3 rfl
        have h3 := D1.out.free 3
        have g4 := D1.out.cell 4 rfl
        have h4 := D1.out.free 4
        have q0 := cell_below nc0.out BB.out
        have q1 := cell_below nc1.out BB.out
        have q2 := cell_below nc2.out BB.out
        have q3 := cell_below nc3.out BB.out
        have q4 := cell_below nc4.out BB.out
        go_wp2_with fail
        refine (HKo.out _ BB.out).mono ?_
        rintro e w3 ⟨rfl, bx⟩
        clear c0 c1 g0 g1 g2 g3 g4 h0 h1 h2 h3 h4
        replace BB := hide (chain BB.out bx)
        replace D0 := hide (D0.out.below bx)
        replace D1 := hide (D1.out.below bx)
        clear bx
        have c0 := D0.out.cell 0 rfl
        have c1 := D0.out.cell 1 rfl
        have g0 := D1.out.cell 0 rfl
        have h0 := D1.out.free 0
        have g1 := D1.out.cell 1 rfl
        have h1 := D1.out.free 1
        have g2 := D1.out.cell 2 rfl
        have h2 := D1.out.free 2
        have g3 := D1.out.cell 3 rfl
        have h3 := D1.out.free 3
        have g4 := D1.out.cell 4 rfl
        have h4 := D1.out.free 4
        clear q0 q1 q2 q3 q4
        go_wp2_with fail
        refine bodyPost_ret (v := .tuple #[.agg #[.string ⟨#[]⟩, .string ⟨#[]⟩, .string ⟨#[]⟩, .string ⟨#[]⟩, .string ⟨#[]⟩], .int .i64 3]) (by simp [results, go_sem, g0, g1, g2, g3, g4]) rfl ?_
        exact ⟨ret_pl R1.out.symm R2.out.symm, low5 BB.out n1le _ _ _ _ _⟩

end Go.Proofs.YtnojgejcmaajmaaGreatDoor
