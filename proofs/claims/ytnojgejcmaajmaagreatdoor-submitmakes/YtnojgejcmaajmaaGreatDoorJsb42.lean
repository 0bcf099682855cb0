/- The document's Make of layer 24. -/
import Derived.Test.YtnojgejcmaajmaaGreatDoorJsb29
import Derived.Test.YtnojgejcmaajmaaGreatDoorJsb40

namespace Go.Proofs.YtnojgejcmaajmaaGreatDoor
open Go.RowKit
set_option maxRecDepth 100000
set_option maxHeartbeats 8000000 in
theorem refMakeS_any (n : Nat) (nv cv v dv : Value) (l : List Nd) (C : List Ct) (form sub : Int) (es : List En) (ds : List ByteArray) (w : World) (hD : DocV w nv cv l C) (hz : DocSz l) (hC : CsOK C) (hv : FilesV w v es) (hd : DrawsV w dv ds) (hn : n ≤ 1000000) (he : EnsOK n es) (h5 : ∀ d ∈ ds, d.size ≤ 500) :
    Calls Tryz.prog 10 #[.agg #[nv, cv], .int .i64 form, .int .i64 sub, v, dv] w fun e w' => e = .returned (.tuple #[.agg (makP l C form sub es ds).1.vals.toArray, .int .i64 (makP l C form sub es ds).2]) ∧ Below w.heap.size w w' := by
  have HR := hide (fun W (hb : Below w.heap.size w W) => refORight_any nv cv l C W (hD.below hb) hz hC)
  have HI := hide (fun W (hb : Below w.heap.size w W) => refHas_any nv l form W (hD.nds.below hb) hz)
  have hl := hz.len
  have hl2 := hC.len
  cases hr : rightD l C with
  | false =>
    have EM : makP l C form sub es ds = (pl0, 4) := by unfold makP; rw [if_pos (.inl hr)]
    rw [hr] at HR
    obtain ⟨p, c, rfl, hvv⟩ := hD.nds
    obtain ⟨p2, c2, rfl⟩ := cts_form hD.cts
    obtain ⟨pe, ce, rfl⟩ := files_formP hv
    obtain ⟨pd, cd, rfl⟩ := draws_formS hd
    clear hvv hz hC hv hd he h5 hr hD HI
    have R1 : Hid ((makP l C form sub es ds).1.vals.toArray = #[.string ⟨#[]⟩, .string ⟨#[]⟩, .string ⟨#[]⟩, .string ⟨#[]⟩, .string ⟨#[]⟩]) := by show _ = _; rw [EM]; rfl
    have R2 : Hid ((makP l C form sub es ds).2 = 4) := by show _ = _; rw [EM]
    clear EM
    generalize (makP l C form sub es ds).1.vals.toArray = RA at *
    generalize (makP l C form sub es ds).2 = RB at *
    go_enter Tryz.func10, Tryz.ntmps10
    go_upto_region 1 with fail
    have D0 : Hid (Bk ((w.alloc (.cells #[.slice p l.length c, .slice p2 C.length c2] 25)).alloc (.cells #[.string ⟨#[]⟩, .string ⟨#[]⟩, .string ⟨#[]⟩, .string ⟨#[]⟩, .string ⟨#[]⟩] 33)) w.heap.size [.slice p l.length c, .slice p2 C.length c2] 25) := (Bk.new w [.slice p l.length c, .slice p2 C.length c2] 25).below ((Below.refl _ _).alloc (Nat.le_refl _) _)
    have D1 : Hid (Bk ((w.alloc (.cells #[.slice p l.length c, .slice p2 C.length c2] 25)).alloc (.cells #[.string ⟨#[]⟩, .string ⟨#[]⟩, .string ⟨#[]⟩, .string ⟨#[]⟩, .string ⟨#[]⟩] 33)) (w.heap.size + 1) [.string ⟨#[]⟩, .string ⟨#[]⟩, .string ⟨#[]⟩, .string ⟨#[]⟩, .string ⟨#[]⟩] 33) := Bk.atS (al_nextS w _)
    have BB : Hid (Below w.heap.size w ((w.alloc (.cells #[.slice p l.length c, .slice p2 C.length c2] 25)).alloc (.cells #[.string ⟨#[]⟩, .string ⟨#[]⟩, .string ⟨#[]⟩, .string ⟨#[]⟩, .string ⟨#[]⟩] 33))) := ((Below.refl _ w).alloc (Nat.le_refl _) _).alloc (by rw [al_nextS]; exact Nat.le_succ _) _
    have n1le : w.heap.size ≤ w.heap.size + 1 := Nat.le_succ _
    have n01 : w.heap.size ≠ w.heap.size + 1 := by omega
    generalize ((w.alloc (.cells #[.slice p l.length c, .slice p2 C.length c2] 25)).alloc (.cells #[.string ⟨#[]⟩, .string ⟨#[]⟩, .string ⟨#[]⟩, .string ⟨#[]⟩, .string ⟨#[]⟩] 33)) = w0 at *
    generalize w.heap.size + 1 = n1 at *
    have c0 := D0.out.cell 0 rfl
    have c1 := D0.out.cell 1 rfl
    have g0 := D1.out.cell 0 rfl
    have h0 := D1.out.free 0
    have g1 := D1.out.cell 1 rfl
    have h1 := D1.out.free 1
    have g2 := D1.out.cell 2 rfl
    have h2 := D1.out.free 2
    have g3 := D1.out.cell 3 rfl
    have h3 := D1.out.free 3
    have g4 := D1.out.cell 4 rfl
    have h4 := D1.out.free 4
    go_wp2_with fail
    refine (HR.out _ BB.out).mono ?_
    rintro e w1 ⟨rfl, bx⟩
    clear c0 c1 g0 g1 g2 g3 g4 h0 h1 h2 h3 h4
    replace BB := hide (chain BB.out bx)
    replace D0 := hide (D0.out.below bx)
    replace D1 := hide (D1.out.below bx)
    clear bx
    have c0 := D0.out.cell 0 rfl
    have c1 := D0.out.cell 1 rfl
    have g0 := D1.out.cell 0 rfl
    have h0 := D1.out.free 0
    have g1 := D1.out.cell 1 rfl
    have h1 := D1.out.free 1
    have g2 := D1.out.cell 2 rfl
    have h2 := D1.out.free 2
    have g3 := D1.out.cell 3 rfl
    have h3 := D1.out.free 3
    have g4 := D1.out.cell 4 rfl
    have h4 := D1.out.free 4
    go_wp2_with fail
    refine bodyPost_ret (v := .tuple #[.agg #[.string ⟨#[]⟩, .string ⟨#[]⟩, .string ⟨#[]⟩, .string ⟨#[]⟩, .string ⟨#[]⟩], .int .i64 4]) (by simp [results, go_sem, g0, g1, g2, g3, g4]) rfl ?_
    exact ⟨ret_pl R1.out.symm R2.out.symm, low5 BB.out n1le _ _ _ _ _⟩
  | true =>
    rw [hr] at HR
    cases h : hasN l form with
    | false =>
      have EM : makP l C form sub es ds = (pl0, 4) := by unfold makP; rw [if_pos (.inr h)]
      rw [h] at HI
      obtain ⟨p, c, rfl, hvv⟩ := hD.nds
      obtain ⟨p2, c2, rfl⟩ := cts_form hD.cts
      obtain ⟨pe, ce, rfl⟩ := files_formP hv
      obtain ⟨pd, cd, rfl⟩ := draws_formS hd
      clear hvv hz hC hv hd he h5 hr hD h
      have R1 : Hid ((makP l C form sub es ds).1.vals.toArray = #[.string ⟨#[]⟩, .string ⟨#[]⟩, .string ⟨#[]⟩, .string ⟨#[]⟩, .string ⟨#[]⟩]) := by show _ = _; rw [EM]; rfl
      have R2 : Hid ((makP l C form sub es ds).2 = 4) := by show _ = _; rw [EM]
      clear EM
      generalize (makP l C form sub es ds).1.vals.toArray = RA at *
      generalize (makP l C form sub es ds).2 = RB at *
      go_enter Tryz.func10, Tryz.ntmps10
      go_upto_region 1 with fail
      have D0 : Hid (Bk ((w.alloc (.cells #[.slice p l.length c, .slice p2 C.length c2] 25)).alloc (.cells #[.string ⟨#[]⟩, .string ⟨#[]⟩, .string ⟨#[]⟩, .string ⟨#[]⟩, .string ⟨#[]⟩] 33)) w.heap.size [.slice p l.length c, .slice p2 C.length c2] 25) := (Bk.new w [.slice p l.length c, .slice p2 C.length c2] 25).below ((Below.refl _ _).alloc (Nat.le_refl _) _)
      have D1 : Hid (Bk ((w.alloc (.cells #[.slice p l.length c, .slice p2 C.length c2] 25)).alloc (.cells #[.string ⟨#[]⟩, .string ⟨#[]⟩, .string ⟨#[]⟩, .string ⟨#[]⟩, .string ⟨#[]⟩] 33)) (w.heap.size + 1) [.string ⟨#[]⟩, .string ⟨#[]⟩, .string ⟨#[]⟩, .string ⟨#[]⟩, .string ⟨#[]⟩] 33) := Bk.atS (al_nextS w _)
      have BB : Hid (Below w.heap.size w ((w.alloc (.cells #[.slice p l.length c, .slice p2 C.length c2] 25)).alloc (.cells #[.string ⟨#[]⟩, .string ⟨#[]⟩, .string ⟨#[]⟩, .string ⟨#[]⟩, .string ⟨#[]⟩] 33))) := ((Below.refl _ w).alloc (Nat.le_refl _) _).alloc (by rw [al_nextS]; exact Nat.le_succ _) _
      have n1le : w.heap.size ≤ w.heap.size + 1 := Nat.le_succ _
      have n01 : w.heap.size ≠ w.heap.size + 1 := by omega
      generalize ((w.alloc (.cells #[.slice p l.length c, .slice p2 C.length c2] 25)).alloc (.cells #[.string ⟨#[]⟩, .string ⟨#[]⟩, .string ⟨#[]⟩, .string ⟨#[]⟩, .string ⟨#[]⟩] 33)) = w0 at *
      generalize w.heap.size + 1 = n1 at *
      have c0 := D0.out.cell 0 rfl
      have c1 := D0.out.cell 1 rfl
      have g0 := D1.out.cell 0 rfl
      have h0 := D1.out.free 0
      have g1 := D1.out.cell 1 rfl
      have h1 := D1.out.free 1
      have g2 := D1.out.cell 2 rfl
      have h2 := D1.out.free 2
      have g3 := D1.out.cell 3 rfl
      have h3 := D1.out.free 3
      have g4 := D1.out.cell 4 rfl
      have h4 := D1.out.free 4
      go_wp2_with fail
      refine (HR.out _ BB.out).mono ?_
      rintro e w1 ⟨rfl, bx⟩
      clear c0 c1 g0 g1 g2 g3 g4 h0 h1 h2 h3 h4
      replace BB := hide (chain BB.out bx)
      replace D0 := hide (D0.out.below bx)
      replace D1 := hide (D1.out.below bx)
      clear bx
      have c0 := D0.out.cell 0 rfl
      have c1 := D0.out.cell 1 rfl
      have g0 := D1.out.cell 0 rfl
      have h0 := D1.out.free 0
      have g1 := D1.out.cell 1 rfl
      have h1 := D1.out.free 1
      have g2 := D1.out.cell 2 rfl
      have h2 := D1.out.free 2
      have g3 := D1.out.cell 3 rfl
      have h3 := D1.out.free 3
      have g4 := D1.out.cell 4 rfl
      have h4 := D1.out.free 4
      go_wp2_with fail
      refine (HI.out _ BB.out).mono ?_
      rintro e w2 ⟨rfl, bx⟩
      clear c0 c1 g0 g1 g2 g3 g4 h0 h1 h2 h3 h4
      replace BB := hide (chain BB.out bx)
      replace D0 := hide (D0.out.below bx)
      replace D1 := hide (D1.out.below bx)
      clear bx
      have c0 := D0.out.cell 0 rfl
      have c1 := D0.out.cell 1 rfl
      have g0 := D1.out.cell 0 rfl
      have h0 := D1.out.free 0
      have g1 := D1.out.cell 1 rfl
      have h1 := D1.out.free 1
      have g2 := D1.out.cell 2 rfl
      have h2 := D1.out.free 2
      have g3 := D1.out.cell 3 rfl
      have h3 := D1.out.free 3
      have g4 := D1.out.cell 4 rfl
      have h4 := D1.out.free 4
      go_wp2_with fail
      refine bodyPost_ret (v := .tuple #[.agg #[.string ⟨#[]⟩, .string ⟨#[]⟩, .string ⟨#[]⟩, .string ⟨#[]⟩, .string ⟨#[]⟩], .int .i64 4]) (by simp [results, go_sem, g0, g1, g2, g3, g4]) rfl ?_
      exact ⟨ret_pl R1.out.symm R2.out.symm, low5 BB.out n1le _ _ _ _ _⟩
    | true =>
      rw [h] at HI
      obtain ⟨m, hI⟩ := Is.of h
      obtain ⟨rfl, hm⟩ := (⟨hI.eq, hI.lt⟩ : form = (m : Int) ∧ m < l.length)
      have HM := hide (fun W (hb : Below w.heap.size w W) => refMethodS_any nv l (m : Int) sub W (hD.nds.below hb) hz)
      have HT := hide (fun W (hb : Below w.heap.size w W) => refSetS_any nv l m sub ⟨#[102, 111, 114, 109, 116, 97, 114, 103, 101, 116]⟩ ⟨#[116, 97, 114, 103, 101, 116]⟩ W (hD.nds.below hb) hz hm)
      have HA := hide (fun W (hb : Below w.heap.size w W) => refSetS_any nv l m sub ⟨#[102, 111, 114, 109, 97, 99, 116, 105, 111, 110]⟩ ⟨#[97, 99, 116, 105, 111, 110]⟩ W (hD.nds.below hb) hz hm)
      have HF := hide (fun W (hb : Below w.heap.size w W) => refFiresS_any nv l sub W (hD.nds.below hb) hz)
      have HK := hide (fun W (hb : Below w.heap.size w W) => refKindS_any nv l (m : Int) sub W (hD.nds.below hb) hz)
      have HE := hide (fun W (hb : Below w.heap.size w W) => refEncode19_any n v es W (hv.below hb) hn he)
      have HO := hide (fun k bd (hb' : bd.size ≤ 1000) W (hb : Below w.heap.size w W) => refOf21_any n k v es bd W (hv.below hb) hn he hb')
      have HC := hide (fun W (hb : Below w.heap.size w W) => refChoose_any n v dv es ds W (hv.below hb) (hd.below hb) hn he (fun d q => Nat.le_trans (h5 d (List.mem_of_mem_take q)) (by decide)))
      have HV := hide (fun (q : Nat) (h1 : q < l.length) (h2 : q < C.length) W (hb : Below w.heap.size w W) => refVValue_any nv cv l C q W (hD.below hb) hz hC h1 h2)
      have ZA := set_size hz hm sub ⟨#[102, 111, 114, 109, 97, 99, 116, 105, 111, 110]⟩ ⟨#[97, 99, 116, 105, 111, 110]⟩
      have HQ := hide (fun W (hb : Below w.heap.size w W) => refQueryS_any (setP_SubP l (m : Int) sub ⟨#[102, 111, 114, 109, 97, 99, 116, 105, 111, 110]⟩ ⟨#[97, 99, 116, 105, 111, 110]⟩) (urlS es) W ZA (Nat.le_trans (urlS_few hn he) (by decide)))
      have hCl := hide (rightD_is hr).2
      obtain ⟨p, c, rfl, hvv⟩ := hD.nds
      obtain ⟨p2, c2, rfl⟩ := cts_form hD.cts
      obtain ⟨pe, ce, rfl⟩ := files_formP hv
      obtain ⟨pd, cd, rfl⟩ := draws_formS hd
      obtain ⟨b, o, rfl, hnn⟩ : ∃ b o, p = some ⟨b, o, none⟩ ∧ ∀ i (h : i < l.length), ∃ va vk, NodeAt w b (o + i * 5) l[i] va vk := by
        rcases hvv with t | t
        · rw [t] at hm; simp at hm
        · exact t
      obtain ⟨va, vk, N⟩ := hnn m hm
      have nc0 := N.name
      have m0 : (0 : Int) ≤ (m : Int) := by omega
      have m1 : (m : Int) < (l.length : Int) := by omega
      by_cases hf : nmI l (m : Int) = oForm
      · have hf' : l[m].name = oForm := by unfold nmI at hf; rw [Int.toNat_natCast, nd_at hm] at hf; exact hf
        have a1 : (l[m].name.toList == [102, 111, 114, 109]) = true := lit_yes hf'
        have MT := met_is (sub := sub) h
        have KN := kn_is (sub := sub) h
        have EG : Hid (metP l (m : Int) sub = sGet → makP l C (m : Int) sub es ds = (getP l (m : Int) sub es, 0)) := fun q => by unfold makP; rw [if_neg (by rw [hr, h]; simp), if_neg (fun t => t hf), if_pos q]
        have ED : Hid (metP l (m : Int) sub = sDia → makP l C (m : Int) sub es ds = (diaP l C (m : Int) sub, 0)) := fun q => by unfold makP; rw [if_neg (by rw [hr, h]; simp), if_neg (fun t => t hf), if_neg (by rw [q]; decide), if_pos q]
        have EP : Hid (metP l (m : Int) sub = sPost → makP l C (m : Int) sub es ds = if knP l (m : Int) sub = 2 then (match chsP es ds with
            | none => ((pl0, 10) : Pl × Int)
            | some b => (posP l (m : Int) sub es b, 0)) else (posP l (m : Int) sub es ⟨#[]⟩, 0)) := fun q => by unfold makP; rw [if_neg (by rw [hr, h]; simp), if_neg (fun t => t hf), if_neg (by rw [q]; decide), if_neg (by rw [q]; decide)]; rfl
        have FI : Hid (firesP l sub = true → ∃ q : Nat, sub = (q : Int) ∧ q < l.length) := fires_in
        have CM : Hid (∀ bd, chsP es ds = some bd → bd.size ≤ 500) := fun bd q => h5 bd (chs_mem q).1
        clear N hvv hnn hz hC hv hd he h5 hr hD h hI hf hf'
        rw [show setP_SubP l (m : Int) sub ⟨#[102, 111, 114, 109, 116, 97, 114, 103, 101, 116]⟩ ⟨#[116, 97, 114, 103, 101, 116]⟩ = tarP l (m : Int) sub from rfl] at HT
        rw [show setP_SubP l (m : Int) sub ⟨#[102, 111, 114, 109, 97, 99, 116, 105, 111, 110]⟩ ⟨#[97, 99, 116, 105, 111, 110]⟩ = actP l (m : Int) sub from rfl] at HA HQ
        generalize hme : metP l (m : Int) sub = me at *
        generalize hta : tarP l (m : Int) sub = ta at *
        generalize l[m].name = nn0 at *
        obtain ⟨RA, hRA⟩ : ∃ R, Hid ((makP l C (m : Int) sub es ds).1.vals.toArray = R) := ⟨_, show _ = _ from rfl⟩
        obtain ⟨RB, hRB⟩ : ∃ R, Hid ((makP l C (m : Int) sub es ds).2 = R) := ⟨_, show _ = _ from rfl⟩
        rw [hRA.out, hRB.out]
        go_enter Tryz.func10, Tryz.ntmps10
        go_upto_region 1 with fail
        have D0 : Hid (Bk ((w.alloc (.cells #[.slice (some ⟨b, o, none⟩) l.length c, .slice p2 C.length c2] 25)).alloc (.cells #[.string ⟨#[]⟩, .string ⟨#[]⟩, .string ⟨#[]⟩, .string ⟨#[]⟩, .string ⟨#[]⟩] 33)) w.heap.size [.slice (some ⟨b, o, none⟩) l.length c, .slice p2 C.length c2] 25) := (Bk.new w [.slice (some ⟨b, o, none⟩) l.length c, .slice p2 C.length c2] 25).below ((Below.refl _ _).alloc (Nat.le_refl _) _)
        have D1 : Hid (Bk ((w.alloc (.cells #[.slice (some ⟨b, o, none⟩) l.length c, .slice p2 C.length c2] 25)).alloc (.cells #[.string ⟨#[]⟩, .string ⟨#[]⟩, .string ⟨#[]⟩, .string ⟨#[]⟩, .string ⟨#[]⟩] 33)) (w.heap.size + 1) [.string ⟨#[]⟩, .string ⟨#[]⟩, .string ⟨#[]⟩, .string ⟨#[]⟩, .string ⟨#[]⟩] 33) := Bk.atS (al_nextS w _)
        have BB : Hid (Below w.heap.size w ((w.alloc (.cells #[.slice (some ⟨b, o, none⟩) l.length c, .slice p2 C.length c2] 25)).alloc (.cells #[.string ⟨#[]⟩, .string ⟨#[]⟩, .string ⟨#[]⟩, .string ⟨#[]⟩, .string ⟨#[]⟩] 33))) := ((Below.refl _ w).alloc (Nat.le_refl _) _).alloc (by rw [al_nextS]; exact Nat.le_succ _) _
        have n1le : w.heap.size ≤ w.heap.size + 1 := Nat.le_succ _
        have n01 : w.heap.size ≠ w.heap.size + 1 := by omega
        generalize ((w.alloc (.cells #[.slice (some ⟨b, o, none⟩) l.length c, .slice p2 C.length c2] 25)).alloc (.cells #[.string ⟨#[]⟩, .string ⟨#[]⟩, .string ⟨#[]⟩, .string ⟨#[]⟩, .string ⟨#[]⟩] 33)) = w0 at *
        generalize w.heap.size + 1 = n1 at *
        have c0 := D0.out.cell 0 rfl
        have c1 := D0.out.cell 1 rfl
        have g0 := D1.out.cell 0 rfl
        have h0 := D1.out.free 0
        have g1 := D1.out.cell 1 rfl
        have h1 := D1.out.free 1
        have g2 := D1.out.cell 2 rfl
        have h2 := D1.out.free 2
        have g3 := D1.out.cell 3 rfl
        have h3 := D1.out.free 3
        have g4 := D1.out.cell 4 rfl
        have h4 := D1.out.free 4
        go_wp2_with fail
        refine (HR.out _ BB.out).mono ?_
        rintro e w1 ⟨rfl, bx⟩
        clear c0 c1 g0 g1 g2 g3 g4 h0 h1 h2 h3 h4
        replace BB := hide (chain BB.out bx)
        replace D0 := hide (D0.out.below bx)
        replace D1 := hide (D1.out.below bx)
        clear bx
        have c0 := D0.out.cell 0 rfl
        have c1 := D0.out.cell 1 rfl
        have g0 := D1.out.cell 0 rfl
        have h0 := D1.out.free 0
        have g1 := D1.out.cell 1 rfl
        have h1 := D1.out.free 1
        have g2 := D1.out.cell 2 rfl
        have h2 := D1.out.free 2
        have g3 := D1.out.cell 3 rfl
        have h3 := D1.out.free 3
        have g4 := D1.out.cell 4 rfl
        have h4 := D1.out.free 4
        go_wp2_with fail
        refine (HI.out _ BB.out).mono ?_
        rintro e w2 ⟨rfl, bx⟩
        clear c0 c1 g0 g1 g2 g3 g4 h0 h1 h2 h3 h4
        replace BB := hide (chain BB.out bx)
        replace D0 := hide (D0.out.below bx)
        replace D1 := hide (D1.out.below bx)
        clear bx
        have c0 := D0.out.cell 0 rfl
        have c1 := D0.out.cell 1 rfl
        have g0 := D1.out.cell 0 rfl
        have h0 := D1.out.free 0
        have g1 := D1.out.cell 1 rfl
        have h1 := D1.out.free 1
        have g2 := D1.out.cell 2 rfl
        have h2 := D1.out.free 2
        have g3 := D1.out.cell 3 rfl
        have h3 := D1.out.free 3
        have g4 := D1.out.cell 4 rfl
        have h4 := D1.out.free 4
        have q0 := cell_below nc0 BB.out
        go_upto_region 5 with fail
        clear q0
        have HMx := 0
        clear HMx
        have BC : Hid (Below w2.heap.size w2 w2.drew) := ⟨rfl, rfl, rfl, Nat.le_refl _, fun _ _ => rfl⟩
        have LT1 := D1.out.lt
        have LT0 := D0.out.lt
        go_cut [12] (fun sv wx => ∃ E : Nat, sv = .pointer (some ⟨E, 0, none⟩) ∧ Hid (Bk wx E [.string me, .string ⟨#[]⟩, .string ta, .string ⟨#[]⟩, .string ⟨#[]⟩] 33) ∧ Hid (w2.heap.size ≤ E) ∧ Hid (Below w2.heap.size w2 wx))
        case first =>
          refine wp_region_held_drew (S := fun X : World => X.cell? ⟨w.heap.size, 0, none⟩ = some (.slice (some ⟨b, o, none⟩) l.length c)) (by kernel_rfl) ?_ (fun hHeld => ?_)
          · exact c0
          refine wpAnyH_take (i := 0) (oi := { dst := some 38, op := Op.fieldAddr 25 (Operand.tmp 5) 0, type := 0, pos := "ref.go:100", after := #[], guard := none }) (v := ?_) rfl (by kernel_rfl) (by kernel_rfl) (by kernel_rfl) (fun _ _ _ h => h) (Or.inl ⟨by rfl, ?_⟩) (by assumption) ?_
          rotate_left
          · (intro w hSw; (try dsimp only at hSw); first | (go_simp; done) | (go_simp; with_reducible rfl))
          simp only [Act.put, List.setIfInBounds_toArray, List.set_cons_zero, List.set_cons_succ]
          refine wpAnyH_take (i := 1) (oi := { dst := some 39, op := Op.load 22 (Operand.tmp 38), type := 22, pos := "ref.go:100", after := #[{ on := 0, ground := Ground.data }], guard := none }) (v := ?_) rfl (by kernel_rfl) (by kernel_rfl) (by kernel_rfl) (fun _ _ _ h => h) (Or.inl ⟨by rfl, ?_⟩) (by assumption) ?_
          rotate_left
          · (intro w hSw; (try dsimp only at hSw); first | (go_simp; done) | (go_simp; with_reducible rfl))
          simp only [Act.put, List.setIfInBounds_toArray, List.set_cons_zero, List.set_cons_succ]
          refine wpAnyH_take (i := 2) (oi := { dst := some 40, op := Op.move (Operand.tmp 1), type := 3, pos := "ref.go:100", after := #[], guard := none }) (v := ?_) rfl (by kernel_rfl) (by kernel_rfl) (by kernel_rfl) (fun _ _ _ h => h) (Or.inl ⟨by rfl, ?_⟩) (by assumption) ?_
          rotate_left
          · (intro w hSw; (try dsimp only at hSw); first | (go_simp; done) | (go_simp; with_reducible rfl))
          simp only [Act.put, List.setIfInBounds_toArray, List.set_cons_zero, List.set_cons_succ]
          refine wpAnyH_take (i := 3) (oi := { dst := some 41, op := Op.move (Operand.tmp 2), type := 3, pos := "ref.go:100", after := #[], guard := none }) (v := ?_) rfl (by kernel_rfl) (by kernel_rfl) (by kernel_rfl) (fun _ _ _ h => h) (Or.inl ⟨by rfl, ?_⟩) (by assumption) ?_
          rotate_left
          · (intro w hSw; (try dsimp only at hSw); first | (go_simp; done) | (go_simp; with_reducible rfl))
          simp only [Act.put, List.setIfInBounds_toArray, List.set_cons_zero, List.set_cons_succ]
          refine wpAnyH_take (i := 5) (oi := { dst := some 43, op := Op.fieldAddr 25 (Operand.tmp 5) 0, type := 0, pos := "ref.go:100", after := #[], guard := none }) (v := ?_) rfl (by kernel_rfl) (by kernel_rfl) (by kernel_rfl) (fun _ _ _ h => h) (Or.inl ⟨by rfl, ?_⟩) (by assumption) ?_
          rotate_left
          · (intro w hSw; (try dsimp only at hSw); first | (go_simp; done) | (go_simp; with_reducible rfl))
          simp only [Act.put, List.setIfInBounds_toArray, List.set_cons_zero, List.set_cons_succ]
          refine wpAnyH_take (i := 6) (oi := { dst := some 44, op := Op.load 22 (Operand.tmp 43), type := 22, pos := "ref.go:100", after := #[{ on := 5, ground := Ground.data }], guard := none }) (v := ?_) rfl (by kernel_rfl) (by kernel_rfl) (by kernel_rfl) (fun _ _ _ h => h) (Or.inl ⟨by rfl, ?_⟩) (by assumption) ?_
          rotate_left
          · (intro w hSw; (try dsimp only at hSw); first | (go_simp; done) | (go_simp; with_reducible rfl))
          simp only [Act.put, List.setIfInBounds_toArray, List.set_cons_zero, List.set_cons_succ]
          refine wpAnyH_take (i := 7) (oi := { dst := some 45, op := Op.move (Operand.tmp 1), type := 3, pos := "ref.go:100", after := #[], guard := none }) (v := ?_) rfl (by kernel_rfl) (by kernel_rfl) (by kernel_rfl) (fun _ _ _ h => h) (Or.inl ⟨by rfl, ?_⟩) (by assumption) ?_
          rotate_left
          · (intro w hSw; (try dsimp only at hSw); first | (go_simp; done) | (go_simp; with_reducible rfl))
          simp only [Act.put, List.setIfInBounds_toArray, List.set_cons_zero, List.set_cons_succ]
          refine wpAnyH_take (i := 8) (oi := { dst := some 46, op := Op.move (Operand.tmp 2), type := 3, pos := "ref.go:100", after := #[], guard := none }) (v := ?_) rfl (by kernel_rfl) (by kernel_rfl) (by kernel_rfl) (fun _ _ _ h => h) (Or.inl ⟨by rfl, ?_⟩) (by assumption) ?_
          rotate_left
          · (intro w hSw; (try dsimp only at hSw); first | (go_simp; done) | (go_simp; with_reducible rfl))
          simp only [Act.put, List.setIfInBounds_toArray, List.set_cons_zero, List.set_cons_succ]
          refine wpAnyH_ready (rs := [4, 11]) (by kernel_rfl) (by simp) ?_
          refine AllReadyH.cons (i := 4) (o := { dst := some 42, op := Op.call { callee := Callee.value (Operand.func 35), args := #[Operand.tmp 39, Operand.tmp 40, Operand.tmp 41], argTypes := #[22, 3, 3] }, type := 9, pos := "ref.go:100", after := #[{ on := 1, ground := Ground.data }, { on := 2, ground := Ground.data }, { on := 3, ground := Ground.data }], guard := none }) rfl (fun K hK => ?_) (AllReadyH.cons (i := 11) (o := { dst := some 12, op := Op.alloc 33, type := 0, pos := "ref.go:100", after := #[], guard := none }) rfl (fun K hK => ?_) AllReadyH.nil)
          · go_simp
            refine (HM.out _ (chain BB.out BC.out)).mono ?_
            rintro e wa ⟨rfl, bx⟩
            replace BC := hide (chain BC.out bx)
            try replace KE := hide (KE.out.below bx)
            clear bx
            go_wp2_with fail
            refine hK.out _ _ ?_ (fun hHeld => ?_)
            · exact (D0.out.below BC.out).cell 0 rfl
            clear hK K
            refine wpAnyH_ready (rs := [9, 11]) (by kernel_rfl) (by simp) ?_
            refine AllReadyH.cons (i := 9) (o := { dst := some 47, op := Op.call { callee := Callee.value (Operand.func 36), args := #[Operand.tmp 44, Operand.tmp 45, Operand.tmp 46, Operand.const (Value.string { data := #[102, 111, 114, 109, 116, 97, 114, 103, 101, 116] }), Operand.const (Value.string { data := #[116, 97, 114, 103, 101, 116] })], argTypes := #[22, 3, 3, 9, 9] }, type := 9, pos := "ref.go:100", after := #[{ on := 6, ground := Ground.data }, { on := 7, ground := Ground.data }, { on := 8, ground := Ground.data }, { on := 4, ground := Ground.chain }], guard := none }) rfl (fun K hK => ?_) (AllReadyH.cons (i := 11) (o := { dst := some 12, op := Op.alloc 33, type := 0, pos := "ref.go:100", after := #[], guard := none }) rfl (fun K hK => ?_) AllReadyH.nil)
            · go_simp
              refine (HT.out _ (chain BB.out BC.out)).mono ?_
              rintro e wb ⟨rfl, bx⟩
              replace BC := hide (chain BC.out bx)
              try replace KE := hide (KE.out.below bx)
              clear bx
              go_wp2_with fail
              refine hK.out _ _ ?_ (fun hHeld => ?_)
              · exact (D0.out.below BC.out).cell 0 rfl
              clear hK K
              refine wpAnyH_take (i := 10) (oi := { dst := some 48, op := Op.build 33 #[(0, Operand.tmp 42), (2, Operand.tmp 47)], type := 33, pos := "ref.go:100", after := #[{ on := 4, ground := Ground.data }, { on := 9, ground := Ground.data }], guard := none }) (v := ?_) rfl (by kernel_rfl) (by kernel_rfl) (by kernel_rfl) (fun _ _ _ h => h) (Or.inl ⟨by rfl, ?_⟩) (by assumption) ?_
              rotate_left
              · (intro w hSw; (try dsimp only at hSw); first | (go_simp; done) | (go_simp; with_reducible rfl))
              simp only [Act.put, List.setIfInBounds_toArray, List.set_cons_zero, List.set_cons_succ]
              refine wpAnyH_ready (rs := [11]) (by kernel_rfl) (by simp) ?_
              refine AllReadyH.cons (i := 11) (o := { dst := some 12, op := Op.alloc 33, type := 0, pos := "ref.go:100", after := #[], guard := none }) rfl (fun K hK => ?_) AllReadyH.nil
              go_simp
              have KE := hide (Bk.new wb [.string ⟨#[]⟩, .string ⟨#[]⟩, .string ⟨#[]⟩, .string ⟨#[]⟩, .string ⟨#[]⟩] 33)
              have AZ : Below wb.heap.size wb (wb.alloc (.cells #[.string ⟨#[]⟩, .string ⟨#[]⟩, .string ⟨#[]⟩, .string ⟨#[]⟩, .string ⟨#[]⟩] 33)) := (Below.refl _ _).alloc (Nat.le_refl _) _
              have GE := hide BC.out.size
              replace BC := hide (chain BC.out AZ)
              clear AZ
              generalize wb.alloc (.cells #[.string ⟨#[]⟩, .string ⟨#[]⟩, .string ⟨#[]⟩, .string ⟨#[]⟩, .string ⟨#[]⟩] 33) = wz at *
              generalize wb.heap.size = E at *
              refine hK.out _ _ ?_ (fun hHeld => ?_)
              · exact (D0.out.below BC.out).cell 0 rfl
              clear hK K
              have g0 := KE.out.cell 0 rfl
              have f0 := KE.out.free 0
              have g1 := KE.out.cell 1 rfl
              have f1 := KE.out.free 1
              have g2 := KE.out.cell 2 rfl
              have f2 := KE.out.free 2
              have g3 := KE.out.cell 3 rfl
              have f3 := KE.out.free 3
              have g4 := KE.out.cell 4 rfl
              have f4 := KE.out.free 4
              have K5 := hide (((((KE.out.set 0 (.string me)).set 1 (.string ⟨#[]⟩)).set 2 (.string ta)).set 3 (.string ⟨#[]⟩)).set 4 (.string ⟨#[]⟩))
              have B5 := hide (low5 BC.out GE.out (.string me) (.string ⟨#[]⟩) (.string ta) (.string ⟨#[]⟩) (.string ⟨#[]⟩))
              refine wpAnyH_ready (rs := [12]) (by kernel_rfl) (by simp) ?_
              refine AllReadyH.cons (i := 12) (o := { dst := none, op := Op.store 33 (Operand.tmp 12) (Operand.tmp 48), type := 0, pos := "ref.go:100", after := #[{ on := 11, ground := Ground.data }, { on := 10, ground := Ground.data }, { on := 9, ground := Ground.chain }, { on := 0, ground := Ground.phase }, { on := 1, ground := Ground.phase }, { on := 2, ground := Ground.phase }, { on := 3, ground := Ground.phase }, { on := 4, ground := Ground.phase }, { on := 5, ground := Ground.phase }, { on := 6, ground := Ground.phase }, { on := 7, ground := Ground.phase }, { on := 8, ground := Ground.phase }, { on := 9, ground := Ground.phase }, { on := 10, ground := Ground.phase }, { on := 11, ground := Ground.phase }], guard := none }) rfl (fun K hK => ?_) AllReadyH.nil
              go_simp
              refine hK.out _ _ ?_ (fun hHeld => ?_)
              · exact (D0.out.below B5.out).cell 0 rfl
              clear hK K
              refine wpAnyH_done (by kernel_rfl) ?_ _
              go_wp2_with fail
              go_meet
              case rel => exact ⟨_, rfl, K5, GE, B5⟩
            · go_simp
              have KE := hide (Bk.new wa [.string ⟨#[]⟩, .string ⟨#[]⟩, .string ⟨#[]⟩, .string ⟨#[]⟩, .string ⟨#[]⟩] 33)
              have AZ : Below wa.heap.size wa (wa.alloc (.cells #[.string ⟨#[]⟩, .string ⟨#[]⟩, .string ⟨#[]⟩, .string ⟨#[]⟩, .string ⟨#[]⟩] 33)) := (Below.refl _ _).alloc (Nat.le_refl _) _
              have GE := hide BC.out.size
              replace BC := hide (chain BC.out AZ)
              clear AZ
              generalize wa.alloc (.cells #[.string ⟨#[]⟩, .string ⟨#[]⟩, .string ⟨#[]⟩, .string ⟨#[]⟩, .string ⟨#[]⟩] 33) = wz at *
              generalize wa.heap.size = E at *
              refine hK.out _ _ ?_ (fun hHeld => ?_)
              · exact (D0.out.below BC.out).cell 0 rfl
              clear hK K
              refine wpAnyH_ready (rs := [9]) (by kernel_rfl) (by simp) ?_
              refine AllReadyH.cons (i := 9) (o := { dst := some 47, op := Op.call { callee := Callee.value (Operand.func 36), args := #[Operand.tmp 44, Operand.tmp 45, Operand.tmp 46, Operand.const (Value.string { data := #[102, 111, 114, 109, 116, 97, 114, 103, 101, 116] }), Operand.const (Value.string { data := #[116, 97, 114, 103, 101, 116] })], argTypes := #[22, 3, 3, 9, 9] }, type := 9, pos := "ref.go:100", after := #[{ on := 6, ground := Ground.data }, { on := 7, ground := Ground.data }, { on := 8, ground := Ground.data }, { on := 4, ground := Ground.chain }], guard := none }) rfl (fun K hK => ?_) AllReadyH.nil
              go_simp
              refine (HT.out _ (chain BB.out BC.out)).mono ?_
              rintro e wb ⟨rfl, bx⟩
              replace BC := hide (chain BC.out bx)
              try replace KE := hide (KE.out.below bx)
              clear bx
              go_wp2_with fail
              refine hK.out _ _ ?_ (fun hHeld => ?_)
              · exact (D0.out.below BC.out).cell 0 rfl
              clear hK K
              refine wpAnyH_take (i := 10) (oi := { dst := some 48, op := Op.build 33 #[(0, Operand.tmp 42), (2, Operand.tmp 47)], type := 33, pos := "ref.go:100", after := #[{ on := 4, ground := Ground.data }, { on := 9, ground := Ground.data }], guard := none }) (v := ?_) rfl (by kernel_rfl) (by kernel_rfl) (by kernel_rfl) (fun _ _ _ h => h) (Or.inl ⟨by rfl, ?_⟩) (by assumption) ?_
              rotate_left
              · (intro w hSw; (try dsimp only at hSw); first | (go_simp; done) | (go_simp; with_reducible rfl))
              simp only [Act.put, List.setIfInBounds_toArray, List.set_cons_zero, List.set_cons_succ]
              have g0 := KE.out.cell 0 rfl
              have f0 := KE.out.free 0
              have g1 := KE.out.cell 1 rfl
              have f1 := KE.out.free 1
              have g2 := KE.out.cell 2 rfl
              have f2 := KE.out.free 2
              have g3 := KE.out.cell 3 rfl
              have f3 := KE.out.free 3
              have g4 := KE.out.cell 4 rfl
              have f4 := KE.out.free 4
              have K5 := hide (((((KE.out.set 0 (.string me)).set 1 (.string ⟨#[]⟩)).set 2 (.string ta)).set 3 (.string ⟨#[]⟩)).set 4 (.string ⟨#[]⟩))
              have B5 := hide (low5 BC.out GE.out (.string me) (.string ⟨#[]⟩) (.string ta) (.string ⟨#[]⟩) (.string ⟨#[]⟩))
              refine wpAnyH_ready (rs := [12]) (by kernel_rfl) (by simp) ?_
              refine AllReadyH.cons (i := 12) (o := { dst := none, op := Op.store 33 (Operand.tmp 12) (Operand.tmp 48), type := 0, pos := "ref.go:100", after := #[{ on := 11, ground := Ground.data }, { on := 10, ground := Ground.data }, { on := 9, ground := Ground.chain }, { on := 0, ground := Ground.phase }, { on := 1, ground := Ground.phase }, { on := 2, ground := Ground.phase }, { on := 3, ground := Ground.phase }, { on := 4, ground := Ground.phase }, { on := 5, ground := Ground.phase }, { on := 6, ground := Ground.phase }, { on := 7, ground := Ground.phase }, { on := 8, ground := Ground.phase }, { on := 9, ground := Ground.phase }, { on := 10, ground := Ground.phase }, { on := 11, ground := Ground.phase }], guard := none }) rfl (fun K hK => ?_) AllReadyH.nil
              go_simp
              refine hK.out _ _ ?_ (fun hHeld => ?_)
              · exact (D0.out.below B5.out).cell 0 rfl
              clear hK K
              refine wpAnyH_done (by kernel_rfl) ?_ _
              go_wp2_with fail
              go_meet
              case rel => exact ⟨_, rfl, K5, GE, B5⟩
          · go_simp
            have KE := hide (Bk.new w2 [.string ⟨#[]⟩, .string ⟨#[]⟩, .string ⟨#[]⟩, .string ⟨#[]⟩, .string ⟨#[]⟩] 33).drewC
            have GE : Hid (w2.heap.size ≤ w2.heap.size) := Nat.le_refl _
            replace BC : Hid (Below w2.heap.size w2 (w2.alloc (.cells #[.string ⟨#[]⟩, .string ⟨#[]⟩, .string ⟨#[]⟩, .string ⟨#[]⟩, .string ⟨#[]⟩] 33)).drew) := belDC ((Below.refl _ w2).alloc (Nat.le_refl _) _)
            generalize (w2.alloc (.cells #[.string ⟨#[]⟩, .string ⟨#[]⟩, .string ⟨#[]⟩, .string ⟨#[]⟩, .string ⟨#[]⟩] 33)).drew = wz at *
            refine hK.out _ _ ?_ (fun hHeld => ?_)
            · exact (D0.out.below BC.out).cell 0 rfl
            clear hK K
            refine wpAnyH_ready (rs := [4]) (by kernel_rfl) (by simp) ?_
            refine AllReadyH.cons (i := 4) (o := { dst := some 42, op := Op.call { callee := Callee.value (Operand.func 35), args := #[Operand.tmp 39, Operand.tmp 40, Operand.tmp 41], argTypes := #[22, 3, 3] }, type := 9, pos := "ref.go:100", after := #[{ on := 1, ground := Ground.data }, { on := 2, ground := Ground.data }, { on := 3, ground := Ground.data }], guard := none }) rfl (fun K hK => ?_) AllReadyH.nil
            go_simp
            refine (HM.out _ (chain BB.out BC.out)).mono ?_
            rintro e wa ⟨rfl, bx⟩
            replace BC := hide (chain BC.out bx)
            try replace KE := hide (KE.out.below bx)
            clear bx
            go_wp2_with fail
            refine hK.out _ _ ?_ (fun hHeld => ?_)
            · exact (D0.out.below BC.out).cell 0 rfl
            clear hK K
            refine wpAnyH_ready (rs := [9]) (by kernel_rfl) (by simp) ?_
            refine AllReadyH.cons (i := 9) (o := { dst := some 47, op := Op.call { callee := Callee.value (Operand.func 36), args := #[Operand.tmp 44, Operand.tmp 45, Operand.tmp 46, Operand.const (Value.string { data := #[102, 111, 114, 109, 116, 97, 114, 103, 101, 116] }), Operand.const (Value.string { data := #[116, 97, 114, 103, 101, 116] })], argTypes := #[22, 3, 3, 9, 9] }, type := 9, pos := "ref.go:100", after := #[{ on := 6, ground := Ground.data }, { on := 7, ground := Ground.data }, { on := 8, ground := Ground.data }, { on := 4, ground := Ground.chain }], guard := none }) rfl (fun K hK => ?_) AllReadyH.nil
            go_simp
            refine (HT.out _ (chain BB.out BC.out)).mono ?_
            rintro e wb ⟨rfl, bx⟩
            replace BC := hide (chain BC.out bx)
            try replace KE := hide (KE.out.below bx)
            clear bx
            go_wp2_with fail
            refine hK.out _ _ ?_ (fun hHeld => ?_)
            · exact (D0.out.below BC.out).cell 0 rfl
            clear hK K
            refine wpAnyH_take (i := 10) (oi := { dst := some 48, op := Op.build 33 #[(0, Operand.tmp 42), (2, Operand.tmp 47)], type := 33, pos := "ref.go:100", after := #[{ on := 4, ground := Ground.data }, { on := 9, ground := Ground.data }], guard := none }) (v := ?_) rfl (by kernel_rfl) (by kernel_rfl) (by kernel_rfl) (fun _ _ _ h => h) (Or.inl ⟨by rfl, ?_⟩) (by assumption) ?_
            rotate_left
            · (intro w hSw; (try dsimp only at hSw); first | (go_simp; done) | (go_simp; with_reducible rfl))
            simp only [Act.put, List.setIfInBounds_toArray, List.set_cons_zero, List.set_cons_succ]
            have g0 := KE.out.cell 0 rfl
            have f0 := KE.out.free 0
            have g1 := KE.out.cell 1 rfl
            have f1 := KE.out.free 1
            have g2 := KE.out.cell 2 rfl
            have f2 := KE.out.free 2
            have g3 := KE.out.cell 3 rfl
            have f3 := KE.out.free 3
            have g4 := KE.out.cell 4 rfl
            have f4 := KE.out.free 4
            have K5 := hide (((((KE.out.set 0 (.string me)).set 1 (.string ⟨#[]⟩)).set 2 (.string ta)).set 3 (.string ⟨#[]⟩)).set 4 (.string ⟨#[]⟩))
            have B5 := hide (low5 BC.out GE.out (.string me) (.string ⟨#[]⟩) (.string ta) (.string ⟨#[]⟩) (.string ⟨#[]⟩))
            refine wpAnyH_ready (rs := [12]) (by kernel_rfl) (by simp) ?_
            refine AllReadyH.cons (i := 12) (o := { dst := none, op := Op.store 33 (Operand.tmp 12) (Operand.tmp 48), type := 0, pos := "ref.go:100", after := #[{ on := 11, ground := Ground.data }, { on := 10, ground := Ground.data }, { on := 9, ground := Ground.chain }, { on := 0, ground := Ground.phase }, { on := 1, ground := Ground.phase }, { on := 2, ground := Ground.phase }, { on := 3, ground := Ground.phase }, { on := 4, ground := Ground.phase }, { on := 5, ground := Ground.phase }, { on := 6, ground := Ground.phase }, { on := 7, ground := Ground.phase }, { on := 8, ground := Ground.phase }, { on := 9, ground := Ground.phase }, { on := 10, ground := Ground.phase }, { on := 11, ground := Ground.phase }], guard := none }) rfl (fun K hK => ?_) AllReadyH.nil
            go_simp
            refine hK.out _ _ ?_ (fun hHeld => ?_)
            · exact (D0.out.below B5.out).cell 0 rfl
            clear hK K
            refine wpAnyH_done (by kernel_rfl) ?_ _
            go_wp2_with fail
            go_meet
            case rel => exact ⟨_, rfl, K5, GE, B5⟩
        case rest =>
          obtain ⟨E, rfl, KE, GE, BX⟩ := hcut
          rename World => wx
          replace D0 := hide (D0.out.below BX.out)
          replace D1 := hide (D1.out.below BX.out)
          replace BB := hide (chain BB.out BX.out)
          have ge := GE.out
          have ne0 : ¬ w.heap.size = E := by omega
          have ne1 : ¬ n1 = E := by omega
          have ne0' : ¬ E = w.heap.size := by omega
          have ne1' : ¬ E = n1 := by omega
          have n01' : ¬ n1 = w.heap.size := fun e => n01 e.symm
          have lE : w.heap.size ≤ E := by omega
          clear BX BC HM HT HR HI GE ge LT0 LT1 KN c0 c1 g0 g1 g2 g3 g4 h0 h1 h2 h3 h4
          rcases MT with q | q | q
          · have EM := EG.out q
            have a2 : (me.toList == [103, 101, 116]) = true := lit_yes q
            have R1 : Hid (RA = #[.string me, .string (txt (qryL (bL (actP l (m : Int) sub)) (bL (urlS es)))), .string ta, .string ⟨#[]⟩, .string ⟨#[]⟩]) := by show _ = _; rw [← hRA.out, EM]; rw [← hta, q]; rfl
            have R2 : Hid (RB = 0) := by show _ = _; rw [← hRB.out, EM]
            clear EM hRA hRB
            clear EG ED EP FI CM hme hta q
            clear HF HK HO HC HV
            generalize txt (qryL (bL (actP l (m : Int) sub)) (bL (urlS es))) = qq at *
            generalize actP l (m : Int) sub = ac at *
            generalize urlS es = us at *
            have c0 := D0.out.cell 0 rfl
            have c1 := D0.out.cell 1 rfl
            have g0 := D1.out.cell 0 rfl
            have h0 := D1.out.free 0
            have g1 := D1.out.cell 1 rfl
            have h1 := D1.out.free 1
            have g2 := D1.out.cell 2 rfl
            have h2 := D1.out.free 2
            have g3 := D1.out.cell 3 rfl
            have h3 := D1.out.free 3
            have g4 := D1.out.cell 4 rfl
            have h4 := D1.out.free 4
            have e0 := KE.out.cell 0 rfl
            have f0 := KE.out.free 0
            have e1 := KE.out.cell 1 rfl
            have f1 := KE.out.free 1
            have e2 := KE.out.cell 2 rfl
            have f2 := KE.out.free 2
            have e3 := KE.out.cell 3 rfl
            have f3 := KE.out.free 3
            have e4 := KE.out.cell 4 rfl
            have f4 := KE.out.free 4
            go_wp2_with fail
            refine (HA.out _ BB.out).mono ?_
            rintro e w3 ⟨rfl, bx⟩
            clear c0 c1 g0 g1 g2 g3 g4 h0 h1 h2 h3 h4 e0 e1 e2 e3 e4 f0 f1 f2 f3 f4
            replace BB := hide (chain BB.out bx)
            replace D0 := hide (D0.out.below bx)
            replace D1 := hide (D1.out.below bx)
            replace KE := hide (KE.out.below bx)
            clear bx
            have c0 := D0.out.cell 0 rfl
            have c1 := D0.out.cell 1 rfl
            have g0 := D1.out.cell 0 rfl
            have h0 := D1.out.free 0
            have g1 := D1.out.cell 1 rfl
            have h1 := D1.out.free 1
            have g2 := D1.out.cell 2 rfl
            have h2 := D1.out.free 2
            have g3 := D1.out.cell 3 rfl
            have h3 := D1.out.free 3
            have g4 := D1.out.cell 4 rfl
            have h4 := D1.out.free 4
            have e0 := KE.out.cell 0 rfl
            have f0 := KE.out.free 0
            have e1 := KE.out.cell 1 rfl
            have f1 := KE.out.free 1
            have e2 := KE.out.cell 2 rfl
            have f2 := KE.out.free 2
            have e3 := KE.out.cell 3 rfl
            have f3 := KE.out.free 3
            have e4 := KE.out.cell 4 rfl
            have f4 := KE.out.free 4
            go_wp2_with fail
            refine (HE.out _ BB.out).mono ?_
            rintro e w4 ⟨rfl, bx⟩
            clear c0 c1 g0 g1 g2 g3 g4 h0 h1 h2 h3 h4 e0 e1 e2 e3 e4 f0 f1 f2 f3 f4
            replace BB := hide (chain BB.out bx)
            replace D0 := hide (D0.out.below bx)
            replace D1 := hide (D1.out.below bx)
            replace KE := hide (KE.out.below bx)
            clear bx
            have c0 := D0.out.cell 0 rfl
            have c1 := D0.out.cell 1 rfl
            have g0 := D1.out.cell 0 rfl
            have h0 := D1.out.free 0
            have g1 := D1.out.cell 1 rfl
            have h1 := D1.out.free 1
            have g2 := D1.out.cell 2 rfl
            have h2 := D1.out.free 2
            have g3 := D1.out.cell 3 rfl
            have h3 := D1.out.free 3
            have g4 := D1.out.cell 4 rfl
            have h4 := D1.out.free 4
            have e0 := KE.out.cell 0 rfl
            have f0 := KE.out.free 0
            have e1 := KE.out.cell 1 rfl
            have f1 := KE.out.free 1
            have e2 := KE.out.cell 2 rfl
            have f2 := KE.out.free 2
            have e3 := KE.out.cell 3 rfl
            have f3 := KE.out.free 3
            have e4 := KE.out.cell 4 rfl
            have f4 := KE.out.free 4
            go_wp2_with fail
            refine (HQ.out _ BB.out).mono ?_
            rintro e w5 ⟨rfl, bx⟩
            clear c0 c1 g0 g1 g2 g3 g4 h0 h1 h2 h3 h4 e0 e1 e2 e3 e4 f0 f1 f2 f3 f4
            replace BB := hide (chain BB.out bx)
            replace D0 := hide (D0.out.below bx)
            replace D1 := hide (D1.out.below bx)
            replace KE := hide (KE.out.below bx)
            clear bx
            have c0 := D0.out.cell 0 rfl
            have c1 := D0.out.cell 1 rfl
            have g0 := D1.out.cell 0 rfl
            have h0 := D1.out.free 0
            have g1 := D1.out.cell 1 rfl
            have h1 := D1.out.free 1
            have g2 := D1.out.cell 2 rfl
            have h2 := D1.out.free 2
            have g3 := D1.out.cell 3 rfl
            have h3 := D1.out.free 3
            have g4 := D1.out.cell 4 rfl
            have h4 := D1.out.free 4
            have e0 := KE.out.cell 0 rfl
            have f0 := KE.out.free 0
            have e1 := KE.out.cell 1 rfl
            have f1 := KE.out.free 1
            have e2 := KE.out.cell 2 rfl
            have f2 := KE.out.free 2
            have e3 := KE.out.cell 3 rfl
            have f3 := KE.out.free 3
            have e4 := KE.out.cell 4 rfl
            have f4 := KE.out.free 4
            go_wp2_with fail
            refine bodyPost_ret (v := .tuple #[.agg #[.string me, .string qq, .string ta, .string ⟨#[]⟩, .string ⟨#[]⟩], .int .i64 0]) (by simp [results, go_sem, g0, g1, g2, g3, g4]) rfl ?_
            exact ⟨ret_pl R1.out.symm R2.out.symm, low5 (BB.out.setCell (p := ⟨E, 1, none⟩) lE _) n1le _ _ _ _ _⟩
          · have EM := ED.out q
            have a2 : (me.toList == [103, 101, 116]) = false := lit_no (by rw [q]; decide)
            have a3 : (me.toList == [100, 105, 97, 108, 111, 103]) = true := lit_yes q
            cases hfi : firesP l sub with
            | false =>
              rw [hfi] at HF
              have R1 : Hid (RA = #[.string me, .string ⟨#[]⟩, .string ta, .string ⟨#[]⟩, .string ⟨#[]⟩]) := by show _ = _; rw [← hRA.out, EM]; rw [← hta, q]; unfold diaP; rw [hfi]; rfl
              have R2 : Hid (RB = 0) := by show _ = _; rw [← hRB.out, EM]
              clear EM hRA hRB
              clear EG ED EP FI CM hme hta q
              clear HK HO HC HV HE HQ hfi
              generalize actP l (m : Int) sub = ac at *
              have c0 := D0.out.cell 0 rfl
              have c1 := D0.out.cell 1 rfl
              have g0 := D1.out.cell 0 rfl
              have h0 := D1.out.free 0
              have g1 := D1.out.cell 1 rfl
              have h1 := D1.out.free 1
              have g2 := D1.out.cell 2 rfl
              have h2 := D1.out.free 2
              have g3 := D1.out.cell 3 rfl
              have h3 := D1.out.free 3
              have g4 := D1.out.cell 4 rfl
              have h4 := D1.out.free 4
              have e0 := KE.out.cell 0 rfl
              have f0 := KE.out.free 0
              have e1 := KE.out.cell 1 rfl
              have f1 := KE.out.free 1
              have e2 := KE.out.cell 2 rfl
              have f2 := KE.out.free 2
              have e3 := KE.out.cell 3 rfl
              have f3 := KE.out.free 3
              have e4 := KE.out.cell 4 rfl
              have f4 := KE.out.free 4
              go_wp2_with fail
              refine (HA.out _ BB.out).mono ?_
              rintro e w3 ⟨rfl, bx⟩
              clear c0 c1 g0 g1 g2 g3 g4 h0 h1 h2 h3 h4 e0 e1 e2 e3 e4 f0 f1 f2 f3 f4
              replace BB := hide (chain BB.out bx)
              replace D0 := hide (D0.out.below bx)
              replace D1 := hide (D1.out.below bx)
              replace KE := hide (KE.out.below bx)
              clear bx
              have c0 := D0.out.cell 0 rfl
              have c1 := D0.out.cell 1 rfl
              have g0 := D1.out.cell 0 rfl
              have h0 := D1.out.free 0
              have g1 := D1.out.cell 1 rfl
              have h1 := D1.out.free 1
              have g2 := D1.out.cell 2 rfl
              have h2 := D1.out.free 2
              have g3 := D1.out.cell 3 rfl
              have h3 := D1.out.free 3
              have g4 := D1.out.cell 4 rfl
              have h4 := D1.out.free 4
              have e0 := KE.out.cell 0 rfl
              have f0 := KE.out.free 0
              have e1 := KE.out.cell 1 rfl
              have f1 := KE.out.free 1
              have e2 := KE.out.cell 2 rfl
              have f2 := KE.out.free 2
              have e3 := KE.out.cell 3 rfl
              have f3 := KE.out.free 3
              have e4 := KE.out.cell 4 rfl
              have f4 := KE.out.free 4
              go_wp2_with fail
              refine (HF.out _ BB.out).mono ?_
              rintro e w4 ⟨rfl, bx⟩
              clear c0 c1 g0 g1 g2 g3 g4 h0 h1 h2 h3 h4 e0 e1 e2 e3 e4 f0 f1 f2 f3 f4
              replace BB := hide (chain BB.out bx)
              replace D0 := hide (D0.out.below bx)
              replace D1 := hide (D1.out.below bx)
              replace KE := hide (KE.out.below bx)
              clear bx
              have c0 := D0.out.cell 0 rfl
              have c1 := D0.out.cell 1 rfl
              have g0 := D1.out.cell 0 rfl
              have h0 := D1.out.free 0
              have g1 := D1.out.cell 1 rfl
              have h1 := D1.out.free 1
              have g2 := D1.out.cell 2 rfl
              have h2 := D1.out.free 2
              have g3 := D1.out.cell 3 rfl
              have h3 := D1.out.free 3
              have g4 := D1.out.cell 4 rfl
              have h4 := D1.out.free 4
              have e0 := KE.out.cell 0 rfl
              have f0 := KE.out.free 0
              have e1 := KE.out.cell 1 rfl
              have f1 := KE.out.free 1
              have e2 := KE.out.cell 2 rfl
              have f2 := KE.out.free 2
              have e3 := KE.out.cell 3 rfl
              have f3 := KE.out.free 3
              have e4 := KE.out.cell 4 rfl
              have f4 := KE.out.free 4
              go_wp2_with fail
              refine bodyPost_ret (v := .tuple #[.agg #[.string me, .string ⟨#[]⟩, .string ta, .string ⟨#[]⟩, .string ⟨#[]⟩], .int .i64 0]) (by simp [results, go_sem, g0, g1, g2, g3, g4]) rfl ?_
              exact ⟨ret_pl R1.out.symm R2.out.symm, low5 BB.out n1le _ _ _ _ _⟩
            | true =>
              obtain ⟨k, rfl, hk⟩ := FI.out hfi
              rw [hfi] at HF
              have HVk := hide (HV.out k hk (by rw [← hCl.out]; exact hk))
              have R1 : Hid (RA = #[.string me, .string ⟨#[]⟩, .string ta, .string (valE l C (k : Int)), .string ⟨#[]⟩]) := by show _ = _; rw [← hRA.out, EM]; rw [← hta, q]; unfold diaP; rw [hfi]; rfl
              have R2 : Hid (RB = 0) := by show _ = _; rw [← hRB.out, EM]
              clear EM hRA hRB
              clear EG ED EP FI CM hme hta q
              clear HK HO HC HV HE HQ hfi
              generalize actP l (m : Int) (k : Int) = ac at *
              generalize valE l C (k : Int) = ve at *
              have c0 := D0.out.cell 0 rfl
              have c1 := D0.out.cell 1 rfl
              have g0 := D1.out.cell 0 rfl
              have h0 := D1.out.free 0
              have g1 := D1.out.cell 1 rfl
              have h1 := D1.out.free 1
              have g2 := D1.out.cell 2 rfl
              have h2 := D1.out.free 2
              have g3 := D1.out.cell 3 rfl
              have h3 := D1.out.free 3
              have g4 := D1.out.cell 4 rfl
              have h4 := D1.out.free 4
              have e0 := KE.out.cell 0 rfl
              have f0 := KE.out.free 0
              have e1 := KE.out.cell 1 rfl
              have f1 := KE.out.free 1
              have e2 := KE.out.cell 2 rfl
              have f2 := KE.out.free 2
              have e3 := KE.out.cell 3 rfl
              have f3 := KE.out.free 3
              have e4 := KE.out.cell 4 rfl
              have f4 := KE.out.free 4
              go_wp2_with fail
              refine (HA.out _ BB.out).mono ?_
              rintro e w3 ⟨rfl, bx⟩
              clear c0 c1 g0 g1 g2 g3 g4 h0 h1 h2 h3 h4 e0 e1 e2 e3 e4 f0 f1 f2 f3 f4
              replace BB := hide (chain BB.out bx)
              replace D0 := hide (D0.out.below bx)
              replace D1 := hide (D1.out.below bx)
              replace KE := hide (KE.out.below bx)
              clear bx
              have c0 := D0.out.cell 0 rfl
              have c1 := D0.out.cell 1 rfl
              have g0 := D1.out.cell 0 rfl
              have h0 := D1.out.free 0
              have g1 := D1.out.cell 1 rfl
              have h1 := D1.out.free 1
              have g2 := D1.out.cell 2 rfl
              have h2 := D1.out.free 2
              have g3 := D1.out.cell 3 rfl
              have h3 := D1.out.free 3
              have g4 := D1.out.cell 4 rfl
              have h4 := D1.out.free 4
              have e0 := KE.out.cell 0 rfl
              have f0 := KE.out.free 0
              have e1 := KE.out.cell 1 rfl
              have f1 := KE.out.free 1
              have e2 := KE.out.cell 2 rfl
              have f2 := KE.out.free 2
              have e3 := KE.out.cell 3 rfl
              have f3 := KE.out.free 3
              have e4 := KE.out.cell 4 rfl
              have f4 := KE.out.free 4
              go_wp2_with fail
              refine (HF.out _ BB.out).mono ?_
              rintro e w4 ⟨rfl, bx⟩
              clear c0 c1 g0 g1 g2 g3 g4 h0 h1 h2 h3 h4 e0 e1 e2 e3 e4 f0 f1 f2 f3 f4
              replace BB := hide (chain BB.out bx)
              replace D0 := hide (D0.out.below bx)
              replace D1 := hide (D1.out.below bx)
              replace KE := hide (KE.out.below bx)
              clear bx
              have c0 := D0.out.cell 0 rfl
              have c1 := D0.out.cell 1 rfl
              have g0 := D1.out.cell 0 rfl
              have h0 := D1.out.free 0
              have g1 := D1.out.cell 1 rfl
              have h1 := D1.out.free 1
              have g2 := D1.out.cell 2 rfl
              have h2 := D1.out.free 2
              have g3 := D1.out.cell 3 rfl
              have h3 := D1.out.free 3
              have g4 := D1.out.cell 4 rfl
              have h4 := D1.out.free 4
              have e0 := KE.out.cell 0 rfl
              have f0 := KE.out.free 0
              have e1 := KE.out.cell 1 rfl
              have f1 := KE.out.free 1
              have e2 := KE.out.cell 2 rfl
              have f2 := KE.out.free 2
              have e3 := KE.out.cell 3 rfl
              have f3 := KE.out.free 3
              have e4 := KE.out.cell 4 rfl
              have f4 := KE.out.free 4
              go_wp2_with fail
              refine (HVk.out _ BB.out).mono ?_
              rintro e w5 ⟨rfl, bx⟩
              clear c0 c1 g0 g1 g2 g3 g4 h0 h1 h2 h3 h4 e0 e1 e2 e3 e4 f0 f1 f2 f3 f4
              replace BB := hide (chain BB.out bx)
              replace D0 := hide (D0.out.below bx)
              replace D1 := hide (D1.out.below bx)
              replace KE := hide (KE.out.below bx)
              clear bx
              have c0 := D0.out.cell 0 rfl
              have c1 := D0.out.cell 1 rfl
              have g0 := D1.out.cell 0 rfl
              have h0 := D1.out.free 0
              have g1 := D1.out.cell 1 rfl
              have h1 := D1.out.free 1
              have g2 := D1.out.cell 2 rfl
              have h2 := D1.out.free 2
              have g3 := D1.out.cell 3 rfl
              have h3 := D1.out.free 3
              have g4 := D1.out.cell 4 rfl
              have h4 := D1.out.free 4
              have e0 := KE.out.cell 0 rfl
              have f0 := KE.out.free 0
              have e1 := KE.out.cell 1 rfl
              have f1 := KE.out.free 1
              have e2 := KE.out.cell 2 rfl
              have f2 := KE.out.free 2
              have e3 := KE.out.cell 3 rfl
              have f3 := KE.out.free 3
              have e4 := KE.out.cell 4 rfl
              have f4 := KE.out.free 4
              go_wp2_with fail
              refine bodyPost_ret (v := .tuple #[.agg #[.string me, .string ⟨#[]⟩, .string ta, .string ve, .string ⟨#[]⟩], .int .i64 0]) (by simp [results, go_sem, g0, g1, g2, g3, g4]) rfl ?_
              exact ⟨ret_pl R1.out.symm R2.out.symm, low5 (BB.out.setCell (p := ⟨E, 3, none⟩) lE _) n1le _ _ _ _ _⟩
          · have a2 : (me.toList == [103, 101, 116]) = false := lit_no (by rw [q]; decide)
            have a3 : (me.toList == [100, 105, 97, 108, 111, 103]) = false := lit_no (by rw [q]; decide)
            by_cases n2 : knP l (m : Int) sub = 2
            · cases hch : chsP es ds with
              | none =>
                have EM := EP.out q
                rw [if_pos n2, hch] at EM
                rw [hch, show chsT none = ⟨#[]⟩ from rfl, show chsE none = 10 from rfl] at HC
                replace EM : makP l C (m : Int) sub es ds = (pl0, 10) := EM
                have R1 : Hid (RA = #[.string ⟨#[]⟩, .string ⟨#[]⟩, .string ⟨#[]⟩, .string ⟨#[]⟩, .string ⟨#[]⟩]) := by show _ = _; rw [← hRA.out, EM]; rfl
                have R2 : Hid (RB = 10) := by show _ = _; rw [← hRB.out, EM]
                clear EM hRA hRB
                have b1 : (knP l (m : Int) sub == 2) = true := beq_iff_eq.2 n2
                clear EG ED EP FI CM hme hta q
                clear HF HO HV HE HQ n2 hch
                generalize knP l (m : Int) sub = kk at *
                generalize actP l (m : Int) sub = ac at *
                have c0 := D0.out.cell 0 rfl
                have c1 := D0.out.cell 1 rfl
                have g0 := D1.out.cell 0 rfl
                have h0 := D1.out.free 0
                have g1 := D1.out.cell 1 rfl
                have h1 := D1.out.free 1
                have g2 := D1.out.cell 2 rfl
                have h2 := D1.out.free 2
                have g3 := D1.out.cell 3 rfl
                have h3 := D1.out.free 3
                have g4 := D1.out.cell 4 rfl
                have h4 := D1.out.free 4
                have e0 := KE.out.cell 0 rfl
                have f0 := KE.out.free 0
                have e1 := KE.out.cell 1 rfl
                have f1 := KE.out.free 1
                have e2 := KE.out.cell 2 rfl
                have f2 := KE.out.free 2
                have e3 := KE.out.cell 3 rfl
                have f3 := KE.out.free 3
                have e4 := KE.out.cell 4 rfl
                have f4 := KE.out.free 4
                go_wp2_with fail
                refine (HA.out _ BB.out).mono ?_
                rintro e w3 ⟨rfl, bx⟩
                clear c0 c1 g0 g1 g2 g3 g4 h0 h1 h2 h3 h4 e0 e1 e2 e3 e4 f0 f1 f2 f3 f4
                replace BB := hide (chain BB.out bx)
                replace D0 := hide (D0.out.below bx)
                replace D1 := hide (D1.out.below bx)
                replace KE := hide (KE.out.below bx)
                clear bx
                have c0 := D0.out.cell 0 rfl
                have c1 := D0.out.cell 1 rfl
                have g0 := D1.out.cell 0 rfl
                have h0 := D1.out.free 0
                have g1 := D1.out.cell 1 rfl
                have h1 := D1.out.free 1
                have g2 := D1.out.cell 2 rfl
                have h2 := D1.out.free 2
                have g3 := D1.out.cell 3 rfl
                have h3 := D1.out.free 3
                have g4 := D1.out.cell 4 rfl
                have h4 := D1.out.free 4
                have e0 := KE.out.cell 0 rfl
                have f0 := KE.out.free 0
                have e1 := KE.out.cell 1 rfl
                have f1 := KE.out.free 1
                have e2 := KE.out.cell 2 rfl
                have f2 := KE.out.free 2
                have e3 := KE.out.cell 3 rfl
                have f3 := KE.out.free 3
                have e4 := KE.out.cell 4 rfl
                have f4 := KE.out.free 4
                replace KE : Hid (Bk (w3.setCell ⟨E, 1, none⟩ (.string ac)) E [.string me, .string ac, .string ta, .string ⟨#[]⟩, .string ⟨#[]⟩] 33) := KE.out.set 1 _
                replace D0 := hide (D0.out.other (fun t => ne0 t.symm) 1 (.string ac))
                replace D1 := hide (D1.out.other (fun t => ne1 t.symm) 1 (.string ac))
                replace BB := hide (BB.out.setCell (p := ⟨E, 1, none⟩) lE (.string ac))
                go_wp2_with fail
                refine (HK.out _ BB.out).mono ?_
                rintro e w4 ⟨rfl, bx⟩
                clear c0 c1 g0 g1 g2 g3 g4 h0 h1 h2 h3 h4 e0 e1 e2 e3 e4 f0 f1 f2 f3 f4
                replace BB := hide (chain BB.out bx)
                replace D0 := hide (D0.out.below bx)
                replace D1 := hide (D1.out.below bx)
                replace KE := hide (KE.out.below bx)
                clear bx
                have c0 := D0.out.cell 0 rfl
                have c1 := D0.out.cell 1 rfl
                have g0 := D1.out.cell 0 rfl
                have h0 := D1.out.free 0
                have g1 := D1.out.cell 1 rfl
                have h1 := D1.out.free 1
                have g2 := D1.out.cell 2 rfl
                have h2 := D1.out.free 2
                have g3 := D1.out.cell 3 rfl
                have h3 := D1.out.free 3
                have g4 := D1.out.cell 4 rfl
                have h4 := D1.out.free 4
                have e0 := KE.out.cell 0 rfl
                have f0 := KE.out.free 0
                have e1 := KE.out.cell 1 rfl
                have f1 := KE.out.free 1
                have e2 := KE.out.cell 2 rfl
                have f2 := KE.out.free 2
                have e3 := KE.out.cell 3 rfl
                have f3 := KE.out.free 3
                have e4 := KE.out.cell 4 rfl
                have f4 := KE.out.free 4
                go_wp2_with fail
                refine (HC.out _ BB.out).mono ?_
                rintro e w5 ⟨rfl, bx⟩
                clear c0 c1 g0 g1 g2 g3 g4 h0 h1 h2 h3 h4 e0 e1 e2 e3 e4 f0 f1 f2 f3 f4
                replace BB := hide (chain BB.out bx)
                replace D0 := hide (D0.out.below bx)
                replace D1 := hide (D1.out.below bx)
                replace KE := hide (KE.out.below bx)
                clear bx
                have c0 := D0.out.cell 0 rfl
                have c1 := D0.out.cell 1 rfl
                have g0 := D1.out.cell 0 rfl
                have h0 := D1.out.free 0
                have g1 := D1.out.cell 1 rfl
                have h1 := D1.out.free 1
                have g2 := D1.out.cell 2 rfl
                have h2 := D1.out.free 2
                have g3 := D1.out.cell 3 rfl
                have h3 := D1.out.free 3
                have g4 := D1.out.cell 4 rfl
                have h4 := D1.out.free 4
                have e0 := KE.out.cell 0 rfl
                have f0 := KE.out.free 0
                have e1 := KE.out.cell 1 rfl
                have f1 := KE.out.free 1
                have e2 := KE.out.cell 2 rfl
                have f2 := KE.out.free 2
                have e3 := KE.out.cell 3 rfl
                have f3 := KE.out.free 3
                have e4 := KE.out.cell 4 rfl
                have f4 := KE.out.free 4
                go_wp2_with fail
                refine bodyPost_ret (v := .tuple #[.agg #[.string ⟨#[]⟩, .string ⟨#[]⟩, .string ⟨#[]⟩, .string ⟨#[]⟩, .string ⟨#[]⟩], .int .i64 10]) (by simp [results, go_sem, g0, g1, g2, g3, g4]) rfl ?_
                exact ⟨ret_pl R1.out.symm R2.out.symm, low5 BB.out n1le _ _ _ _ _⟩
              | some bd =>
                have HOk := hide (HO.out (knP l (m : Int) sub) bd (Nat.le_trans (CM.out bd hch) (by decide)))
                have EM := EP.out q
                rw [if_pos n2, hch] at EM
                rw [hch, show chsT (some bd) = bd from rfl, show chsE (some bd) = 0 from rfl] at HC
                replace EM : makP l C (m : Int) sub es ds = (posP l (m : Int) sub es bd, 0) := EM
                have R1 : Hid (RA = #[.string me, .string (actP l (m : Int) sub), .string ta, .string (bodT (knP l (m : Int) sub) es bd), .string (bodY (knP l (m : Int) sub) es bd)]) := by show _ = _; rw [← hRA.out, EM]; rw [← hta, q]; rfl
                have R2 : Hid (RB = 0) := by show _ = _; rw [← hRB.out, EM]
                clear EM hRA hRB
                have b1 : (knP l (m : Int) sub == 2) = true := beq_iff_eq.2 n2
                clear EG ED EP FI CM hme hta q
                clear HF HO HV HE HQ n2 hch
                generalize bodT (knP l (m : Int) sub) es bd = bt at *
                generalize bodY (knP l (m : Int) sub) es bd = bY at *
                generalize bodE (knP l (m : Int) sub) es bd = bE at *
                generalize knP l (m : Int) sub = kk at *
                generalize actP l (m : Int) sub = ac at *
                have c0 := D0.out.cell 0 rfl
                have c1 := D0.out.cell 1 rfl
                have g0 := D1.out.cell 0 rfl
                have h0 := D1.out.free 0
                have g1 := D1.out.cell 1 rfl
                have h1 := D1.out.free 1
                have g2 := D1.out.cell 2 rfl
                have h2 := D1.out.free 2
                have g3 := D1.out.cell 3 rfl
                have h3 := D1.out.free 3
                have g4 := D1.out.cell 4 rfl
                have h4 := D1.out.free 4
                have e0 := KE.out.cell 0 rfl
                have f0 := KE.out.free 0
                have e1 := KE.out.cell 1 rfl
                have f1 := KE.out.free 1
                have e2 := KE.out.cell 2 rfl
                have f2 := KE.out.free 2
                have e3 := KE.out.cell 3 rfl
                have f3 := KE.out.free 3
                have e4 := KE.out.cell 4 rfl
                have f4 := KE.out.free 4
                go_wp2_with fail
                refine (HA.out _ BB.out).mono ?_
                rintro e w3 ⟨rfl, bx⟩
                clear c0 c1 g0 g1 g2 g3 g4 h0 h1 h2 h3 h4 e0 e1 e2 e3 e4 f0 f1 f2 f3 f4
                replace BB := hide (chain BB.out bx)
                replace D0 := hide (D0.out.below bx)
                replace D1 := hide (D1.out.below bx)
                replace KE := hide (KE.out.below bx)
                clear bx
                have c0 := D0.out.cell 0 rfl
                have c1 := D0.out.cell 1 rfl
                have g0 := D1.out.cell 0 rfl
                have h0 := D1.out.free 0
                have g1 := D1.out.cell 1 rfl
                have h1 := D1.out.free 1
                have g2 := D1.out.cell 2 rfl
                have h2 := D1.out.free 2
                have g3 := D1.out.cell 3 rfl
                have h3 := D1.out.free 3
                have g4 := D1.out.cell 4 rfl
                have h4 := D1.out.free 4
                have e0 := KE.out.cell 0 rfl
                have f0 := KE.out.free 0
                have e1 := KE.out.cell 1 rfl
                have f1 := KE.out.free 1
                have e2 := KE.out.cell 2 rfl
                have f2 := KE.out.free 2
                have e3 := KE.out.cell 3 rfl
                have f3 := KE.out.free 3
                have e4 := KE.out.cell 4 rfl
                have f4 := KE.out.free 4
                replace KE : Hid (Bk (w3.setCell ⟨E, 1, none⟩ (.string ac)) E [.string me, .string ac, .string ta, .string ⟨#[]⟩, .string ⟨#[]⟩] 33) := KE.out.set 1 _
                replace D0 := hide (D0.out.other (fun t => ne0 t.symm) 1 (.string ac))
                replace D1 := hide (D1.out.other (fun t => ne1 t.symm) 1 (.string ac))
                replace BB := hide (BB.out.setCell (p := ⟨E, 1, none⟩) lE (.string ac))
                go_wp2_with fail
                refine (HK.out _ BB.out).mono ?_
                rintro e w4 ⟨rfl, bx⟩
                clear c0 c1 g0 g1 g2 g3 g4 h0 h1 h2 h3 h4 e0 e1 e2 e3 e4 f0 f1 f2 f3 f4
                replace BB := hide (chain BB.out bx)
                replace D0 := hide (D0.out.below bx)
                replace D1 := hide (D1.out.below bx)
                replace KE := hide (KE.out.below bx)
                clear bx
                have c0 := D0.out.cell 0 rfl
                have c1 := D0.out.cell 1 rfl
                have g0 := D1.out.cell 0 rfl
                have h0 := D1.out.free 0
                have g1 := D1.out.cell 1 rfl
                have h1 := D1.out.free 1
                have g2 := D1.out.cell 2 rfl
                have h2 := D1.out.free 2
                have g3 := D1.out.cell 3 rfl
                have h3 := D1.out.free 3
                have g4 := D1.out.cell 4 rfl
                have h4 := D1.out.free 4
                have e0 := KE.out.cell 0 rfl
                have f0 := KE.out.free 0
                have e1 := KE.out.cell 1 rfl
                have f1 := KE.out.free 1
                have e2 := KE.out.cell 2 rfl
                have f2 := KE.out.free 2
                have e3 := KE.out.cell 3 rfl
                have f3 := KE.out.free 3
                have e4 := KE.out.cell 4 rfl
                have f4 := KE.out.free 4
                go_wp2_with fail
                refine (HC.out _ BB.out).mono ?_
                rintro e w5 ⟨rfl, bx⟩
                clear c0 c1 g0 g1 g2 g3 g4 h0 h1 h2 h3 h4 e0 e1 e2 e3 e4 f0 f1 f2 f3 f4
                replace BB := hide (chain BB.out bx)
                replace D0 := hide (D0.out.below bx)
                replace D1 := hide (D1.out.below bx)
                replace KE := hide (KE.out.below bx)
                clear bx
                have c0 := D0.out.cell 0 rfl
                have c1 := D0.out.cell 1 rfl
                have g0 := D1.out.cell 0 rfl
                have h0 := D1.out.free 0
                have g1 := D1.out.cell 1 rfl
                have h1 := D1.out.free 1
                have g2 := D1.out.cell 2 rfl
                have h2 := D1.out.free 2
                have g3 := D1.out.cell 3 rfl
                have h3 := D1.out.free 3
                have g4 := D1.out.cell 4 rfl
                have h4 := D1.out.free 4
                have e0 := KE.out.cell 0 rfl
                have f0 := KE.out.free 0
                have e1 := KE.out.cell 1 rfl
                have f1 := KE.out.free 1
                have e2 := KE.out.cell 2 rfl
                have f2 := KE.out.free 2
                have e3 := KE.out.cell 3 rfl
                have f3 := KE.out.free 3
                have e4 := KE.out.cell 4 rfl
                have f4 := KE.out.free 4
                go_wp2_with fail
                refine (HOk.out _ BB.out).mono ?_
                rintro e w6 ⟨rfl, bx⟩
                clear c0 c1 g0 g1 g2 g3 g4 h0 h1 h2 h3 h4 e0 e1 e2 e3 e4 f0 f1 f2 f3 f4
                replace BB := hide (chain BB.out bx)
                replace D0 := hide (D0.out.below bx)
                replace D1 := hide (D1.out.below bx)
                replace KE := hide (KE.out.below bx)
                clear bx
                have c0 := D0.out.cell 0 rfl
                have c1 := D0.out.cell 1 rfl
                have g0 := D1.out.cell 0 rfl
                have h0 := D1.out.free 0
                have g1 := D1.out.cell 1 rfl
                have h1 := D1.out.free 1
                have g2 := D1.out.cell 2 rfl
                have h2 := D1.out.free 2
                have g3 := D1.out.cell 3 rfl
                have h3 := D1.out.free 3
                have g4 := D1.out.cell 4 rfl
                have h4 := D1.out.free 4
                have e0 := KE.out.cell 0 rfl
                have f0 := KE.out.free 0
                have e1 := KE.out.cell 1 rfl
                have f1 := KE.out.free 1
                have e2 := KE.out.cell 2 rfl
                have f2 := KE.out.free 2
                have e3 := KE.out.cell 3 rfl
                have f3 := KE.out.free 3
                have e4 := KE.out.cell 4 rfl
                have f4 := KE.out.free 4
                have KB := hide (Bk.new w6 [.string bt, .string bY, .int .i64 bE] 73)
                have lt1 := D1.out.lt
                have lt0 := D0.out.lt
                have ltE := KE.out.lt
                clear c0 c1 g0 g1 g2 g3 g4 h0 h1 h2 h3 h4 e0 e1 e2 e3 e4 f0 f1 f2 f3 f4
                go_upto_region 23 with fail
                have B8 : Hid (Below w6.heap.size w6 (w6.alloc (.cells #[.string bt, .string bY, .int .i64 bE] 73))) := (Below.refl _ _).alloc (Nat.le_refl _) _
                replace D0 := hide (D0.out.below B8.out)
                replace D1 := hide (D1.out.below B8.out)
                replace KE := hide (KE.out.below B8.out)
                replace BB := hide (chain BB.out B8.out)
                have nb1 : ¬ w6.heap.size = E := by omega
                have nb2 : ¬ E = w6.heap.size := by omega
                have nb3 : ¬ w6.heap.size = n1 := by omega
                have nb4 : ¬ n1 = w6.heap.size := by omega
                clear B8 lt0 lt1 ltE
                generalize (w6.alloc (.cells #[.string bt, .string bY, .int .i64 bE] 73)) = w8 at *
                generalize w6.heap.size = n2 at *
                have k0 := KB.out.cell 0 rfl
                have k1 := KB.out.cell 1 rfl
                have c0 := D0.out.cell 0 rfl
                have c1 := D0.out.cell 1 rfl
                have g0 := D1.out.cell 0 rfl
                have h0 := D1.out.free 0
                have g1 := D1.out.cell 1 rfl
                have h1 := D1.out.free 1
                have g2 := D1.out.cell 2 rfl
                have h2 := D1.out.free 2
                have g3 := D1.out.cell 3 rfl
                have h3 := D1.out.free 3
                have g4 := D1.out.cell 4 rfl
                have h4 := D1.out.free 4
                have e0 := KE.out.cell 0 rfl
                have f0 := KE.out.free 0
                have e1 := KE.out.cell 1 rfl
                have f1 := KE.out.free 1
                have e2 := KE.out.cell 2 rfl
                have f2 := KE.out.free 2
                have e3 := KE.out.cell 3 rfl
                have f3 := KE.out.free 3
                have e4 := KE.out.cell 4 rfl
                have f4 := KE.out.free 4
                go_wp2_with fail
                refine bodyPost_ret (v := .tuple #[.agg #[.string me, .string ac, .string ta, .string bt, .string bY], .int .i64 0]) (by simp [results, go_sem, g0, g1, g2, g3, g4]) rfl ?_
                exact ⟨ret_pl R1.out.symm R2.out.symm, low5 ((BB.out.setCell (p := ⟨E, 3, none⟩) lE _).setCell (p := ⟨E, 4, none⟩) lE _) n1le _ _ _ _ _⟩
            · have HOk := hide (HO.out (knP l (m : Int) sub) ⟨#[]⟩ (by decide))
              have EM := EP.out q
              rw [if_neg n2] at EM
              have R1 : Hid (RA = #[.string me, .string (actP l (m : Int) sub), .string ta, .string (bodT (knP l (m : Int) sub) es ⟨#[]⟩), .string (bodY (knP l (m : Int) sub) es ⟨#[]⟩)]) := by show _ = _; rw [← hRA.out, EM]; rw [← hta, q]; rfl
              have R2 : Hid (RB = 0) := by show _ = _; rw [← hRB.out, EM]
              clear EM hRA hRB
              have b1 : (knP l (m : Int) sub == 2) = false := beq_eq_false_iff_ne.2 n2
              clear EG ED EP FI CM hme hta q
              clear HF HO HC HV HE HQ n2
              generalize bodT (knP l (m : Int) sub) es ⟨#[]⟩ = bt at *
              generalize bodY (knP l (m : Int) sub) es ⟨#[]⟩ = bY at *
              generalize bodE (knP l (m : Int) sub) es ⟨#[]⟩ = bE at *
              generalize knP l (m : Int) sub = kk at *
              generalize actP l (m : Int) sub = ac at *
              have c0 := D0.out.cell 0 rfl
              have c1 := D0.out.cell 1 rfl
              have g0 := D1.out.cell 0 rfl
              have h0 := D1.out.free 0
              have g1 := D1.out.cell 1 rfl
              have h1 := D1.out.free 1
              have g2 := D1.out.cell 2 rfl
              have h2 := D1.out.free 2
              have g3 := D1.out.cell 3 rfl
              have h3 := D1.out.free 3
              have g4 := D1.out.cell 4 rfl
              have h4 := D1.out.free 4
              have e0 := KE.out.cell 0 rfl
              have f0 := KE.out.free 0
              have e1 := KE.out.cell 1 rfl
              have f1 := KE.out.free 1
              have e2 := KE.out.cell 2 rfl
              have f2 := KE.out.free 2
              have e3 := KE.out.cell 3 rfl
              have f3 := KE.out.free 3
              have e4 := KE.out.cell 4 rfl
              have f4 := KE.out.free 4
              go_wp2_with fail
              refine (HA.out _ BB.out).mono ?_
              rintro e w3 ⟨rfl, bx⟩
              clear c0 c1 g0 g1 g2 g3 g4 h0 h1 h2 h3 h4 e0 e1 e2 e3 e4 f0 f1 f2 f3 f4
              replace BB := hide (chain BB.out bx)
              replace D0 := hide (D0.out.below bx)
              replace D1 := hide (D1.out.below bx)
              replace KE := hide (KE.out.below bx)
              clear bx
              have c0 := D0.out.cell 0 rfl
              have c1 := D0.out.cell 1 rfl
              have g0 := D1.out.cell 0 rfl
              have h0 := D1.out.free 0
              have g1 := D1.out.cell 1 rfl
              have h1 := D1.out.free 1
              have g2 := D1.out.cell 2 rfl
              have h2 := D1.out.free 2
              have g3 := D1.out.cell 3 rfl
              have h3 := D1.out.free 3
              have g4 := D1.out.cell 4 rfl
              have h4 := D1.out.free 4
              have e0 := KE.out.cell 0 rfl
              have f0 := KE.out.free 0
              have e1 := KE.out.cell 1 rfl
              have f1 := KE.out.free 1
              have e2 := KE.out.cell 2 rfl
              have f2 := KE.out.free 2
              have e3 := KE.out.cell 3 rfl
              have f3 := KE.out.free 3
              have e4 := KE.out.cell 4 rfl
              have f4 := KE.out.free 4
              replace KE : Hid (Bk (w3.setCell ⟨E, 1, none⟩ (.string ac)) E [.string me, .string ac, .string ta, .string ⟨#[]⟩, .string ⟨#[]⟩] 33) := KE.out.set 1 _
              replace D0 := hide (D0.out.other (fun t => ne0 t.symm) 1 (.string ac))
              replace D1 := hide (D1.out.other (fun t => ne1 t.symm) 1 (.string ac))
              replace BB := hide (BB.out.setCell (p := ⟨E, 1, none⟩) lE (.string ac))
              go_wp2_with fail
              refine (HK.out _ BB.out).mono ?_
              rintro e w4 ⟨rfl, bx⟩
              clear c0 c1 g0 g1 g2 g3 g4 h0 h1 h2 h3 h4 e0 e1 e2 e3 e4 f0 f1 f2 f3 f4
              replace BB := hide (chain BB.out bx)
              replace D0 := hide (D0.out.below bx)
              replace D1 := hide (D1.out.below bx)
              replace KE := hide (KE.out.below bx)
              clear bx
              have c0 := D0.out.cell 0 rfl
              have c1 := D0.out.cell 1 rfl
              have g0 := D1.out.cell 0 rfl
              have h0 := D1.out.free 0
              have g1 := D1.out.cell 1 rfl
              have h1 := D1.out.free 1
              have g2 := D1.out.cell 2 rfl
              have h2 := D1.out.free 2
              have g3 := D1.out.cell 3 rfl
              have h3 := D1.out.free 3
              have g4 := D1.out.cell 4 rfl
              have h4 := D1.out.free 4
              have e0 := KE.out.cell 0 rfl
              have f0 := KE.out.free 0
              have e1 := KE.out.cell 1 rfl
              have f1 := KE.out.free 1
              have e2 := KE.out.cell 2 rfl
              have f2 := KE.out.free 2
              have e3 := KE.out.cell 3 rfl
              have f3 := KE.out.free 3
              have e4 := KE.out.cell 4 rfl
              have f4 := KE.out.free 4
              go_wp2_with fail
              refine (HOk.out _ BB.out).mono ?_
              rintro e w5 ⟨rfl, bx⟩
              clear c0 c1 g0 g1 g2 g3 g4 h0 h1 h2 h3 h4 e0 e1 e2 e3 e4 f0 f1 f2 f3 f4
              replace BB := hide (chain BB.out bx)
              replace D0 := hide (D0.out.below bx)
              replace D1 := hide (D1.out.below bx)
              replace KE := hide (KE.out.below bx)
              clear bx
              have c0 := D0.out.cell 0 rfl
              have c1 := D0.out.cell 1 rfl
              have g0 := D1.out.cell 0 rfl
              have h0 := D1.out.free 0
              have g1 := D1.out.cell 1 rfl
              have h1 := D1.out.free 1
              have g2 := D1.out.cell 2 rfl
              have h2 := D1.out.free 2
              have g3 := D1.out.cell 3 rfl
              have h3 := D1.out.free 3
              have g4 := D1.out.cell 4 rfl
              have h4 := D1.out.free 4
              have e0 := KE.out.cell 0 rfl
              have f0 := KE.out.free 0
              have e1 := KE.out.cell 1 rfl
              have f1 := KE.out.free 1
              have e2 := KE.out.cell 2 rfl
              have f2 := KE.out.free 2
              have e3 := KE.out.cell 3 rfl
              have f3 := KE.out.free 3
              have e4 := KE.out.cell 4 rfl
              have f4 := KE.out.free 4
              have KB := hide (Bk.new w5 [.string bt, .string bY, .int .i64 bE] 73)
              have lt1 := D1.out.lt
              have lt0 := D0.out.lt
              have ltE := KE.out.lt
              clear c0 c1 g0 g1 g2 g3 g4 h0 h1 h2 h3 h4 e0 e1 e2 e3 e4 f0 f1 f2 f3 f4
              go_upto_region 23 with fail
              have B8 : Hid (Below w5.heap.size w5 (w5.alloc (.cells #[.string bt, .string bY, .int .i64 bE] 73))) := (Below.refl _ _).alloc (Nat.le_refl _) _
              replace D0 := hide (D0.out.below B8.out)
              replace D1 := hide (D1.out.below B8.out)
              replace KE := hide (KE.out.below B8.out)
              replace BB := hide (chain BB.out B8.out)
              have nb1 : ¬ w5.heap.size = E := by omega
              have nb2 : ¬ E = w5.heap.size := by omega
              have nb3 : ¬ w5.heap.size = n1 := by omega
              have nb4 : ¬ n1 = w5.heap.size := by omega
              clear B8 lt0 lt1 ltE
              generalize (w5.alloc (.cells #[.string bt, .string bY, .int .i64 bE] 73)) = w8 at *
              generalize w5.heap.size = n2 at *
              have k0 := KB.out.cell 0 rfl
              have k1 := KB.out.cell 1 rfl
              have c0 := D0.out.cell 0 rfl
              have c1 := D0.out.cell 1 rfl
              have g0 := D1.out.cell 0 rfl
              have h0 := D1.out.free 0
              have g1 := D1.out.cell 1 rfl
              have h1 := D1.out.free 1
              have g2 := D1.out.cell 2 rfl
              have h2 := D1.out.free 2
              have g3 := D1.out.cell 3 rfl
              have h3 := D1.out.free 3
              have g4 := D1.out.cell 4 rfl
              have h4 := D1.out.free 4
              have e0 := KE.out.cell 0 rfl
              have f0 := KE.out.free 0
              have e1 := KE.out.cell 1 rfl
              have f1 := KE.out.free 1
              have e2 := KE.out.cell 2 rfl
              have f2 := KE.out.free 2
              have e3 := KE.out.cell 3 rfl
              have f3 := KE.out.free 3
              have e4 := KE.out.cell 4 rfl
              have f4 := KE.out.free 4
              go_wp2_with fail
              refine bodyPost_ret (v := .tuple #[.agg #[.string me, .string ac, .string ta, .string bt, .string bY], .int .i64 0]) (by simp [results, go_sem, g0, g1, g2, g3, g4]) rfl ?_
              exact ⟨ret_pl R1.out.symm R2.out.symm, low5 ((BB.out.setCell (p := ⟨E, 3, none⟩) lE _).setCell (p := ⟨E, 4, none⟩) lE _) n1le _ _ _ _ _⟩
      · have EM : makP l C (m : Int) sub es ds = (pl0, 3) := by unfold makP; rw [if_neg (by rw [hr, h]; simp), if_pos hf]
        have hf' : ¬ l[m].name = oForm := by unfold nmI at hf; rw [Int.toNat_natCast, nd_at hm] at hf; exact hf
        have a1 : (l[m].name.toList == [102, 111, 114, 109]) = false := lit_no hf'
        clear N hvv hnn hz hC hv hd he h5 hr hD h hI hf hf' HM HT HA HF HK HE HO HC HV ZA HQ hCl
        generalize l[m].name = nn0 at *
        have R1 : Hid ((makP l C (m : Int) sub es ds).1.vals.toArray = #[.string ⟨#[]⟩, .string ⟨#[]⟩, .string ⟨#[]⟩, .string ⟨#[]⟩, .string ⟨#[]⟩]) := by show _ = _; rw [EM]; rfl
        have R2 : Hid ((makP l C (m : Int) sub es ds).2 = 3) := by show _ = _; rw [EM]
        clear EM
        generalize (makP l C (m : Int) sub es ds).1.vals.toArray = RA at *
        generalize (makP l C (m : Int) sub es ds).2 = RB at *
        go_enter Tryz.func10, Tryz.ntmps10
        go_upto_region 1 with fail
        have D0 : Hid (Bk ((w.alloc (.cells #[.slice (some ⟨b, o, none⟩) l.length c, .slice p2 C.length c2] 25)).alloc (.cells #[.string ⟨#[]⟩, .string ⟨#[]⟩, .string ⟨#[]⟩, .string ⟨#[]⟩, .string ⟨#[]⟩] 33)) w.heap.size [.slice (some ⟨b, o, none⟩) l.length c, .slice p2 C.length c2] 25) := (Bk.new w [.slice (some ⟨b, o, none⟩) l.length c, .slice p2 C.length c2] 25).below ((Below.refl _ _).alloc (Nat.le_refl _) _)
        have D1 : Hid (Bk ((w.alloc (.cells #[.slice (some ⟨b, o, none⟩) l.length c, .slice p2 C.length c2] 25)).alloc (.cells #[.string ⟨#[]⟩, .string ⟨#[]⟩, .string ⟨#[]⟩, .string ⟨#[]⟩, .string ⟨#[]⟩] 33)) (w.heap.size + 1) [.string ⟨#[]⟩, .string ⟨#[]⟩, .string ⟨#[]⟩, .string ⟨#[]⟩, .string ⟨#[]⟩] 33) := Bk.atS (al_nextS w _)
        have BB : Hid (Below w.heap.size w ((w.alloc (.cells #[.slice (some ⟨b, o, none⟩) l.length c, .slice p2 C.length c2] 25)).alloc (.cells #[.string ⟨#[]⟩, .string ⟨#[]⟩, .string ⟨#[]⟩, .string ⟨#[]⟩, .string ⟨#[]⟩] 33))) := ((Below.refl _ w).alloc (Nat.le_refl _) _).alloc (by rw [al_nextS]; exact Nat.le_succ _) _
        have n1le : w.heap.size ≤ w.heap.size + 1 := Nat.le_succ _
        have n01 : w.heap.size ≠ w.heap.size + 1 := by omega
        generalize ((w.alloc (.cells #[.slice (some ⟨b, o, none⟩) l.length c, .slice p2 C.length c2] 25)).alloc (.cells #[.string ⟨#[]⟩, .string ⟨#[]⟩, .string ⟨#[]⟩, .string ⟨#[]⟩, .string ⟨#[]⟩] 33)) = w0 at *
        generalize w.heap.size + 1 = n1 at *
        have c0 := D0.out.cell 0 rfl
        have c1 := D0.out.cell 1 rfl
        have g0 := D1.out.cell 0 rfl
        have h0 := D1.out.free 0
        have g1 := D1.out.cell 1 rfl
        have h1 := D1.out.free 1
        have g2 := D1.out.cell 2 rfl
        have h2 := D1.out.free 2
        have g3 := D1.out.cell 3 rfl
        have h3 := D1.out.free 3
        have g4 := D1.out.cell 4 rfl
        have h4 := D1.out.free 4
        go_wp2_with fail
        refine (HR.out _ BB.out).mono ?_
        rintro e w1 ⟨rfl, bx⟩
        clear c0 c1 g0 g1 g2 g3 g4 h0 h1 h2 h3 h4
        replace BB := hide (chain BB.out bx)
        replace D0 := hide (D0.out.below bx)
        replace D1 := hide (D1.out.below bx)
        clear bx
        have c0 := D0.out.cell 0 rfl
        have c1 := D0.out.cell 1 rfl
        have g0 := D1.out.cell 0 rfl
        have h0 := D1.out.free 0
        have g1 := D1.out.cell 1 rfl
        have h1 := D1.out.free 1
        have g2 := D1.out.cell 2 rfl
        have h2 := D1.out.free 2
        have g3 := D1.out.cell 3 rfl
        have h3 := D1.out.free 3
        have g4 := D1.out.cell 4 rfl
        have h4 := D1.out.free 4
        go_wp2_with fail
        refine (HI.out _ BB.out).mono ?_
        rintro e w2 ⟨rfl, bx⟩
        clear c0 c1 g0 g1 g2 g3 g4 h0 h1 h2 h3 h4
        replace BB := hide (chain BB.out bx)
        replace D0 := hide (D0.out.below bx)
        replace D1 := hide (D1.out.below bx)
        clear bx
        have c0 := D0.out.cell 0 rfl
        have c1 := D0.out.cell 1 rfl
        have g0 := D1.out.cell 0 rfl
        have h0 := D1.out.free 0
        have g1 := D1.out.cell 1 rfl
        have h1 := D1.out.free 1
        have g2 := D1.out.cell 2 rfl
        have h2 := D1.out.free 2
        have g3 := D1.out.cell 3 rfl
        have h3 := D1.out.free 3
        have g4 := D1.out.cell 4 rfl
        have h4 := D1.out.free 4
        have q0 := cell_below nc0 BB.out
        go_wp2_with fail
        refine bodyPost_ret (v := .tuple #[.agg #[.string ⟨#[]⟩, .string ⟨#[]⟩, .string ⟨#[]⟩, .string ⟨#[]⟩, .string ⟨#[]⟩], .int .i64 3]) (by simp [results, go_sem, g0, g1, g2, g3, g4]) rfl ?_
        exact ⟨ret_pl R1.out.symm R2.out.symm, low5 BB.out n1le _ _ _ _ _⟩

end Go.Proofs.YtnojgejcmaajmaaGreatDoor
