/- Stage 15's laws OptionFixes and OptionResets, walked. -/
import Derived.Test.YtemikdmkjgmflaaDoorJod39

namespace Go.Proofs.YtemikdmkjgmflaaDoor
open Go.RowKit
set_option maxRecDepth 100000
set_option maxHeartbeats 8000000 in
theorem optionResets_walk (nv cv : Value) (l : List Nd) (C : List Ct) (sel : Int) (w : World) (hD : DocV w nv cv l C) (hz : DocSz l) (hC : CsOK C) (hT : OpTabs w) :
    Calls Tryd.prog 4 #[.agg #[nv, cv], .int .i64 sel] w fun e w' => e = .returned (.bool true) ∧ Below w.heap.size w w' := by
  have HD := hide hD
  have HZ := hide hz
  have HO := hide hC
  have HT := hide hT
  have HW := hide (fun W (hb : Below w.heap.size w W) => opWakes_any W (HT.out.below hb))
  have HC := hide (fun W (hb : Below w.heap.size w W) => opCopied_any nv cv l C W (HD.out.below hb) HZ.out HO.out)
  have H1 := hide (fun nv cv W (hb : Below w.heap.size w W) (hd : DocV W nv cv l C) => opReset_any nv cv l C sel W hd HZ.out HO.out (HT.out.below hb))
  have H2 := hide (fun W (hb : Below w.heap.size w W) => refOReset_any nv cv l C sel W (HD.out.below hb) HZ.out HO.out)
  have RO := hide (resetO_ok (l := l) (sel := sel) HO.out)
  have H3 := hide (fun va vb W (ha : CtsV W va (resetO l C sel)) (hb : CtsV W vb (resetO l C sel)) => refOSame_yes va vb (resetO l C sel) W ha hb RO.out)
  have H4 := hide (fun nv cv W (hb : Below w.heap.size w W) (hd : DocV W nv cv l (resetO l C sel)) => opFix_any nv cv l (resetO l C sel) sel W hd HZ.out RO.out (HT.out.below hb))
  rw [reset_fix] at H4
  clear RO
  generalize resetO l C sel = RC at *
  obtain ⟨pn, kn, rfl⟩ := nds_form hD.nds
  obtain ⟨pc, kc, rfl⟩ := cts_form hD.cts
  have B0 : Hid (Below w.heap.size w (w.alloc (.cells #[.slice pn l.length kn, .slice pc C.length kc] 25))) := (Below.refl _ w).alloc (Nat.le_refl _) _
  have ND := hide (Bk.new w [.slice pn l.length kn, .slice pc C.length kc] 25)
  have NV := hide hD.nds
  clear hD hz hC hT HD HZ HO HT
  go_enter Tryd.func4, Tryd.ntmps4
  go_upto_region 1 with fail
  generalize w.alloc (.cells #[.slice pn l.length kn, .slice pc C.length kc] 25) = w0 at *
  go_wp2_with fail
  refine (HW.out _ B0.out).mono ?_
  rintro e w1 ⟨rfl, b1⟩
  have B1 := hide (chain B0.out b1)
  replace ND := hide (ND.out.below b1)
  clear b1 B0
  have x0 := ND.out.cell 0 rfl
  have x1 := ND.out.cell 1 rfl
  go_wp2_with fail
  refine (HC.out _ B1.out).mono ?_
  rintro e w2 ⟨n2, c2, rfl, d2, b2⟩
  have D2 := hide d2
  obtain ⟨p2, k2, rfl⟩ := nds_form d2.nds
  obtain ⟨q2, m2, rfl⟩ := cts_form d2.cts
  have B2 := hide (chain B1.out b2)
  clear d2 B1
  go_wp2_with fail
  refine (H1.out _ _ _ B2.out D2.out).mono ?_
  rintro e w3 ⟨v3, rfl, g3, b3⟩
  have G3 := hide g3
  obtain ⟨p3, k3, rfl⟩ := cts_form g3
  have B3 := hide (chain B2.out b3)
  replace ND := hide ((ND.out.below b2).below b3)
  clear g3 b2 b3 B2 D2 x0 x1
  have x0 := ND.out.cell 0 rfl
  have x1 := ND.out.cell 1 rfl
  go_wp2_with fail
  refine (H2.out _ B3.out).mono ?_
  rintro e w4 ⟨v4, rfl, g4, b4⟩
  have G4 := hide g4
  obtain ⟨p4, k4, rfl⟩ := cts_form g4
  have B4 := hide (chain B3.out b4)
  have F4 := hide (G3.out.below b4)
  replace ND := hide (ND.out.below b4)
  clear g4 b4 B3 G3 x0 x1
  go_wp2_with fail
  refine (H3.out _ _ _ F4.out G4.out).mono ?_
  rintro e w5 ⟨rfl, b5⟩
  have B5 := hide (chain B4.out b5)
  have F5 := hide (F4.out.below b5)
  replace ND := hide (ND.out.below b5)
  have NV5 := hide (NV.out.below B5.out)
  clear b5 B4 F4 G4
  have x0 := ND.out.cell 0 rfl
  have x1 := ND.out.cell 1 rfl
  go_wp2_with fail
  refine (H4.out _ _ _ B5.out ⟨NV5.out, F5.out⟩).mono ?_
  rintro e w6 ⟨v6, rfl, g6, b6⟩
  have G6 := hide g6
  obtain ⟨p6, k6, rfl⟩ := cts_form g6
  have B6 := hide (chain B5.out b6)
  have F6 := hide (F5.out.below b6)
  clear g6 b6 B5 F5 NV5 x0 x1
  go_wp2_with fail
  refine (H3.out _ _ _ G6.out F6.out).mono ?_
  rintro e w7 ⟨rfl, b7⟩
  go_wp2_with fail
  go_ret
  exact ⟨rfl, chain B6.out b7⟩

end Go.Proofs.YtemikdmkjgmflaaDoor
