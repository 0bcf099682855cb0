/- TreeAsks walked. Conditions: a document as it lies in the world; rows of at most 2^47 bytes. -/
import Derived.Test.YtmpkbdmkkjcjhaaDocS9
import Derived.Test.YtmpkbdmkkjcjhaaDocC1
import Derived.Test.YtmpkbdmkkjcjhaaDocSA
import Derived.Test.YtmpkbdmkkjcjhaaDocSB
import Derived.Test.YtmpkbdmkkjcjhaaDocR7
import Derived.Test.YtmpkbdmkkjcjhaaDocR4
namespace Go.Proofs.Ytmpkbdmkkjcjhaa
open Go.RowKit

set_option maxHeartbeats 8000000 in
set_option maxRecDepth 100000 in
theorem treeAsks_walk (v : Value) (l : List Nd) (w : World) (hv : NodesV w v l) (hz : DocSz l) (id : Int) (name : ByteArray) (_hn : name.size ≤ maxLen) :
    Calls Try.prog 8 #[v, .int .i64 id, .string name] w fun e w' => e = .returned (.bool true) ∧ Below w.heap.size w w' := by
  have HW := hide wakes_any
  have HC := hide (fun W (hb : Below w.heap.size w W) => refCopied_any v l W (hv.below hb) hz)
  have HH := hide (fun W (hb : Below w.heap.size w W) => refHas_any v l id W (hv.below hb) hz)
  have HPA := hide (fun v' W (hn : NodesV W v' l) => attr_any v' l id name W hn hz)
  have HPO := hide (fun v' W (hn : NodesV W v' l) => order_any v' l id W hn hz)
  have HPT := hide (fun v' W (hn : NodesV W v' l) => top_any v' l id W hn hz)
  have HPU := hide (fun v' W (hn : NodesV W v' l) => up_any v' l id name W hn hz)
  have HPX := hide (fun v' W (hn : NodesV W v' l) => text_any v' l id W hn hz)
  have HV := hide hv
  have HZ := hide hz
  clear hv hz
  cases q : hasN l id with
  | false =>
    have e1 : attrQ l id name = none := by unfold attrQ; rw [q]; rfl
    have e2 : ordL l id = [] := by unfold ordL; rw [q]; rfl
    have e3 : topQ l id = -1 := by unfold topQ; rw [q]; rfl
    have e4 : upQ l id name = -1 := by unfold upQ; rw [q]; rfl
    have e5 : textQ l id = ⟨#[]⟩ := by unfold textQ; rw [q]; rfl
    rw [q] at HH
    rw [e1] at HPA
    rw [e2] at HPO
    rw [e3] at HPT
    rw [e4] at HPU
    rw [e5] at HPX
    have ea : attrV none = .tuple #[.string ⟨#[]⟩, .bool false] := rfl
    rw [ea] at HPA
    clear q e1 e2 e3 e4 e5 ea HZ
    go_enter Try.func8, Try.ntmps8
    go_wp2_with fail
    refine (HW.out _).mono ?_
    rintro e w1 ⟨rfl, b1⟩
    go_wp2_with fail
    refine (HC.out _ b1).mono ?_
    rintro e w2 ⟨v2, L, rfl, o2, hl, b2⟩
    have B2 := hide (chain b1 b2)
    have N2 : Hid (NodesV w2 v2 l) := by have := o2.nodes; rw [hl] at this; exact this
    clear o2 hl b1 b2
    go_wp2_with fail
    refine (HPA.out _ _ N2.out).mono ?_
    rintro e w3 ⟨rfl, b3⟩
    have B3 := hide (chain B2.out b3)
    have N3 := hide (N2.out.below b3)
    clear b3 N2 B2
    go_wp2_with fail
    refine (HH.out _ B3.out).mono ?_
    rintro e w4 ⟨rfl, b4⟩
    have B4 := hide (chain B3.out b4)
    have N4 := hide (N3.out.below b4)
    clear b4 N3 B3
    go_wp2_with fail
    refine (HPO.out _ _ N4.out).mono ?_
    rintro e w5 ⟨v5, rfl, k5, b5⟩
    obtain ⟨p5, c5, e5, _⟩ := k5.ints
    rw [List.length_nil] at e5
    have B5 := hide (chain B4.out b5)
    have N5 := hide (N4.out.below b5)
    clear b5 N4 B4 k5
    subst e5
    go_wp2_with fail
    refine (HPT.out _ _ N5.out).mono ?_
    rintro e w6 ⟨rfl, b6⟩
    have B6 := hide (chain B5.out b6)
    have N6 := hide (N5.out.below b6)
    clear b6 N5 B5
    go_wp2_with fail
    refine (HPU.out _ _ N6.out).mono ?_
    rintro e w7 ⟨rfl, b7⟩
    have B7 := hide (chain B6.out b7)
    have N7 := hide (N6.out.below b7)
    clear b7 N6 B6
    go_wp2_with fail
    refine (HPX.out _ _ N7.out).mono ?_
    rintro e w8 ⟨rfl, b8⟩
    have B8 := hide (chain B7.out b8)
    clear b8 N7 B7
    go_wp2_with fail
    go_ret
    exact ⟨rfl, B8.out⟩
  | true =>
    obtain ⟨hR, hi⟩ := has_is q
    obtain ⟨m, rfl⟩ : ∃ m : Nat, id = (m : Int) := ⟨id.toNat, by have := hi.1; omega⟩
    have hm : m < l.length := by have := hi.2; omega
    have e1 : attrQ l (m : Int) name = attrP l (m : Int) name := by unfold attrQ; rw [q]; rfl
    have e2 : ordL l (m : Int) = orderP l (m : Int) := by unfold ordL; rw [q, order_down hR hi]; rfl
    have e3 : topQ l (m : Int) = topP l (m : Int) := by unfold topQ; rw [q]; rfl
    have e4 : upQ l (m : Int) name = upP l (m : Int) name := by unfold upQ; rw [q]; rfl
    have e5 : textQ l (m : Int) = textP l (m : Int) := by unfold textQ; rw [q]; rfl
    rw [q] at HH
    rw [e1] at HPA
    rw [e2] at HPO
    rw [e3] at HPT
    rw [e4] at HPU
    rw [e5] at HPX
    have II : Is l (m : Int) m := ⟨hR, rfl, hm⟩
    have HRA := hide (fun W (hb : Below w.heap.size w W) => refAttr_any v l (m : Int) m name W (HV.out.below hb) ⟨rfl, hm⟩ HZ.out)
    have HRO := hide (fun W (hb : Below w.heap.size w W) => refOrder_any v l m W (HV.out.below hb) hR hm)
    have HRT := hide (fun W (hb : Below w.heap.size w W) => refTop_any v l (m : Int) m W (HV.out.below hb) II)
    have HRU := hide (fun W (hb : Below w.heap.size w W) => refUp_any v l (m : Int) m name W (HV.out.below hb) II)
    have HRX := hide (fun W (hb : Below w.heap.size w W) => refText_any v l (m : Int) m W (HV.out.below hb) II)
    have OL : Hid ((orderP l (m : Int)).length ≤ 17592186044416) := by
      show _ ≤ _
      rw [order_down hR hi]
      have := down_few hR hi
      omega
    generalize topP l (m : Int) = T at *
    generalize upP l (m : Int) name = U at *
    generalize textP l (m : Int) = X at *
    generalize orderP l (m : Int) = O at *
    unfold attrV at HPA HRA
    generalize (attrP l (m : Int) name).getD ⟨#[]⟩ = As at *
    generalize (attrP l (m : Int) name).isSome = Ab at *
    clear q e1 e2 e3 e4 e5 hR hi II HZ HV
    go_enter Try.func8, Try.ntmps8
    go_wp2_with fail
    refine (HW.out _).mono ?_
    rintro e w1 ⟨rfl, b1⟩
    go_wp2_with fail
    refine (HC.out _ b1).mono ?_
    rintro e w2 ⟨v2, L, rfl, o2, hl, b2⟩
    have B2 := hide (chain b1 b2)
    have N2 : Hid (NodesV w2 v2 l) := by have := o2.nodes; rw [hl] at this; exact this
    clear o2 hl b1 b2
    go_wp2_with fail
    refine (HPA.out _ _ N2.out).mono ?_
    rintro e w3 ⟨rfl, b3⟩
    have B3 := hide (chain B2.out b3)
    have N3 := hide (N2.out.below b3)
    clear b3 N2 B2
    go_wp2_with fail
    refine (HH.out _ B3.out).mono ?_
    rintro e w4 ⟨rfl, b4⟩
    have B4 := hide (chain B3.out b4)
    have N4 := hide (N3.out.below b4)
    clear b4 N3 B3
    go_wp2_with fail
    refine (HRA.out _ B4.out).mono ?_
    rintro e w5 ⟨rfl, hw⟩
    obtain rfl : w4 = w5 := hw.symm
    clear hw
    go_wp2_with fail
    refine (HPO.out _ _ N4.out).mono ?_
    rintro e w5 ⟨v5, rfl, k5, b5⟩
    have B5 := hide (chain B4.out b5)
    have N5 := hide (N4.out.below b5)
    have K5 := hide k5
    clear b5 N4 B4 k5
    go_wp2_with fail
    refine (HRO.out _ B5.out).mono ?_
    rintro e w6 ⟨v6, rfl, k6, b6⟩
    have B6 := hide (chain B5.out b6)
    have N6 := hide (N5.out.below b6)
    have HE := hide (refSameInts_any v5 v6 O O w6 (K5.out.ints.below b6) k6.ints OL.out)
    rw [decide_eq_true rfl] at HE
    clear b6 N5 B5 k6 K5
    go_wp2_with fail
    refine HE.out.mono ?_
    rintro e w7 ⟨rfl, t7, hm7⟩
    have b7 : Below w6.heap.size w6 w7 := by rw [hm7]; exact bel_drewN (Below.refl _ _) _
    have B7 := hide (chain B6.out b7)
    have N7 := hide (N6.out.below b7)
    clear b7 N6 B6 hm7
    go_wp2_with fail
    refine (HPT.out _ _ N7.out).mono ?_
    rintro e w8 ⟨rfl, b8⟩
    have B8 := hide (chain B7.out b8)
    have N8 := hide (N7.out.below b8)
    clear b8 N7 B7
    go_wp2_with fail
    refine (HRT.out _ B8.out).mono ?_
    rintro e w9 ⟨rfl, hw⟩
    obtain rfl : w8 = w9 := hw.symm
    clear hw
    go_wp2_with fail
    refine (HPU.out _ _ N8.out).mono ?_
    rintro e w9 ⟨rfl, b9⟩
    have B9 := hide (chain B8.out b9)
    have N9 := hide (N8.out.below b9)
    clear b9 N8 B8
    go_wp2_with fail
    refine (HRU.out _ B9.out).mono ?_
    rintro e w10 ⟨rfl, hw⟩
    obtain rfl : w9 = w10 := hw.symm
    clear hw
    go_wp2_with fail
    refine (HPX.out _ _ N9.out).mono ?_
    rintro e w10 ⟨rfl, b10⟩
    have B10 := hide (chain B9.out b10)
    clear b10 N9 B9
    go_wp2_with fail
    refine (HRX.out _ B10.out).mono ?_
    rintro e w11 ⟨rfl, hw⟩
    obtain rfl : w10 = w11 := hw.symm
    clear hw
    cases Ab with
    | true =>
      go_wp2_with fail
      go_ret
      exact ⟨rfl, B10.out⟩
    | false =>
      go_wp2_with fail
      go_ret
      exact ⟨rfl, B10.out⟩

end Go.Proofs.Ytmpkbdmkkjcjhaa
