/- TreeInserts walked. Conditions: a document as it lies in the world; rows of at most 2^47 bytes. -/
import Derived.Test.YtkloahpkjbohoaaDocLawSet
import Derived.Test.YtkloahpkjbohoaaDocInsRO
import Derived.Test.YtkloahpkjbohoaaDocQ
namespace Go.Proofs.Ytkloahpkjbohoaa
open Go.RowKit

theorem ins_all (l : List Nd) (p c bf : Int) (hz : DocSz l) : ∃ l' z, DocSz l' ∧ Ans2 16 (fun v => #[v, .int .i64 p, .int .i64 c, .int .i64 bf]) l l' z ∧ Ans2 17 (fun v => #[v, .int .i64 p, .int .i64 c, .int .i64 bf]) l l' z ∧ (z = 0 → rightB l' = true) := by
  cases h1 : hasN l p with
  | false => exact ⟨[], 4, nil_sz, .bad fun v w hv => insert_noParent v l p c bf w hv hz h1, .bad fun v w hv => refInsert_noParent v l p c bf w hv hz h1, fun q => absurd q (by decide)⟩
  | true =>
    cases h2 : hasN l c with
    | false => exact ⟨[], 4, nil_sz, .bad fun v w hv => insert_noChild v l p c bf w hv hz h1 h2, .bad fun v w hv => refInsert_noChild v l p c bf w hv hz h1 h2, fun q => absurd q (by decide)⟩
    | true =>
      obtain ⟨p, hR, rfl, hp⟩ := Is.of h1
      obtain ⟨c, _, rfl, hc⟩ := Is.of h2
      by_cases hb : noName l[p].name = true ∨ c = 0 ∨ (c : Int) ∈ anc l (p : Int)
      · exact ⟨[], 5, nil_sz, .bad fun v w hv => insert_order v l p c bf w hv hz hR hp hc hb, .bad fun v w hv => refInsert_order v l p c bf w hv hz hR hp hc hb, fun q => absurd q (by decide)⟩
      · have g1 : noName l[p].name = false := by
          cases q : noName l[p].name with
          | false => rfl
          | true => exact absurd (.inl q) hb
        have g2 : ¬ c = 0 := fun q => hb (.inr (.inl q))
        have g3 : (c : Int) ∉ anc l (p : Int) := fun q => hb (.inr (.inr q))
        by_cases g5 : bf = -1 ∨ (¬ bf = (c : Int) ∧ bf ∈ l[p].kids)
        · have hne : ¬ c = p := fun t => g3 ((anc_within hR hp).2 (.inl t))
          have hw : withinB l (p : Int) (c : Int) = false := by
            cases q : withinB l (p : Int) (c : Int) with
            | false => rfl
            | true => exact absurd ((anc_within hR hp).2 (.inr q)) g3
          have E : insQ l p c bf = insP l p c bf := insQ_is hR hp hc hne (by rw [nd_at hp]; exact g5)
          have R2 : Right (insP l p c bf) := right_ins hR hp hc g2 hne (by rw [nd_at hp]; have := noName_size' g1; omega) hw (by
            rcases g5 with t | ⟨t1, t2⟩
            · exact .inl t
            · refine .inr ⟨t1, ?_⟩
              rw [nd_at hp]
              have := cnt_pos.1 t2
              omega)
          refine ⟨insP l p c bf, 0, right_sz R2, fun v w hv => ?_, fun v w hv => refInsert_ok v l p c bf w hv hz hR hp hc g1 g2 g3 g5, fun _ => right_is.2 R2⟩
          have := insert_ok v l p c bf w hv hz hR hp hc g1 g2 g3 g5
          rw [E] at this
          exact this
        · have g4 : ¬ bf = -1 := fun t => g5 (.inl t)
          have g6 : bf = (c : Int) ∨ bf ∉ l[p].kids := by
            by_cases t : bf = (c : Int)
            · exact .inl t
            · exact .inr fun u => g5 (.inr ⟨t, u⟩)
          exact ⟨[], 4, nil_sz, .bad fun v w hv => insert_before v l p c bf w hv hz hR hp hc g1 g2 g3 g4 g6, .bad fun v w hv => refInsert_before v l p c bf w hv hz hR hp hc g1 g2 g3 g4 g6, fun q => absurd q (by decide)⟩

set_option maxHeartbeats 8000000 in
set_option maxRecDepth 100000 in
theorem treeInserts_walk (v : Value) (l : List Nd) (w : World) (hv : NodesV w v l) (hz : DocSz l) (p c bf : Int) :
    Calls Try.prog 5 #[v, .agg #[.int .i64 p, .int .i64 c, .int .i64 bf]] w fun e w' => e = .returned (.bool true) ∧ Below w.heap.size w w' := by
  have HW := hide wakes_any
  have HC := hide (fun W (hb : Below w.heap.size w W) => refCopied_any v l W (hv.below hb) hz)
  have HV := hide hv
  have HS := hide (fun va vb x W (ha : NodesV W va x) (hb : NodesV W vb x) (hx : DocSz x) => refSame_yes va vb x W ha hb hx)
  have HZ := hide hz
  obtain ⟨l1, z, s1, P1, R1, T1⟩ := ins_all l p c bf hz
  have S1 := hide s1
  have P1 := hide P1
  have R1 := hide R1
  have T1 := hide T1
  have HA1 := hide (fun v' W (hn : NodesV W v' l1) => right_any v' l1 W hn s1)
  clear hv hz s1
  go_enter Try.func5, Try.ntmps5
  have B0 : Hid (Below w.heap.size w (w.alloc (.cells #[.int .i64 p, .int .i64 c, .int .i64 bf] 34))) := (Below.refl _ w).alloc (Nat.le_refl _) _
  have N0 := hide (NB.new w [.int .i64 p, .int .i64 c, .int .i64 bf] 34)
  go_wp2_with fail
  generalize hw0 : w.alloc (.cells #[.int .i64 p, .int .i64 c, .int .i64 bf] 34) = w0 at *
  clear hw0
  obtain ⟨nb, hnb⟩ : ∃ nb, Hid (w.heap.size = nb) := ⟨_, show _ = _ from rfl⟩
  refine (HC.out _ B0.out).mono ?_
  rintro e w1 ⟨v1, L1, rfl, o1, hl1, b1⟩
  have B1 := hide (chain B0.out b1)
  have M1 : Hid (NodesV w1 v1 l) := by have := o1.nodes; rw [hl1] at this; exact this
  have N1 := hide (N0.out.chg (Chg.of_below b1) (by simp))
  have k0 := N1.out.cell 0 rfl
  have k1 := N1.out.cell 1 rfl
  have k2 := N1.out.cell 2 rfl
  clear o1 hl1 HC b1 N0 B0
  go_wp2_with fail
  refine (P1.out _ _ M1.out).mono ?_
  rintro e w2 ⟨v2, rfl, n2, b2⟩
  have B2 := hide (chain B1.out b2)
  have N2 := hide (N1.out.chg (Chg.of_below b2) (by simp))
  have M2 := hide (M1.out.below b2)
  have D2 := hide n2
  clear k0 k1 k2 n2 b2 B1 N1 M1 P1
  have k0 := N2.out.cell 0 rfl
  have k1 := N2.out.cell 1 rfl
  have k2 := N2.out.cell 2 rfl
  go_wp2_with fail
  refine (R1.out _ _ (HV.out.below B2.out)).mono ?_
  rintro e w3 ⟨v3, rfl, n3, b3⟩
  have B3 := hide (chain B2.out b3)
  have M3 := hide (M2.out.below b3)
  have D3 := hide (D2.out.below b3)
  have E3 := hide n3
  clear k0 k1 k2 n3 b3 B2 N2 M2 D2 R1
  go_wp2_with fail
  refine (HW.out _).mono ?_
  rintro e w4 ⟨rfl, b4⟩
  have B4 := hide (chain B3.out b4)
  have M4 := hide (M3.out.below b4)
  have D4 := hide (D3.out.below b4)
  have E4 := hide (E3.out.below b4)
  clear b4 B3 M3 D3 E3 HW
  go_wp2_with fail
  refine (HS.out _ _ l1 _ D4.out E4.out S1.out).mono ?_
  rintro e w5 ⟨rfl, m5, hw5⟩
  have B5 : Hid (Below w4.heap.size w4 w5) := by rw [hw5]; exact bel_drewN (Below.refl _ _) _
  clear hw5
  go_wp2_with fail
  refine (HS.out _ _ l _ (M4.out.below B5.out) ((HV.out.below B4.out).below B5.out) HZ.out).mono ?_
  rintro e w6 ⟨rfl, m6, hw6⟩
  have b6 : Below w4.heap.size w4 w6 := by rw [hw6]; exact bel_drewN B5.out _
  have B6 := hide (chain B4.out b6)
  have D6 := hide (D4.out.below b6)
  clear hw6 b6 B4 B5 M4 D4 E4
  by_cases hz0 : z = 0
  · rw [T1.out hz0] at HA1
    subst hz0
    clear T1
    go_wp2_with fail
    refine (HA1.out _ _ D6.out).mono ?_
    rintro e wa ⟨rfl, ba⟩
    have Ba := hide (chain B6.out ba)
    clear ba
    go_wp2_with fail
    go_ret
    exact ⟨rfl, Ba.out⟩
  · have f1 : (z == 0) = false := by rw [beq_eq_false_iff_ne]; exact hz0
    clear T1 HA1
    go_wp2_with fail
    go_ret
    exact ⟨rfl, B6.out⟩

end Go.Proofs.Ytkloahpkjbohoaa
