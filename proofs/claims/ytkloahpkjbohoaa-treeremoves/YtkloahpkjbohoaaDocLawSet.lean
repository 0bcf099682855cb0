/- TreeSets walked. Conditions: a document as it lies in the world; rows of at most 2^47 bytes. -/
import Derived.Test.YtkloahpkjbohoaaDocS9
import Derived.Test.YtkloahpkjbohoaaDocSetR
import Derived.Test.YtkloahpkjbohoaaDocSet2
import Derived.Test.YtkloahpkjbohoaaDocR6
namespace Go.Proofs.Ytkloahpkjbohoaa
open Go.RowKit

/-- A function answers with a document and a number. -/
def Ans2 (f : Nat) (args : Value → Array Value) (l l' : List Nd) (z : Int) : Prop := ∀ v w, NodesV w v l → Calls Try.prog f (args v) w fun e w' => ∃ v', e = .returned (.tuple #[v', .int .i64 z]) ∧ NodesV w' v' l' ∧ Below w.heap.size w w'
theorem Ans2.bad {f : Nat} {args : Value → Array Value} {l : List Nd} {z : Int} (h : ∀ v w, NodesV w v l → Calls Try.prog f (args v) w fun e w' => e = .returned (.tuple #[.slice none 0 0, .int .i64 z]) ∧ Below w.heap.size w w') : Ans2 f args l [] z := fun v w hv => (h v w hv).mono fun _ _ ⟨he, hb⟩ => ⟨_, he, nodes_nil _, hb⟩
theorem has_nat {l : List Nd} {m : Nat} (hR : Right l) (hm : m < l.length) : hasN l (m : Int) = true := by unfold hasN; rw [decide_eq_true ⟨by omega, by omega⟩, right_is.2 hR]; rfl
theorem set_all (l : List Nd) (id : Int) (name value : ByteArray) (hz : DocSz l) (hs : name.size ≤ maxLen) : ∃ l' z, DocSz l' ∧ Ans2 20 (fun v => #[v, .int .i64 id, .string name, .string value]) l l' z ∧ Ans2 21 (fun v => #[v, .int .i64 id, .string name, .string value]) l l' z ∧ (z = 0 → hasN l' id = true ∧ attrP l' id name = some value) := by
  cases hh : hasN l id with
  | false => exact ⟨[], 4, nil_sz, .bad fun v w hv => set_gone v l id name value w hv hz hh, .bad fun v w hv => refSet_gone v l id name value w hv hz hh, fun q => absurd q (by decide)⟩
  | true =>
    obtain ⟨m, hR, rfl, hm⟩ := Is.of hh
    cases h1 : noName l[m].name with
    | true => exact ⟨[], 3, nil_sz, .bad fun v w hv => set_kind v l m name value w hv hz hs hR hm h1, .bad fun v w hv => refSet_kind v l m name value w hv hz hs hR hm h1, fun q => absurd q (by decide)⟩
    | false =>
      cases h2 : nameOk name with
      | false => exact ⟨[], 7, nil_sz, .bad fun v w hv => set_name v l m name value w hv hz hs hR hm h1 h2, .bad fun v w hv => refSet_name v l m name value w hv hz hs hR hm h1 h2, fun q => absurd q (by decide)⟩
      | true =>
        rcases Nat.lt_or_ge 4000 value.size with h3 | h3
        · exact ⟨[], 2, nil_sz, .bad fun v w hv => set_range v l m name value w hv hz hs hR hm h1 h2 h3, .bad fun v w hv => refSet_range v l m name value w hv hz hs hR hm h1 h2 h3, fun q => absurd q (by decide)⟩
        have n1 : ¬ (nd l m).name.size = 0 := by rw [nd_at hm]; have := noName_size' h1; omega
        cases h4 : findA l[m].attrs name with
        | none =>
          rcases Nat.lt_or_ge l[m].attrs.length 40 with h5 | h5
          · have R2 : Right (setP l m name value) := right_set hR hm n1 h2 h3 (fun _ => by rw [nd_at hm]; exact h5)
            refine ⟨setP l m name value, 0, right_sz R2, fun v w hv => set_new v l m name value w hv hz hs hR hm h1 h2 h3 h4 h5, fun v w hv => refSet_new v l m name value w hv hz hs hR hm h1 h2 h3 h4 h5, fun _ => ⟨has_nat R2 (by unfold setP; rw [upd_len]; exact hm), set_told hm name value⟩⟩
          · exact ⟨[], 6, nil_sz, .bad fun v w hv => set_full v l m name value w hv hz hs hR hm h1 h2 h3 h4 h5, .bad fun v w hv => refSet_full v l m name value w hv hz hs hR hm h1 h2 h3 h4 h5, fun q => absurd q (by decide)⟩
        | some k =>
          have R2 : Right (setP l m name value) := right_set hR hm n1 h2 h3 (fun q => by rw [nd_at hm, h4] at q; cases q)
          refine ⟨setP l m name value, 0, right_sz R2, fun v w hv => set_old v l m name value w hv hz hs hR hm h1 h2 h3 h4, fun v w hv => refSet_old v l m name value w hv hz hs hR hm h1 h2 h3 h4, fun _ => ⟨has_nat R2 (by unfold setP; rw [upd_len]; exact hm), set_told hm name value⟩⟩
theorem unset_all (l : List Nd) (id : Int) (name : ByteArray) (hz : DocSz l) : ∃ l' z, DocSz l' ∧ Ans2 22 (fun v => #[v, .int .i64 id, .string name]) l l' z ∧ Ans2 23 (fun v => #[v, .int .i64 id, .string name]) l l' z ∧ (z = 0 → hasN l' id = true ∧ attrP l' id name = none) := by
  cases hh : hasN l id with
  | false => exact ⟨[], 4, nil_sz, .bad fun v w hv => unset_gone v l id name w hv hz hh, .bad fun v w hv => refUnset_gone v l id name w hv hz hh, fun q => absurd q (by decide)⟩
  | true =>
    obtain ⟨m, hR, rfl, hm⟩ := Is.of hh
    cases h1 : noName l[m].name with
    | true => exact ⟨[], 3, nil_sz, .bad fun v w hv => unset_kind v l m name w hv hz hR hm h1, .bad fun v w hv => refUnset_kind v l m name w hv hz hR hm h1, fun q => absurd q (by decide)⟩
    | false =>
      have n1 : ¬ (nd l m).name.size = 0 := by rw [nd_at hm]; have := noName_size' h1; omega
      have R2 : Right (unsetP l m name) := right_unset hR hm n1
      exact ⟨unsetP l m name, 0, right_sz R2, fun v w hv => unset_ok v l m name w hv hz hR hm h1, fun v w hv => refUnset_ok v l m name w hv hz hR hm h1, fun _ => ⟨has_nat R2 (by unfold unsetP; rw [upd_len]; exact hm), unset_told hm name⟩⟩

set_option maxHeartbeats 8000000 in
set_option maxRecDepth 100000 in
theorem treeSets_walk (v : Value) (l : List Nd) (w : World) (hv : NodesV w v l) (hz : DocSz l) (id : Int) (name : ByteArray) (hs : name.size ≤ maxLen) (value : ByteArray) (_ht : value.size ≤ maxLen) :
    Calls Try.prog 7 #[v, .int .i64 id, .agg #[.string name, .string value]] w fun e w' => e = .returned (.bool true) ∧ Below w.heap.size w w' := by
  have HW := hide wakes_any
  have HC := hide (fun W (hb : Below w.heap.size w W) => refCopied_any v l W (hv.below hb) hz)
  have HV := hide hv
  have HS := hide (fun va vb x W (ha : NodesV W va x) (hb : NodesV W vb x) (hx : DocSz x) => refSame_yes va vb x W ha hb hx)
  have HZ := hide hz
  obtain ⟨l1, z, s1, P1, R1, T1⟩ := set_all l id name value hz hs
  obtain ⟨l2, y, s2, P2, R2, T2⟩ := unset_all l id name hz
  have S1 := hide s1
  have S2 := hide s2
  have P1 := hide P1
  have R1 := hide R1
  have P2 := hide P2
  have R2 := hide R2
  have T1 := hide T1
  have T2 := hide T2
  have HA1 := hide (fun v' W (hn : NodesV W v' l1) => attr_any v' l1 id name W hn s1)
  have HA2 := hide (fun v' W (hn : NodesV W v' l2) => attr_any v' l2 id name W hn s2)
  clear hv hz s1 s2
  go_enter Try.func7, Try.ntmps7
  have B0 : Hid (Below w.heap.size w (w.alloc (.cells #[.string name, .string value] 48))) := (Below.refl _ w).alloc (Nat.le_refl _) _
  have N0 := hide (NB.new w [.string name, .string value] 48)
  go_wp2_with fail
  generalize hw0 : w.alloc (.cells #[.string name, .string value] 48) = w0 at *
  clear hw0
  obtain ⟨nb, hnb⟩ : ∃ nb, Hid (w.heap.size = nb) := ⟨_, show _ = _ from rfl⟩
  refine (HC.out _ B0.out).mono ?_
  rintro e w1 ⟨v1, L1, rfl, o1, hl1, b1⟩
  have B1 := hide (chain B0.out b1)
  have M1 : Hid (NodesV w1 v1 l) := by have := o1.nodes; rw [hl1] at this; exact this
  have N1 := hide (N0.out.chg (Chg.of_below b1) (by simp))
  have k0 := N1.out.cell 0 rfl
  have k1 := N1.out.cell 1 rfl
  clear o1 hl1 HC b1 N0 B0
  go_wp2_with fail
  refine (P1.out _ _ M1.out).mono ?_
  rintro e w2 ⟨v2, rfl, n2, b2⟩
  have B2 := hide (chain B1.out b2)
  have N2 := hide (N1.out.chg (Chg.of_below b2) (by simp))
  have M2 := hide (M1.out.below b2)
  have D2 := hide n2
  clear k0 k1 n2 b2 B1 N1 M1 P1
  have k0 := N2.out.cell 0 rfl
  have k1 := N2.out.cell 1 rfl
  go_wp2_with fail
  refine (R1.out _ _ (HV.out.below B2.out)).mono ?_
  rintro e w3 ⟨v3, rfl, n3, b3⟩
  have B3 := hide (chain B2.out b3)
  have N3 := hide (N2.out.chg (Chg.of_below b3) (by simp))
  have M3 := hide (M2.out.below b3)
  have D3 := hide (D2.out.below b3)
  have E3 := hide n3
  clear k0 k1 n3 b3 B2 N2 M2 D2 R1
  go_wp2_with fail
  refine (HW.out _).mono ?_
  rintro e w4 ⟨rfl, b4⟩
  have B4 := hide (chain B3.out b4)
  have N4 := hide (N3.out.chg (Chg.of_below b4) (by simp))
  have M4 := hide (M3.out.below b4)
  have D4 := hide (D3.out.below b4)
  have E4 := hide (E3.out.below b4)
  clear b4 B3 N3 M3 D3 E3 HW
  go_wp2_with fail
  refine (HS.out _ _ l1 _ D4.out E4.out S1.out).mono ?_
  rintro e w5 ⟨rfl, m5, hw5⟩
  have B5 : Hid (Below w4.heap.size w4 w5) := by rw [hw5]; exact bel_drewN (Below.refl _ _) _
  clear hw5
  go_wp2_with fail
  refine (HS.out _ _ l _ (M4.out.below B5.out) ((HV.out.below B4.out).below B5.out) HZ.out).mono ?_
  rintro e w6 ⟨rfl, m6, hw6⟩
  have b6 : Below w4.heap.size w4 w6 := by rw [hw6]; exact bel_drewN B5.out _
  have B6 := hide (chain B4.out b6)
  have N6 := hide (N4.out.chg (Chg.of_below b6) (by simp))
  have M6 := hide (M4.out.below b6)
  have D6 := hide (D4.out.below b6)
  clear hw6 b6 B4 B5 N4 M4 D4 E4
  have k0 := N6.out.cell 0 rfl
  go_wp2_with fail
  refine (P2.out _ _ M6.out).mono ?_
  rintro e w7 ⟨v7, rfl, n7, b7⟩
  have B7 := hide (chain B6.out b7)
  have N7 := hide (N6.out.chg (Chg.of_below b7) (by simp))
  have D7 := hide (D6.out.below b7)
  have F7 := hide n7
  clear k0 n7 b7 B6 N6 M6 D6 P2
  have k0 := N7.out.cell 0 rfl
  go_wp2_with fail
  refine (R2.out _ _ (HV.out.below B7.out)).mono ?_
  rintro e w8 ⟨v8, rfl, n8, b8⟩
  have B8 := hide (chain B7.out b8)
  have N8 := hide (N7.out.chg (Chg.of_below b8) (by simp))
  have D8 := hide (D7.out.below b8)
  have F8 := hide (F7.out.below b8)
  have G8 := hide n8
  clear k0 n8 b8 B7 N7 D7 F7 R2
  go_wp2_with fail
  refine (HS.out _ _ l2 _ F8.out G8.out S2.out).mono ?_
  rintro e w9 ⟨rfl, m9, hw9⟩
  have b9 : Below w8.heap.size w8 w9 := by rw [hw9]; exact bel_drewN (Below.refl _ _) _
  have B9 := hide (chain B8.out b9)
  have N9 := hide (N8.out.chg (Chg.of_below b9) (by simp))
  have D9 := hide (D8.out.below b9)
  have F9 := hide (F8.out.below b9)
  clear hw9 b9 B8 N8 D8 F8 G8 HS HV
  by_cases hz0 : z = 0
  · by_cases hy0 : y = 0
    · obtain ⟨t1, t2⟩ := T1.out hz0
      obtain ⟨t3, t4⟩ := T2.out hy0
      have q1 : attrQ l1 id name = some value := by unfold attrQ; rw [t1]; exact t2
      have q2 : attrQ l2 id name = none := by unfold attrQ; rw [t3]; exact t4
      rw [q1] at HA1
      rw [q2] at HA2
      have ea : attrV (some value) = .tuple #[.string value, .bool true] := rfl
      have eb : attrV none = .tuple #[.string ⟨#[]⟩, .bool false] := rfl
      rw [ea] at HA1
      rw [eb] at HA2
      subst hz0 hy0
      have k0 := N9.out.cell 0 rfl
      have k1 := N9.out.cell 1 rfl
      clear t1 t2 t3 t4 q1 q2 ea eb T1 T2
      go_wp2_with fail
      refine (HA1.out _ _ D9.out).mono ?_
      rintro e wa ⟨rfl, ba⟩
      have Ba := hide (chain B9.out ba)
      have Na := hide (N9.out.chg (Chg.of_below ba) (by simp))
      have Fa := hide (F9.out.below ba)
      clear k0 k1 ba B9 N9 D9 F9 HA1
      have k0 := Na.out.cell 0 rfl
      have k1 := Na.out.cell 1 rfl
      go_wp2_with fail
      refine (HA2.out _ _ Fa.out).mono ?_
      rintro e wb ⟨rfl, bb⟩
      have Bb := hide (chain Ba.out bb)
      have Nb := hide (Na.out.chg (Chg.of_below bb) (by simp))
      clear k0 k1 bb Ba Na Fa HA2
      have k1 := Nb.out.cell 1 rfl
      go_wp2_with fail
      go_ret
      exact ⟨rfl, Bb.out⟩
    · have f1 : (y == 0) = false := by rw [beq_eq_false_iff_ne]; exact hy0
      subst hz0
      clear T1 T2 HA1 HA2
      go_wp2_with fail
      go_ret
      exact ⟨rfl, B9.out⟩
  · have f1 : (z == 0) = false := by rw [beq_eq_false_iff_ne]; exact hz0
    clear T1 T2 HA1 HA2
    go_wp2_with fail
    go_ret
    exact ⟨rfl, B9.out⟩

end Go.Proofs.Ytkloahpkjbohoaa
