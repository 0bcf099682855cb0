/- TreeRemoves walked. Conditions: a document as it lies in the world; rows of at most 2^47 bytes. -/
import Derived.Test.YtkloahpkjbohoaaDocLawSet
import Derived.Test.YtkloahpkjbohoaaDocRem
import Derived.Test.YtkloahpkjbohoaaDocRemR
import Derived.Test.YtkloahpkjbohoaaDocY
namespace Go.Proofs.Ytkloahpkjbohoaa
open Go.RowKit

theorem rem_all (l : List Nd) (id : Int) (hz : DocSz l) : ∃ l' z, DocSz l' ∧ Ans2 18 (fun v => #[v, .int .i64 id]) l l' z ∧ Ans2 19 (fun v => #[v, .int .i64 id]) l l' z ∧ (z = 0 → ∃ (m p a : Nat) (bq : Int), id = (m : Int) ∧ ∃ _ : m < l.length, Right l ∧ l' = remP l m ∧ Gap l m p a bq) := by
  cases h1 : hasN l id with
  | false => exact ⟨[], 4, nil_sz, .bad fun v w hv => remove_gone v l id w hv hz h1, .bad fun v w hv => refRemove_gone v l id w hv hz h1, fun q => absurd q (by decide)⟩
  | true =>
    obtain ⟨m, hR, rfl, hm⟩ := Is.of h1
    by_cases h2 : l[m].parent = -1
    · exact ⟨[], 8, nil_sz, .bad fun v w hv => remove_root v l m w hv hz hR hm h2, .bad fun v w hv => refRemove_root v l m w hv hz hR hm h2, fun q => absurd q (by decide)⟩
    · obtain ⟨p, a, bq, G⟩ := gap_of hR hm (by rw [nd_at hm]; exact h2)
      exact ⟨remP l m, 0, right_sz G.right, fun v w hv => remove_ok v l m w hv hz hR hm h2, fun v w hv => refRemove_ok v l m w hv hz hR hm h2, fun _ => ⟨m, p, a, bq, rfl, hm, hR, rfl, G⟩⟩
theorem back_all {l : List Nd} {m p a : Nat} {bq : Int} (hR : Right l) (hm : m < l.length) (G : Gap l m p a bq) : Ans2 16 (fun v => #[v, .int .i64 (p : Int), .int .i64 (m : Int), .int .i64 bq]) (remP l m) l 0 := by
  intro v w hv
  have hp2 : p < (remP l m).length := by rw [rem_len]; exact G.lt
  have hm2 : m < (remP l m).length := by rw [rem_len]; exact hm
  have n := G.name
  rw [nd_at hp2] at n
  have b := G.bef
  rw [nd_at hp2] at b
  have := insert_ok v (remP l m) p m bq w hv (right_sz G.right) G.right hp2 hm2 n G.zero G.way b
  rw [insQ_is G.right hp2 hm2 (fun e => par_ne hR hm G.par e.symm) G.bef, G.back] at this
  exact this

set_option maxHeartbeats 8000000 in
set_option maxRecDepth 100000 in
theorem treeRemoves_walk (v : Value) (l : List Nd) (w : World) (hv : NodesV w v l) (hz : DocSz l) (id : Int) :
    Calls Try.prog 6 #[v, .int .i64 id] w fun e w' => e = .returned (.bool true) ∧ Below w.heap.size w w' := by
  have HW := hide wakes_any
  have HC := hide (refCopied_any v l w hv hz)
  have HV := hide hv
  have HS := hide (fun va vb x W (ha : NodesV W va x) (hb : NodesV W vb x) (hx : DocSz x) => refSame_yes va vb x W ha hb hx)
  have HZ := hide hz
  obtain ⟨l1, z, s1, P1, R1, T1⟩ := rem_all l id hz
  have S1 := hide s1
  have P1 := hide P1
  have R1 := hide R1
  have T1 := hide T1
  clear hv hz s1
  go_enter Try.func6, Try.ntmps6
  go_wp2_with fail
  refine HC.out.mono ?_
  rintro e w1 ⟨v1, L1, rfl, o1, hl1, b1⟩
  have B1 := hide b1
  have M1 : Hid (NodesV w1 v1 l) := by have := o1.nodes; rw [hl1] at this; exact this
  clear o1 hl1 HC b1
  go_wp2_with fail
  refine (P1.out _ _ M1.out).mono ?_
  rintro e w2 ⟨v2, rfl, n2, b2⟩
  have B2 := hide (chain B1.out b2)
  have M2 := hide (M1.out.below b2)
  have D2 := hide n2
  clear n2 b2 B1 M1 P1
  go_wp2_with fail
  refine (R1.out _ _ (HV.out.below B2.out)).mono ?_
  rintro e w3 ⟨v3, rfl, n3, b3⟩
  have B3 := hide (chain B2.out b3)
  have M3 := hide (M2.out.below b3)
  have D3 := hide (D2.out.below b3)
  have E3 := hide n3
  clear n3 b3 B2 M2 D2 R1
  go_wp2_with fail
  refine (HW.out _).mono ?_
  rintro e w4 ⟨rfl, b4⟩
  have B4 := hide (chain B3.out b4)
  have M4 := hide (M3.out.below b4)
  have D4 := hide (D3.out.below b4)
  have E4 := hide (E3.out.below b4)
  clear b4 B3 M3 D3 E3 HW
  go_wp2_with fail
  refine (HS.out _ _ l1 _ D4.out E4.out S1.out).mono ?_
  rintro e w5 ⟨rfl, m5, hw5⟩
  have B5 : Hid (Below w4.heap.size w4 w5) := by rw [hw5]; exact bel_drewN (Below.refl _ _) _
  clear hw5
  go_wp2_with fail
  refine (HS.out _ _ l _ (M4.out.below B5.out) ((HV.out.below B4.out).below B5.out) HZ.out).mono ?_
  rintro e w6 ⟨rfl, m6, hw6⟩
  have b6 : Below w4.heap.size w4 w6 := by rw [hw6]; exact bel_drewN B5.out _
  have B6 := hide (chain B4.out b6)
  have D6 := hide (D4.out.below b6)
  have V6 := hide (HV.out.below B6.out)
  clear hw6 b6 B4 B5 M4 D4 E4 HV
  by_cases hz0 : z = 0
  · obtain ⟨m, p, a, bq, rfl, hm, hR, hl1, G⟩ := T1.out hz0
    subst hz0
    subst hl1
    have hp := G.lt
    have BA := hide (back_all hR hm G)
    have hpar : l[m].parent = (p : Int) := by have := G.par; rw [nd_at hm] at this; exact this
    have KL : Hid (l[p].kids.length ≤ 400) := (right_texts hR hp).2.2.2.2
    have HG := hide G
    have hlen := hR.len.2
    obtain ⟨pp, cc, ev, hv⟩ := V6.out
    subst ev
    rcases hv with hv | ⟨b, o, rfl, hv⟩
    · rw [hv] at hm; simp at hm
    obtain ⟨va, vk, NM⟩ := hv m hm
    obtain ⟨va2, vk2, NP⟩ := hv p hp
    have c3 := NM.parent
    rw [hpar] at c3
    have c4 := NP.kids
    obtain ⟨qk, ck, rfl, hk0⟩ := NP.ks
    have i0 : (0 : Int) ≤ (m : Int) := by omega
    have i1 : (m : Int) < (l.length : Int) := by omega
    have p0 : (0 : Int) ≤ (p : Int) := by omega
    have p1 : (p : Int) < (l.length : Int) := by omega
    obtain ⟨kb, ko, rfl, hks⟩ : ∃ kb ko, qk = some ⟨kb, ko, none⟩ ∧ ∀ i (h : i < l[p].kids.length), w6.cell? ⟨kb, ko + i, none⟩ = some (.int .i64 l[p].kids[i]) := by
      rcases hk0 with t | t
      · have := G.at_
        rw [nd_at hp, t] at this; simp at this
      · exact t
    have TH : Hid (∀ k (h : k < l[p].kids.length), l[p].kids[k] = (m : Int) ↔ k = a) := fun k h => by
      have := G.this k (by rw [nd_at hp]; exact h)
      simpa only [nd_at hp] using this
    have NX : Hid (∀ h : a + 1 < l[p].kids.length, l[p].kids[a + 1] = bq) := fun h => by
      have := G.next (by rw [nd_at hp]; exact h)
      simpa only [nd_at hp] using this
    have LA : Hid (¬ a + 1 < l[p].kids.length → bq = -1) := fun h => G.last (by rw [nd_at hp]; exact h)
    have AT : a < l[p].kids.length := by have := G.at_; rw [nd_at hp] at this; exact this
    have HK := hide hks
    clear hv NM NP hks hk0 T1 G hpar hR
    obtain ⟨ks, hks⟩ : ∃ ks, Hid (l[p].kids = ks) := ⟨_, show _ = _ from rfl⟩
    simp only [hks.out] at c4 TH NX LA AT HK KL
    have kl := KL.out
    go_wp2_with fail
    go_loopw [11, 61] (fun bv iv wr => wr = w6 ∧ ∃ k : Nat, k ≤ ks.length ∧ iv = .int .i64 k ∧ bv = .int .i64 (if a < k then bq else -1)) (fun _ iv _ => ks.length - (intOf iv).toNat)
    case atStart => exact ⟨rfl, 0, Nat.zero_le _, rfl, by rw [if_neg (by omega)]⟩
    case round =>
      obtain ⟨rfl, k, hk, rfl, rfl⟩ := hrel
      by_cases h : k < ks.length
      · have k1 : (k : Int) < (ks.length : Int) := by omega
        have k0 : (0 : Int) ≤ (k : Int) := by omega
        have x0 := HK.out k h
        by_cases q : k = a
        · subst q
          have tb : (ks[k] == (m : Int)) = true := by rw [beq_iff_eq]; exact (TH.out k h).2 rfl
          have e0 : (if k < k then bq else -1) = -1 := if_neg (by omega)
          have e1 : (if k < k + 1 then bq else -1) = bq := if_pos (by omega)
          have E1 := hide e1
          rw [e0]
          clear e0 e1
          by_cases r : k + 1 < ks.length
          · have r1 : (k : Int) + 1 < (ks.length : Int) := by omega
            have x1 := HK.out (k + 1) r
            rw [NX.out r] at x1
            go_wp2_with fail
            go_roundw
            case rel => exact ⟨by trivial, k + 1, by omega, by go_num, by rw [E1.out]⟩
            case measure => simp [intOf]; omega
          · have r1 : ¬ (k : Int) + 1 < (ks.length : Int) := by omega
            have r2 := LA.out r
            go_wp2_with fail
            go_roundw
            case rel => exact ⟨by trivial, k + 1, by omega, by go_num, by rw [E1.out, r2]⟩
            case measure => simp [intOf]; omega
        · have tb : (ks[k] == (m : Int)) = false := by rw [beq_eq_false_iff_ne]; exact fun t => q ((TH.out k h).1 t)
          have E1 : Hid ((if a < k + 1 then bq else -1) = (if a < k then bq else -1)) := by
            show _ = _
            by_cases r : a < k
            · rw [if_pos r, if_pos (by omega)]
            · rw [if_neg r, if_neg (by omega)]
          generalize (if a < k then bq else -1) = bv at *
          go_wp2_with fail
          go_roundw
          case rel => exact ⟨by trivial, k + 1, by omega, by go_num, by rw [E1.out]⟩
          case measure => simp [intOf]; omega
      · obtain rfl : k = ks.length := by omega
        rw [if_pos AT]
        go_wp2_with fail
        refine (BA.out _ _ D6.out).mono ?_
        rintro e w7 ⟨v7, rfl, n7, b7⟩
        have B7 := hide (chain B6.out b7)
        have V7 := hide (V6.out.below b7)
        have N7 := hide n7
        clear n7 b7
        go_wp2_with fail
        refine (HS.out _ _ l _ N7.out V7.out HZ.out).mono ?_
        rintro e w8 ⟨rfl, m8, hw8⟩
        have B8 := hide (chain B7.out (show Below w7.heap.size w7 w8 by rw [hw8]; exact bel_drewN (Below.refl _ _) _))
        clear hw8
        go_wp2_with fail
        go_ret
        exact ⟨rfl, B8.out⟩
  · have f1 : (z == 0) = false := by rw [beq_eq_false_iff_ne]; exact hz0
    clear T1
    go_wp2_with fail
    go_ret
    exact ⟨rfl, B6.out⟩

end Go.Proofs.Ytkloahpkjbohoaa
