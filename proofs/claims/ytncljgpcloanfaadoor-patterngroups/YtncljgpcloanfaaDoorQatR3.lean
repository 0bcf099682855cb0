/- The document's item of layer 9: it answers by the function of 'PatP'; the world is as it was. Condition: the pattern's signs lie in a row of numbers. -/
import Derived.BigQuiet
import Derived.Deep.QuietTactic
import Derived.Test.YtncljgpcloanfaaDoorQatR2
namespace Go.Proofs.YtncljgpcloanfaaDoor
open Go.RowKit

theorem elem_ints : Tryd.prog.underlying 32 = some (.slice (Tryd.prog.elem 32)) := by kernel_rfl
theorem size_ints (w : World) : (sizeOf (Tryd.prog.elem 32)).run Tryd.prog w = .ok 1 w := by
  have e : Tryd.prog.elem 32 = 3 := by kernel_rfl
  rw [e]; exact Tryd.sizeOf3 w
/-- An index into a row of numbers, in a statement that draws its order. -/
theorem index_row (g cap : Nat) (n : Nat) (i : Int) (j : Nat) (h : i = j) (hj : j < n) (w : World) : (Instr.indexAt 32 (.slice (some ⟨g, 0, none⟩) n cap) (.int .i64 i)).run Tryd.prog w = .ok (.pointer (some ⟨g, j, none⟩)) w := by
  subst h
  have := run_indexAt_slice (P := Tryd.prog) (w := w) 32 ⟨g, 0, none⟩ n cap .i64 (j : Int) elem_ints
  rw [this, if_pos ⟨by omega, by omega⟩, size_ints]
  show Result.ok (Value.pointer (some (Addr.add ⟨g, 0, none⟩ ((j : Int).toNat * 1)))) w = _
  rw [Int.toNat_natCast, Nat.mul_one]
  unfold Addr.add
  rw [Nat.zero_add]
  split
  · rename_i e; subst e; rfl
  · rfl
theorem item_none {l : List Nat} (h : behindL l = none) : itemL l = none := by unfold itemL; rw [h]
theorem endI_at {l : List Nat} {n : Nat} (i : Item) (h : n ≤ l.length) : endI l (some (i, l.drop n)) = (n : Int) := end_drop h rfl
theorem endB_at {l : List Nat} {n : Nat} (b : Bool) (a : Nat) (h : n ≤ l.length) : endB l (some (b, a, l.drop n)) = (n : Int) := end_drop h rfl

set_option maxHeartbeats 2000000 in
set_option maxRecDepth 100000 in
theorem refItem_any (g cap : Nat) (l : List Nat) (k : Nat) (w : World) (hI : Ints w g l) (hk : k ≤ l.length) :
    Calls Tryd.prog 54 #[rowV g cap l, .int .i64 (k : Int)] w fun e w' => e = .returned (.int .i64 (endI l (itemL (l.drop k)))) ∧ ∃ m, w' = w.drewN m := by
  have hlen := hI.len
  have HB := hide (refBehind_any g cap l k w hI hk)
  unfold rowV at HB
  unfold rowV
  cases hb : behindL (l.drop k) with
  | none =>
    rw [item_none hb]
    rw [hb] at HB
    replace HB : Hid (Calls Tryd.prog 67 #[.slice (some ⟨g, 0, none⟩) l.length cap, .int .i64 (k : Int)] w fun e w' => e = .returned (.int .i64 (-1)) ∧ w' = w) := HB
    clear hb hI
    go_enter Tryd.func54, Tryd.ntmps54
    go_wp2_with fail
    refine (HB.out).mono ?_
    rintro e uu ⟨rfl, rfl⟩
    go_wp2_with fail
    go_ret
    exact ⟨rfl, 0, rfl⟩
  | some x =>
    obtain ⟨b, a, r⟩ := x
    obtain ⟨n, hkn, hnl, rfl, ⟨hn1, ha⟩, hk2, hesc⟩ := bh_some hb
    rw [hb, endB_at b a hnl] at HB
    have cn1 := hI.cells (n - 1) hn1
    have sn1 := hI.small l[n - 1] (List.getElem_mem _)
    have ck := hI.cells k hk2
    have sk := hI.small l[k] (List.getElem_mem _)
    rw [ha] at cn1 sn1
    have n0 : decide ((n : Int) < 0) = false := decide_eq_false (by omega)
    have n00 : ¬ (n : Int) < 0 := by omega
    by_cases hn : n < l.length
    · have i1 : (n : Int) < (l.length : Int) := by omega
      have cn := hI.cells n hn
      have sn := hI.small l[n] (List.getElem_mem _)
      by_cases h45 : l[n] = 45
      · have d45 : ((l[n] : Int) != 45) = false := by rw [h45]; rfl
        have hit := item_dash (v := l.drop (n + 1)) (by rw [hb, dropN hn, h45])
        have HB2 := hide (refBehind_any g cap l (n + 1) w hI (by omega))
        unfold rowV at HB2
        rw [show ((n + 1 : Nat) : Int) = (n : Int) + 1 by omega] at HB2
        cases hb2 : behindL (l.drop (n + 1)) with
        | none =>
          rw [hit, hb2]
          rw [hb2] at HB2
          replace HB2 : Hid (Calls Tryd.prog 67 #[.slice (some ⟨g, 0, none⟩) l.length cap, .int .i64 ((n : Int) + 1)] w fun e w' => e = .returned (.int .i64 (-1)) ∧ w' = w) := HB2
          clear hb hb2 hI hit h45 ha hesc
          generalize l[n] = xn at *
          generalize l[k] = xk at *
          go_enter Tryd.func54, Tryd.ntmps54
          go_wp2_with fail
          refine (HB.out).mono ?_
          rintro e uu ⟨rfl, rfl⟩
          go_wp2_with fail
          refine (HB2.out).mono ?_
          rintro e uu ⟨rfl, rfl⟩
          go_wp2_with fail
          go_quiet (fail)
          go_wp2_with fail
          go_ret
          exact ⟨rfl, _, rfl⟩
        | some y =>
          obtain ⟨b2, a2, r2⟩ := y
          obtain ⟨m, hnm, hml, rfl, ⟨hm1, ha2⟩, hn2, hesc2⟩ := bh_some hb2
          rw [hb2, endB_at b2 a2 hml] at HB2
          rw [hit, hb2]
          have cm1 := hI.cells (m - 1) hm1
          have sm1 := hI.small l[m - 1] (List.getElem_mem _)
          rw [ha2] at cm1 sm1
          have cn2 := hI.cells (n + 1) hn2
          have sn2 := hI.small l[n + 1] (List.getElem_mem _)
          have m0 : decide ((m : Int) < 0) = false := decide_eq_false (by omega)
          have m00 : ¬ (m : Int) < 0 := by omega
          have im : (m : Int) ≤ (l.length : Int) := by omega
          have im2 : (1 : Int) ≤ (m : Int) := by omega
          have in1 : (1 : Int) ≤ (n : Int) := by omega
          have i2 : (n : Int) + 1 < (l.length : Int) := by omega
          have EM : ∀ i : Item, endI l (some (i, l.drop m)) = (m : Int) := fun i => endI_at i hml
          have x1 := fun w => index_row g cap l.length ((n : Int) + 1) (n + 1) (by omega) (by omega) w
          have x2 := fun w => index_row g cap l.length ((n : Int) - 1) (n - 1) (by omega) (by omega) w
          have x3 := fun w => index_row g cap l.length ((m : Int) - 1) (m - 1) (by omega) (by omega) w
          clear hb hb2 hit h45 ha ha2
          show Calls _ _ _ _ fun e w' => e = .returned (.int .i64 (endI l (if b || (b2 || decide (a2 < a)) then none else some (.span a a2, l.drop m)))) ∧ ∃ m, w' = w.drewN m
          rcases hesc with ⟨e1, rfl⟩ | ⟨e1, h2, hq⟩
          · have d1 : ((l[k] : Int) == 92) = false := by rw [beq_eq_false_iff_ne]; omega
            clear e1
            rcases hesc2 with ⟨e3, rfl⟩ | ⟨e3, h4, hq2⟩
            · have d3 : ((l[n + 1] : Int) == 92) = false := by rw [beq_eq_false_iff_ne]; omega
              clear e3
              by_cases hlt : a2 < a
              · have dl : (a2 : Int) < (a : Int) := by omega
                rw [if_pos (by simp [hlt])]
                clear hI hlt EM
                generalize l[n] = xn at *
                generalize l[k] = xk at *
                generalize l[n + 1] = xn2 at *
                generalize (a : Int) = ai at *
                generalize (a2 : Int) = ai2 at *
                go_enter Tryd.func54, Tryd.ntmps54
                go_wp2_with fail
                refine (HB.out).mono ?_
                rintro e uu ⟨rfl, rfl⟩
                go_wp2_with fail
                refine (HB2.out).mono ?_
                rintro e uu ⟨rfl, rfl⟩
                go_wp2_with fail
                go_quiet (fail)
                go_wp2_with fail
                go_ret
                exact ⟨rfl, _, rfl⟩
              · have dl : ¬ (a2 : Int) < (a : Int) := by omega
                rw [if_neg (by simp [hlt]), EM]
                clear hI hlt EM
                generalize l[n] = xn at *
                generalize l[k] = xk at *
                generalize l[n + 1] = xn2 at *
                generalize (a : Int) = ai at *
                generalize (a2 : Int) = ai2 at *
                go_enter Tryd.func54, Tryd.ntmps54
                go_wp2_with fail
                refine (HB.out).mono ?_
                rintro e uu ⟨rfl, rfl⟩
                go_wp2_with fail
                refine (HB2.out).mono ?_
                rintro e uu ⟨rfl, rfl⟩
                go_wp2_with fail
                go_quiet (fail)
                go_wp2_with fail
                go_ret
                exact ⟨rfl, _, rfl⟩
            · have d3 : ((l[n + 1] : Int) == 92) = true := by rw [e3]; rfl
              have c4 : w.cell? ⟨g, n + 2, none⟩ = some (.int .i64 (l[n + 1 + 1] : Nat)) := hI.cells (n + 1 + 1) h4
              have s4 := hI.small l[n + 1 + 1] (List.getElem_mem _)
              have i4 : (n : Int) + 2 < (l.length : Int) := by omega
              have x5 := fun w => index_row g cap l.length ((n : Int) + 2) (n + 2) (by omega) (by omega) w
              have H4 := hide (fun w => refInN_any l[n + 1 + 1] ⟨#[100, 119, 115]⟩ w (by decide))
              rw [show nums ⟨#[100, 119, 115]⟩ = dwsN from rfl, ← hq2] at H4
              clear e3 hq2
              cases b2 with
              | true =>
                rw [if_pos (by simp)]
                clear hI EM
                generalize l[n + 1 + 1] = x4 at *
                generalize l[n] = xn at *
                generalize l[k] = xk at *
                generalize l[n + 1] = xn2 at *
                go_enter Tryd.func54, Tryd.ntmps54
                go_wp2_with fail
                refine (HB.out).mono ?_
                rintro e uu ⟨rfl, rfl⟩
                go_wp2_with fail
                refine (HB2.out).mono ?_
                rintro e uu ⟨rfl, rfl⟩
                go_wp2_with fail
                go_quiet (first | with_reducible exact Calls.quiet_of_same (H4.out _))
                go_wp2_with fail
                go_ret
                exact ⟨rfl, _, rfl⟩
              | false =>
                generalize l[n + 1 + 1] = x4 at *
                by_cases hlt : a2 < a
                · have dl : (a2 : Int) < (a : Int) := by omega
                  rw [if_pos (by simp [hlt])]
                  clear hI hlt EM
                  generalize l[n] = xn at *
                  generalize l[k] = xk at *
                  generalize l[n + 1] = xn2 at *
                  generalize (a : Int) = ai at *
                  generalize (a2 : Int) = ai2 at *
                  go_enter Tryd.func54, Tryd.ntmps54
                  go_wp2_with fail
                  refine (HB.out).mono ?_
                  rintro e uu ⟨rfl, rfl⟩
                  go_wp2_with fail
                  refine (HB2.out).mono ?_
                  rintro e uu ⟨rfl, rfl⟩
                  go_wp2_with fail
                  go_quiet (first | with_reducible exact Calls.quiet_of_same (H4.out _))
                  go_wp2_with fail
                  go_ret
                  exact ⟨rfl, _, rfl⟩
                · have dl : ¬ (a2 : Int) < (a : Int) := by omega
                  rw [if_neg (by simp [hlt]), EM]
                  clear hI hlt EM
                  generalize l[n] = xn at *
                  generalize l[k] = xk at *
                  generalize l[n + 1] = xn2 at *
                  generalize (a : Int) = ai at *
                  generalize (a2 : Int) = ai2 at *
                  go_enter Tryd.func54, Tryd.ntmps54
                  go_wp2_with fail
                  refine (HB.out).mono ?_
                  rintro e uu ⟨rfl, rfl⟩
                  go_wp2_with fail
                  refine (HB2.out).mono ?_
                  rintro e uu ⟨rfl, rfl⟩
                  go_wp2_with fail
                  go_quiet (first | with_reducible exact Calls.quiet_of_same (H4.out _))
                  go_wp2_with fail
                  go_ret
                  exact ⟨rfl, _, rfl⟩
          · have d1 : ((l[k] : Int) == 92) = true := by rw [e1]; rfl
            have c2 := hI.cells (k + 1) h2
            have s2 := hI.small l[k + 1] (List.getElem_mem _)
            have i3 : (k : Int) + 1 < (l.length : Int) := by omega
            have x4 := fun w => index_row g cap l.length ((k : Int) + 1) (k + 1) (by omega) (by omega) w
            have H2 := hide (fun w => refInN_any l[k + 1] ⟨#[100, 119, 115]⟩ w (by decide))
            rw [show nums ⟨#[100, 119, 115]⟩ = dwsN from rfl, ← hq] at H2
            clear e1 hq
            cases b with
            | true =>
              rw [if_pos (by simp)]
              clear hI hesc2 EM
              generalize l[k + 1] = xk2 at *
              generalize l[n] = xn at *
              generalize l[k] = xk at *
              generalize l[n + 1] = xn2 at *
              go_enter Tryd.func54, Tryd.ntmps54
              go_wp2_with fail
              refine (HB.out).mono ?_
              rintro e uu ⟨rfl, rfl⟩
              go_wp2_with fail
              refine (HB2.out).mono ?_
              rintro e uu ⟨rfl, rfl⟩
              go_wp2_with fail
              go_quiet (first | with_reducible exact Calls.quiet_of_same (H2.out _))
              go_wp2_with fail
              go_ret
              exact ⟨rfl, _, rfl⟩
            | false =>
              generalize l[k + 1] = xk2 at *
              rcases hesc2 with ⟨e3, rfl⟩ | ⟨e3, h4, hq2⟩
              · have d3 : ((l[n + 1] : Int) == 92) = false := by rw [beq_eq_false_iff_ne]; omega
                clear e3
                by_cases hlt : a2 < a
                · have dl : (a2 : Int) < (a : Int) := by omega
                  rw [if_pos (by simp [hlt])]
                  clear hI hlt EM
                  generalize l[n] = xn at *
                  generalize l[k] = xk at *
                  generalize l[n + 1] = xn2 at *
                  generalize (a : Int) = ai at *
                  generalize (a2 : Int) = ai2 at *
                  go_enter Tryd.func54, Tryd.ntmps54
                  go_wp2_with fail
                  refine (HB.out).mono ?_
                  rintro e uu ⟨rfl, rfl⟩
                  go_wp2_with fail
                  refine (HB2.out).mono ?_
                  rintro e uu ⟨rfl, rfl⟩
                  go_wp2_with fail
                  go_quiet (first | with_reducible exact Calls.quiet_of_same (H2.out _))
                  go_wp2_with fail
                  go_ret
                  exact ⟨rfl, _, rfl⟩
                · have dl : ¬ (a2 : Int) < (a : Int) := by omega
                  rw [if_neg (by simp [hlt]), EM]
                  clear hI hlt EM
                  generalize l[n] = xn at *
                  generalize l[k] = xk at *
                  generalize l[n + 1] = xn2 at *
                  generalize (a : Int) = ai at *
                  generalize (a2 : Int) = ai2 at *
                  go_enter Tryd.func54, Tryd.ntmps54
                  go_wp2_with fail
                  refine (HB.out).mono ?_
                  rintro e uu ⟨rfl, rfl⟩
                  go_wp2_with fail
                  refine (HB2.out).mono ?_
                  rintro e uu ⟨rfl, rfl⟩
                  go_wp2_with fail
                  go_quiet (first | with_reducible exact Calls.quiet_of_same (H2.out _))
                  go_wp2_with fail
                  go_ret
                  exact ⟨rfl, _, rfl⟩
              · have d3 : ((l[n + 1] : Int) == 92) = true := by rw [e3]; rfl
                have c4 : w.cell? ⟨g, n + 2, none⟩ = some (.int .i64 (l[n + 1 + 1] : Nat)) := hI.cells (n + 1 + 1) h4
                have s4 := hI.small l[n + 1 + 1] (List.getElem_mem _)
                have i4 : (n : Int) + 2 < (l.length : Int) := by omega
                have x5 := fun w => index_row g cap l.length ((n : Int) + 2) (n + 2) (by omega) (by omega) w
                have H4 := hide (fun w => refInN_any l[n + 1 + 1] ⟨#[100, 119, 115]⟩ w (by decide))
                rw [show nums ⟨#[100, 119, 115]⟩ = dwsN from rfl, ← hq2] at H4
                clear e3 hq2
                cases b2 with
                | true =>
                  rw [if_pos (by simp)]
                  clear hI EM
                  generalize l[n + 1 + 1] = x4 at *
                  generalize l[n] = xn at *
                  generalize l[k] = xk at *
                  generalize l[n + 1] = xn2 at *
                  go_enter Tryd.func54, Tryd.ntmps54
                  go_wp2_with fail
                  refine (HB.out).mono ?_
                  rintro e uu ⟨rfl, rfl⟩
                  go_wp2_with fail
                  refine (HB2.out).mono ?_
                  rintro e uu ⟨rfl, rfl⟩
                  go_wp2_with fail
                  go_quiet (first | with_reducible exact Calls.quiet_of_same (H2.out _) | with_reducible exact Calls.quiet_of_same (H4.out _))
                  go_wp2_with fail
                  go_ret
                  exact ⟨rfl, _, rfl⟩
                | false =>
                  generalize l[n + 1 + 1] = x4 at *
                  by_cases hlt : a2 < a
                  · have dl : (a2 : Int) < (a : Int) := by omega
                    rw [if_pos (by simp [hlt])]
                    clear hI hlt EM
                    generalize l[n] = xn at *
                    generalize l[k] = xk at *
                    generalize l[n + 1] = xn2 at *
                    generalize (a : Int) = ai at *
                    generalize (a2 : Int) = ai2 at *
                    go_enter Tryd.func54, Tryd.ntmps54
                    go_wp2_with fail
                    refine (HB.out).mono ?_
                    rintro e uu ⟨rfl, rfl⟩
                    go_wp2_with fail
                    refine (HB2.out).mono ?_
                    rintro e uu ⟨rfl, rfl⟩
                    go_wp2_with fail
                    go_quiet (first | with_reducible exact Calls.quiet_of_same (H2.out _) | with_reducible exact Calls.quiet_of_same (H4.out _))
                    go_wp2_with fail
                    go_ret
                    exact ⟨rfl, _, rfl⟩
                  · have dl : ¬ (a2 : Int) < (a : Int) := by omega
                    rw [if_neg (by simp [hlt]), EM]
                    clear hI hlt EM
                    generalize l[n] = xn at *
                    generalize l[k] = xk at *
                    generalize l[n + 1] = xn2 at *
                    generalize (a : Int) = ai at *
                    generalize (a2 : Int) = ai2 at *
                    go_enter Tryd.func54, Tryd.ntmps54
                    go_wp2_with fail
                    refine (HB.out).mono ?_
                    rintro e uu ⟨rfl, rfl⟩
                    go_wp2_with fail
                    refine (HB2.out).mono ?_
                    rintro e uu ⟨rfl, rfl⟩
                    go_wp2_with fail
                    go_quiet (first | with_reducible exact Calls.quiet_of_same (H2.out _) | with_reducible exact Calls.quiet_of_same (H4.out _))
                    go_wp2_with fail
                    go_ret
                    exact ⟨rfl, _, rfl⟩
      · have d45 : ((l[n] : Int) != 45) = true := by rw [bne_iff_ne]; omega
        rw [item_one hb (by rw [dropN hn, List.head?_cons]; exact fun e => h45 (Option.some.inj e)), endI_at _ hnl]
        clear hb hI h45 ha hesc
        generalize l[n] = xn at *
        generalize l[k] = xk at *
        go_enter Tryd.func54, Tryd.ntmps54
        go_wp2_with fail
        refine (HB.out).mono ?_
        rintro e uu ⟨rfl, rfl⟩
        go_wp2_with fail
        go_ret
        exact ⟨rfl, 0, rfl⟩
    · have i1 : ¬ (n : Int) < (l.length : Int) := by omega
      rw [item_one hb (by rw [List.drop_eq_nil_of_le (by omega)]; simp), endI_at _ hnl]
      clear hb hI ha hesc
      generalize l[k] = xk at *
      go_enter Tryd.func54, Tryd.ntmps54
      go_wp2_with fail
      refine (HB.out).mono ?_
      rintro e uu ⟨rfl, rfl⟩
      go_wp2_with fail
      go_ret
      exact ⟨rfl, 0, rfl⟩

end Go.Proofs.YtncljgpcloanfaaDoor
