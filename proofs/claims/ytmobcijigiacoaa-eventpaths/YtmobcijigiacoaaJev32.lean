/- The document's SameInts, SameAttrs, Same of layer 10. Stage 23's wakes and its laws EventPaths, EventKinds, walked. -/
import Derived.Test.YtmobcijigiacoaaJev21
import Derived.Test.YtmobcijigiacoaaJev24
import Derived.Test.YtmobcijigiacoaaJev31

namespace Go.Proofs.Ytmobcijigiacoaa
open Go.RowKit
set_option maxRecDepth 100000
theorem list_no {α : Type} {x y : List α} {k : Nat} (h1 : k < x.length) (h2 : k < y.length) (h : ¬ x[k] = y[k]) : ¬ x = y := by
  intro e
  subst e
  exact h rfl
theorem list_yes {α : Type} {x y : List α} (hl : x.length = y.length) (h : ∀ k (h1 : k < x.length) (h2 : k < y.length), x[k] = y[k]) : x = y := List.ext_getElem hl fun k h1 h2 => h k h1 h2
theorem next_same {α : Type} {x y : List α} {k : Nat} (hd : Hid (∀ j (h1 : j < x.length) (h2 : j < y.length), j < k → x[j] = y[j])) (h1 : k < x.length) (h2 : k < y.length) (h : x[k] = y[k]) : Hid (∀ j (h1 : j < x.length) (h2 : j < y.length), j < k + 1 → x[j] = y[j]) := by
  intro j g1 g2 hj
  rcases Nat.lt_or_ge j k with q | q
  · exact hd.out j g1 g2 q
  · obtain rfl : j = k := by omega
    exact h
set_option maxHeartbeats 2000000 in
theorem refSameInts_any (va vb : Value) (x y : List Int) (w : World) (ha : IntsV w va x) (hb : IntsV w vb y) (hx : x.length ≤ 17592186044416) :
    Calls Try.prog 9 #[va, vb] w fun e w' => e = .returned (.bool (decide (x = y))) ∧ ∃ m, w' = w.drewN m := by
  obtain ⟨pa, ca, rfl, ha⟩ := ha
  obtain ⟨pb, cb, rfl, hb⟩ := hb
  by_cases hl : x.length = y.length
  rotate_left
  · have e1 : ((x.length : Int) != (y.length : Int)) = true := by rw [bne_iff_ne]; omega
    have E := hide (decide_eq_false (fun q : x = y => hl (by rw [q])))
    clear ha hb hl
    go_enter Try.func9, Try.ntmps9
    go_wp2_with fail
    go_ret
    exact ⟨ret_bool E.out.symm, 0, rfl⟩
  have e1 : ((x.length : Int) != (y.length : Int)) = false := by rw [hl]; simp
  have l1 : x.length ≤ y.length := by omega
  have l2 : y.length ≤ x.length := by omega
  have NO := hide (fun k h1 h2 h => decide_eq_false (list_no (x := x) (y := y) (k := k) h1 h2 h))
  have YES := hide (fun h => decide_eq_true (list_yes (x := x) (y := y) hl h))
  clear hl
  generalize decide (x = y) = R at *
  go_enter Try.func9, Try.ntmps9
  go_wp2_with fail
  go_loopw [5] (fun iv wr => ∃ j : Nat, j ≤ x.length ∧ iv = .int .i64 j ∧ Hid (∀ t (h1 : t < x.length) (h2 : t < y.length), t < j → x[t] = y[t]) ∧ ∃ m, wr = w.drewN m) (fun iv _ => x.length - (intOf iv).toNat)
  case atStart => exact ⟨0, Nat.zero_le _, rfl, fun t _ _ q => by omega, 0, rfl⟩
  case round =>
    obtain ⟨j, hj, rfl, hd, m, rfl⟩ := hrel
    by_cases h : j < x.length
    · have i1 : (j : Int) < (x.length : Int) := by omega
      have hy2 : j < y.length := by omega
      have i2 : (j : Int) < (y.length : Int) := by omega
      rcases ha with ha | ⟨b1, o1, rfl, ha⟩
      · rw [ha] at h; simp at h
      rcases hb with hb | ⟨b2, o2, rfl, hb⟩
      · rw [hb] at hy2; simp at hy2
      have c1 := ha j h
      have c2 := hb j hy2
      by_cases e : x[j] = y[j]
      · have hd' := next_same hd h hy2 e
        rw [← e] at c2
        clear hd NO YES ha hb e
        generalize x[j] = xj at *
        go_wp2_with fail
        go_quiet (fail)
        go_wp2_with fail
        go_roundw
        case rel => first | exact ⟨j + 1, by omega, by go_num, hd', _, rfl⟩ | exact ⟨j + 1, by omega, by go_num, hd', _, World.drewN_drewN w m _⟩
        case measure => simp [intOf]; omega
      · have E := hide (NO.out j h hy2 e)
        have e2 : (x[j] != y[j]) = true := by rw [bne_iff_ne]; exact e
        have e3 : (x[j] == y[j]) = false := by rw [beq_eq_false_iff_ne]; exact e
        clear hd NO YES ha hb e
        generalize x[j] = xj at *
        generalize y[j] = yj at *
        go_wp2_with fail
        go_quiet (fail)
        go_wp2_with fail
        go_ret
        first | exact ⟨ret_bool E.out.symm, _, rfl⟩ | exact ⟨ret_bool E.out.symm, _, World.drewN_drewN w m _⟩
    · obtain rfl : j = x.length := by omega
      have E := hide (YES.out (fun t h1 h2 => hd.out t h1 h2 h1))
      clear hd NO YES ha hb h
      go_wp2_with fail
      go_ret
      exact ⟨ret_bool E.out.symm, m, rfl⟩
end Go.Proofs.Ytmobcijigiacoaa

namespace Go.Proofs.Ytmobcijigiacoaa
open Go.RowKit
set_option maxRecDepth 100000
set_option maxHeartbeats 8000000 in
theorem eventPaths_walk (v : Value) (l : List Nd) (id : Int) (w : World) (hv : NodesV w v l) (hz : DocSz l) (hT : EvTabs w) :
    Calls Try.prog 3 #[v, .int .i64 id] w fun e w' => e = .returned (.bool true) ∧ Below w.heap.size w w' := by
  have HV := hide hv
  have HW := hide (evWakes_any w hT)
  have HC := hide (fun W (hb : Below w.heap.size w W) => refCopied_any v l W (HV.out.below hb) hz)
  have H1 := hide (fun u W (hb : Below w.heap.size w W) (hu : NodesV W u l) => evPath_any u l id W hu hz (hT.below hb))
  have H2 := hide (fun W (hb : Below w.heap.size w W) => refPath23_any v l id W (HV.out.below hb) hz)
  have FEW := path_few (l := l) (t := id)
  generalize pathP l id = ms at *
  have H5 := hide (fun va vb W (ha : IntsV W va ms) (hb : IntsV W vb ms) => refSameInts_any va vb ms ms W ha hb (by omega))
  rw [decide_eq_true (rfl : ms = ms)] at H5
  obtain ⟨p, k, rfl⟩ : ∃ p k, v = .slice p l.length k := by obtain ⟨p, k, e, _⟩ := hv; exact ⟨p, k, e⟩
  clear hv hz hT HV
  go_enter Try.func3, Try.ntmps3
  go_wp2_with fail
  refine HW.out.mono ?_
  rintro e w1 ⟨rfl, b1⟩
  go_wp2_with fail
  refine (HC.out _ b1).mono ?_
  rintro e w2 ⟨v2, L2, rfl, o2, e2, b2⟩
  have N2 : Hid (NodesV w2 v2 l) := by show NodesV _ _ _; rw [← e2]; exact o2.nodes
  obtain ⟨p2, k2, rfl⟩ : ∃ p k, v2 = .slice p l.length k := by obtain ⟨p, k, e, _⟩ := N2.out; exact ⟨p, k, e⟩
  have B2 := hide (chain b1 b2)
  clear o2 e2 b1 b2 HW HC
  go_wp2_with fail
  refine (H1.out _ _ B2.out N2.out).mono ?_
  rintro e w3 ⟨v3, rfl, i3, b3⟩
  have B3 := hide (chain B2.out b3)
  have I3 := hide i3
  obtain ⟨p3, k3, rfl, _⟩ := i3
  clear b3 N2 B2 H1
  go_wp2_with fail
  refine (H2.out _ B3.out).mono ?_
  rintro e w4 ⟨q4, z4, rfl, i4, b4⟩
  have B4 := hide (chain B3.out b4)
  have I4 := hide (I3.out.below b4)
  have J4 := hide i4.ints
  clear b4 i4 I3 B3 H2
  go_wp2_with fail
  refine (H5.out _ _ _ I4.out J4.out).mono ?_
  rintro e u ⟨rfl, nn, rfl⟩
  have DN := hide (bel_drewN (Below.refl w4.heap.size w4) nn)
  go_wp2_with fail
  go_ret
  exact ⟨rfl, chain B4.out DN.out⟩

end Go.Proofs.Ytmobcijigiacoaa
