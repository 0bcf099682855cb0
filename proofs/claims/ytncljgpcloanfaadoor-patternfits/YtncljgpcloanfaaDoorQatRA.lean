/- The document's fitsItem of layer 9: it answers by the function of 'PatM'; what lay in the world lies there still. Condition: the pattern's signs lie in a row of numbers; an item stands there. -/
import Derived.Test.YtncljgpcloanfaaDoorQatR9
namespace Go.Proofs.YtncljgpcloanfaaDoor
open Go.RowKit

theorem bh_place {l : List Nat} {k : Nat} {b : Bool} {a : Nat} {r : List Nat} (h : behindL (l.drop k) = some (b, a, r)) : ∃ hk : k < l.length, (¬ l[k] = 92 ∧ b = false ∧ r = l.drop (k + 1) ∧ a = l[k]) ∨ (l[k] = 92 ∧ ∃ h2 : k + 1 < l.length, b = inN dwsN l[k + 1] ∧ r = l.drop (k + 2) ∧ a = l[k + 1]) := by
  by_cases hk : k < l.length
  · refine ⟨hk, ?_⟩
    cases hc : inN clsN l[k] with
    | true => rw [bh_cls hk hc] at h; cases h
    | false =>
      by_cases h9 : l[k] = 92
      · by_cases h2 : k + 1 < l.length
        · rw [bh_esc hk hc h9 h2] at h
          split at h
          · cases h; exact .inr ⟨h9, h2, rfl, rfl, rfl⟩
          · cases h
        · rw [bh_short hk hc h9 h2] at h; cases h
      · rw [bh_sign hk hc h9] at h
        cases h; exact .inl ⟨h9, rfl, rfl, rfl⟩
  · rw [bh_end hk] at h; cases h
theorem drop_same {l : List Nat} {n e : Nat} (hn : n ≤ l.length) (he : e ≤ l.length) (h : l.drop n = l.drop e) : n = e := by
  have := congrArg List.length h
  rw [List.length_drop, List.length_drop] at this
  omega
/-- An item that stands from a to e, by its parts. -/
theorem item_parts {l : List Nat} {a e : Nat} {i : Item} (he : e ≤ l.length) (h : itemL (l.drop a) = some (i, l.drop e)) : ∃ (b : Bool) (x n : Nat), behindL (l.drop a) = some (b, x, l.drop n) ∧ a < n ∧ n ≤ l.length ∧ (∃ h1 : n - 1 < l.length, l[n - 1] = x) ∧ ∃ hk : a < l.length,
    ((l[a] = 92 ∧ (∃ h2 : a + 1 < l.length, inN dwsN l[a + 1] = true ∧ i = .kind l[a + 1])) ∨ ((¬ l[a] = 92 ∨ (l[a] = 92 ∧ ∃ h2 : a + 1 < l.length, inN dwsN l[a + 1] = false)) ∧ ((n = e ∧ i = .span x x) ∨ (n < e ∧ ∃ y, (∃ h3 : e - 1 < l.length, l[e - 1] = y) ∧ i = .span x y)))) := by
  cases hb : behindL (l.drop a) with
  | none => rw [item_none hb] at h; cases h
  | some q =>
    obtain ⟨b, x, r⟩ := q
    obtain ⟨n, h1, h2, rfl, h3, _⟩ := bh_some hb
    obtain ⟨hk, hp⟩ := bh_place hb
    refine ⟨b, x, n, rfl, h1, h2, h3, hk, ?_⟩
    by_cases e45 : (l.drop n).head? = some 45
    · obtain ⟨u, hu⟩ : ∃ u, l.drop n = 45 :: u := by
        cases hd : l.drop n with
        | nil => rw [hd] at e45; cases e45
        | cons c u => rw [hd] at e45; exact ⟨u, by rw [Option.some.inj e45]⟩
      have hnl : n < l.length := by
        rcases Nat.lt_or_ge n l.length with g | g
        · exact g
        · rw [List.drop_eq_nil_of_le g] at hu; cases hu
      have hu2 : u = l.drop (n + 1) := by
        rw [dropN hnl] at hu
        exact (List.cons.inj hu).2.symm
      rw [hu] at hb
      rw [item_dash hb, hu2] at h
      cases hb2 : behindL (l.drop (n + 1)) with
      | none => rw [hb2] at h; cases h
      | some y =>
        obtain ⟨b2, a2, v2⟩ := y
        obtain ⟨m, h4, h5, rfl, h6, _⟩ := bh_some hb2
        rw [hb2] at h
        simp only at h
        split at h
        · cases h
        · rename_i hno
          have hmv := (Prod.mk.inj (Option.some.inj h)).2
          have hiv := (Prod.mk.inj (Option.some.inj h)).1
          have hme := drop_same h5 he hmv
          subst hme
          have hbf : b = false := by
            cases b with
            | false => rfl
            | true => simp at hno
          right
          refine ⟨?_, .inr ⟨by omega, a2, h6, hiv.symm⟩⟩
          rcases hp with ⟨q1, _⟩ | ⟨q1, q2, q3, _⟩
          · exact .inl q1
          · exact .inr ⟨q1, q2, by rw [← q3]; exact hbf⟩
    · rw [item_one hb e45] at h
      have hnv := (Prod.mk.inj (Option.some.inj h)).2
      have hiv := (Prod.mk.inj (Option.some.inj h)).1
      have hne := drop_same h2 he hnv
      rcases hp with ⟨q1, q2, _, _⟩ | ⟨q1, q2, q3, _, q5⟩
      · right
        refine ⟨.inl q1, .inl ⟨hne, ?_⟩⟩
        rw [← hiv, q2]; rfl
      · cases hd : inN dwsN l[a + 1] with
        | true =>
          left
          refine ⟨q1, q2, hd, ?_⟩
          rw [← hiv, q3, hd, q5]; rfl
        | false =>
          right
          refine ⟨.inr ⟨q1, q2, hd⟩, .inl ⟨hne, ?_⟩⟩
          rw [← hiv, q3, hd]; rfl
theorem span_one (x c : Nat) : fitItem (.span x x) c = (c == x) := by
  unfold fitItem
  rw [Bool.eq_iff_iff, Bool.and_eq_true, decide_eq_true_eq, decide_eq_true_eq, beq_iff_eq]; omega

set_option maxHeartbeats 2000000 in
set_option maxRecDepth 100000 in
theorem refFitsItem_any (g cap : Nat) (l : List Nat) (a e c : Nat) (i : Item) (w : World) (hI : Ints w g l) (he : e ≤ l.length) (hi : itemL (l.drop a) = some (i, l.drop e)) :
    Calls Tryd.prog 59 #[rowV g cap l, .int .i64 (a : Int), .int .i64 (e : Int), .int .i64 (c : Int)] w fun r w' => r = .returned (.bool (fitItem i c)) ∧ ∃ m, w' = w.drewN m := by
  have hlen := hI.len
  obtain ⟨b, x, n, hb, h1, h2, ⟨h3, hx⟩, hk, hp⟩ := item_parts he hi
  have HB := hide (refBehind_any g cap l a w hI (by omega))
  unfold rowV at HB
  rw [hb, endB_at b x h2] at HB
  have ca := hI.cells a hk
  have sa := hI.small l[a] (List.getElem_mem _)
  have cn := hI.cells (n - 1) h3
  have sn := hI.small l[n - 1] (List.getElem_mem _)
  rw [hx] at cn sn
  have i1 : (a : Int) < (l.length : Int) := by omega
  have i2 : (n : Int) ≤ (l.length : Int) := by omega
  have i3 : 1 ≤ (n : Int) := by omega
  unfold rowV
  clear hb hx hi
  rcases hp with ⟨q1, q2, q3, rfl⟩ | ⟨q1, q4⟩
  · have d1 : ((l[a] : Int) == 92) = true := by rw [q1]; rfl
    have c2 := hI.cells (a + 1) q2
    have s2 := hI.small l[a + 1] (List.getElem_mem _)
    have i4 : (a : Int) + 1 < (l.length : Int) := by omega
    have H2 := hide (fun w => refInN_any l[a + 1] ⟨#[100, 119, 115]⟩ w (by decide))
    rw [show nums ⟨#[100, 119, 115]⟩ = dwsN from rfl, q3] at H2
    have H3 := hide (fun w => refNamed_any l[a + 1] c w)
    have E : Hid (fitItem (.kind l[a + 1]) c = namedN l[a + 1] c) := rfl
    generalize fitItem (.kind l[a + 1]) c = R at *
    generalize namedN l[a + 1] c = R2 at *
    clear hI q1 q3
    generalize l[a] = xa at *
    generalize l[a + 1] = xb at *
    go_enter Tryd.func59, Tryd.ntmps59
    go_wp2_with fail
    refine (HB.out).mono ?_
    rintro e uu ⟨rfl, rfl⟩
    go_wp2_with fail
    refine (H2.out _).mono ?_
    rintro e uu ⟨rfl, rfl⟩
    go_wp2_with fail
    refine (H3.out _).mono ?_
    rintro e uu ⟨rfl, rfl⟩
    go_wp2_with fail
    go_ret
    exact ⟨ret_bool E.out.symm, 0, rfl⟩
  · rcases q1 with q1 | ⟨q1, q2, q3⟩
    · have d1 : ((l[a] : Int) == 92) = false := by rw [beq_eq_false_iff_ne]; omega
      rcases q4 with ⟨rfl, rfl⟩ | ⟨q5, y, ⟨q6, q7⟩, rfl⟩
      · have dn : ((n : Int) == (n : Int)) = true := by simp
        have E := hide ((span_one x c).trans (nat_beq c x).symm)
        clear hI q1
        generalize l[a] = xa at *
        generalize (c : Int) = ci at *
        generalize (x : Int) = xi at *
        go_enter Tryd.func59, Tryd.ntmps59
        go_wp2_with fail
        refine (HB.out).mono ?_
        rintro e uu ⟨rfl, rfl⟩
        go_wp2_with fail
        go_ret
        exact ⟨ret_bool E.out.symm, 0, rfl⟩
      · have dn : ((n : Int) == (e : Int)) = false := by rw [beq_eq_false_iff_ne]; omega
        have ce := hI.cells (e - 1) q6
        have se := hI.small l[e - 1] (List.getElem_mem _)
        rw [q7] at ce se
        have i5 : 1 ≤ (e : Int) := by omega
        have i6 : (e : Int) ≤ (l.length : Int) := by omega
        by_cases g1 : x ≤ c
        · have g1i : (x : Int) ≤ (c : Int) := by omega
          have g1j : decide ((x : Int) ≤ (c : Int)) = true := decide_eq_true g1i
          have E : Hid (fitItem (.span x y) c = decide ((c : Int) ≤ (y : Int))) := by
            show (decide (x ≤ c) && decide (c ≤ y)) = _
            rw [decide_eq_true g1, Bool.true_and, Bool.eq_iff_iff, decide_eq_true_eq, decide_eq_true_eq]; omega
          generalize fitItem (.span x y) c = R at *
          clear hI q1 q7 g1
          generalize l[a] = xa at *
          generalize (c : Int) = ci at *
          generalize (x : Int) = xi at *
          generalize (y : Int) = yi at *
          go_enter Tryd.func59, Tryd.ntmps59
          go_wp2_with fail
          refine (HB.out).mono ?_
          rintro e uu ⟨rfl, rfl⟩
          go_wp2_with fail
          go_ret
          exact ⟨ret_bool E.out.symm, 0, rfl⟩
        · have g1i : ¬ (x : Int) ≤ (c : Int) := by omega
          have g1j : decide ((x : Int) ≤ (c : Int)) = false := decide_eq_false g1i
          have E : Hid (fitItem (.span x y) c = false) := by
            show (decide (x ≤ c) && decide (c ≤ y)) = _
            rw [decide_eq_false g1]; rfl
          generalize fitItem (.span x y) c = R at *
          clear hI q1 q7 g1
          generalize l[a] = xa at *
          generalize (c : Int) = ci at *
          generalize (x : Int) = xi at *
          generalize (y : Int) = yi at *
          go_enter Tryd.func59, Tryd.ntmps59
          go_wp2_with fail
          refine (HB.out).mono ?_
          rintro e uu ⟨rfl, rfl⟩
          go_wp2_with fail
          go_ret
          exact ⟨ret_bool E.out.symm, 0, rfl⟩
    · have d1 : ((l[a] : Int) == 92) = true := by rw [q1]; rfl
      have c2 := hI.cells (a + 1) q2
      have s2 := hI.small l[a + 1] (List.getElem_mem _)
      have i4 : (a : Int) + 1 < (l.length : Int) := by omega
      have H2 := hide (fun w => refInN_any l[a + 1] ⟨#[100, 119, 115]⟩ w (by decide))
      rw [show nums ⟨#[100, 119, 115]⟩ = dwsN from rfl, q3] at H2
      clear q3
      rcases q4 with ⟨rfl, rfl⟩ | ⟨q5, y, ⟨q6, q7⟩, rfl⟩
      · have dn : ((n : Int) == (n : Int)) = true := by simp
        have E := hide ((span_one x c).trans (nat_beq c x).symm)
        clear hI q1
        generalize l[a] = xa at *
        generalize l[a + 1] = xb at *
        generalize (c : Int) = ci at *
        generalize (x : Int) = xi at *
        go_enter Tryd.func59, Tryd.ntmps59
        go_wp2_with fail
        refine (HB.out).mono ?_
        rintro e uu ⟨rfl, rfl⟩
        go_wp2_with fail
        refine (H2.out _).mono ?_
        rintro e uu ⟨rfl, rfl⟩
        go_wp2_with fail
        go_ret
        exact ⟨ret_bool E.out.symm, 0, rfl⟩
      · have dn : ((n : Int) == (e : Int)) = false := by rw [beq_eq_false_iff_ne]; omega
        have ce := hI.cells (e - 1) q6
        have se := hI.small l[e - 1] (List.getElem_mem _)
        rw [q7] at ce se
        have i5 : 1 ≤ (e : Int) := by omega
        have i6 : (e : Int) ≤ (l.length : Int) := by omega
        by_cases g1 : x ≤ c
        · have g1i : (x : Int) ≤ (c : Int) := by omega
          have g1j : decide ((x : Int) ≤ (c : Int)) = true := decide_eq_true g1i
          have E : Hid (fitItem (.span x y) c = decide ((c : Int) ≤ (y : Int))) := by
            show (decide (x ≤ c) && decide (c ≤ y)) = _
            rw [decide_eq_true g1, Bool.true_and, Bool.eq_iff_iff, decide_eq_true_eq, decide_eq_true_eq]; omega
          generalize fitItem (.span x y) c = R at *
          clear hI q1 q7 g1
          generalize l[a] = xa at *
          generalize l[a + 1] = xb at *
          generalize (c : Int) = ci at *
          generalize (x : Int) = xi at *
          generalize (y : Int) = yi at *
          go_enter Tryd.func59, Tryd.ntmps59
          go_wp2_with fail
          refine (HB.out).mono ?_
          rintro e uu ⟨rfl, rfl⟩
          go_wp2_with fail
          refine (H2.out _).mono ?_
          rintro e uu ⟨rfl, rfl⟩
          go_wp2_with fail
          go_ret
          exact ⟨ret_bool E.out.symm, 0, rfl⟩
        · have g1i : ¬ (x : Int) ≤ (c : Int) := by omega
          have g1j : decide ((x : Int) ≤ (c : Int)) = false := decide_eq_false g1i
          have E : Hid (fitItem (.span x y) c = false) := by
            show (decide (x ≤ c) && decide (c ≤ y)) = _
            rw [decide_eq_false g1]; rfl
          generalize fitItem (.span x y) c = R at *
          clear hI q1 q7 g1
          generalize l[a] = xa at *
          generalize l[a + 1] = xb at *
          generalize (c : Int) = ci at *
          generalize (x : Int) = xi at *
          generalize (y : Int) = yi at *
          go_enter Tryd.func59, Tryd.ntmps59
          go_wp2_with fail
          refine (HB.out).mono ?_
          rintro e uu ⟨rfl, rfl⟩
          go_wp2_with fail
          refine (H2.out _).mono ?_
          rintro e uu ⟨rfl, rfl⟩
          go_wp2_with fail
          go_ret
          exact ⟨ret_bool E.out.symm, 0, rfl⟩

end Go.Proofs.YtncljgpcloanfaaDoor
