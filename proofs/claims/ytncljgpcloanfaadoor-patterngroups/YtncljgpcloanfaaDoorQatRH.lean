/- The document's all of layer 9: where a pattern ends, over all places where it may begin; what lay in the world lies there still. Condition: the rows from the place on are walked already (RowAt). -/
import Derived.Test.YtncljgpcloanfaaDoorQatRG
namespace Go.Proofs.YtncljgpcloanfaaDoor
open Go.RowKit

theorem rows_open {k a : Nat} {l r : List Nat} {x : Pat} (ha : a ≤ l.length) (h : rowsD k (l.drop a) = some (x, r)) : ∃ r0 e, a ≤ e ∧ e ≤ l.length ∧ rowD k (l.drop a) = some (r0, l.drop e) ∧
    ((∃ (h : e < l.length) (rs : Pat), l[e] = 124 ∧ rowsD k (l.drop (e + 1)) = some (rs, r) ∧ x = .alt r0 rs) ∨ ((∀ h : e < l.length, ¬ l[e] = 124) ∧ x = r0)) := by
  cases hr : rowD k (l.drop a) with
  | none => rw [rows_none k hr] at h; cases h
  | some z =>
    obtain ⟨r0, rest⟩ := z
    obtain ⟨e, e1, e2, rfl⟩ := suf_drop ha ((level_suf k).2.1 _ _ _ hr)
    refine ⟨r0, e, e1, e2, rfl, ?_⟩
    by_cases g : ∃ h : e < l.length, l[e] = 124
    · obtain ⟨h1, h2⟩ := g
      have hr2 := hr
      rw [dropN h1, h2] at hr2
      rw [rows_bar k hr2] at h
      cases hs : rowsD k (l.drop (e + 1)) with
      | none => rw [hs] at h; cases h
      | some t =>
        obtain ⟨rs, r3⟩ := t
        rw [hs] at h
        have h4 := Prod.mk.inj (Option.some.inj h)
        have h5 : r3 = r := h4.2
        subst h5
        exact .inl ⟨h1, rs, h2, rfl, h4.1.symm⟩
    · have hn : (l.drop e).head? ≠ some 124 := by
        intro q
        by_cases h1 : e < l.length
        · rw [dropN h1] at q
          exact g ⟨h1, Option.some.inj q⟩
        · rw [List.drop_eq_nil_of_le (by omega)] at q; cases q
      rw [rows_one k hr hn] at h
      have h4 := Prod.mk.inj (Option.some.inj h)
      exact .inr ⟨fun h1 h2 => g ⟨h1, h2⟩, h4.1.symm⟩
theorem orB_assoc : ∀ (x y z : List Bool), orB (orB x y) z = orB x (orB y z)
  | [], _, _ => rfl
  | _ :: _, [], _ => rfl
  | _ :: _, _ :: _, [] => rfl
  | a :: x, b :: y, c :: z => by
    show ((a || b) || c) :: orB (orB x y) z = (a || (b || c)) :: orB x (orB y z)
    rw [orB_assoc x y z, Bool.or_assoc]
/-- What is still to be joined: rows behind a bar, or nothing. -/
def Rest (k : Nat) (l ls : List Nat) (fr : List Bool) (e : Nat) (out R : List Bool) : Prop :=
  (∃ (_ : e < l.length) (rs : Pat) (r : List Nat), l[e] = 124 ∧ rowsD k (l.drop (e + 1)) = some (rs, r) ∧ orB out (ends ls rs fr) = R) ∨ ((∀ h : e < l.length, ¬ l[e] = 124) ∧ out = R)
theorem rest_begin {k a : Nat} {l ls r : List Nat} {x : Pat} {fr : List Bool} (ha : a ≤ l.length) (h : rowsD k (l.drop a) = some (x, r)) : ∃ r0 e, a ≤ e ∧ e ≤ l.length ∧ rowD k (l.drop a) = some (r0, l.drop e) ∧ Rest k l ls fr e (ends ls r0 fr) (ends ls x fr) := by
  obtain ⟨r0, e, e1, e2, hr, q⟩ := rows_open ha h
  refine ⟨r0, e, e1, e2, hr, ?_⟩
  rcases q with ⟨h1, rs, h2, h3, rfl⟩ | ⟨h1, rfl⟩
  · exact .inl ⟨h1, rs, r, h2, h3, rfl⟩
  · exact .inr ⟨h1, rfl⟩
theorem rest_next {k e : Nat} {l ls : List Nat} {fr out R : List Bool} (h1 : e < l.length) (h2 : l[e] = 124) (h : Rest k l ls fr e out R) : ∃ r0 e2, e + 1 ≤ e2 ∧ e2 ≤ l.length ∧ rowD k (l.drop (e + 1)) = some (r0, l.drop e2) ∧ Rest k l ls fr e2 (orB out (ends ls r0 fr)) R := by
  rcases h with ⟨_, rs, r, _, h3, h4⟩ | ⟨h3, _⟩
  · obtain ⟨r0, e2, q1, q2, hr, q⟩ := rows_open (show e + 1 ≤ l.length by omega) h3
    refine ⟨r0, e2, q1, q2, hr, ?_⟩
    rcases q with ⟨g1, rs2, g2, g3, rfl⟩ | ⟨g1, rfl⟩
    · refine .inl ⟨g1, rs2, r, g2, g3, ?_⟩
      rw [orB_assoc]; exact h4
    · exact .inr ⟨g1, h4⟩
  · exact absurd h2 (h3 h1)
theorem rest_end {k e : Nat} {l ls : List Nat} {fr out R : List Bool} (h : Rest k l ls fr e out R) (hn : ∀ h : e < l.length, ¬ l[e] = 124) : out = R := by
  rcases h with ⟨h1, _, _, h2, _⟩ | ⟨_, h⟩
  · exact absurd h2 (hn h1)
  · exact h

set_option maxHeartbeats 8000000 in
set_option maxRecDepth 100000 in
theorem all_of (g cap : Nat) (l : List Nat) (sv : Value) (ls : List Nat) (a : Nat) (hR : ∀ b, a ≤ b → b ≤ l.length → RowAt g cap l sv ls b) : AllAt g cap l sv ls a := by
  intro k x r fr gf cf w hk hx ha hH
  have hlen := hH.p.len
  have hle := hH.le
  obtain ⟨r0, e0, e1, e2, hr0, hq⟩ := rest_begin (ls := ls) (fr := fr) ha hx
  have HR := hide (fun b y r' w' (h1 : a ≤ b) (h2 : b ≤ l.length) hy (bb : Below w.heap.size w w') => hR b h1 h2 k y r' fr gf cf w' hk hy h2 (hH.below bb))
  have HW := hide (fun b w' (h2 : b ≤ l.length) (bb : Below w.heap.size w w') => (level_any g cap l 8 0 rfl).2.1 b w' (hH.p.below bb) h2)
  have HJ := hide (fun ga ca gb cb (x y : List Bool) w' hA hB hl hx => refJoin_any ga ca gb cb x y w' hA hB hl hx)
  have HH := hide hH
  have HK := hide hk
  have hfl := hide hH.n
  have LEN := hide (fun y => ends_len (ls := ls) (x := y) hH.n)
  have HQ := hide hq
  have H0 := hide (HR.out a r0 _ w (Nat.le_refl _) ha hr0 (Below.refl _ _))
  have W0 := hide (fun w' (bb : Below w.heap.size w w') => HW.out a w' ha bb)
  rw [row_eight hk hr0, endP_at r0 e2] at W0
  have L0 := hide (LEN.out r0)
  generalize ends ls x fr = R at *
  clear hR hx hH hk hr0 hq
  unfold rowV at HR HW H0 W0 ⊢
  unfold Tells at HR H0 ⊢
  unfold bolV at HR H0 HJ ⊢
  generalize hz0 : ends ls r0 fr = z0 at *
  clear hz0
  go_enter Tryd.func21, Tryd.ntmps21
  go_wp2_with fail
  refine H0.out.mono ?_
  rintro e w1 ⟨g1, c1, rfl, hB1, b1⟩
  go_wp2_with fail
  refine (W0.out _ b1).mono ?_
  rintro e w2 ⟨rfl, b2⟩
  have B2 := hide (hB1.below b2)
  have b3 := chain b1 b2
  clear H0 W0 hB1 b1 b2
  go_wp2_with fail
  go_loopw [9, 10] (fun ov ev wr => ∃ (e : Nat) (out : List Bool) (go co : Nat), a ≤ e ∧ e ≤ l.length ∧ ev = .int .i64 e ∧ ov = .slice (some ⟨go, 0, none⟩) out.length co ∧ Hid (Rest k l ls fr e out R) ∧ Hid (Bools wr go out) ∧ Hid (out.length = ls.length + 1) ∧ Below w.heap.size w wr) (fun _ ev _ => l.length + 1 - (intOf ev).toNat)
  case atStart => exact ⟨e0, z0, g1, c1, e1, e2, rfl, rfl, HQ.out, B2.out, L0.out, b3⟩
  case round =>
    obtain ⟨e, out, go, co, he1, he2, rfl, rfl, hq, hB, hl, hb⟩ := hrel
    rename World => wr
    clear HQ L0 B2
    by_cases h : e < l.length
    · have i1 : (e : Int) < (l.length : Int) := by omega
      have ca := (HH.out.p.below hb).cells e h
      have sa := HH.out.p.small l[e] (List.getElem_mem _)
      by_cases e124 : l[e] = 124
      · have d124 : ((l[e] : Int) == 124) = true := by rw [e124]; rfl
        obtain ⟨r1, e3, q1, q2, hr1, hq1⟩ := rest_next h e124 hq.out
        have HQ1 := hide hq1
        have H1 := hide (HR.out (e + 1) r1 _ wr (by omega) (by omega) hr1 hb)
        have W1 := hide (fun w' (bb : Below w.heap.size w w') => HW.out (e + 1) w' (by omega) bb)
        rw [row_eight HK.out hr1, endP_at r1 q2] at W1
        have L1 := hide (LEN.out r1)
        have L2 : Hid ((orB out (ends ls r1 fr)).length = ls.length + 1) := by
          show _ = _
          rw [orB_len (by rw [hl.out, L1.out])]; exact hl.out
        rw [show ((e + 1 : Nat) : Int) = (e : Int) + 1 by omega] at H1 W1
        have HB := hide (fun wq (bb : Below wr.heap.size wr wq) => hB.out.below bb)
        have LL : Hid (out.length = (ends ls r1 fr).length ∧ out.length ≤ 65536) := by
          refine ⟨?_, ?_⟩
          · rw [hl.out, L1.out]
          · rw [hl.out]; omega
        clear hq hq1 hr1 HR HW e124 LEN hl hB
        generalize ends ls r1 fr = z1 at *
        generalize l[e] = xe at *
        go_wp2_with fail
        refine H1.out.mono ?_
        rintro e' w3 ⟨g3, c3, rfl, hB3, b4⟩
        go_wp2_with fail
        refine (HJ.out go co g3 c3 out z1 w3 (HB.out _ b4) hB3 LL.out.1 LL.out.2).mono ?_
        rintro e' w4 ⟨g4, rfl, _, hB4, b5⟩
        have b6 := chain hb (chain b4 b5)
        go_wp2_with fail
        refine (W1.out _ b6).mono ?_
        rintro e' w5 ⟨rfl, b7⟩
        have B5 := hide (hB4.below b7)
        have b8 := chain b6 b7
        clear b4 b5 b6 b7 hB3 hB4 H1 W1 HB
        go_wp2_with fail
        go_roundw
        case rel => exact ⟨e3, orB out z1, g4, (orB out z1).length, by omega, q2, rfl, rfl, HQ1.out, B5.out, L2.out, b8⟩
        case measure => simp [intOf]; omega
      · have d124 : ((l[e] : Int) == 124) = false := by rw [beq_eq_false_iff_ne]; omega
        have E := hide (rest_end hq.out (fun _ => e124))
        clear hq HR HW HJ e124 HH LEN
        generalize l[e] = xe at *
        go_wp2_with fail
        go_ret
        exact ⟨go, co, by rw [← E.out]; rfl, by rw [← E.out]; exact hB.out, hb⟩
    · have i1 : ¬ (e : Int) < (l.length : Int) := by omega
      have E := hide (rest_end hq.out (fun h2 => absurd h2 h))
      clear hq HR HW HJ HH LEN h
      go_wp2_with fail
      go_ret
      first | exact ⟨go, co, by rw [← E.out]; rfl, by rw [← E.out]; exact hB.out, hb⟩ | exact ⟨go, ⟨co, by rw [← E.out]; rfl⟩, by rw [← E.out]; exact hB.out, hb⟩

end Go.Proofs.YtncljgpcloanfaaDoor
