/- The walks of stage 9's laws of groups and of plain texts: each returns true, and what lay in the world lies there still. Condition: the tables that the program's road names. -/
import Derived.Test.YtncljgpcloanfaaDoorQatLaws1
namespace Go.Proofs.YtncljgpcloanfaaDoor
open Go.RowKit

/-- What the statement says of a pattern, its group, and its group that may be left out. -/
theorem groups_fit {p s : List UInt8} (h : p.length ≤ 190) :
    ((fitsV p s).2 = 0 ∧ (fitsV (40 :: (p ++ [41])) s).2 = 0 ∧ (fitsV (40 :: (p ++ [41])) s).1 = (fitsV p s).1 ∧ fitsV (40 :: (p ++ [41, 63])) s = ((fitsV p s).1 || s.isEmpty, 0)) ∨
    ((fitsV p s).2 = 0 ∧ fitsV (40 :: (p ++ [41])) s = (false, 1)) ∨ (fitsV p s).2 = 1 ∨ (fitsV p s).2 = 2 := by
  rcases fits_cases p s with ⟨a1, a2, a3⟩ | ⟨a3, _⟩ | ⟨a3, _⟩
  · cases hg : rightL (40 :: (p ++ [41])) with
    | false =>
      refine .inr (.inl ⟨by rw [a3], ?_⟩)
      unfold fitsV
      rw [hg]; rfl
    | true =>
      obtain ⟨r1, r2⟩ := groups_right a1 hg h
      have e2 : fitsV (40 :: (p ++ [41])) s = (fitB (patD (40 :: (p ++ [41]))) (signsL s), 0) := by
        unfold fitsV
        rw [hg, if_pos rfl, if_neg a2]
      refine .inl ⟨by rw [a3], by rw [e2], by rw [e2, a3]; exact (r2 _).1, ?_⟩
      rw [a3]
      unfold fitsV
      rw [r1, if_pos rfl, if_neg a2, (r2 _).2, signs_none]
  · exact .inr (.inr (.inl (by rw [a3])))
  · exact .inr (.inr (.inr (by rw [a3])))
set_option maxHeartbeats 4000000 in
set_option maxRecDepth 100000 in
theorem patternGroups_walk (p s : ByteArray) (hp : p.size ≤ maxLen) (hs : s.size ≤ maxLen) (w : World) (hT : PatTabs w) :
    Calls Tryd.prog 6 #[.string p, .string s] w fun e w' => e = .returned (.bool true) ∧ Below w.heap.size w w' := by
  have HW := hide (pwakes_any w hT)
  by_cases h : 120 < s.size ∧ s.size ≤ 4000
  · have HL := hide (fun w' => longP_yes s w' h.1 h.2)
    clear hT hp hs h
    go_enter Tryd.func6, Tryd.ntmps6
    go_wp2_with fail
    refine (HW.out).mono ?_
    rintro e u1 ⟨rfl, b1⟩
    go_wp2_with fail
    refine (HL.out _).mono ?_
    rintro e u2 ⟨rfl, rfl⟩
    go_wp2_with fail
    go_ret
    exact ⟨rfl, b1⟩
  have HL := hide (fun w' => longP_no s w' h)
  by_cases g : 190 < p.size
  · have i1 : (190 : Int) < (p.size : Int) := by omega
    clear hT hp hs h g
    go_enter Tryd.func6, Tryd.ntmps6
    go_wp2_with fail
    refine (HW.out).mono ?_
    rintro e u1 ⟨rfl, b1⟩
    go_wp2_with fail
    refine (HL.out _).mono ?_
    rintro e u2 ⟨rfl, rfl⟩
    go_wp2_with fail
    go_ret
    exact ⟨rfl, b1⟩
  have i1 : ¬ (190 : Int) < (p.size : Int) := by omega
  have z1 : p.data.toList.length = p.size := by simp
  have H1 := hide (fun w' (b : Below w.heap.size w w') => patFits_any p s w' hp hs (hT.below b))
  have y1 : ((⟨#[40]⟩ : ByteArray) ++ p).size = p.size + 1 := by rw [ByteArray.size_append]; show 1 + p.size = _; omega
  have y2 : ((⟨#[40]⟩ : ByteArray) ++ p ++ ⟨#[41]⟩).size ≤ 400 := by rw [ByteArray.size_append, y1]; show p.size + 1 + 1 ≤ 400; omega
  have y3 : ((⟨#[40]⟩ : ByteArray) ++ p ++ ⟨#[41, 63]⟩).size ≤ 400 := by rw [ByteArray.size_append, y1]; show p.size + 1 + 2 ≤ 400; omega
  have H2 := hide (fun w' (b : Below w.heap.size w w') => patFits_any ((⟨#[40]⟩ : ByteArray) ++ p ++ ⟨#[41]⟩) s w' (by unfold maxLen; omega) hs (hT.below b))
  have H3 := hide (fun w' (b : Below w.heap.size w w') => patFits_any ((⟨#[40]⟩ : ByteArray) ++ p ++ ⟨#[41, 63]⟩) s w' (by unfold maxLen; omega) hs (hT.below b))
  have EG := groups_fit (p := p.data.toList) (s := s.data.toList) (by omega)
  unfold fitV at H1 H2 H3
  rw [app_grp] at H2
  rw [app_may] at H3
  have q1 := fun w => run_string_add_sum (P := Tryd.prog) w ⟨#[40]⟩ p (by show 1 + p.size ≤ 9223372036854775807; omega)
  have q2 := fun w => run_string_add_sum (P := Tryd.prog) w ((⟨#[40]⟩ : ByteArray) ++ p) ⟨#[41]⟩ (by rw [y1]; show p.size + 1 + 1 ≤ 9223372036854775807; omega)
  have q3 := fun w => run_string_add_sum (P := Tryd.prog) w ((⟨#[40]⟩ : ByteArray) ++ p) ⟨#[41, 63]⟩ (by rw [y1]; show p.size + 1 + 2 ≤ 9223372036854775807; omega)
  clear hT hp hs h g z1 y1 y2 y3
  generalize (⟨#[40]⟩ : ByteArray) ++ p ++ ⟨#[41]⟩ = x2 at *
  generalize (⟨#[40]⟩ : ByteArray) ++ p ++ ⟨#[41, 63]⟩ = x3 at *
  generalize (⟨#[40]⟩ : ByteArray) ++ p = x1 at *
  generalize fitsV (40 :: (p.data.toList ++ [41])) s.data.toList = F2 at *
  generalize fitsV (40 :: (p.data.toList ++ [41, 63])) s.data.toList = F3 at *
  generalize fitsV p.data.toList s.data.toList = F1 at *
  obtain ⟨a, e1⟩ := F1
  obtain ⟨b, e2⟩ := F2
  obtain ⟨c, e3⟩ := F3
  dsimp only at H1 H2 H3 EG
  rcases EG with ⟨rfl, rfl, rfl, k3⟩ | ⟨rfl, k3⟩ | rfl | rfl
  · obtain ⟨rfl, rfl⟩ := Prod.mk.inj k3
    clear k3
    cases b with
    | true =>
      rw [Bool.true_or] at H3
      go_enter Tryd.func6, Tryd.ntmps6
      go_wp2_with fail
      refine (HW.out).mono ?_
      rintro e u1 ⟨rfl, b1⟩
      go_wp2_with fail
      refine (HL.out _).mono ?_
      rintro e u2 ⟨rfl, rfl⟩
      go_wp2_with fail
      refine (H1.out _ b1).mono ?_
      rintro e u3 ⟨rfl, c3⟩
      have b3 := chain b1 c3
      clear c3
      go_wp2_with fail
      refine (H2.out _ b3).mono ?_
      rintro e u4 ⟨rfl, c4⟩
      have b4 := chain b3 c4
      clear c4
      go_wp2_with fail
      refine (H3.out _ b4).mono ?_
      rintro e u5 ⟨rfl, c5⟩
      have b5 := chain b4 c5
      clear c5
      go_wp2_with fail
      go_ret
      exact ⟨rfl, b5⟩
    | false =>
      rw [Bool.false_or] at H3
      by_cases hz : s.data.toList = []
      · have z0 : s.toList = [] := by rw [ByteArray.toList_eq]; exact hz
        rw [hz] at H3
        rw [show ([] : List UInt8).isEmpty = true from rfl] at H3
        clear hz
        go_enter Tryd.func6, Tryd.ntmps6
        go_wp2_with fail
        refine (HW.out).mono ?_
        rintro e u1 ⟨rfl, b1⟩
        go_wp2_with fail
        refine (HL.out _).mono ?_
        rintro e u2 ⟨rfl, rfl⟩
        go_wp2_with fail
        refine (H1.out _ b1).mono ?_
        rintro e u3 ⟨rfl, c3⟩
        have b3 := chain b1 c3
        clear c3
        go_wp2_with fail
        refine (H2.out _ b3).mono ?_
        rintro e u4 ⟨rfl, c4⟩
        have b4 := chain b3 c4
        clear c4
        go_wp2_with fail
        refine (H3.out _ b4).mono ?_
        rintro e u5 ⟨rfl, c5⟩
        have b5 := chain b4 c5
        clear c5
        go_wp2_with fail
        go_ret
        exact ⟨rfl, b5⟩
      · have z0 : ¬ s.toList = [] := by rw [ByteArray.toList_eq]; exact hz
        have z1 : s.toList.isEmpty = false := by
          cases hx : s.toList with
          | nil => exact absurd hx z0
          | cons => rfl
        rw [show s.data.toList.isEmpty = false by rw [← ByteArray.toList_eq]; exact z1] at H3
        clear hz
        go_enter Tryd.func6, Tryd.ntmps6
        go_wp2_with fail
        refine (HW.out).mono ?_
        rintro e u1 ⟨rfl, b1⟩
        go_wp2_with fail
        refine (HL.out _).mono ?_
        rintro e u2 ⟨rfl, rfl⟩
        go_wp2_with fail
        refine (H1.out _ b1).mono ?_
        rintro e u3 ⟨rfl, c3⟩
        have b3 := chain b1 c3
        clear c3
        go_wp2_with fail
        refine (H2.out _ b3).mono ?_
        rintro e u4 ⟨rfl, c4⟩
        have b4 := chain b3 c4
        clear c4
        go_wp2_with fail
        refine (H3.out _ b4).mono ?_
        rintro e u5 ⟨rfl, c5⟩
        have b5 := chain b4 c5
        clear c5
        go_wp2_with fail
        go_ret
        exact ⟨rfl, b5⟩
  · obtain ⟨rfl, rfl⟩ := Prod.mk.inj k3
    clear k3
    go_enter Tryd.func6, Tryd.ntmps6
    go_wp2_with fail
    refine (HW.out).mono ?_
    rintro e u1 ⟨rfl, b1⟩
    go_wp2_with fail
    refine (HL.out _).mono ?_
    rintro e u2 ⟨rfl, rfl⟩
    go_wp2_with fail
    refine (H1.out _ b1).mono ?_
    rintro e u3 ⟨rfl, c3⟩
    have b3 := chain b1 c3
    clear c3
    go_wp2_with fail
    refine (H2.out _ b3).mono ?_
    rintro e u4 ⟨rfl, c4⟩
    have b4 := chain b3 c4
    clear c4
    go_wp2_with fail
    refine (H3.out _ b4).mono ?_
    rintro e u5 ⟨rfl, c5⟩
    have b5 := chain b4 c5
    clear c5
    go_wp2_with fail
    go_ret
    exact ⟨rfl, b5⟩
  · have _i := i1
    go_enter Tryd.func6, Tryd.ntmps6
    go_wp2_with fail
    refine (HW.out).mono ?_
    rintro e u1 ⟨rfl, b1⟩
    go_wp2_with fail
    refine (HL.out _).mono ?_
    rintro e u2 ⟨rfl, rfl⟩
    go_wp2_with fail
    refine (H1.out _ b1).mono ?_
    rintro e u3 ⟨rfl, c3⟩
    have b3 := chain b1 c3
    clear c3
    go_wp2_with fail
    refine (H2.out _ b3).mono ?_
    rintro e u4 ⟨rfl, c4⟩
    have b4 := chain b3 c4
    clear c4
    go_wp2_with fail
    refine (H3.out _ b4).mono ?_
    rintro e u5 ⟨rfl, c5⟩
    have b5 := chain b4 c5
    clear c5
    go_wp2_with fail
    go_ret
    exact ⟨rfl, b5⟩
  · have _i := i1
    go_enter Tryd.func6, Tryd.ntmps6
    go_wp2_with fail
    refine (HW.out).mono ?_
    rintro e u1 ⟨rfl, b1⟩
    go_wp2_with fail
    refine (HL.out _).mono ?_
    rintro e u2 ⟨rfl, rfl⟩
    go_wp2_with fail
    refine (H1.out _ b1).mono ?_
    rintro e u3 ⟨rfl, c3⟩
    have b3 := chain b1 c3
    clear c3
    go_wp2_with fail
    refine (H2.out _ b3).mono ?_
    rintro e u4 ⟨rfl, c4⟩
    have b4 := chain b3 c4
    clear c4
    go_wp2_with fail
    refine (H3.out _ b4).mono ?_
    rintro e u5 ⟨rfl, c5⟩
    have b5 := chain b4 c5
    clear c5
    go_wp2_with fail
    go_ret
    exact ⟨rfl, b5⟩

theorem plain_fit {p s : List UInt8} (hl : p.length ≤ 200) (h : ∀ c ∈ p, plainN c.toNat = true) : (4000 < s.length → fitsV p s = (false, 2)) ∧ (¬ 4000 < s.length → fitsV p s = (decide (p = s), 0)) := by
  obtain ⟨r1, r2⟩ := plain_right hl h
  unfold fitsV
  rw [r1, if_pos rfl]
  exact ⟨fun g => by rw [if_pos g], fun g => by rw [if_neg g, r2]⟩
theorem plain_mem {p : ByteArray} (h : ∀ j (_ : j < p.size), plainN p[j].toNat = true) : ∀ c ∈ p.data.toList, plainN c.toNat = true := by
  intro c hc
  obtain ⟨j, hj, rfl⟩ := List.getElem_of_mem hc
  have hj2 : j < p.size := by simpa using hj
  have := h j hj2
  rw [show p[j] = p.data.toList[j] by simp; rfl] at this
  exact this
theorem plain_next {p : ByteArray} {k : Nat} (hd : Hid (∀ j (_ : j < p.size), j < k → plainN p[j].toNat = true)) (hk : k < p.size) (h : plainN p[k].toNat = true) : Hid (∀ j (_ : j < p.size), j < k + 1 → plainN p[j].toNat = true) := by
  intro j hj hjk
  rcases Nat.lt_or_ge j k with q | q
  · exact hd.out j hj q
  · obtain rfl : j = k := by omega
    exact h
set_option maxHeartbeats 4000000 in
set_option maxRecDepth 100000 in
theorem patternPlain_walk (p s : ByteArray) (hp : p.size ≤ maxLen) (hs : s.size ≤ maxLen) (w : World) (hT : PatTabs w) :
    Calls Tryd.prog 8 #[.string p, .string s] w fun e w' => e = .returned (.bool true) ∧ Below w.heap.size w w' := by
  have HW := hide (pwakes_any w hT)
  by_cases h : 120 < s.size ∧ s.size ≤ 4000
  · have HL := hide (fun w' => longP_yes s w' h.1 h.2)
    clear hT hp hs h
    go_enter Tryd.func8, Tryd.ntmps8
    go_wp2_with fail
    refine (HW.out).mono ?_
    rintro e u1 ⟨rfl, b1⟩
    go_wp2_with fail
    refine (HL.out _).mono ?_
    rintro e u2 ⟨rfl, rfl⟩
    go_wp2_with fail
    go_ret
    exact ⟨rfl, b1⟩
  have HL := hide (fun w' => longP_no s w' h)
  by_cases g : 200 < p.size
  · have i1 : (200 : Int) < (p.size : Int) := by omega
    clear hT hp hs h g
    go_enter Tryd.func8, Tryd.ntmps8
    go_wp2_with fail
    refine (HW.out).mono ?_
    rintro e u1 ⟨rfl, b1⟩
    go_wp2_with fail
    refine (HL.out _).mono ?_
    rintro e u2 ⟨rfl, rfl⟩
    go_wp2_with fail
    go_ret
    exact ⟨rfl, b1⟩
  have i1 : ¬ (200 : Int) < (p.size : Int) := by omega
  have z1 : p.data.toList.length = p.size := by simp
  have z2 : s.data.toList.length = s.size := by simp
  have H1 := hide (fun w' (b : Below w.heap.size w w') => patFits_any p s w' hp hs (hT.below b))
  unfold fitV at H1
  have PF := hide (fun hm => plain_fit (p := p.data.toList) (s := s.data.toList) (by omega) hm)
  have hp2 : p.size ≤ 200 := by omega
  rw [z2] at PF
  clear hT hp hs h g z1 z2
  go_enter Tryd.func8, Tryd.ntmps8
  go_wp2_with fail
  refine (HW.out).mono ?_
  rintro e u1 ⟨rfl, b1⟩
  go_wp2_with fail
  refine (HL.out _).mono ?_
  rintro e u2 ⟨rfl, rfl⟩
  go_wp2_with fail
  go_loop [19] (fun i => ∃ k : Nat, k ≤ p.size ∧ i = .int .i64 k ∧ Hid (∀ j (_ : j < p.size), j < k → plainN p[j].toNat = true)) (fun i => p.size - (intOf i).toNat)
  case atStart => exact ⟨0, Nat.zero_le _, rfl, fun j _ h => by omega⟩
  case round =>
    obtain ⟨k, hk, rfl, hd⟩ := hrel
    by_cases hlt : k < p.size
    · have hI : (k : Int) < (p.size : Int) := by omega
      have NX := plain_next hd hlt
      have pn := plainN_iff p[k].toNat
      have h255 : (p[k].toNat : Int) ≤ 255 := by have := p[k].toNat_lt; omega
      clear hd PF
      rcases (show p[k].toNat < 48 ∨ (48 ≤ p[k].toNat ∧ p[k].toNat ≤ 57) ∨ (57 < p[k].toNat ∧ p[k].toNat < 65) ∨ (65 ≤ p[k].toNat ∧ p[k].toNat ≤ 90) ∨ (90 < p[k].toNat ∧ p[k].toNat < 97) ∨ (97 ≤ p[k].toNat ∧ p[k].toNat ≤ 122) ∨ 122 < p[k].toNat by omega) with r | r | r | r | r | r | r
      · clear NX pn
        go_wp2
        go_ret
        exact ⟨rfl, b1⟩
      · have E := NX (pn.2 (by omega))
        clear NX pn
        go_wp2
        go_round
        case rel => exact ⟨k + 1, by omega, by go_num, E⟩
        case measure => simp [intOf]; omega
      · clear NX pn
        go_wp2
        go_ret
        exact ⟨rfl, b1⟩
      · have E := NX (pn.2 (by omega))
        clear NX pn
        go_wp2
        go_round
        case rel => exact ⟨k + 1, by omega, by go_num, E⟩
        case measure => simp [intOf]; omega
      · clear NX pn
        go_wp2
        go_ret
        exact ⟨rfl, b1⟩
      · have E := NX (pn.2 (by omega))
        clear NX pn
        go_wp2
        go_round
        case rel => exact ⟨k + 1, by omega, by go_num, E⟩
        case measure => simp [intOf]; omega
      · clear NX pn
        go_wp2
        go_ret
        exact ⟨rfl, b1⟩
    · obtain rfl : k = p.size := by omega
      have PM := PF.out (plain_mem (fun j hj => hd.out j hj hj))
      clear hd PF
      by_cases g4 : 4000 < s.size
      · have j4 : (4000 : Int) < (s.size : Int) := by omega
        rw [PM.1 g4] at H1
        clear PM g4
        go_wp2_with fail
        refine (H1.out _ b1).mono ?_
        rintro e u9 ⟨rfl, c9⟩
        go_wp2_with fail
        go_ret
        exact ⟨rfl, chain b1 c9⟩
      · have j4 : ¬ (4000 : Int) < (s.size : Int) := by omega
        rw [PM.2 g4] at H1
        clear PM g4
        by_cases hps : p.data.toList = s.data.toList
        · have d : (p.toList == s.toList) = true := by rw [ByteArray.toList_eq, ByteArray.toList_eq, hps]; simp
          rw [decide_eq_true hps] at H1
          clear hps
          go_wp2_with fail
          refine (H1.out _ b1).mono ?_
          rintro e u9 ⟨rfl, c9⟩
          go_wp2_with fail
          go_ret
          exact ⟨by first | rfl | (rw [d]; rfl) | (simp [d]; done), chain b1 c9⟩
        · have d : (p.toList == s.toList) = false := by rw [ByteArray.toList_eq, ByteArray.toList_eq, beq_eq_false_iff_ne]; exact hps
          rw [decide_eq_false hps] at H1
          clear hps
          go_wp2_with fail
          refine (H1.out _ b1).mono ?_
          rintro e u9 ⟨rfl, c9⟩
          go_wp2_with fail
          go_ret
          exact ⟨by first | rfl | (rw [d]; rfl) | (simp [d]; done), chain b1 c9⟩

end Go.Proofs.YtncljgpcloanfaaDoor
