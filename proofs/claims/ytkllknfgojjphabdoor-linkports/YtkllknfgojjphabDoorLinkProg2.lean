/- The program's isNumbers, countGroups, isGroups, isName, Host, isHostWithPort, isSite of layer 8: they answer by the functions of 'Link'; what lay in the world lies there still. Conditions: texts of at most 100000 bytes; the library's tables hold what the program's text lays. -/
import Derived.Test.YtkllknfgojjphabDoorLinkProg1
import Derived.Test.YtkllknfgojjphabDoorSplitRef
namespace Go.Proofs.YtkllknfgojjphabDoor
open Go.RowKit

theorem all_bad {α : Type} {f : α → Bool} {ts : List α} {j : Nat} (hj : j < ts.length) (h : f ts[j] = false) : ts.all f = false := by
  rw [List.all_eq_false]
  exact ⟨ts[j], List.getElem_mem _, by rw [h]; simp⟩
theorem all_good {α : Type} {f : α → Bool} {ts : List α} (h : ∀ m (_ : m < ts.length), f ts[m] = true) : ts.all f = true := by
  rw [List.all_eq_true]
  intro t ht
  obtain ⟨m, hm, rfl⟩ := List.getElem_of_mem ht
  exact h m hm
theorem next_good {α : Type} {f : α → Bool} {ts : List α} {j : Nat} (hd : Hid (∀ m (_ : m < j) (_ : m < ts.length), f ts[m] = true)) (hjl : j < ts.length) (h : f ts[j] = true) : Hid (∀ m (_ : m < j + 1) (_ : m < ts.length), f ts[m] = true) := by
  intro m hm h2
  rcases Nat.lt_or_ge m j with q | q
  · exact hd.out m q h2
  · obtain rfl : m = j := by omega
    exact h
theorem size_txt (l : List UInt8) : (txt l).size = l.length := rfl

set_option maxHeartbeats 2000000 in
theorem isNumbers_any (ts : List (List UInt8)) (g cap : Nat) (w : World) (hr : TextsAt w g ts) (hl : ts.length ≤ 200000) (hm : ∀ p ∈ ts, p.length ≤ 100000) :
    Calls Tryd.prog 23 #[.slice (some ⟨g, 0, none⟩) ts.length cap] w fun e w' => e = .returned (.bool (ts.all numOk && decide (ts.length = 4))) ∧ Below w.heap.size w w' := by
  have HIT := hide (fun j hj h => all_bad (f := numOk) (ts := ts) (j := j) hj h)
  have END := hide (fun h => all_good (f := numOk) (ts := ts) h)
  go_enter Tryd.func23, Tryd.ntmps23
  go_wp2_with fail
  go_loopw [7] (fun i wr => ∃ j : Nat, j ≤ ts.length ∧ i = .int .i64 j ∧ Hid (∀ m (_ : m < j) (_ : m < ts.length), numOk ts[m] = true) ∧ Below w.heap.size w wr) (fun i _ => ts.length - (intOf i).toNat)
  case atStart => exact ⟨0, Nat.zero_le _, rfl, fun m h => by omega, Below.refl _ _⟩
  case round =>
    obtain ⟨j, hj, rfl, hd, hb⟩ := hrel
    by_cases hjl : j < ts.length
    · have hc := hr.below hb j hjl
      have hz := size_txt ts[j]
      have hmj := hm ts[j] (List.getElem_mem _)
      have j1 : (j : Int) < (ts.length : Int) := by omega
      have HU := hide (fun w => isUpTo_any (txt ts[j]) 255 w (by rw [txt_size]; exact hmj) (by decide))
      rw [txt_data, show (((255 : Nat) : Int)) = 255 from rfl] at HU
      have BAD := HIT.out j hjl
      have NX := next_good hd hjl
      have hU : numOk ts[j] = (decide (ts[j].length ≤ 3) && upL 255 ts[j]) := rfl
      clear HIT END hd hr hm
      by_cases h3 : 3 < ts[j].length
      · have E := hide (BAD (by rw [hU, decide_eq_false (by omega)]; rfl))
        have i1 : (3 : Int) < ((txt ts[j]).size : Int) := by omega
        clear BAD NX hU HU h3 hz hmj
        generalize txt ts[j] = t at *
        go_wp2_with fail
        go_ret
        exact ⟨ret_bool (by rw [E.out]; rfl), hb⟩
      · have i1 : ¬ (3 : Int) < ((txt ts[j]).size : Int) := by omega
        have i2 : ((txt ts[j]).size : Int) ≤ 3 := by omega
        rw [decide_eq_true (by omega), Bool.true_and] at hU
        cases h4 : upL 255 ts[j] with
        | false =>
          have E := hide (BAD (by rw [hU, h4]))
          rw [h4] at HU
          clear BAD NX hU h3 h4 hz hmj
          generalize txt ts[j] = t at *
          go_wp2_with fail
          refine (HU.out _).mono ?_
          rintro e u ⟨rfl, b2⟩
          go_wp2_with fail
          go_ret
          exact ⟨ret_bool (by rw [E.out]; rfl), chain hb b2⟩
        | true =>
          have E := NX (by rw [hU, h4])
          rw [h4] at HU
          clear BAD NX hU h3 h4 hz hmj
          generalize txt ts[j] = t at *
          go_wp2_with fail
          refine (HU.out _).mono ?_
          rintro e u ⟨rfl, b2⟩
          go_wp2_with fail
          go_roundw
          case rel => exact ⟨j + 1, by omega, by go_num, E, chain hb b2⟩
          case measure => simp [intOf]; omega
    · obtain rfl : j = ts.length := by omega
      have E := hide (END.out (fun m hm => hd.out m hm hm))
      clear hd HIT END hr hm
      by_cases h4 : ts.length = 4
      · have D : Hid (decide (ts.length = 4) = true) := decide_eq_true h4
        have i1 : ((ts.length : Int) == 4) = true := by rw [h4]; rfl
        clear h4
        go_wp2_with fail
        go_ret
        exact ⟨ret_bool (by rw [E.out, D.out]; first | rfl | (simp; done)), hb⟩
      · have D : Hid (decide (ts.length = 4) = false) := decide_eq_false h4
        have i1 : ((ts.length : Int) == 4) = false := by rw [beq_eq_false_iff_ne]; omega
        clear h4
        go_wp2_with fail
        go_ret
        exact ⟨ret_bool (by rw [E.out, D.out]; first | rfl | (simp; done)), hb⟩

theorem grp_not {p : List UInt8} (h : p = [] ∨ 4 < p.length) : groupOk p = false := by
  unfold groupOk
  rcases h with rfl | h
  · rfl
  · rw [decide_eq_false (by omega)]; rfl
theorem grpQ_hex {p : List UInt8} (h : ¬ p = []) (h4 : ¬ 4 < p.length) : groupOk p = p.all hexOk := by
  unfold groupOk
  have : 0 < p.length := List.length_pos_iff.2 h
  rw [decide_eq_true (by omega), Bool.true_and]
theorem empty_list {l : List UInt8} (h : ¬ l = []) : ¬ (txt l).toList = [] ∧ (txt l).toList.isEmpty = false := by
  rw [ByteArray.toList_eq, txt_data]
  refine ⟨h, ?_⟩
  cases l with
  | nil => exact absurd rfl h
  | cons => rfl
set_option maxHeartbeats 2000000 in
theorem countGroups_any (l : List UInt8) (w : World) (hs : l.length ≤ 100000) (hT : LinkTabs w) :
    Calls Tryd.prog 25 #[.string (txt l)] w fun e w' => e = .returned (.tuple #[.int .i64 (grpN l), .bool (grpB l)]) ∧ Below w.heap.size w w' := by
  by_cases hz : l = []
  · subst hz
    have E := hide grpQ_nil
    have z0 : (txt ([] : List UInt8)).toList = [] := by rw [ByteArray.toList_eq, txt_data]
    generalize txt ([] : List UInt8) = t at *
    go_enter Tryd.func25, Tryd.ntmps25
    go_wp2_with fail
    go_ret2
    exact ⟨by rw [E.out.1, E.out.2]; rfl, Below.refl _ _⟩
  · have HS := hide (split_any 58 l w (by omega) hT.max)
    have hcnt := split_count 58 l
    have hm := hide (fun p hp => Nat.le_trans (split_mem (c := 58) (l := l) (p := p) hp) hs)
    have YES := hide (fun g => grp_all hz g)
    have NO := hide (fun g => grp_bad hz g)
    have ⟨z0, z1⟩ := empty_list hz
    clear hT hz
    generalize splitL 58 l = ts at *
    have HIT := hide (fun j hj h => all_bad (f := groupOk) (ts := ts) (j := j) hj h)
    have END := hide (fun h => all_good (f := groupOk) (ts := ts) h)
    generalize txt l = t at *
    go_enter Tryd.func25, Tryd.ntmps25
    go_wp2_with fail
    refine HS.out.mono ?_
    rintro e w1 ⟨g, rfl, hg, hr, b1⟩
    clear HS
    go_wp2_with fail
    go_loopw [13] (fun i wr => ∃ j : Nat, j ≤ ts.length ∧ i = .int .i64 j ∧ Hid (∀ m (_ : m < j) (_ : m < ts.length), groupOk ts[m] = true) ∧ Below w1.heap.size w1 wr) (fun i _ => ts.length - (intOf i).toNat)
    case atStart => exact ⟨0, Nat.zero_le _, rfl, fun m h => by omega, Below.refl _ _⟩
    case round =>
      obtain ⟨j, hj, rfl, hd, hb⟩ := hrel
      by_cases hjl : j < ts.length
      · have hc := hr.below hb j hjl
        have hz := size_txt ts[j]
        have hmj := hm.out ts[j] (List.getElem_mem _)
        have j1 : (j : Int) < (ts.length : Int) := by omega
        have HM := hide (fun w => madeOf_new (txt ts[j]) [digT, hexT] 2 _ 9 w rfl rfl (by decide) (by rw [txt_size]; omega))
        rw [txt_data, all_hex] at HM
        have BAD := HIT.out j hjl
        have NX := next_good hd hjl
        have NOT := grp_not (p := ts[j])
        have HEX := grpQ_hex (p := ts[j])
        clear HIT END hd hr hm YES
        by_cases h0 : ts[j] = []
        · have E := hide (NO.out (BAD (NOT (.inl h0))))
          have y0 : (txt ts[j]).toList = [] := by rw [ByteArray.toList_eq, txt_data, h0]
          clear BAD NX NOT HEX HM h0 hz hmj NO
          generalize txt ts[j] = t at *
          go_wp2_with fail
          go_ret2
          exact ⟨by rw [E.out.1, E.out.2]; rfl, chain b1 hb⟩
        · have ⟨y0, y1⟩ := empty_list h0
          by_cases h4 : 4 < ts[j].length
          · have E := hide (NO.out (BAD (NOT (.inr h4))))
            have i1 : (4 : Int) < ((txt ts[j]).size : Int) := by omega
            clear BAD NX NOT HEX HM h0 h4 hz hmj NO
            generalize txt ts[j] = t at *
            go_wp2_with fail
            go_ret2
            exact ⟨by rw [E.out.1, E.out.2]; rfl, chain b1 hb⟩
          · have i1 : ¬ (4 : Int) < ((txt ts[j]).size : Int) := by omega
            have i2 : ((txt ts[j]).size : Int) ≤ 4 := by omega
            have hU := HEX h0 h4
            cases h5 : ts[j].all hexOk with
            | false =>
              have E := hide (NO.out (BAD (by rw [hU, h5])))
              rw [h5] at HM
              clear BAD NX NOT HEX h0 h4 hz hmj NO hU h5
              generalize txt ts[j] = t at *
              go_wp2_with fail
              refine (HM.out _).mono ?_
              rintro e u ⟨rfl, b2⟩
              go_wp2_with fail
              go_ret2
              exact ⟨by rw [E.out.1, E.out.2]; rfl, chain b1 (chain hb b2)⟩
            | true =>
              have E := NX (by rw [hU, h5])
              rw [h5] at HM
              clear BAD NX NOT HEX h0 h4 hz hmj NO hU h5
              generalize txt ts[j] = t at *
              go_wp2_with fail
              refine (HM.out _).mono ?_
              rintro e u ⟨rfl, b2⟩
              go_wp2_with fail
              go_roundw
              case rel => exact ⟨j + 1, by omega, by go_num, E, chain hb b2⟩
              case measure => simp [intOf]; omega
      · obtain rfl : j = ts.length := by omega
        have E := hide (YES.out (END.out (fun m hm => hd.out m hm hm)))
        clear hd HIT END hr hm YES NO
        go_wp2_with fail
        go_ret2
        exact ⟨by rw [E.out.1, E.out.2]; rfl, chain b1 hb⟩

set_option maxHeartbeats 2000000 in
theorem isGroups_any (l : List UInt8) (w : World) (hs : l.length ≤ 100000) (hT : LinkTabs w) :
    Calls Tryd.prog 12 #[.string (txt l)] w fun e w' => e = .returned (.bool (sixL l)) ∧ Below w.heap.size w w' := by
  have key : ∀ (a b : List UInt8) (o : Bool) (r : Bool), Lib.cut l [58, 58] = (a, b, o) → a.length ≤ 100000 → b.length ≤ 100000 → sixL l = r → r = (grpB a && (grpB b && (if o then decide (grpN a + grpN b < 8) else decide (grpN a = 8)))) →
      Calls Tryd.prog 12 #[.string (txt l)] w fun e w' => e = .returned (.bool r) ∧ Below w.heap.size w w' := by
    intro a b o r hc ha hb _ E
    have HC := hide (cutd_is l w (by omega) hT.max hc)
    have HA := hide (fun w' (bb : Below w.heap.size w w') => countGroups_any a w' ha (hT.below bb))
    have HB := hide (fun w' (bb : Below w.heap.size w w') => countGroups_any b w' hb (hT.below bb))
    have la := grp_len a
    have lb := grp_len b
    have ca := split_count 58 a
    have cb := split_count 58 b
    have na : grpN a ≤ 100001 := by omega
    have nb : grpN b ≤ 100001 := by omega
    have pa := la.1
    have pb := lb.1
    clear la lb ca cb hc hT ha hb
    generalize grpN a = x at *
    generalize grpN b = y at *
    generalize txt l = t at *
    generalize txt a = ta at *
    generalize txt b = tb at *
    cases ga : grpB a with
    | false =>
      rw [ga] at HA
      rw [ga, Bool.false_and] at E
      replace E := hide E
      clear ga
      generalize grpB b = gb at *
      go_enter Tryd.func12, Tryd.ntmps12
      go_wp2_with fail
      refine (HC.out).mono ?_
      rintro e w1 ⟨rfl, b1⟩
      go_wp2_with fail
      refine (HA.out _ b1).mono ?_
      rintro e w2 ⟨rfl, c2⟩
      have b2 := chain b1 c2
      go_wp2_with fail
      refine (HB.out _ b2).mono ?_
      rintro e w3 ⟨rfl, c3⟩
      go_wp2_with fail
      go_ret
      exact ⟨ret_bool E.out.symm, chain b2 c3⟩
    | true =>
      rw [ga] at HA
      rw [ga, Bool.true_and] at E
      clear ga
      cases gb : grpB b with
      | false =>
        rw [gb] at HB
        rw [gb, Bool.false_and] at E
        replace E := hide E
        clear gb
        go_enter Tryd.func12, Tryd.ntmps12
        go_wp2_with fail
        refine (HC.out).mono ?_
        rintro e w1 ⟨rfl, b1⟩
        go_wp2_with fail
        refine (HA.out _ b1).mono ?_
        rintro e w2 ⟨rfl, c2⟩
        have b2 := chain b1 c2
        go_wp2_with fail
        refine (HB.out _ b2).mono ?_
        rintro e w3 ⟨rfl, c3⟩
        go_wp2_with fail
        go_ret
        exact ⟨ret_bool E.out.symm, chain b2 c3⟩
      | true =>
        rw [gb] at HB
        rw [gb, Bool.true_and] at E
        clear gb
        cases o with
        | true =>
          rw [if_pos rfl] at E
          by_cases q : x + y < 8
          · rw [decide_eq_true q] at E
            replace E := hide E
            go_enter Tryd.func12, Tryd.ntmps12
            go_wp2_with fail
            refine (HC.out).mono ?_
            rintro e w1 ⟨rfl, b1⟩
            go_wp2_with fail
            refine (HA.out _ b1).mono ?_
            rintro e w2 ⟨rfl, c2⟩
            have b2 := chain b1 c2
            go_wp2_with fail
            refine (HB.out _ b2).mono ?_
            rintro e w3 ⟨rfl, c3⟩
            go_wp2_with fail
            go_ret
            exact ⟨ret_bool (by first | exact E.out.symm | (rw [E.out]; simp; omega)), chain b2 c3⟩
          · rw [decide_eq_false q] at E
            replace E := hide E
            go_enter Tryd.func12, Tryd.ntmps12
            go_wp2_with fail
            refine (HC.out).mono ?_
            rintro e w1 ⟨rfl, b1⟩
            go_wp2_with fail
            refine (HA.out _ b1).mono ?_
            rintro e w2 ⟨rfl, c2⟩
            have b2 := chain b1 c2
            go_wp2_with fail
            refine (HB.out _ b2).mono ?_
            rintro e w3 ⟨rfl, c3⟩
            go_wp2_with fail
            go_ret
            exact ⟨ret_bool (by first | exact E.out.symm | (rw [E.out]; simp; omega)), chain b2 c3⟩
        | false =>
          rw [if_neg (by simp)] at E
          by_cases q : x = 8
          · rw [decide_eq_true q] at E
            have q2 : (x == 8) = true := by rw [q]; rfl
            replace E := hide E
            clear q
            go_enter Tryd.func12, Tryd.ntmps12
            go_wp2_with fail
            refine (HC.out).mono ?_
            rintro e w1 ⟨rfl, b1⟩
            go_wp2_with fail
            refine (HA.out _ b1).mono ?_
            rintro e w2 ⟨rfl, c2⟩
            have b2 := chain b1 c2
            go_wp2_with fail
            refine (HB.out _ b2).mono ?_
            rintro e w3 ⟨rfl, c3⟩
            go_wp2_with fail
            go_ret
            exact ⟨ret_bool (by first | exact E.out.symm | exact q2.trans E.out.symm), chain b2 c3⟩
          · rw [decide_eq_false q] at E
            have q2 : (x == 8) = false := by rw [beq_eq_false_iff_ne]; exact q
            replace E := hide E
            clear q
            go_enter Tryd.func12, Tryd.ntmps12
            go_wp2_with fail
            refine (HC.out).mono ?_
            rintro e w1 ⟨rfl, b1⟩
            go_wp2_with fail
            refine (HA.out _ b1).mono ?_
            rintro e w2 ⟨rfl, c2⟩
            have b2 := chain b1 c2
            go_wp2_with fail
            refine (HB.out _ b2).mono ?_
            rintro e w3 ⟨rfl, c3⟩
            go_wp2_with fail
            go_ret
            exact ⟨ret_bool (by first | exact E.out.symm | exact q2.trans E.out.symm), chain b2 c3⟩
  cases hd : firstDbl l with
  | some k => exact key _ _ _ _ (cut_dbl_some hd) (by rw [List.length_take]; omega) (by rw [List.length_drop]; omega) rfl (sixQ_some hd)
  | none => exact key _ _ _ _ (cut_dbl_none hd) hs (by simp) rfl (by rw [sixQ_none hd, grpQ_nil.2]; rfl)

end Go.Proofs.YtkllknfgojjphabDoor
