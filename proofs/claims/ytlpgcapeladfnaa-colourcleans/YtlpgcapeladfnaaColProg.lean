/- The program's Simple, Clean, Parts, Show of colours: they answer by the functions of 'Col'; what lay in the world lies there still. Conditions: texts as long as every row has them. -/
import Derived.Test.YtlpgcapeladfnaaColLib
import Derived.Test.YtlpgcapeladfnaaDocLib
import Derived.Test.YtlpgcapeladfnaaColRef
namespace Go.Proofs.Ytlpgcapeladfnaa
open Go.RowKit

def ColTabs (_ : World) : Prop := True
theorem ColTabs.below {w w' : World} (_ : ColTabs w) (_ : Below w.heap.size w w') : ColTabs w' := trivial

theorem dig_is (s : ByteArray) (k : Nat) (h : k < s.size) (h' : k < (lowS s).size) (w : World) :
    Calls Try.prog 17 #[.string ⟨#[48, 49, 50, 51, 52, 53, 54, 55, 56, 57, 97, 98, 99, 100, 101, 102]⟩, .int .u8 (((lowS s)[k]'h').toNat : Int)] w fun e w' => e = .returned (.int .i64 (hexV (byteAt s k))) ∧ w' = w := by
  have := indexByte_is digsS ((lowS s)[k]'h') w
  rw [low_at s k h h', digs_low] at this
  rw [low_at s k h h']
  exact this

set_option maxHeartbeats 1000000 in
theorem colSimple_any (s : ByteArray) (w : World) (hs : s.size ≤ maxLen) (_hT : ColTabs w) :
    Calls Try.prog 8 #[.string s] w fun e w' => e = .returned (.bool (simpleL s.data.toList)) ∧ Below w.heap.size w w' := by
  by_cases h7 : s.size = 7
  · have hlt : 0 < s.size := by omega
    have hz : s.size ≤ 7 := by omega
    have hz' : 7 ≤ s.size := by omega
    have b7 : ((s.size : Int) != 7) = false := by simp; omega
    have b7' : ((s.size : Int) == 7) = true := by simp; omega
    by_cases h35 : byteAt s 0 = 35
    · have e0 : (s[0].toNat : Int) = 35 := by rw [byteAt_eq s 0 hlt, h35]; rfl
      have b0 : ((s[0].toNat : Int) != 35) = false := by simp; omega
      have b0' : ((s[0].toNat : Int) == 35) = true := by simp; omega
      have AT := hide (fun (h : ∀ k, 1 ≤ k → k < 7 → 0 ≤ hexV (byteAt s k)) => simple_at.2 ⟨h7, h35, h⟩)
      have HL := hide (lower_any s w hs)
      have HI := hide (fun k (h : k < s.size) h' w => dig_is s k h h' w)
      have zl : (lowS s).size = 7 := by rw [lowS_size]; exact h7
      have zl1 : (lowS s).size ≤ 7 := by omega
      have zl2 : 7 ≤ (lowS s).size := by omega
      have SD := hide (fun k h1 h2 h3 => simple_digit (s := s) (k := k) h1 h2 h3)
      clear h7 h35 e0 hs zl
      generalize lowS s = low at *
      go_enter Try.func8, Try.ntmps8
      go_wp2_with fail
      refine HL.out.mono ?_
      rintro e w1 ⟨rfl, b1⟩
      clear HL
      go_wp2_with fail
      go_loop [4] (fun i => ∃ k : Nat, 1 ≤ k ∧ k ≤ 7 ∧ i = .int .i64 k ∧ Hid (∀ j, 1 ≤ j → j < k → 0 ≤ hexV (byteAt s j))) (fun i => 7 - (intOf i).toNat)
      case atStart => exact ⟨1, by decide, by decide, rfl, fun j h1 h2 => by omega⟩
      case round =>
        obtain ⟨k, k1, k7, rfl, hd⟩ := hrel
        by_cases g : k < 7
        · have hks : k < s.size := by omega
          have hkl : k < low.size := by omega
          have HD := hide (fun w => HI.out k hks hkl w)
          by_cases hx : hexV (byteAt s k) < 0
          · have E := hide (SD.out k k1 g hx)
            clear AT hd HI SD
            generalize hexV (byteAt s k) = v at *
            go_wp2_with fail
            refine (HD.out _).mono ?_
            rintro e u ⟨rfl, rfl⟩
            go_wp2_with fail
            go_ret
            exact ⟨ret_bool E.out.symm, b1⟩
          · have hd' : Hid (∀ j, 1 ≤ j → j < k + 1 → 0 ≤ hexV (byteAt s j)) := by
              intro j j1 j2
              rcases Nat.lt_or_ge j k with q | q
              · exact hd.out j j1 q
              · obtain rfl : j = k := by omega
                omega
            have hx' : 0 ≤ hexV (byteAt s k) := by omega
            clear AT hd hx HI SD
            generalize hexV (byteAt s k) = v at *
            go_wp2_with fail
            refine (HD.out _).mono ?_
            rintro e u ⟨rfl, rfl⟩
            go_wp2_with fail
            go_round
            case rel => exact ⟨k + 1, by omega, by omega, by go_num, hd'⟩
            case measure => simp [intOf]; omega
        · obtain rfl : k = 7 := by omega
          have E := hide (AT.out hd.out)
          clear AT hd HI SD
          go_wp2_with fail
          go_ret
          exact ⟨ret_bool E.out.symm, b1⟩
    · have E := hide (simple_sign h35)
      have e0 : ¬ (s[0].toNat : Int) = 35 := by
        rw [byteAt_eq s 0 hlt]
        intro x
        exact h35 (UInt8.toNat_inj.1 (by show (byteAt s 0).toNat = 35; omega))
      have b0 : ((s[0].toNat : Int) != 35) = true := by simp; omega
      have b0' : ((s[0].toNat : Int) == 35) = false := by simp; omega
      clear h7 h35 e0 hs
      go_enter Try.func8, Try.ntmps8
      go_wp2_with fail
      go_ret
      exact ⟨ret_bool E.out.symm, Below.refl _ _⟩
  · have E := hide (simple_short h7)
    have b7 : ((s.size : Int) != 7) = true := by simp; omega
    have b7' : ((s.size : Int) == 7) = false := by simp; omega
    clear h7
    unfold maxLen at hs
    go_enter Try.func8, Try.ntmps8
    go_wp2_with fail
    go_ret
    exact ⟨ret_bool E.out.symm, Below.refl _ _⟩

set_option maxHeartbeats 1000000 in
theorem colClean_any (s : ByteArray) (w : World) (hs : s.size ≤ maxLen) (hT : ColTabs w) :
    Calls Try.prog 6 #[.string s] w fun e w' => e = .returned (.string (txt (cleanL s.data.toList))) ∧ Below w.heap.size w w' := by
  have HS := hide (colSimple_any s w hs hT)
  cases h : simpleL s.data.toList with
  | true =>
    have HL := hide (fun w => lower_any s w hs)
    have E := hide (clean_yes h)
    rw [h] at HS
    clear h hs
    go_enter Try.func6, Try.ntmps6
    go_wp2_with fail
    refine HS.out.mono ?_
    rintro e w1 ⟨rfl, b1⟩
    go_wp2_with fail
    refine (HL.out _).mono ?_
    rintro e v ⟨rfl, b2⟩
    go_wp2_with fail
    go_ret
    refine ⟨ret_str ?_, chain b1 b2⟩
    rw [E.out]; rfl
  | false =>
    have E := hide (clean_no h)
    have HC := hide (fun W => clone_any ⟨#[35, 48, 48, 48, 48, 48, 48]⟩ W (by decide))
    rw [h] at HS
    clear h hs
    go_enter Try.func6, Try.ntmps6
    go_wp2_with fail
    refine HS.out.mono ?_
    rintro e w1 ⟨rfl, b1⟩
    go_wp2_with fail
    refine (HC.out _).mono ?_
    rintro e w2 ⟨rfl, b2⟩
    go_wp2_with fail
    go_ret
    refine ⟨ret_str ?_, chain b1 b2⟩
    rw [E.out]; rfl

theorem pair_cut (s : ByteArray) (k : Nat) (h : k + 1 < s.size) : (lowS s).extract k (k + 2) = txt [lowB (byteAt s k), lowB (byteAt s (k + 1))] := by
  have hl : s.data.toList.length = s.size := by simp
  apply ByteArray.ext
  apply Array.ext'
  rw [ByteArray.data_extract, Array.toList_extract, lowS_data]
  show List.take (k + 2 - k) (List.drop k (lowL s.data.toList)) = _
  rw [show k + 2 - k = 2 by omega, List.drop_eq_getElem_cons (by rw [lowL_length]; omega), List.drop_eq_getElem_cons (by rw [lowL_length]; omega)]
  show [_, _] = [_, _]
  unfold byteAt lowL
  simp [List.getD, show k < s.size by omega, h]
theorem or_two {x y : Int} (h1 : 0 ≤ x) (h2 : x < 16) (h3 : 0 ≤ y) (h4 : y < 16) : bits .or .i64 (x * 16) y % 256 = x * 16 + y := by
  have : ∀ a b : Fin 16, bits .or .i64 ((a.val : Int) * 16) (b.val : Int) % 256 = (a.val : Int) * 16 + (b.val : Int) := by decide +kernel
  obtain ⟨a, rfl⟩ : ∃ a : Nat, x = a := ⟨x.toNat, by omega⟩
  obtain ⟨b, rfl⟩ : ∃ b : Nat, y = b := ⟨y.toNat, by omega⟩
  exact this ⟨a, by omega⟩ ⟨b, by omega⟩
set_option maxHeartbeats 1000000 in
theorem pair_txt (c d : UInt8) (w : World) (g1 : 0 ≤ hexV c) (g2 : 0 ≤ hexV d) :
    Calls Try.prog 20 #[.string (txt [lowB c, lowB d])] w fun e w' => e = .returned (.int .u8 ((two c d).toNat : Int)) ∧ ∃ m, w' = w.drewN m := by
  have HA := hide (fun w => indexByte_is digsS (lowB c) w)
  have HB := hide (fun w => indexByte_is digsS (lowB d) w)
  rw [digs_low] at HA HB
  unfold digsS at HA HB
  have E := hide (two_nat g1 g2)
  have l1 := hexV_lt c
  have l2 := hexV_lt d
  have q1 : ∀ w, (Instr.index 9 (.string (txt [lowB c, lowB d])) (.int .i64 0)).run Try.prog w = .ok (.int .u8 ((lowB c).toNat : Int)) w := fun w => index_col (txt [lowB c, lowB d]) 0 0 rfl (Nat.zero_lt_succ 1) w
  have q2 : ∀ w, (Instr.index 9 (.string (txt [lowB c, lowB d])) (.int .i64 1)).run Try.prog w = .ok (.int .u8 ((lowB d).toNat : Int)) w := fun w => index_col (txt [lowB c, lowB d]) 1 1 rfl (Nat.lt_succ_self 1) w
  generalize hexV c = x at *
  generalize hexV d = y at *
  generalize txt [lowB c, lowB d] = t at *
  generalize ((lowB c).toNat : Int) = P1 at *
  generalize ((lowB d).toNat : Int) = P2 at *
  go_enter Try.func20, Try.ntmps20
  go_wp2_with fail
  go_quiet (first | with_reducible exact Calls.quiet_of_same (HA.out _) | with_reducible exact Calls.quiet_of_same (HB.out _))
  go_wp2_with fail
  go_ret
  refine ⟨?_, _, rfl⟩
  rw [E.out, ← or_two g1 l1 g2 l2]; rfl

theorem results_four {fn : Func} {t u v x : Tmp} (h : fn.results = #[.tmp t, .tmp u, .tmp v, .tmp x]) (tmps : Array Value) (P : Program) (w : World) : (results fn tmps).run P w = .ok (.tuple #[tmps.getD t undef, tmps.getD u undef, tmps.getD v undef, tmps.getD x undef]) w := by
  simp [results, h, go_sem]
set_option maxHeartbeats 1000000 in
theorem colParts_no (s : ByteArray) (w : World) (hs : s.size ≤ maxLen) (h : simpleL s.data.toList = false) (hT : ColTabs w) :
    Calls Try.prog 11 #[.string s] w fun e w' => e = .returned (.tuple #[.int .u8 0, .int .u8 0, .int .u8 0, .int .i64 1]) ∧ Below w.heap.size w w' := by
  have H := hide (colSimple_any s w hs hT)
  rw [h] at H
  clear hs h
  go_enter Try.func11, Try.ntmps11
  go_wp2_with fail
  refine H.out.mono ?_
  rintro e v ⟨rfl, b1⟩
  go_wp2_with fail
  (try simp only [Exit.inBlock, Exit.then])
  refine bodyPost_ret (results_four rfl _ _ _) rfl ?_
  exact ⟨rfl, b1⟩
set_option maxHeartbeats 1000000 in
theorem colParts_yes (s : ByteArray) (w : World) (hs : s.size ≤ maxLen) (h : simpleL s.data.toList = true) (hT : ColTabs w) :
    Calls Try.prog 11 #[.string s] w fun e w' => e = .returned (.tuple #[.int .u8 ((pairAt s.data.toList 1).toNat : Int), .int .u8 ((pairAt s.data.toList 3).toNat : Int), .int .u8 ((pairAt s.data.toList 5).toNat : Int), .int .i64 0]) ∧ Below w.heap.size w w' := by
  have H := hide (colSimple_any s w hs hT)
  have HL := hide (fun w => lower_any s w hs)
  have ⟨h7, _, hx⟩ := simple_at.1 h
  have P1 := hide (fun w' => pair_txt _ _ w' (hx 1 (by decide) (by decide)) (hx 2 (by decide) (by decide)))
  have P3 := hide (fun w' => pair_txt _ _ w' (hx 3 (by decide) (by decide)) (hx 4 (by decide) (by decide)))
  have P5 := hide (fun w' => pair_txt _ _ w' (hx 5 (by decide) (by decide)) (hx 6 (by decide) (by decide)))
  rw [← pair_cut s 1 (by omega), show (1 : Nat) + 2 = 3 from rfl] at P1
  rw [← pair_cut s 3 (by omega), show (3 : Nat) + 2 = 5 from rfl] at P3
  rw [← pair_cut s 5 (by omega), show (5 : Nat) + 2 = 7 from rfl] at P5
  have zl : (lowS s).size = 7 := by rw [lowS_size]; exact h7
  have zl1 : (lowS s).size ≤ 7 := by omega
  have zl2 : 7 ≤ (lowS s).size := by omega
  rw [h] at H
  have E1 : Hid (pairAt s.data.toList 1 = two (byteAt s 1) (byteAt s 2)) := rfl
  have E3 : Hid (pairAt s.data.toList 3 = two (byteAt s 3) (byteAt s 4)) := rfl
  have E5 : Hid (pairAt s.data.toList 5 = two (byteAt s 5) (byteAt s 6)) := rfl
  rw [← E1.out] at P1
  rw [← E3.out] at P3
  rw [← E5.out] at P5
  clear hs h h7 hx zl E1 E3 E5
  generalize ((pairAt s.data.toList 1).toNat : Int) = x at *
  generalize ((pairAt s.data.toList 3).toNat : Int) = y at *
  generalize ((pairAt s.data.toList 5).toNat : Int) = z at *
  generalize lowS s = low at *
  go_enter Try.func11, Try.ntmps11
  go_wp2_with fail
  refine H.out.mono ?_
  rintro e w1 ⟨rfl, b1⟩
  go_wp2_with fail
  refine (HL.out _).mono ?_
  rintro e w2 ⟨rfl, b2⟩
  go_wp2_with fail
  go_quiet (first | with_reducible exact Calls.quiet_of (P1.out _) | with_reducible exact Calls.quiet_of (P3.out _) | with_reducible exact Calls.quiet_of (P5.out _))
  go_wp2_with fail
  (try simp only [Exit.inBlock, Exit.then])
  refine bodyPost_ret (results_four rfl _ _ _) rfl ?_
  exact ⟨rfl, chain b1 (chain b2 (drew_low _ _))⟩

theorem index_digs (i : Int) (n : Nat) (h : i = n) (hn : n < 16) (w : World) : (Instr.index 9 (.string ⟨#[48, 49, 50, 51, 52, 53, 54, 55, 56, 57, 97, 98, 99, 100, 101, 102]⟩) (.int .u8 i)).run Try.prog w = .ok (.int .u8 ((lowB (hexD n)).toNat : Int)) w := by
  subst h
  rw [run_index_string _ _ _ _ _ Try.underlying9, dif_pos ⟨by omega, by show (n : Int) < 16; omega⟩, ← colDigs_at n hn]
  rfl
theorem index_rgb (x y z : Value) (w : World) : (Instr.index 35 (.agg #[x, y, z]) (.int .i64 0)).run Try.prog w = .ok x w ∧ (Instr.index 35 (.agg #[x, y, z]) (.int .i64 1)).run Try.prog w = .ok y w ∧ (Instr.index 35 (.agg #[x, y, z]) (.int .i64 2)).run Try.prog w = .ok z w := ⟨rfl, rfl, rfl⟩

theorem and_15 (c : UInt8) : bits .and .u8 (c.toNat : Int) 15 = ((c.toNat % 16 : Nat) : Int) := by
  have : ∀ n : Fin 256, bits .and .u8 (n.val : Int) 15 = ((n.val % 16 : Nat) : Int) := by decide +kernel
  exact this ⟨c.toNat, c.toNat_lt⟩

set_option maxHeartbeats 1000000 in
theorem colShow_any (r g b : UInt8) (w : World) (_hT : ColTabs w) :
    Calls Try.prog 13 #[.int .u8 (r.toNat : Int), .int .u8 (g.toNat : Int), .int .u8 (b.toNat : Int)] w fun e w' => e = .returned (.string (txt (colL r g b))) ∧ Below w.heap.size w w' := by
  have H0 := hide (ownsB_one w 5 35)
  have B0 := hide ((Below.refl w.heap.size w).alloc (Nat.le_refl _) (.cells #[.int .u8 35] 5))
  have EC := hide (colL_low2 r g b)
  go_enter Try.func13, Try.ntmps13
  go_wp2_with fail
  go_loopw [7, 15] (fun v i wr => ∃ (k : Nat) (l : List UInt8), i = .int .i64 k ∧ Hid ((k = 0 ∧ l = [35]) ∨ (k = 1 ∧ l = [35] ++ low2 r) ∨ (k = 2 ∧ l = [35] ++ low2 r ++ low2 g) ∨ (k = 3 ∧ l = colL r g b)) ∧ OwnsB 5 w.heap.size wr v l ∧ Below w.heap.size w wr) (fun _ i _ => 3 - (intOf i).toNat)
  case atStart => exact ⟨0, [35], rfl, .inl ⟨rfl, rfl⟩, H0.out, B0.out⟩
  case round =>
    obtain ⟨k, l, rfl, hk, hown, hb⟩ := hrel
    have hsz := hb.size
    have IX := fun w => (index_rgb (.int .u8 (r.toNat : Int)) (.int .u8 (g.toNat : Int)) (.int .u8 (b.toNat : Int)) w)
    rcases hk.out with ⟨rfl, rfl⟩ | ⟨rfl, rfl⟩ | ⟨rfl, rfl⟩ | ⟨rfl, rfl⟩
    · have hc := r.toNat_lt
      have q1 := fun w => index_digs ((r.toNat : Int) / 16) (r.toNat / 16) (by omega) (by omega) w
      have q2 := fun w => index_digs (bits .and .u8 (r.toNat : Int) 15) (r.toNat % 16) (and_15 r) (by omega) w
      have ix := fun w => (IX w).1
      clear hk IX
      go_wp2_with fail
      go_region_law (refine step_append_two byteTypes wr _ _ rfl _ _ rfl w.heap.size _ _ (lowB (hexD (r.toNat / 16))) (lowB (hexD (r.toNat % 16))) rfl rfl (by simp [Act.eval]) hown (by simp [Act.eval]) (by decide) (by omega) ?_; intro v1 w1 hown1 hb1)
      all_goals
        go_wp2_with fail
        go_roundw
        case rel => exact ⟨1, _, by go_num, .inr (.inl ⟨rfl, rfl⟩), hown1, hb.trans hb1⟩
        case measure => simp [intOf]
    · have hc := g.toNat_lt
      have q1 := fun w => index_digs ((g.toNat : Int) / 16) (g.toNat / 16) (by omega) (by omega) w
      have q2 := fun w => index_digs (bits .and .u8 (g.toNat : Int) 15) (g.toNat % 16) (and_15 g) (by omega) w
      have ix := fun w => (IX w).2.1
      clear hk IX
      go_wp2_with fail
      go_region_law (refine step_append_two byteTypes wr _ _ rfl _ _ rfl w.heap.size _ _ (lowB (hexD (g.toNat / 16))) (lowB (hexD (g.toNat % 16))) rfl rfl (by simp [Act.eval]) hown (by simp [Act.eval]) (by simp [low2]) (by omega) ?_; intro v1 w1 hown1 hb1)
      all_goals
        go_wp2_with fail
        go_roundw
        case rel => exact ⟨2, _, by go_num, .inr (.inr (.inl ⟨rfl, rfl⟩)), hown1, hb.trans hb1⟩
        case measure => simp [intOf]
    · have hc := b.toNat_lt
      have q1 := fun w => index_digs ((b.toNat : Int) / 16) (b.toNat / 16) (by omega) (by omega) w
      have q2 := fun w => index_digs (bits .and .u8 (b.toNat : Int) 15) (b.toNat % 16) (and_15 b) (by omega) w
      have ix := fun w => (IX w).2.2
      clear hk IX
      go_wp2_with fail
      go_region_law (refine step_append_two byteTypes wr _ _ rfl _ _ rfl w.heap.size _ _ (lowB (hexD (b.toNat / 16))) (lowB (hexD (b.toNat % 16))) rfl rfl (by simp [Act.eval]) hown (by simp [Act.eval]) (by simp [low2]) (by omega) ?_; intro v1 w1 hown1 hb1)
      all_goals
        go_wp2_with fail
        go_roundw
        case rel => exact ⟨3, _, by go_num, .inr (.inr (.inr ⟨rfl, EC.out.symm⟩)), hown1, hb.trans hb1⟩
        case measure => simp [intOf]
    · have HE := hide (hown.text byteTypes)
      clear hk IX
      go_wp2_with fail
      rw [HE.out]
      go_wp2_with fail
      go_ret
      exact ⟨rfl, hb⟩

end Go.Proofs.Ytlpgcapeladfnaa
