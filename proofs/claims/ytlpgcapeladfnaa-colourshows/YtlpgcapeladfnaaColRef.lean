/- The document's Simple, Clean, Pair, Show of colours: they answer by the functions of 'Col'; what lay in the world lies there still. Conditions: texts as long as every row has them. -/
import Derived.Test.YtlpgcapeladfnaaCol
import Derived.Test.YtlpgcapeladfnaaHexRef
import Derived.Test.YtlpgcapeladfnaaRefDigits
import Derived.Test.YtlpgcapeladfnaaLowWalks
import Derived.Deep.QuietTactic
import Derived.BigQuiet
namespace Go.Proofs.Ytlpgcapeladfnaa
open Go.RowKit

theorem simple_short {s : ByteArray} (h : ¬ s.size = 7) : simpleL s.data.toList = false := by
  cases e : simpleL s.data.toList with
  | false => rfl
  | true => exact absurd (simple_at.1 e).1 h
theorem simple_sign {s : ByteArray} (h : ¬ byteAt s 0 = 35) : simpleL s.data.toList = false := by
  cases e : simpleL s.data.toList with
  | false => rfl
  | true => exact absurd (simple_at.1 e).2.1 h
theorem simple_digit {s : ByteArray} {k : Nat} (h1 : 1 ≤ k) (h2 : k < 7) (h : hexV (byteAt s k) < 0) : simpleL s.data.toList = false := by
  cases e : simpleL s.data.toList with
  | false => rfl
  | true =>
    have := (simple_at.1 e).2.2 k h1 h2
    omega

set_option maxHeartbeats 1000000 in
theorem refSimple_any (s : ByteArray) (w : World) (hs : s.size ≤ maxLen) :
    Calls Try.prog 9 #[.string s] w fun e w' => e = .returned (.bool (simpleL s.data.toList)) ∧ w' = w := by
  unfold maxLen at hs
  by_cases h7 : s.size = 7
  · have hlt : 0 < s.size := by omega
    have hz : s.size ≤ 7 := by omega
    have hz' : 7 ≤ s.size := by omega
    have b7 : ((s.size : Int) != 7) = false := by simp; omega
    have b7' : ((s.size : Int) == 7) = true := by simp; omega
    by_cases h35 : byteAt s 0 = 35
    · have e0 : (s[0].toNat : Int) = 35 := by rw [byteAt_eq s 0 hlt, h35]; rfl
      have b0 : ((s[0].toNat : Int) != 35) = false := by simp; omega
      have b0' : ((s[0].toNat : Int) == 35) = true := by simp; omega
      have AT := hide (fun (h : ∀ k, 1 ≤ k → k < 7 → 0 ≤ hexV (byteAt s k)) => simple_at.2 ⟨h7, h35, h⟩)
      clear h7 h35 e0
      go_enter Try.func9, Try.ntmps9
      go_wp2_with fail
      go_loop [3] (fun i => ∃ k : Nat, 1 ≤ k ∧ k ≤ 7 ∧ i = .int .i64 k ∧ Hid (∀ j, 1 ≤ j → j < k → 0 ≤ hexV (byteAt s j))) (fun i => 7 - (intOf i).toNat)
      case atStart => exact ⟨1, by decide, by decide, rfl, fun j h1 h2 => by omega⟩
      case round =>
        obtain ⟨k, k1, k7, rfl, hd⟩ := hrel
        by_cases g : k < 7
        · have hks : k < s.size := by omega
          have HD := hide (refDigit_any s[k] w)
          have eb := byteAt_eq s k hks
          by_cases hx : hexV (byteAt s k) < 0
          · have E := hide (simple_digit k1 g hx)
            rw [← eb] at hx
            clear eb AT hd
            generalize hexV s[k] = v at *
            go_wp2_with fail
            refine HD.out.mono ?_
            rintro e u ⟨rfl, rfl⟩
            go_wp2_with fail
            go_ret
            exact ⟨ret_bool E.out.symm, rfl⟩
          · have hd' : Hid (∀ j, 1 ≤ j → j < k + 1 → 0 ≤ hexV (byteAt s j)) := by
              intro j j1 j2
              rcases Nat.lt_or_ge j k with q | q
              · exact hd.out j j1 q
              · obtain rfl : j = k := by omega
                omega
            have hx' : 0 ≤ hexV (byteAt s k) := by omega
            rw [← eb] at hx'
            clear eb AT hd hx
            generalize hexV s[k] = v at *
            go_wp2_with fail
            refine HD.out.mono ?_
            rintro e u ⟨rfl, rfl⟩
            go_wp2_with fail
            go_round
            case rel => exact ⟨k + 1, by omega, by omega, by go_num, hd'⟩
            case measure => simp [intOf]; omega
        · obtain rfl : k = 7 := by omega
          have E := hide (AT.out hd.out)
          clear AT hd
          go_wp2_with fail
          go_ret
          exact ⟨ret_bool E.out.symm, rfl⟩
    · have E := hide (simple_sign h35)
      have e0 : ¬ (s[0].toNat : Int) = 35 := by
        rw [byteAt_eq s 0 hlt]
        intro x
        exact h35 (UInt8.toNat_inj.1 (by show (byteAt s 0).toNat = 35; omega))
      have b0 : ((s[0].toNat : Int) != 35) = true := by simp; omega
      have b0' : ((s[0].toNat : Int) == 35) = false := by simp; omega
      clear h7 h35 e0
      go_enter Try.func9, Try.ntmps9
      go_wp2_with fail
      go_ret
      exact ⟨ret_bool E.out.symm, rfl⟩
  · have E := hide (simple_short h7)
    have b7 : ((s.size : Int) != 7) = true := by simp; omega
    have b7' : ((s.size : Int) == 7) = false := by simp; omega
    clear h7
    go_enter Try.func9, Try.ntmps9
    go_wp2_with fail
    go_ret
    exact ⟨ret_bool E.out.symm, rfl⟩

set_option maxHeartbeats 1000000 in
theorem refClean_any (s : ByteArray) (w : World) (hs : s.size ≤ maxLen) :
    Calls Try.prog 10 #[.string s] w fun e w' => e = .returned (.string (txt (cleanL s.data.toList))) ∧ Below w.heap.size w w' := by
  have HS := hide (refSimple_any s w hs)
  cases h : simpleL s.data.toList with
  | true =>
    have h7 := (simple_at.1 h).1
    have HL := hide (refLower_any s w (by omega))
    have E := hide (clean_yes h)
    rw [h] at HS
    clear h h7 hs
    go_enter Try.func10, Try.ntmps10
    go_wp2_with fail
    refine HS.out.mono ?_
    rintro e u ⟨rfl, rfl⟩
    go_wp2_with fail
    refine HL.out.mono ?_
    rintro e v ⟨rfl, b1⟩
    go_wp2_with fail
    go_ret
    refine ⟨ret_str ?_, b1⟩
    rw [E.out]; rfl
  | false =>
    have E := hide (clean_no h)
    rw [h] at HS
    clear h hs
    go_enter Try.func10, Try.ntmps10
    go_wp2_with fail
    refine HS.out.mono ?_
    rintro e u ⟨rfl, rfl⟩
    go_wp2_with fail
    go_ret
    refine ⟨ret_str ?_, Below.refl _ _⟩
    rw [E.out]; rfl

theorem index_col (s : ByteArray) (i : Int) (j : Nat) (h : i = j) (hj : j < s.size) (w : World) : (Instr.index 9 (.string s) (.int .i64 i)).run Try.prog w = .ok (.int .u8 (s[j].toNat : Int)) w := by
  subst h
  rw [run_index_string _ _ _ _ _ Try.underlying9, dif_pos ⟨by omega, by omega⟩]
  rfl
theorem drew_low (w : World) (q : Nat) : Below w.heap.size w (w.drewN q) := ⟨rfl, rfl, rfl, Nat.le_refl _, fun _ _ => rfl⟩

set_option maxHeartbeats 1000000 in
theorem refPair_1 (s : ByteArray) (w : World) (hs : s.size = 7) (h1 : 0 ≤ hexV (byteAt s 1)) (h2 : 0 ≤ hexV (byteAt s 2)) :
    Calls Try.prog 12 #[.string s, .int .i64 1] w fun e w' => e = .returned (.int .u8 ((pairAt s.data.toList 1).toNat : Int)) ∧ Below w.heap.size w w' := by
  have z1 : 1 < s.size := by omega
  have z2 : 2 < s.size := by omega
  have HA := hide (fun w => refDigit_any s[1] w)
  have HB := hide (fun w => refDigit_any s[2] w)
  have E := hide (two_nat h1 h2)
  have l1 := hexV_lt (byteAt s 1)
  have l2 := hexV_lt (byteAt s 2)
  have E2 : Hid (pairAt s.data.toList 1 = two (byteAt s 1) (byteAt s 2)) := rfl
  rw [← byteAt_eq s 1 z1] at h1 l1 E E2
  rw [← byteAt_eq s 2 z2] at h2 l2 E E2
  have q1 := fun w => index_col s 1 1 rfl z1 w
  have q2 := fun w => index_col s 2 2 rfl z2 w
  clear hs
  generalize hexV s[1] = x at *
  generalize hexV s[2] = y at *
  generalize (s[1].toNat : Int) = P1 at *
  generalize (s[2].toNat : Int) = P2 at *
  go_enter Try.func12, Try.ntmps12
  go_wp2_with fail
  go_quiet (first | with_reducible exact Calls.quiet_of_same (HA.out _) | with_reducible exact Calls.quiet_of_same (HB.out _))
  go_wp2_with fail
  go_ret
  refine ⟨?_, drew_low _ _⟩
  rw [E2.out, E.out]; rfl

set_option maxHeartbeats 1000000 in
theorem refPair_3 (s : ByteArray) (w : World) (hs : s.size = 7) (h1 : 0 ≤ hexV (byteAt s 3)) (h2 : 0 ≤ hexV (byteAt s 4)) :
    Calls Try.prog 12 #[.string s, .int .i64 3] w fun e w' => e = .returned (.int .u8 ((pairAt s.data.toList 3).toNat : Int)) ∧ Below w.heap.size w w' := by
  have z1 : 3 < s.size := by omega
  have z2 : 4 < s.size := by omega
  have HA := hide (fun w => refDigit_any s[3] w)
  have HB := hide (fun w => refDigit_any s[4] w)
  have E := hide (two_nat h1 h2)
  have l1 := hexV_lt (byteAt s 3)
  have l2 := hexV_lt (byteAt s 4)
  have E2 : Hid (pairAt s.data.toList 3 = two (byteAt s 3) (byteAt s 4)) := rfl
  rw [← byteAt_eq s 3 z1] at h1 l1 E E2
  rw [← byteAt_eq s 4 z2] at h2 l2 E E2
  have q1 := fun w => index_col s 3 3 rfl z1 w
  have q2 := fun w => index_col s 4 4 rfl z2 w
  clear hs
  generalize hexV s[3] = x at *
  generalize hexV s[4] = y at *
  generalize (s[3].toNat : Int) = P1 at *
  generalize (s[4].toNat : Int) = P2 at *
  go_enter Try.func12, Try.ntmps12
  go_wp2_with fail
  go_quiet (first | with_reducible exact Calls.quiet_of_same (HA.out _) | with_reducible exact Calls.quiet_of_same (HB.out _))
  go_wp2_with fail
  go_ret
  refine ⟨?_, drew_low _ _⟩
  rw [E2.out, E.out]; rfl

set_option maxHeartbeats 1000000 in
theorem refPair_5 (s : ByteArray) (w : World) (hs : s.size = 7) (h1 : 0 ≤ hexV (byteAt s 5)) (h2 : 0 ≤ hexV (byteAt s 6)) :
    Calls Try.prog 12 #[.string s, .int .i64 5] w fun e w' => e = .returned (.int .u8 ((pairAt s.data.toList 5).toNat : Int)) ∧ Below w.heap.size w w' := by
  have z1 : 5 < s.size := by omega
  have z2 : 6 < s.size := by omega
  have HA := hide (fun w => refDigit_any s[5] w)
  have HB := hide (fun w => refDigit_any s[6] w)
  have E := hide (two_nat h1 h2)
  have l1 := hexV_lt (byteAt s 5)
  have l2 := hexV_lt (byteAt s 6)
  have E2 : Hid (pairAt s.data.toList 5 = two (byteAt s 5) (byteAt s 6)) := rfl
  rw [← byteAt_eq s 5 z1] at h1 l1 E E2
  rw [← byteAt_eq s 6 z2] at h2 l2 E E2
  have q1 := fun w => index_col s 5 5 rfl z1 w
  have q2 := fun w => index_col s 6 6 rfl z2 w
  clear hs
  generalize hexV s[5] = x at *
  generalize hexV s[6] = y at *
  generalize (s[5].toNat : Int) = P1 at *
  generalize (s[6].toNat : Int) = P2 at *
  go_enter Try.func12, Try.ntmps12
  go_wp2_with fail
  go_quiet (first | with_reducible exact Calls.quiet_of_same (HA.out _) | with_reducible exact Calls.quiet_of_same (HB.out _))
  go_wp2_with fail
  go_ret
  refine ⟨?_, drew_low _ _⟩
  rw [E2.out, E.out]; rfl

theorem txt_two (l k : List UInt8) : txt l ++ txt k = txt (l ++ k) := by
  apply ByteArray.ext
  rw [ByteArray.data_append]
  show l.toArray ++ k.toArray = (l ++ k).toArray
  simp
set_option maxHeartbeats 1000000 in
theorem refColour_any (r g b : UInt8) (w : World) :
    Calls Try.prog 14 #[.int .u8 (r.toNat : Int), .int .u8 (g.toNat : Int), .int .u8 (b.toNat : Int)] w fun e w' => e = .returned (.string (txt (colL r g b))) ∧ Below w.heap.size w w' := by
  have HR := hide (fun w => refHexD_any r w)
  have HG := hide (fun w => refHexD_any g w)
  have HB := hide (fun w => refHexD_any b w)
  have HL := hide (fun w => refLower_any (⟨#[35]⟩ ++ txt (digs2 r) ++ txt (digs2 g) ++ txt (digs2 b)) w (by rw [ByteArray.size_append, ByteArray.size_append, ByteArray.size_append]; show 1 + 2 + 2 + 2 ≤ _; omega))
  have E : Hid (txt (colL r g b) = lowS (⟨#[35]⟩ ++ txt (digs2 r) ++ txt (digs2 g) ++ txt (digs2 b))) := by
    show _ = _
    rw [show (⟨#[35]⟩ : ByteArray) = txt [35] from rfl, txt_two, txt_two, txt_two]
    rfl
  have z1 : (txt (digs2 r)).size = 2 := rfl
  have z2 : (txt (digs2 g)).size = 2 := rfl
  have z3 : (txt (digs2 b)).size = 2 := rfl
  have z0 : (⟨#[35]⟩ : ByteArray).size = 1 := rfl
  rw [show ∀ c : UInt8, [hexD (c.toNat / 16), hexD (c.toNat % 16)] = digs2 c from fun _ => rfl] at HR HG HB
  have p1 := fun w => run_string_add_sum (P := Try.prog) w ⟨#[35]⟩ (txt (digs2 r)) (by omega)
  have p2 := fun w => run_string_add_sum (P := Try.prog) w (⟨#[35]⟩ ++ txt (digs2 r)) (txt (digs2 g)) (by rw [ByteArray.size_append]; omega)
  have p3 := fun w => run_string_add_sum (P := Try.prog) w (⟨#[35]⟩ ++ txt (digs2 r) ++ txt (digs2 g)) (txt (digs2 b)) (by rw [ByteArray.size_append, ByteArray.size_append]; omega)
  generalize ⟨#[35]⟩ ++ txt (digs2 r) ++ txt (digs2 g) ++ txt (digs2 b) = s3 at *
  generalize ⟨#[35]⟩ ++ txt (digs2 r) ++ txt (digs2 g) = s2 at *
  generalize ⟨#[35]⟩ ++ txt (digs2 r) = s1 at *
  clear z0 z1 z2 z3
  generalize txt (digs2 r) = tr at *
  generalize txt (digs2 g) = tg at *
  generalize txt (digs2 b) = tb at *
  generalize colL r g b = cl at *
  generalize (r.toNat : Int) = R at *
  generalize (g.toNat : Int) = G at *
  generalize (b.toNat : Int) = B at *
  go_enter Try.func14, Try.ntmps14
  go_wp2_with fail
  refine (HR.out _).mono ?_
  rintro e v1 ⟨rfl, b1⟩
  go_wp2_with fail
  refine (HG.out _).mono ?_
  rintro e v2 ⟨rfl, b2⟩
  go_wp2_with fail
  refine (HB.out _).mono ?_
  rintro e v3 ⟨rfl, b3⟩
  go_wp2_with fail
  refine (HL.out _).mono ?_
  rintro e v4 ⟨rfl, b4⟩
  go_wp2_with fail
  go_ret
  exact ⟨ret_str E.out.symm, chain b1 (chain b2 (chain b3 b4))⟩

end Go.Proofs.Ytlpgcapeladfnaa
