/- Two bytes that are appended at once. The document's Digit. The document's Simple and Clean of layer 6 alone. The program's Simple and Clean of colours alone. -/
import Derived.Test.YtfjfkkbgkjmghaaGreatDoorJct12
import Derived.Test.YtfjfkkbgkjmghaaGreatDoorJct20
import Derived.Test.YtfjfkkbgkjmghaaGreatDoorJct26
import Derived.WalkSmall
import Derived.Deep.RegionLaw
import Derived.Deep.AppendLies
import Derived.Laws.OwnMore

namespace Go.Proofs.YtfjfkkbgkjmghaaGreatDoor
open Go.RowKit
def digsS : ByteArray := ⟨#[48, 49, 50, 51, 52, 53, 54, 55, 56, 57, 97, 98, 99, 100, 101, 102]⟩
theorem digs_low (c : UInt8) : Lib.indexByte digsS.data.toList (lowB c) = hexV c := by
  have : ∀ n : Fin 256, Lib.indexByte digsS.data.toList (lowB (UInt8.ofNat n.val)) = hexV (UInt8.ofNat n.val) := by decide +kernel
  have h := this ⟨c.toNat, c.toNat_lt⟩
  simpa using h
theorem low_at (s : ByteArray) (k : Nat) (h : k < s.size) (h' : k < (lowS s).size) : (lowS s)[k]'h' = lowB (byteAt s k) := by
  rw [byteAt_eq _ k h']
  unfold byteAt
  rw [lowS_data]
  unfold lowL
  have e : k < s.data.toList.length := by simpa using h
  simp [List.getD, h]
end Go.Proofs.YtfjfkkbgkjmghaaGreatDoor

namespace Go.Proofs.YtfjfkkbgkjmghaaGreatDoor
open Go.RowKit
set_option maxRecDepth 100000
def num22 (k : Nat) : Int := if k < 10 then (48 : Int) + k else if k < 16 then (55 : Int) + k else (81 : Int) + k
theorem at22 (k : Nat) (hk : k < (⟨#[48, 49, 50, 51, 52, 53, 54, 55, 56, 57, 65, 66, 67, 68, 69, 70, 97, 98, 99, 100, 101, 102]⟩ : ByteArray).size) : (((⟨#[48, 49, 50, 51, 52, 53, 54, 55, 56, 57, 65, 66, 67, 68, 69, 70, 97, 98, 99, 100, 101, 102]⟩ : ByteArray)[k].toNat : Nat) : Int) = num22 k := by
  have : ∀ n : Fin 22, (((⟨#[48, 49, 50, 51, 52, 53, 54, 55, 56, 57, 65, 66, 67, 68, 69, 70, 97, 98, 99, 100, 101, 102]⟩ : ByteArray)[n.val]'(by have := n.isLt; exact this)).toNat : Int) = num22 n.val := by decide
  exact this ⟨k, hk⟩
def NotTo22 (x : Int) (k : Nat) : Prop := ∀ j, j < k → num22 j ≠ x
theorem notTo22_succ {x : Int} {k : Nat} (h : NotTo22 x k) (he : num22 k ≠ x) : NotTo22 x (k + 1) := by
  intro j hj
  rcases Nat.lt_or_ge j k with h' | h'
  · exact h j h'
  · obtain rfl : j = k := by omega
    exact he
theorem hexV_small {c : UInt8} {k : Nat} (hk : k ≤ 15) (he : num22 k = (c.toNat : Int)) : (k : Int) = hexV c := by
  unfold num22 at he
  unfold hexV
  by_cases h : k < 10
  · rw [if_pos h] at he; rw [if_pos (by omega)]; omega
  · rw [if_neg h, if_pos (by omega)] at he; rw [if_neg (by omega), if_pos (by omega)]; omega
theorem hexV_great {c : UInt8} {k : Nat} (hk : 15 < k) (h22 : k < 22) (he : num22 k = (c.toNat : Int)) : (k : Int) - 6 = hexV c := by
  unfold num22 at he
  rw [if_neg (by omega), if_neg (by omega)] at he
  unfold hexV
  rw [if_neg (by omega), if_neg (by omega), if_pos (by omega)]; omega
theorem hexV_not {c : UInt8} (h : NotTo22 (c.toNat : Int) 22) : -1 = hexV c := by
  unfold hexV
  by_cases h1 : 48 ≤ c.toNat ∧ c.toNat ≤ 57
  · exfalso
    refine h (c.toNat - 48) (by omega) ?_
    unfold num22; rw [if_pos (by omega)]; omega
  · by_cases h2 : 65 ≤ c.toNat ∧ c.toNat ≤ 70
    · exfalso
      refine h (c.toNat - 55) (by omega) ?_
      unfold num22; rw [if_neg (by omega), if_pos (by omega)]; omega
    · by_cases h3 : 97 ≤ c.toNat ∧ c.toNat ≤ 102
      · exfalso
        refine h (c.toNat - 81) (by omega) ?_
        unfold num22; rw [if_neg (by omega), if_neg (by omega)]; omega
      · rw [if_neg h1, if_neg h2, if_neg h3]
set_option maxHeartbeats 1000000 in
theorem refDigit_any (c : UInt8) (w : World) :
    Calls Tryz.prog 105 #[.int .u8 (c.toNat : Int)] w fun e w' => e = .returned (.int .i64 (hexV c)) ∧ w' = w := by
  go_enter Tryz.func105, Tryz.ntmps105
  go_wp2_with fail
  go_loop [4] (fun i => ∃ k : Nat, k ≤ 22 ∧ i = .int .i64 k ∧ NotTo22 (c.toNat : Int) k) (fun i => 22 - (intOf i).toNat)
  case atStart => exact ⟨0, Nat.zero_le _, rfl, fun j hj => absurd hj (Nat.not_lt_zero _)⟩
  case round =>
    obtain ⟨k, hk, rfl, hn⟩ := hrel
    have HN := hide hn
    clear hn
    by_cases hlt : k < 22
    · by_cases he : num22 k = (c.toNat : Int)
      · have q : ((((⟨#[48, 49, 50, 51, 52, 53, 54, 55, 56, 57, 65, 66, 67, 68, 69, 70, 97, 98, 99, 100, 101, 102]⟩ : ByteArray)[k]'hlt).toNat : Int) == (c.toNat : Int)) = true := by rw [at22 k hlt]; simpa using he
        by_cases h15 : k ≤ 15
        · have HV := hide (hexV_small h15 he)
          clear he
          go_wp2
          go_ret
          exact ⟨ret_int HV.out, rfl⟩
        · have HV := hide (hexV_great (by omega) hlt he)
          have h16 : (15 : Int) < (k : Int) := by omega
          clear he
          go_wp2
          go_ret
          exact ⟨ret_int HV.out, rfl⟩
      · have q : ((((⟨#[48, 49, 50, 51, 52, 53, 54, 55, 56, 57, 65, 66, 67, 68, 69, 70, 97, 98, 99, 100, 101, 102]⟩ : ByteArray)[k]'hlt).toNat : Int) == (c.toNat : Int)) = false := by rw [at22 k hlt]; simpa using he
        have HV := hide (notTo22_succ HN.out he)
        clear he
        go_wp2
        go_round
        case rel => exact ⟨k + 1, by omega, by go_num, HV.out⟩
        case measure => simp [intOf]; omega
    · have e : k = 22 := by omega
      subst e
      have HV := hide (hexV_not HN.out)
      go_wp2
      go_ret
      exact ⟨ret_int HV.out, rfl⟩
end Go.Proofs.YtfjfkkbgkjmghaaGreatDoor

namespace Go.Proofs.YtfjfkkbgkjmghaaGreatDoor
open Go.RowKit
set_option maxRecDepth 100000
theorem simple_short {s : ByteArray} (h : ¬ s.size = 7) : simpleL s.data.toList = false := by
  cases e : simpleL s.data.toList with
  | false => rfl
  | true => exact absurd (simple_at.1 e).1 h
theorem simple_sign {s : ByteArray} (h : ¬ byteAt s 0 = 35) : simpleL s.data.toList = false := by
  cases e : simpleL s.data.toList with
  | false => rfl
  | true => exact absurd (simple_at.1 e).2.1 h
theorem simple_digit {s : ByteArray} {k : Nat} (h1 : 1 ≤ k) (h2 : k < 7) (h : hexV (byteAt s k) < 0) : simpleL s.data.toList = false := by
  cases e : simpleL s.data.toList with
  | false => rfl
  | true =>
    have := (simple_at.1 e).2.2 k h1 h2
    omega
set_option maxHeartbeats 1000000 in
theorem refSimple_any (s : ByteArray) (w : World) (hs : s.size ≤ maxLen) :
    Calls Tryz.prog 79 #[.string s] w fun e w' => e = .returned (.bool (simpleL s.data.toList)) ∧ w' = w := by
  unfold maxLen at hs
  by_cases h7 : s.size = 7
  · have hlt : 0 < s.size := by omega
    have hz : s.size ≤ 7 := by omega
    have hz' : 7 ≤ s.size := by omega
    have b7 : ((s.size : Int) != 7) = false := by simp; omega
    have b7' : ((s.size : Int) == 7) = true := by simp; omega
    by_cases h35 : byteAt s 0 = 35
    · have e0 : (s[0].toNat : Int) = 35 := by rw [byteAt_eq s 0 hlt, h35]; rfl
      have b0 : ((s[0].toNat : Int) != 35) = false := by simp; omega
      have b0' : ((s[0].toNat : Int) == 35) = true := by simp; omega
      have AT := hide (fun (h : ∀ k, 1 ≤ k → k < 7 → 0 ≤ hexV (byteAt s k)) => simple_at.2 ⟨h7, h35, h⟩)
      clear h7 h35 e0
      go_enter Tryz.func79, Tryz.ntmps79
      go_wp2_with fail
      go_loop [3] (fun i => ∃ k : Nat, 1 ≤ k ∧ k ≤ 7 ∧ i = .int .i64 k ∧ Hid (∀ j, 1 ≤ j → j < k → 0 ≤ hexV (byteAt s j))) (fun i => 7 - (intOf i).toNat)
      case atStart => exact ⟨1, by decide, by decide, rfl, fun j h1 h2 => by omega⟩
      case round =>
        obtain ⟨k, k1, k7, rfl, hd⟩ := hrel
        by_cases g : k < 7
        · have hks : k < s.size := by omega
          have HD := hide (refDigit_any s[k] w)
          have eb := byteAt_eq s k hks
          by_cases hx : hexV (byteAt s k) < 0
          · have E := hide (simple_digit k1 g hx)
            rw [← eb] at hx
            clear eb AT hd
            generalize hexV s[k] = v at *
            go_wp2_with fail
            refine HD.out.mono ?_
            rintro e u ⟨rfl, rfl⟩
            go_wp2_with fail
            go_ret
            exact ⟨ret_bool E.out.symm, rfl⟩
          · have hd' : Hid (∀ j, 1 ≤ j → j < k + 1 → 0 ≤ hexV (byteAt s j)) := by
              intro j j1 j2
              rcases Nat.lt_or_ge j k with q | q
              · exact hd.out j j1 q
              · obtain rfl : j = k := by omega
                omega
            have hx' : 0 ≤ hexV (byteAt s k) := by omega
            rw [← eb] at hx'
            clear eb AT hd hx
            generalize hexV s[k] = v at *
            go_wp2_with fail
            refine HD.out.mono ?_
            rintro e u ⟨rfl, rfl⟩
            go_wp2_with fail
            go_round
            case rel => exact ⟨k + 1, by omega, by omega, by go_num, hd'⟩
            case measure => simp [intOf]; omega
        · obtain rfl : k = 7 := by omega
          have E := hide (AT.out hd.out)
          clear AT hd
          go_wp2_with fail
          go_ret
          exact ⟨ret_bool E.out.symm, rfl⟩
    · have E := hide (simple_sign h35)
      have e0 : ¬ (s[0].toNat : Int) = 35 := by
        rw [byteAt_eq s 0 hlt]
        intro x
        exact h35 (UInt8.toNat_inj.1 (by show (byteAt s 0).toNat = 35; omega))
      have b0 : ((s[0].toNat : Int) != 35) = true := by simp; omega
      have b0' : ((s[0].toNat : Int) == 35) = false := by simp; omega
      clear h7 h35 e0
      go_enter Tryz.func79, Tryz.ntmps79
      go_wp2_with fail
      go_ret
      exact ⟨ret_bool E.out.symm, rfl⟩
  · have E := hide (simple_short h7)
    have b7 : ((s.size : Int) != 7) = true := by simp; omega
    have b7' : ((s.size : Int) == 7) = false := by simp; omega
    clear h7
    go_enter Tryz.func79, Tryz.ntmps79
    go_wp2_with fail
    go_ret
    exact ⟨ret_bool E.out.symm, rfl⟩
set_option maxHeartbeats 1000000 in
theorem refClean_any (s : ByteArray) (w : World) (hs : s.size ≤ maxLen) :
    Calls Tryz.prog 50 #[.string s] w fun e w' => e = .returned (.string (txt (cleanL s.data.toList))) ∧ Below w.heap.size w w' := by
  have HS := hide (refSimple_any s w hs)
  cases h : simpleL s.data.toList with
  | true =>
    have h7 := (simple_at.1 h).1
    have HL := hide (refLower_any s w (by omega))
    have E := hide (clean_yes h)
    rw [h] at HS
    clear h h7 hs
    go_enter Tryz.func50, Tryz.ntmps50
    go_wp2_with fail
    refine HS.out.mono ?_
    rintro e u ⟨rfl, rfl⟩
    go_wp2_with fail
    refine HL.out.mono ?_
    rintro e v ⟨rfl, b1⟩
    go_wp2_with fail
    go_ret
    refine ⟨ret_str ?_, b1⟩
    rw [E.out]; rfl
  | false =>
    have E := hide (clean_no h)
    rw [h] at HS
    clear h hs
    go_enter Tryz.func50, Tryz.ntmps50
    go_wp2_with fail
    refine HS.out.mono ?_
    rintro e u ⟨rfl, rfl⟩
    go_wp2_with fail
    go_ret
    refine ⟨ret_str ?_, Below.refl _ _⟩
    rw [E.out]; rfl
end Go.Proofs.YtfjfkkbgkjmghaaGreatDoor

namespace Go.Proofs.YtfjfkkbgkjmghaaGreatDoor
open Go.RowKit
set_option maxRecDepth 100000
def ColTabs (_ : World) : Prop := True
theorem ColTabs.below {w w' : World} (_ : ColTabs w) (_ : Below w.heap.size w w') : ColTabs w' := trivial
theorem dig_is (s : ByteArray) (k : Nat) (h : k < s.size) (h' : k < (lowS s).size) (w : World) :
    Calls Tryz.prog 125 #[.string ⟨#[48, 49, 50, 51, 52, 53, 54, 55, 56, 57, 97, 98, 99, 100, 101, 102]⟩, .int .u8 (((lowS s)[k]'h').toNat : Int)] w fun e w' => e = .returned (.int .i64 (hexV (byteAt s k))) ∧ w' = w := by
  have := indexByte_is digsS ((lowS s)[k]'h') w
  rw [low_at s k h h', digs_low] at this
  rw [low_at s k h h']
  exact this
set_option maxHeartbeats 1000000 in
theorem colSimple_any (s : ByteArray) (w : World) (hs : s.size ≤ maxLen) (_hT : ColTabs w) :
    Calls Tryz.prog 90 #[.string s] w fun e w' => e = .returned (.bool (simpleL s.data.toList)) ∧ Below w.heap.size w w' := by
  by_cases h7 : s.size = 7
  · have hlt : 0 < s.size := by omega
    have hz : s.size ≤ 7 := by omega
    have hz' : 7 ≤ s.size := by omega
    have b7 : ((s.size : Int) != 7) = false := by simp; omega
    have b7' : ((s.size : Int) == 7) = true := by simp; omega
    by_cases h35 : byteAt s 0 = 35
    · have e0 : (s[0].toNat : Int) = 35 := by rw [byteAt_eq s 0 hlt, h35]; rfl
      have b0 : ((s[0].toNat : Int) != 35) = false := by simp; omega
      have b0' : ((s[0].toNat : Int) == 35) = true := by simp; omega
      have AT := hide (fun (h : ∀ k, 1 ≤ k → k < 7 → 0 ≤ hexV (byteAt s k)) => simple_at.2 ⟨h7, h35, h⟩)
      have HL := hide (lower_any s w hs)
      have HI := hide (fun k (h : k < s.size) h' w => dig_is s k h h' w)
      have zl : (lowS s).size = 7 := by rw [lowS_size]; exact h7
      have zl1 : (lowS s).size ≤ 7 := by omega
      have zl2 : 7 ≤ (lowS s).size := by omega
      have SD := hide (fun k h1 h2 h3 => simple_digit (s := s) (k := k) h1 h2 h3)
      clear h7 h35 e0 hs zl
      generalize lowS s = low at *
      go_enter Tryz.func90, Tryz.ntmps90
      go_wp2_with fail
      refine HL.out.mono ?_
      rintro e w1 ⟨rfl, b1⟩
      clear HL
      go_wp2_with fail
      go_loop [4] (fun i => ∃ k : Nat, 1 ≤ k ∧ k ≤ 7 ∧ i = .int .i64 k ∧ Hid (∀ j, 1 ≤ j → j < k → 0 ≤ hexV (byteAt s j))) (fun i => 7 - (intOf i).toNat)
      case atStart => exact ⟨1, by decide, by decide, rfl, fun j h1 h2 => by omega⟩
      case round =>
        obtain ⟨k, k1, k7, rfl, hd⟩ := hrel
        by_cases g : k < 7
        · have hks : k < s.size := by omega
          have hkl : k < low.size := by omega
          have HD := hide (fun w => HI.out k hks hkl w)
          by_cases hx : hexV (byteAt s k) < 0
          · have E := hide (SD.out k k1 g hx)
            clear AT hd HI SD
            generalize hexV (byteAt s k) = v at *
            go_wp2_with fail
            refine (HD.out _).mono ?_
            rintro e u ⟨rfl, rfl⟩
            go_wp2_with fail
            go_ret
            exact ⟨ret_bool E.out.symm, b1⟩
          · have hd' : Hid (∀ j, 1 ≤ j → j < k + 1 → 0 ≤ hexV (byteAt s j)) := by
              intro j j1 j2
              rcases Nat.lt_or_ge j k with q | q
              · exact hd.out j j1 q
              · obtain rfl : j = k := by omega
                omega
            have hx' : 0 ≤ hexV (byteAt s k) := by omega
            clear AT hd hx HI SD
            generalize hexV (byteAt s k) = v at *
            go_wp2_with fail
            refine (HD.out _).mono ?_
            rintro e u ⟨rfl, rfl⟩
            go_wp2_with fail
            go_round
            case rel => exact ⟨k + 1, by omega, by omega, by go_num, hd'⟩
            case measure => simp [intOf]; omega
        · obtain rfl : k = 7 := by omega
          have E := hide (AT.out hd.out)
          clear AT hd HI SD
          go_wp2_with fail
          go_ret
          exact ⟨ret_bool E.out.symm, b1⟩
    · have E := hide (simple_sign h35)
      have e0 : ¬ (s[0].toNat : Int) = 35 := by
        rw [byteAt_eq s 0 hlt]
        intro x
        exact h35 (UInt8.toNat_inj.1 (by show (byteAt s 0).toNat = 35; omega))
      have b0 : ((s[0].toNat : Int) != 35) = true := by simp; omega
      have b0' : ((s[0].toNat : Int) == 35) = false := by simp; omega
      clear h7 h35 e0 hs
      go_enter Tryz.func90, Tryz.ntmps90
      go_wp2_with fail
      go_ret
      exact ⟨ret_bool E.out.symm, Below.refl _ _⟩
  · have E := hide (simple_short h7)
    have b7 : ((s.size : Int) != 7) = true := by simp; omega
    have b7' : ((s.size : Int) == 7) = false := by simp; omega
    clear h7
    unfold maxLen at hs
    go_enter Tryz.func90, Tryz.ntmps90
    go_wp2_with fail
    go_ret
    exact ⟨ret_bool E.out.symm, Below.refl _ _⟩
set_option maxHeartbeats 1000000 in
theorem colClean_any (s : ByteArray) (w : World) (hs : s.size ≤ maxLen) (hT : ColTabs w) :
    Calls Tryz.prog 64 #[.string s] w fun e w' => e = .returned (.string (txt (cleanL s.data.toList))) ∧ Below w.heap.size w w' := by
  have HS := hide (colSimple_any s w hs hT)
  cases h : simpleL s.data.toList with
  | true =>
    have HL := hide (fun w => lower_any s w hs)
    have E := hide (clean_yes h)
    rw [h] at HS
    clear h hs
    go_enter Tryz.func64, Tryz.ntmps64
    go_wp2_with fail
    refine HS.out.mono ?_
    rintro e w1 ⟨rfl, b1⟩
    go_wp2_with fail
    refine (HL.out _).mono ?_
    rintro e v ⟨rfl, b2⟩
    go_wp2_with fail
    go_ret
    refine ⟨ret_str ?_, chain b1 b2⟩
    rw [E.out]; rfl
  | false =>
    have E := hide (clean_no h)
    have HC := hide (fun W => clone_any ⟨#[35, 48, 48, 48, 48, 48, 48]⟩ W (by decide))
    rw [h] at HS
    clear h hs
    go_enter Tryz.func64, Tryz.ntmps64
    go_wp2_with fail
    refine HS.out.mono ?_
    rintro e w1 ⟨rfl, b1⟩
    go_wp2_with fail
    refine (HC.out _).mono ?_
    rintro e w2 ⟨rfl, b2⟩
    go_wp2_with fail
    go_ret
    refine ⟨ret_str ?_, chain b1 b2⟩
    rw [E.out]; rfl

end Go.Proofs.YtfjfkkbgkjmghaaGreatDoor
