/- The program's letters and digits, texts made of signs, labels of mail: they answer by the functions of 'Mail' and 'Cuts'; the world is as it was. Condition: texts of at most 2^62 bytes. -/
import Derived.Test.YtbnlliiimfjbpaaDoorRows
import Derived.Test.YtbnlliiimfjbpaaDoorMailLib
namespace Go.Proofs.YtbnlliiimfjbpaaDoor
open Go.RowKit

set_option maxHeartbeats 400000 in
theorem letDig_any (c : UInt8) (w : World) :
    Calls Tryd.prog 30 #[.int .u8 (c.toNat : Int)] w fun e w' => e = .returned (.bool (plainB c)) ∧ w' = w := by
  unfold plainB
  rcases (show (c.toNat < 48) ∨ (48 ≤ c.toNat ∧ c.toNat ≤ 57) ∨ (57 < c.toNat ∧ c.toNat < 65) ∨ (65 ≤ c.toNat ∧ c.toNat ≤ 90) ∨ (90 < c.toNat ∧ c.toNat < 97) ∨ (97 ≤ c.toNat ∧ c.toNat ≤ 122) ∨ (122 < c.toNat) by omega) with h | ⟨h, g⟩ | ⟨h, g⟩ | ⟨h, g⟩ | ⟨h, g⟩ | ⟨h, g⟩ | h
  · rw [decide_eq_false (by omega)]
    go_enter Tryd.func30, Tryd.ntmps30
    go_wp2
    go_ret
    exact ⟨ret_bool (by first | rfl | (simp; omega)), rfl⟩
  · rw [decide_eq_true (by omega)]
    go_enter Tryd.func30, Tryd.ntmps30
    go_wp2
    go_ret
    exact ⟨ret_bool (by first | rfl | (simp; omega)), rfl⟩
  · rw [decide_eq_false (by omega)]
    go_enter Tryd.func30, Tryd.ntmps30
    go_wp2
    go_ret
    exact ⟨ret_bool (by first | rfl | (simp; omega)), rfl⟩
  · rw [decide_eq_true (by omega)]
    go_enter Tryd.func30, Tryd.ntmps30
    go_wp2
    go_ret
    exact ⟨ret_bool (by first | rfl | (simp; omega)), rfl⟩
  · rw [decide_eq_false (by omega)]
    go_enter Tryd.func30, Tryd.ntmps30
    go_wp2
    go_ret
    exact ⟨ret_bool (by first | rfl | (simp; omega)), rfl⟩
  · rw [decide_eq_true (by omega)]
    go_enter Tryd.func30, Tryd.ntmps30
    go_wp2
    go_ret
    exact ⟨ret_bool (by first | rfl | (simp; omega)), rfl⟩
  · rw [decide_eq_false (by omega)]
    go_enter Tryd.func30, Tryd.ntmps30
    go_wp2
    go_ret
    exact ⟨ret_bool (by first | rfl | (simp; omega)), rfl⟩

theorem made_at {more : List UInt8} {s : ByteArray} {k : Nat} (hk : k < s.size) (h : madeC more s[k] = false) : madeL more s.data.toList = false := by
  unfold madeL
  rw [List.all_eq_false]
  refine ⟨s[k], ?_, by rw [h]; simp⟩
  have e : s[k] = s.data.toList[k]'(by simpa using hk) := by simp; rfl
  rw [e]; exact List.getElem_mem _
theorem made_all {more : List UInt8} {s : ByteArray} (h : ∀ k (hk : k < s.size), madeC more s[k] = true) : madeL more s.data.toList = true := by
  unfold madeL
  rw [List.all_eq_true]
  intro c hc
  obtain ⟨k, hk, rfl⟩ := List.getElem_of_mem hc
  have hk2 : k < s.size := by simpa using hk
  have := h k hk2
  rw [show s[k] = s.data.toList[k] by simp; rfl] at this
  exact this
set_option maxHeartbeats 1000000 in
theorem madeOf_any (s more : ByteArray) (w : World) (hs : s.size ≤ 4611686018427387904) :
    Calls Tryd.prog 18 #[.string s, .string more] w fun e w' => e = .returned (.bool (madeL more.data.toList s.data.toList)) ∧ w' = w := by
  have ALL := hide (fun h => made_all (more := more.data.toList) (s := s) h)
  have BAD := hide (fun k hk h => made_at (more := more.data.toList) (s := s) (k := k) hk h)
  have HP := hide (fun c w => letDig_any c w)
  have HI := hide (fun c w => indexByte_is more c w)
  go_enter Tryd.func18, Tryd.ntmps18
  go_wp2_with fail
  go_loop [8] (fun i => ∃ k : Nat, k ≤ s.size ∧ i = .int .i64 k ∧ Hid (∀ j (hj : j < s.size), j < k → madeC more.data.toList s[j] = true)) (fun i => s.size - (intOf i).toNat)
  case atStart => exact ⟨0, Nat.zero_le _, rfl, fun j _ h => by omega⟩
  case round =>
    obtain ⟨k, hk, rfl, hd⟩ := hrel
    by_cases hlt : k < s.size
    · have hbnd := hlt
      have HPk := hide (fun w => HP.out s[k] w)
      have HIk := hide (fun w => HI.out s[k] w)
      have hI : (k : Int) < (s.size : Int) := by omega
      have NX : madeC more.data.toList s[k] = true → Hid (∀ j (hj : j < s.size), j < k + 1 → madeC more.data.toList s[j] = true) := by
        intro h j hj hjk
        rcases Nat.lt_or_ge j k with q | q
        · exact hd.out j hj q
        · obtain rfl : j = k := by omega
          exact h
      have hU : madeC more.data.toList s[k] = (plainB s[k] || hasB more.data.toList s[k]) := rfl
      have BADk := BAD.out k hlt
      cases hp : plainB s[k] with
      | true =>
        have E := NX (by rw [hU, hp]; rfl)
        rw [hp] at HPk
        clear NX BADk hU hp HIk HP HI hd ALL BAD
        go_wp2_with fail
        refine (HPk.out _).mono ?_
        rintro e u ⟨rfl, rfl⟩
        go_wp2_with fail
        go_round
        case rel => exact ⟨k + 1, by omega, by go_num, E⟩
        case measure => simp [intOf]; omega
      | false =>
        rw [hp] at HPk
        cases hi : hasB more.data.toList s[k] with
        | true =>
          have E := NX (by rw [hU, hp, hi]; rfl)
          have ix := index_yes hi
          clear NX BADk hU hp hi HP HI hd ALL BAD
          generalize Lib.indexByte more.data.toList s[k] = v at *
          go_wp2_with fail
          refine (HPk.out _).mono ?_
          rintro e u ⟨rfl, rfl⟩
          go_wp2_with fail
          refine (HIk.out _).mono ?_
          rintro e u ⟨rfl, rfl⟩
          go_wp2_with fail
          go_round
          case rel => exact ⟨k + 1, by omega, by go_num, E⟩
          case measure => simp [intOf]; omega
        | false =>
          have E := hide (BADk (by rw [hU, hp, hi]; rfl))
          have ix := index_no hi
          clear NX BADk hU hp hi HP HI hd ALL BAD
          generalize Lib.indexByte more.data.toList s[k] = v at *
          go_wp2_with fail
          refine (HPk.out _).mono ?_
          rintro e u ⟨rfl, rfl⟩
          go_wp2_with fail
          refine (HIk.out _).mono ?_
          rintro e u ⟨rfl, rfl⟩
          go_wp2_with fail
          go_ret
          exact ⟨ret_bool E.out.symm, rfl⟩
    · obtain rfl : k = s.size := by omega
      have E := hide (ALL.out (fun j hj => hd.out j hj hj))
      clear hd HP HI ALL BAD
      go_wp2_with fail
      go_ret
      exact ⟨ret_bool E.out.symm, rfl⟩

theorem getD_at (s : ByteArray) (k : Nat) (h : k < s.size) : s.data.toList.getD k 0 = s[k] := by
  show byteAt s k = _
  exact (byteAt_eq s k h).symm
theorem at_45 {a : UInt8} : ((a.toNat : Int) != 45) = (a != 45) := by
  rw [Bool.eq_iff_iff, bne_iff_ne, bne_iff_ne]
  constructor
  · intro h e; subst e; exact h rfl
  · intro h e; exact h (UInt8.toNat_inj.1 (by show a.toNat = 45; omega))
set_option maxHeartbeats 1000000 in
theorem isLabel_any (s : ByteArray) (w : World) (hs : s.size ≤ 4611686018427387904) :
    Calls Tryd.prog 32 #[.string s] w fun e w' => e = .returned (.bool (labelL s.data.toList)) ∧ w' = w := by
  have hl : s.data.toList.length = s.size := by simp
  by_cases h1 : s.size < 1
  · have E := hide (label_short (l := s.data.toList) (by omega))
    have i1 : (s.size : Int) < 1 := by omega
    clear hl h1
    go_enter Tryd.func32, Tryd.ntmps32
    go_wp2_with fail
    go_ret
    exact ⟨ret_bool E.out.symm, rfl⟩
  · by_cases h2 : 63 < s.size
    · have E := hide (label_short (l := s.data.toList) (by omega))
      have i1 : ¬ (s.size : Int) < 1 := by omega
      have i2 : (63 : Int) < (s.size : Int) := by omega
      clear hl h1 h2
      go_enter Tryd.func32, Tryd.ntmps32
      go_wp2_with fail
      go_ret
      exact ⟨ret_bool E.out.symm, rfl⟩
    · have z0 : 0 < s.size := by omega
      have z1 : s.size - 1 < s.size := by omega
      have E := label_made (l := s.data.toList) (by omega) (by omega)
      rw [hl, getD_at s 0 z0, getD_at s (s.size - 1) z1] at E
      have HM := hide (fun w => madeOf_any s ⟨#[45]⟩ w hs)
      rw [show (⟨#[45]⟩ : ByteArray).data.toList = [45] from rfl] at HM
      have i1 : ¬ (s.size : Int) < 1 := by omega
      have i2 : ¬ (63 : Int) < (s.size : Int) := by omega
      have i3 : (s.size : Int) ≤ 63 := by omega
      have i4 : 1 ≤ (s.size : Int) := by omega
      clear hl h1 h2
      have a0 := at_45 (a := s[0])
      have a1 := at_45 (a := s[s.size - 1])
      cases g0 : (s[0] != 45) with
      | false =>
        rw [g0] at E a0
        simp only [Bool.false_and] at E
        replace E := hide E
        clear g0 a1
        go_enter Tryd.func32, Tryd.ntmps32
        go_wp2_with fail
        go_ret
        exact ⟨ret_bool E.out.symm, rfl⟩
      | true =>
        cases g1 : (s[s.size - 1] != 45) with
        | false =>
          rw [g0, g1] at E
          rw [g0] at a0
          rw [g1] at a1
          simp only [Bool.and_false, Bool.false_and] at E
          replace E := hide E
          clear g0 g1
          go_enter Tryd.func32, Tryd.ntmps32
          go_wp2_with fail
          go_ret
          exact ⟨ret_bool E.out.symm, rfl⟩
        | true =>
          rw [g0, g1] at E
          rw [g0] at a0
          rw [g1] at a1
          simp only [Bool.true_and] at E
          replace E := hide E
          clear g0 g1
          go_enter Tryd.func32, Tryd.ntmps32
          go_wp2_with fail
          refine (HM.out _).mono ?_
          rintro e u ⟨rfl, rfl⟩
          go_wp2_with fail
          go_ret
          exact ⟨ret_bool E.out.symm, rfl⟩

end Go.Proofs.YtbnlliiimfjbpaaDoor
