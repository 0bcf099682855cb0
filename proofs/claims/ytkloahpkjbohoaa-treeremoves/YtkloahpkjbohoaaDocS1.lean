/- The program's isSmall, isName, isText, called of layer 10; slices.IndexFunc and ContainsFunc of a row of attributes: they answer by the functions of 'DocP'; what lay in the world lies there still. No condition but rows that lie in the world. -/
import Derived.Test.YtkloahpkjbohoaaDocR1
import Derived.Test.YtkloahpkjbohoaaDocX
namespace Go.Proofs.Ytkloahpkjbohoaa
open Go.RowKit

def smI (z : Int) : Bool := decide (97 ≤ z ∧ z ≤ 122)
set_option maxHeartbeats 1000000 in
theorem isSmall_any (z : Int) (w : World) :
    Calls Try.prog 64 #[.int .u8 z] w fun e w' => e = .returned (.bool (smI z)) ∧ w' = w := by
  by_cases a : 97 ≤ z
  · by_cases b : z ≤ 122
    · have E := hide (show smI z = true from decide_eq_true ⟨a, b⟩)
      go_enter Try.func64, Try.ntmps64
      go_wp2_with fail
      go_ret
      exact ⟨ret_bool E.out.symm, rfl⟩
    · have E := hide (show smI z = false from decide_eq_false (fun q => b q.2))
      have d : decide (z ≤ 122) = false := decide_eq_false b
      go_enter Try.func64, Try.ntmps64
      go_wp2_with fail
      go_ret
      exact ⟨ret_bool E.out.symm, rfl⟩
  · have E := hide (show smI z = false from decide_eq_false (fun q => a q.1))
    go_enter Try.func64, Try.ntmps64
    go_wp2_with fail
    go_ret
    exact ⟨ret_bool E.out.symm, rfl⟩

theorem name_short {s : ByteArray} (h : ¬ (0 < s.size ∧ s.size ≤ 20)) : nameOk s = false := by unfold nameOk; rw [decide_eq_false h]; rfl
theorem smI_nat (c : UInt8) : smI (c.toNat : Int) = smallC c := by unfold smI smallC; congr 1; exact propext ⟨fun h => by omega, fun h => by omega⟩
set_option maxHeartbeats 2000000 in
theorem isName_any (s : ByteArray) (w : World) (hs : s.size ≤ maxLen) :
    Calls Try.prog 43 #[.string s] w fun e w' => e = .returned (.bool (nameOk s)) ∧ w' = w := by
  unfold maxLen at hs
  by_cases h1 : s.size < 1
  · have E := hide (name_short (s := s) (by omega))
    have i1 : (s.size : Int) < 1 := by omega
    clear h1
    go_enter Try.func43, Try.ntmps43
    go_wp2_with fail
    go_ret
    exact ⟨ret_bool E.out.symm, rfl⟩
  by_cases h2 : 20 < s.size
  · have E := hide (name_short (s := s) (by omega))
    have i1 : ¬ (s.size : Int) < 1 := by omega
    have i2 : (20 : Int) < (s.size : Int) := by omega
    clear h1 h2
    go_enter Try.func43, Try.ntmps43
    go_wp2_with fail
    go_ret
    exact ⟨ret_bool E.out.symm, rfl⟩
  have i1 : ¬ (s.size : Int) < 1 := by omega
  have i2 : ¬ (20 : Int) < (s.size : Int) := by omega
  have i3 : decide ((20 : Int) < (s.size : Int)) = false := decide_eq_false i2
  have p0 : 0 < s.size := by omega
  have i4 : (0 : Int) < (s.size : Int) := by omega
  have b0 : (0 : Int) ≤ (s[0].toNat : Int) := by omega
  have b1 : (s[0].toNat : Int) ≤ 255 := by have := s[0].toNat_lt; omega
  have HS0 := hide (fun w => isSmall_any (s[0].toNat : Int) w)
  have NO := hide (fun k hk h => name_no (s := s) (k := k) hk h)
  have END := hide (fun h => (name_end (s := s) h).trans (decide_eq_true ⟨p0, by omega⟩))
  cases q0 : smI (s[0].toNat : Int) with
  | false =>
    rw [q0] at HS0
    have E := hide (NO.out 0 p0 (nm_not (by unfold smI at q0; have := of_decide_eq_false q0; omega) (.inl rfl)))
    clear NO END q0
    go_enter Try.func43, Try.ntmps43
    go_wp2_with fail
    refine (HS0.out _).mono ?_
    rintro e w1 ⟨rfl, hw⟩
    obtain rfl : w = w1 := hw.symm
    go_wp2_with fail
    go_ret
    exact ⟨ret_bool E.out.symm, rfl⟩
  | true =>
    rw [q0] at HS0
    have SM0 : Hid (97 ≤ s[0].toNat ∧ s[0].toNat ≤ 122) := by unfold smI at q0; have := of_decide_eq_true q0; show _ ∧ _; omega
    clear q0
    go_enter Try.func43, Try.ntmps43
    go_wp2_with fail
    refine (HS0.out _).mono ?_
    rintro e w1 ⟨rfl, hw⟩
    obtain rfl : w = w1 := hw.symm
    go_wp2_with fail
    go_loop [21] (fun iv => ∃ k : Nat, k ≤ s.size ∧ iv = .int .i64 k ∧ Hid (∀ j (_ : j < s.size), j < k → nmAt j s[j] = true)) (fun iv => s.size - (intOf iv).toNat)
    case atStart => exact ⟨0, Nat.zero_le _, rfl, fun j _ h => by omega⟩
    case round =>
      obtain ⟨k, hk, rfl, hd⟩ := hrel
      clear HS0 b0 b1
      by_cases hlt : k < s.size
      · have hI : (k : Int) < (s.size : Int) := by omega
        have hI0 : (0 : Int) ≤ (k : Int) := by omega
        have NX : nmAt k s[k] = true → Hid (∀ j (_ : j < s.size), j < k + 1 → nmAt j s[j] = true) := by
          intro h j hj hjk
          rcases Nat.lt_or_ge j k with q | q
          · exact hd.out j hj q
          · obtain rfl : j = k := by omega
            exact h
        have K0 : Hid (k = 0 → 97 ≤ s[k].toNat ∧ s[k].toNat ≤ 122) := by intro q; subst q; exact SM0.out
        have BAD := hide (NO.out k hlt)
        have h255 : (s[k].toNat : Int) ≤ 255 := by have := s[k].toNat_lt; omega
        have h000 : (0 : Int) ≤ (s[k].toNat : Int) := by omega
        have HS := hide (fun w => isSmall_any (s[k].toNat : Int) w)
        have NX' := hide NX
        clear hd NO END NX SM0
        cases q : smI (s[k].toNat : Int) with
        | true =>
          rw [q] at HS
          have E := NX'.out (nm_small (by unfold smI at q; have := of_decide_eq_true q; omega))
          clear q NX' BAD K0
          go_wp2_with fail
          refine (HS.out _).mono ?_
          rintro e w1 ⟨rfl, hw⟩
          obtain rfl : w = w1 := hw.symm
          go_wp2_with fail
          go_round
          case rel => exact ⟨k + 1, by omega, by go_num, E⟩
          case measure => simp [intOf]; omega
        | false =>
          rw [q] at HS
          have q2 : ¬ (97 ≤ s[k].toNat ∧ s[k].toNat ≤ 122) := by unfold smI at q; have := of_decide_eq_false q; omega
          have k0 : ¬ k = 0 := fun r => q2 (K0.out r)
          have Q2 := hide q2
          have K1 := hide k0
          clear q q2 k0 K0
          rcases (show s[k].toNat < 48 ∨ (48 ≤ s[k].toNat ∧ s[k].toNat ≤ 57) ∨ 57 < s[k].toNat by omega) with r | r | r
          · have d48 : decide ((48 : Int) ≤ (s[k].toNat : Int)) = false := decide_eq_false (by omega)
            by_cases e45 : s[k].toNat = 45
            · have d45 : ((s[k].toNat : Int) != 45) = false := by rw [e45]; rfl
              have d45' : ((s[k].toNat : Int) == 45) = true := by rw [e45]; rfl
              have E := NX'.out (nm_other K1.out (by omega))
              clear NX' BAD e45 r
              go_wp2_with fail
              refine (HS.out _).mono ?_
              rintro e w1 ⟨rfl, hw⟩
              obtain rfl : w = w1 := hw.symm
              go_wp2_with fail
              go_round
              case rel => exact ⟨k + 1, by omega, by go_num, E⟩
              case measure => simp [intOf]; omega
            · have d45 : ((s[k].toNat : Int) != 45) = true := by rw [bne_iff_ne]; omega
              have d45' : ((s[k].toNat : Int) == 45) = false := by rw [beq_eq_false_iff_ne]; omega
              have E := hide (BAD.out (nm_not Q2.out (.inr (by omega))))
              clear NX' BAD e45 r
              go_wp2_with fail
              refine (HS.out _).mono ?_
              rintro e w1 ⟨rfl, hw⟩
              obtain rfl : w = w1 := hw.symm
              go_wp2_with fail
              go_ret
              exact ⟨ret_bool E.out.symm, rfl⟩
          · have d48 : (48 : Int) ≤ (s[k].toNat : Int) := by omega
            have d57 : (s[k].toNat : Int) ≤ 57 := by omega
            have E := NX'.out (nm_other K1.out (by omega))
            clear NX' BAD r
            go_wp2_with fail
            refine (HS.out _).mono ?_
            rintro e w1 ⟨rfl, hw⟩
            obtain rfl : w = w1 := hw.symm
            go_wp2_with fail
            go_round
            case rel => exact ⟨k + 1, by omega, by go_num, E⟩
            case measure => simp [intOf]; omega
          · have d48 : (48 : Int) ≤ (s[k].toNat : Int) := by omega
            have d57 : decide ((s[k].toNat : Int) ≤ 57) = false := decide_eq_false (by omega)
            have d45 : ((s[k].toNat : Int) != 45) = true := by rw [bne_iff_ne]; omega
            have d45' : ((s[k].toNat : Int) == 45) = false := by rw [beq_eq_false_iff_ne]; omega
            have E := hide (BAD.out (nm_not Q2.out (.inr (by omega))))
            clear NX' BAD r
            go_wp2_with fail
            refine (HS.out _).mono ?_
            rintro e w1 ⟨rfl, hw⟩
            obtain rfl : w = w1 := hw.symm
            go_wp2_with fail
            go_ret
            exact ⟨ret_bool E.out.symm, rfl⟩
      · obtain rfl : k = s.size := by omega
        have E := hide (END.out (fun j hj => hd.out j hj hj))
        clear NO END hd SM0 hlt
        go_wp2_with fail
        go_ret
        exact ⟨ret_bool E.out.symm, rfl⟩

def noName (n : ByteArray) : Bool := n.size == 0
theorem noName_true {n : ByteArray} (h : noName n = true) : n = ⟨#[]⟩ := by
  unfold noName at h
  have h : n.size = 0 := beq_iff_eq.1 h
  have h2 : n.data.size = 0 := h
  cases n with
  | mk d =>
    have h2 : d.size = 0 := h2
    obtain rfl : d = #[] := Array.eq_empty_of_size_eq_zero h2
    rfl
theorem noName_false {n : ByteArray} (h : noName n = false) : ¬ n.toList = [] := by
  rw [ByteArray.toList_eq]
  intro q
  have : n.data = #[] := by cases hd : n.data with | mk d => rw [hd] at q; have q : d = [] := q; rw [q]
  have h2 : n.size = 0 := by show n.data.size = 0; rw [this]; rfl
  unfold noName at h
  rw [h2] at h
  cases h
set_option maxHeartbeats 1000000 in
theorem isText_any (a0 a1 : ByteArray) (va : Value) (p : Int) (vk : Value) (w : World) :
    Calls Try.prog 37 #[.agg #[.string a0, .string a1, va, .int .i64 p, vk]] w fun e w' => e = .returned (.bool (noName a0)) ∧ Below w.heap.size w w' := by
  cases q : noName a0 with
  | true =>
    obtain rfl := noName_true q
    go_enter Try.func37, Try.ntmps37
    go_wp2_with fail
    go_ret
    exact ⟨rfl, (Below.refl _ w).alloc (Nat.le_refl _) _⟩
  | false =>
    have e1 := noName_false q
    have e2 : a0.toList.isEmpty = false := by cases h : a0.toList with
      | nil => exact absurd h e1
      | cons => rfl
    have e3 : (a0.toList == []) = false := by rw [beq_eq_false_iff_ne]; exact e1
    clear q
    go_enter Try.func37, Try.ntmps37
    go_wp2_with fail
    go_ret
    exact ⟨rfl, (Below.refl _ w).alloc (Nat.le_refl _) _⟩

end Go.Proofs.Ytkloahpkjbohoaa
