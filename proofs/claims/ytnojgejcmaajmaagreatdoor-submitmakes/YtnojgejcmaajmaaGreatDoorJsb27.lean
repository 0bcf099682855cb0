/- The program's Fit, toldType, breaks, carried, quote, unquote of layer 20. The program's Encode, Split of layer 21. The program's quote, unquote and part of layer 20. -/
import Derived.Test.YtnojgejcmaajmaaGreatDoorJsb17

namespace Go.Proofs.YtnojgejcmaajmaaGreatDoor
open Go.RowKit
set_option maxRecDepth 100000
theorem txt_is (s : ByteArray) : txt (bL s) = s := by
  show (⟨s.data.toList.toArray⟩ : ByteArray) = s
  rw [Array.toArray_toList]
set_option maxHeartbeats 8000000 in
theorem mayStand_any (c : UInt8) (w : World) :
    Calls Tryz.prog 100 #[.int .u8 (c.toNat : Int)] w fun e w' => e = .returned (.bool (fitC c)) ∧ w' = w := by
  have E : Hid (fitC c = (decide (48 ≤ c.toNat ∧ c.toNat ≤ 57 ∨ 65 ≤ c.toNat ∧ c.toNat ≤ 90 ∨ 97 ≤ c.toNat ∧ c.toNat ≤ 122) || c == 45)) := rfl
  have Q : (c == 45) = decide (c.toNat = 45) := by
    rw [Bool.eq_iff_iff, beq_iff_eq, decide_eq_true_eq]
    exact ⟨fun h => by rw [h]; rfl, fun h => UInt8.toNat_inj.1 h⟩
  rw [Q] at E
  generalize fitC c = R at *
  generalize c.toNat = x at *
  clear Q
  have YES : Hid ((97 ≤ x ∧ x ≤ 122) ∨ (65 ≤ x ∧ x ≤ 90) ∨ (48 ≤ x ∧ x ≤ 57) ∨ x = 45 → true = R) := fun h => by
    rw [E.out]
    symm
    simp only [Bool.or_eq_true, decide_eq_true_eq]
    omega
  have NO : Hid (¬ ((97 ≤ x ∧ x ≤ 122) ∨ (65 ≤ x ∧ x ≤ 90) ∨ (48 ≤ x ∧ x ≤ 57) ∨ x = 45) → false = R) := fun h => by
    rw [E.out]
    symm
    rw [Bool.or_eq_false_iff]
    exact ⟨decide_eq_false (by omega), decide_eq_false (by omega)⟩
  clear E
  by_cases a1 : 97 ≤ x
  · have i1 : (97 : Int) ≤ (x : Int) := by omega
    have d1 : decide ((97 : Int) ≤ (x : Int)) = true := decide_eq_true i1
    by_cases a2 : x ≤ 122
    · have i2 : (x : Int) ≤ 122 := by omega
      have d2 : decide ((x : Int) ≤ 122) = true := decide_eq_true i2
      have RR := hide (YES.out (by omega))
      clear YES NO a1 a2
      go_enter Tryz.func100, Tryz.ntmps100
      go_wp2_with fail
      go_ret
      exact ⟨ret_bool RR.out, rfl⟩
    · have i2 : ¬ (x : Int) ≤ 122 := by omega
      have d2 : decide ((x : Int) ≤ 122) = false := decide_eq_false i2
      have i3 : (65 : Int) ≤ (x : Int) := by omega
      have i4 : ¬ (x : Int) ≤ 90 := by omega
      have i5 : (48 : Int) ≤ (x : Int) := by omega
      have i6 : ¬ (x : Int) ≤ 57 := by omega
      have i7 : ((x : Int) == 45) = false := by rw [beq_eq_false_iff_ne]; omega
      have d3 : decide ((65 : Int) ≤ (x : Int)) = true := decide_eq_true i3
      have d4 : decide ((x : Int) ≤ 90) = false := decide_eq_false i4
      have d5 : decide ((48 : Int) ≤ (x : Int)) = true := decide_eq_true i5
      have d6 : decide ((x : Int) ≤ 57) = false := decide_eq_false i6
      have RR := hide (NO.out (by omega))
      clear YES NO a1 a2
      go_enter Tryz.func100, Tryz.ntmps100
      go_wp2_with fail
      go_ret
      exact ⟨ret_bool RR.out, rfl⟩
  · have i1 : ¬ (97 : Int) ≤ (x : Int) := by omega
    have d1 : decide ((97 : Int) ≤ (x : Int)) = false := decide_eq_false i1
    by_cases a3 : 65 ≤ x
    · have i3 : (65 : Int) ≤ (x : Int) := by omega
      have d3 : decide ((65 : Int) ≤ (x : Int)) = true := decide_eq_true i3
      by_cases a4 : x ≤ 90
      · have i4 : (x : Int) ≤ 90 := by omega
        have d4 : decide ((x : Int) ≤ 90) = true := decide_eq_true i4
        have RR := hide (YES.out (by omega))
        clear YES NO a1 a3 a4
        go_enter Tryz.func100, Tryz.ntmps100
        go_wp2_with fail
        go_ret
        exact ⟨ret_bool RR.out, rfl⟩
      · have i4 : ¬ (x : Int) ≤ 90 := by omega
        have d4 : decide ((x : Int) ≤ 90) = false := decide_eq_false i4
        have i5 : (48 : Int) ≤ (x : Int) := by omega
        have i6 : ¬ (x : Int) ≤ 57 := by omega
        have d5 : decide ((48 : Int) ≤ (x : Int)) = true := decide_eq_true i5
        have d6 : decide ((x : Int) ≤ 57) = false := decide_eq_false i6
        have i7 : ((x : Int) == 45) = false := by rw [beq_eq_false_iff_ne]; omega
        have RR := hide (NO.out (by omega))
        clear YES NO a1 a3 a4
        go_enter Tryz.func100, Tryz.ntmps100
        go_wp2_with fail
        go_ret
        exact ⟨ret_bool RR.out, rfl⟩
    · have i3 : ¬ (65 : Int) ≤ (x : Int) := by omega
      have d3 : decide ((65 : Int) ≤ (x : Int)) = false := decide_eq_false i3
      by_cases a5 : 48 ≤ x
      · have i5 : (48 : Int) ≤ (x : Int) := by omega
        have d5 : decide ((48 : Int) ≤ (x : Int)) = true := decide_eq_true i5
        by_cases a6 : x ≤ 57
        · have i6 : (x : Int) ≤ 57 := by omega
          have d6 : decide ((x : Int) ≤ 57) = true := decide_eq_true i6
          have RR := hide (YES.out (by omega))
          clear YES NO a1 a3 a5 a6
          go_enter Tryz.func100, Tryz.ntmps100
          go_wp2_with fail
          go_ret
          exact ⟨ret_bool RR.out, rfl⟩
        · have i6 : ¬ (x : Int) ≤ 57 := by omega
          have d6 : decide ((x : Int) ≤ 57) = false := decide_eq_false i6
          have i7 : ((x : Int) == 45) = false := by rw [beq_eq_false_iff_ne]; omega
          have RR := hide (NO.out (by omega))
          clear YES NO a1 a3 a5 a6
          go_enter Tryz.func100, Tryz.ntmps100
          go_wp2_with fail
          go_ret
          exact ⟨ret_bool RR.out, rfl⟩
      · have i5 : ¬ (48 : Int) ≤ (x : Int) := by omega
        have d5 : decide ((48 : Int) ≤ (x : Int)) = false := decide_eq_false i5
        by_cases a7 : x = 45
        · have i7 : ((x : Int) == 45) = true := by rw [beq_iff_eq]; omega
          have RR := hide (YES.out (by omega))
          clear YES NO a1 a3 a5 a7
          go_enter Tryz.func100, Tryz.ntmps100
          go_wp2_with fail
          go_ret
          exact ⟨ret_bool RR.out, rfl⟩
        · have i7 : ((x : Int) == 45) = false := by rw [beq_eq_false_iff_ne]; omega
          have RR := hide (NO.out (by omega))
          clear YES NO a1 a3 a5 a7
          go_enter Tryz.func100, Tryz.ntmps100
          go_wp2_with fail
          go_ret
          exact ⟨ret_bool RR.out, rfl⟩
set_option maxHeartbeats 8000000 in
theorem ptFitW_any (b : ByteArray) (w : World) (hs : b.size ≤ 1099511627776) :
    Calls Tryz.prog 47 #[.string b] w fun e w' => e = .returned (.bool (fitL (bL b))) ∧ w' = w := by
  have LB := hide (len_bL b)
  have E : Hid (fitL (bL b) = ((bL b).all fitC && decide (0 < (bL b).length ∧ (bL b).length ≤ 70))) := rfl
  rw [LB.out] at E
  by_cases h0 : b.size = 0
  · have n1 : b.toList = [] := by rw [ByteArray.toList_eq]; exact List.eq_nil_of_length_eq_zero (by rw [← h0, ← LB.out])
    have n2 : b.toList.isEmpty = true := by rw [n1]; rfl
    rw [decide_eq_false (fun t => by omega), Bool.and_false] at E
    clear LB h0
    go_enter Tryz.func47, Tryz.ntmps47
    go_wp2_with fail
    go_ret
    exact ⟨ret_bool E.out.symm, rfl⟩
  · have n1 : ¬ b.toList = [] := by
      rw [ByteArray.toList_eq]; intro e
      have := LB.out
      have e : bL b = [] := e
      rw [e] at this
      exact h0 this.symm
    have n2 : b.toList.isEmpty = false := by
      cases g : b.toList.isEmpty with
      | false => rfl
      | true => exact absurd (List.isEmpty_iff.1 g) n1
    by_cases h7 : 70 < b.size
    · have d7 : decide ((70 : Int) < (b.size : Int)) = true := decide_eq_true (by omega)
      rw [decide_eq_false (fun t => by omega), Bool.and_false] at E
      clear LB h0 h7
      go_enter Tryz.func47, Tryz.ntmps47
      go_wp2_with fail
      go_ret
      exact ⟨ret_bool E.out.symm, rfl⟩
    · have d7 : decide ((70 : Int) < (b.size : Int)) = false := decide_eq_false (by omega)
      rw [decide_eq_true ⟨by omega, by omega⟩, Bool.and_true] at E
      go_enter Tryz.func47, Tryz.ntmps47
      go_wp2_with fail
      go_loop [13] (fun iv => ∃ k : Nat, k ≤ b.size ∧ iv = .int .i64 k ∧ Hid (((bL b).take k).all fitC = true)) (fun iv => b.size - (intOf iv).toNat)
      case atStart => exact ⟨0, Nat.zero_le _, rfl, rfl⟩
      case round =>
        obtain ⟨k, hk, rfl, HA⟩ := hrel
        by_cases g : k < b.size
        · have k1 : (k : Int) < (b.size : Int) := by omega
          have k0 : (0 : Int) ≤ (k : Int) := by omega
          have hl : k < (bL b).length := by rw [LB.out]; exact g
          have TK := hide (all_takeP fitC (bL b) hl)
          rw [at_bL g, HA.out, Bool.true_and] at TK
          have NO : Hid (fitC b[k] = false → fitL (bL b) = false) := fun t => by
            rw [E.out]
            exact List.all_eq_false.2 ⟨(bL b)[k], List.getElem_mem hl, by rw [at_bL g, t]; decide⟩
          have HM := hide (fun W => mayStand_any b[k] W)
          clear HA E LB
          cases p : fitC b[k] with
          | true =>
            rw [p] at HM TK
            clear NO p
            go_wp2_with fail
            refine (HM.out _).mono ?_
            rintro e w1 ⟨rfl, hu⟩
            obtain rfl := hu.symm
            go_wp2_with fail
            go_round
            case rel => exact ⟨k + 1, by omega, by go_num, TK⟩
            case measure => simp [intOf]; omega
          | false =>
            rw [p] at HM
            have RN := hide (NO.out p)
            clear NO p TK
            go_wp2_with fail
            refine (HM.out _).mono ?_
            rintro e w1 ⟨rfl, hu⟩
            obtain rfl := hu.symm
            go_wp2_with fail
            go_ret
            exact ⟨ret_bool RN.out.symm, rfl⟩
        · obtain rfl : k = b.size := by omega
          rw [List.take_of_length_le (by rw [LB.out]; omega)] at HA
          rw [HA.out] at E
          clear HA LB
          go_wp2_with fail
          go_ret
          exact ⟨ret_bool E.out.symm, rfl⟩
set_option maxHeartbeats 8000000 in
theorem toldType_any (s : ByteArray) (w : World) (hs : s.size ≤ 1099511627776) :
    Calls Tryz.prog 225 #[.string s] w fun e w' => e = .returned (.string (txt (typeL (bL s)))) ∧ w' = w := by
  have LB := hide (len_bL s)
  have EB : Hid ((bL s).any badT = true ∨ bL s = [] → txt (typeL (bL s)) = ⟨#[97, 112, 112, 108, 105, 99, 97, 116, 105, 111, 110, 47, 111, 99, 116, 101, 116, 45, 115, 116, 114, 101, 97, 109]⟩) := fun h => by unfold typeL; rw [if_pos h]; rfl
  have EG : Hid (¬ ((bL s).any badT = true ∨ bL s = []) → txt (typeL (bL s)) = s) := fun h => by unfold typeL; rw [if_neg h]; rfl
  by_cases h0 : s.size = 0
  · have n1 : s.toList = [] := by rw [ByteArray.toList_eq]; exact List.eq_nil_of_length_eq_zero (by rw [← h0, ← LB.out])
    have n2 : s.toList.isEmpty = true := by rw [n1]; rfl
    have R1 := hide (EB.out (.inr (List.eq_nil_of_length_eq_zero (by rw [LB.out]; exact h0))))
    clear EB EG LB h0
    go_enter Tryz.func225, Tryz.ntmps225
    go_wp2_with fail
    go_ret
    exact ⟨ret_txt R1.out.symm, rfl⟩
  · have n1 : ¬ s.toList = [] := by
      rw [ByteArray.toList_eq]; intro e
      have := LB.out
      have e : bL s = [] := e
      rw [e] at this
      exact h0 this.symm
    have n2 : s.toList.isEmpty = false := by
      cases g : s.toList.isEmpty with
      | false => rfl
      | true => exact absurd (List.isEmpty_iff.1 g) n1
    go_enter Tryz.func225, Tryz.ntmps225
    go_wp2_with fail
    go_loop [8] (fun iv => ∃ k : Nat, k ≤ s.size ∧ iv = .int .i64 k ∧ Hid (((bL s).take k).any badT = false)) (fun iv => s.size - (intOf iv).toNat)
    case atStart => exact ⟨0, Nat.zero_le _, rfl, rfl⟩
    case round =>
      obtain ⟨k, hk, rfl, HA⟩ := hrel
      by_cases g : k < s.size
      · have k1 : (k : Int) < (s.size : Int) := by omega
        have k0 : (0 : Int) ≤ (k : Int) := by omega
        have hl : k < (bL s).length := by rw [LB.out]; exact g
        have TK := hide (any_takeP badT (bL s) hl)
        rw [at_bL g, HA.out, Bool.false_or] at TK
        have YES : Hid (badT s[k] = true → txt (typeL (bL s)) = ⟨#[97, 112, 112, 108, 105, 99, 97, 116, 105, 111, 110, 47, 111, 99, 116, 101, 116, 45, 115, 116, 114, 101, 97, 109]⟩) := fun t => EB.out (.inl (List.any_eq_true.2 ⟨(bL s)[k], List.getElem_mem hl, by rw [at_bL g]; exact t⟩))
        have EC : Hid (badT s[k] = decide (s[k].toNat < 32 ∨ 126 < s[k].toNat)) := rfl
        clear HA EB EG LB
        by_cases q0 : s[k].toNat < 32
        · have d0 : decide ((s[k].toNat : Int) < 32) = true := decide_eq_true (by omega)
          have i0 : (s[k].toNat : Int) < 32 := by omega
          have R1 := hide (YES.out (by rw [EC.out]; exact decide_eq_true (.inl q0)))
          clear YES EC TK q0
          go_wp2_with fail
          go_ret
          exact ⟨ret_txt R1.out.symm, rfl⟩
        · have d0 : decide ((s[k].toNat : Int) < 32) = false := decide_eq_false (by omega)
          have i0 : ¬ (s[k].toNat : Int) < 32 := by omega
          by_cases q1 : 126 < s[k].toNat
          · have d1 : decide (126 < (s[k].toNat : Int)) = true := decide_eq_true (by omega)
            have i1 : 126 < (s[k].toNat : Int) := by omega
            have R1 := hide (YES.out (by rw [EC.out]; exact decide_eq_true (.inr q1)))
            clear YES EC TK q0 q1
            go_wp2_with fail
            go_ret
            exact ⟨ret_txt R1.out.symm, rfl⟩
          · have d1 : decide (126 < (s[k].toNat : Int)) = false := decide_eq_false (by omega)
            have i1 : ¬ 126 < (s[k].toNat : Int) := by omega
            rw [EC.out, decide_eq_false (fun t => t.elim q0 q1)] at TK
            clear YES EC q0 q1
            go_wp2_with fail
            go_round
            case rel => exact ⟨k + 1, by omega, by go_num, TK⟩
            case measure => simp [intOf]; omega
      · obtain rfl : k = s.size := by omega
        rw [List.take_of_length_le (by rw [LB.out]; omega)] at HA
        have R1 := hide (EG.out (fun t => by
          rcases t with t | t
          · rw [HA.out] at t; cases t
          · exact h0 (by rw [← LB.out, t]; rfl)))
        clear EB EG HA LB h0
        go_wp2_with fail
        go_ret
        exact ⟨ret_txt R1.out.symm, rfl⟩
theorem val_file {e : En} (h : e.file = true) : txt (valP e) = e.val := by
  unfold valP; rw [if_pos h]; exact txt_is _
theorem val_text {e : En} (h : e.file = false) : txt (valP e) = pairsS e.val := by
  unfold valP; rw [h]; rfl
set_option maxHeartbeats 8000000 in
theorem carried_any (e0 : En) (w : World) (hs : e0.val.size ≤ 1099511627776) :
    Calls Tryz.prog 226 #[.agg #[.string e0.name, .string e0.val, .bool e0.file, .string e0.fname, .string e0.typ]] w fun e w' => e = .returned (.string (txt (valP e0))) ∧ Below w.heap.size w w' := by
  have HP := hide (fun W => pairs_any_PairsProg e0.val W hs)
  have K := hide (Bk.new w [.string e0.name, .string e0.val, .bool e0.file, .string e0.fname, .string e0.typ] 76)
  have B0 : Hid (Below w.heap.size w (w.alloc (.cells #[.string e0.name, .string e0.val, .bool e0.file, .string e0.fname, .string e0.typ] 76))) := (Below.refl _ w).alloc (Nat.le_refl _) _
  have E1 := hide (fun h => val_file (e := e0) h)
  have E2 := hide (fun h => val_text (e := e0) h)
  generalize txt (valP e0) = RES at *
  generalize pairsS e0.val = p0 at *
  generalize e0.name = t0 at *
  generalize e0.val = t1 at *
  generalize e0.fname = t2 at *
  generalize e0.typ = t3 at *
  cases hf : e0.file with
  | true =>
    rw [hf] at K B0 E1 E2
    have R1 := hide (E1.out rfl)
    clear E1 E2
    have x2 := K.out.cell 2 rfl
    have x1 := K.out.cell 1 rfl
    rw [hf] at *
    clear hf
    go_enter Tryz.func226, Tryz.ntmps226
    go_wp2_with fail
    go_ret
    exact ⟨ret_txt R1.out.symm, B0.out⟩
  | false =>
    rw [hf] at K B0 E1 E2
    have R1 := hide (E2.out rfl)
    clear E1 E2
    have x2 := K.out.cell 2 rfl
    have x1 := K.out.cell 1 rfl
    clear hf
    go_enter Tryz.func226, Tryz.ntmps226
    go_wp2_with fail
    refine (HP.out _).mono ?_
    rintro e w1 ⟨rfl, b1⟩
    have B1 := hide (chain B0.out b1)
    clear b1
    go_wp2_with fail
    go_ret
    exact ⟨ret_txt R1.out.symm, B1.out⟩
end Go.Proofs.YtnojgejcmaajmaaGreatDoor

namespace Go.Proofs.YtnojgejcmaajmaaGreatDoor
open Go.RowKit
set_option maxRecDepth 100000
set_option maxHeartbeats 8000000 in
theorem plEncode_any (n : Nat) (v : Value) (l : List En) (w : World) (hv : FilesV w v l) (hn : n ≤ 1000000) (hl : EnsOK n l) (_hT : PlTabs w) :
    Calls Tryz.prog 145 #[v] w fun e w' => e = .returned (.string (txt (encN l))) ∧ Below w.heap.size w w' := by
  have ALB : Hid (Below w.heap.size w (w.alloc (.cells #[.pointer none, .slice none 0 0] 94))) := (Below.refl _ w).alloc (Nat.le_refl _) _
  have HP := hide (urPlainO_any n v l _ (hv.below ALB.out) (by omega) hl)
  have HBN := hide (HoldsK.new w)
  have szB : (w.alloc (.cells #[.pointer none, .slice none 0 0] 94)).heap.size = w.heap.size + 1 := by simp
  have PS := hide (plain_sizesN hl)
  have PE := hide (plain_rest (l := l))
  have PN : Hid ((plainU l).length ≤ 200) := by show _ ≤ _; unfold plainU; rw [List.length_map]; exact hl.len
  have PT := hide (fun k => enN_len PS.out PN.out k)
  have EE : Hid (txt (enN (plainU l) (plainU l).length) = txt (encN l)) := by show _ = _; unfold enN encN; rw [List.take_length]
  obtain ⟨pl, cl, rfl⟩ : ∃ p c, v = .slice p l.length c := by obtain ⟨p, c, e, _⟩ := hv; exact ⟨p, c, e⟩
  have p200 := PN.out
  have SZB := hide szB
  generalize plainU l = p at *
  generalize txt (encN l) = RES at *
  clear hv hl PN szB
  go_enter Tryz.func145, Tryz.ntmps145
  go_wp2_with fail
  refine HP.out.mono ?_
  rintro e wp ⟨vp, rfl, op, bp⟩
  obtain ⟨q, cq, rfl⟩ := op.form
  have PF : Hid (OwnR (w.heap.size + 1) wp (.slice q p.length cq) p) := by show OwnR _ _ _ _; rw [← SZB.out]; exact op
  have h1 := HBN.out.below bp
  have BP := hide (ALB.out.trans (bp.mono ALB.out.size))
  clear op bp HP HBN ALB SZB
  go_wp2_with fail
  go_loopw [9] (fun iv wr => ∃ k : Nat, k ≤ p.length ∧ iv = .int .i64 k ∧ HoldsK w.heap.size w.heap.size (enN p k) wr ∧ Hid (Below w.heap.size w wr) ∧ Hid (OthK w.heap.size wp wr)) (fun iv _ => p.length - (intOf iv).toNat)
  case atStart => exact ⟨0, Nat.zero_le _, rfl, h1, BP, OthK.refl _ _⟩
  case round =>
    rename World => wr
    obtain ⟨k, hk, rfl, HB, BW, KW⟩ := hrel
    clear BP h1
    by_cases g : k < p.length
    · have k1 : (k : Int) < (p.length : Int) := by omega
      have k0 : (0 : Int) ≤ (k : Int) := by omega
      obtain ⟨b, o, rfl, EA⟩ := (PF.out.oth KW.out (Nat.lt_succ_self _)).cellsAt k g
      have sz := PS.out _ (List.getElem_mem g)
      obtain ⟨pe1, pe2, pe3⟩ := PE.out _ (List.getElem_mem g)
      have L0 := PT.out k
      have a0 := EA.c0
      have a1 := EA.c1
      have a2 := EA.c2
      have a3 := EA.c3
      have a4 := EA.c4
      rw [pe1] at a2
      rw [pe2] at a3
      rw [pe3] at a4
      have EX : Hid (enN p (k + 1) = (((enN p k ++ bL p[k].name) ++ [61]) ++ bL p[k].val) ++ [13, 10]) := enN_next g
      clear EA pe1 pe2 pe3 PS PT PF EE PE
      obtain ⟨sz0, sz1⟩ := sz
      generalize enN p k = C at *
      generalize p[k].name = t0 at *
      generalize p[k].val = t1 at *
      have LC : C.length ≤ 1000000000 := by omega
      clear L0
      have AL0 : Hid (Below wr.heap.size wr (wr.alloc (.cells #[.string t0, .string t1, .bool false, .string ⟨#[]⟩, .string ⟨#[]⟩] 76))) := (Below.refl _ wr).alloc (Nat.le_refl _) _
      have K1 := hide (Bk.new wr [.string t0, .string t1, .bool false, .string ⟨#[]⟩, .string ⟨#[]⟩] 76)
      have HB1 := hide (HB.below AL0.out)
      have sw1 := Nat.le_trans BW.out.size AL0.out.size
      have BW1 := hide (BW.out.trans (AL0.out.mono BW.out.size))
      have KW1 := hide (KW.out.then AL0.out)
      have nb : wr.heap.size ≠ w.heap.size := by have := holdsK_lt HB; omega
      have tb := en_ty
      have sx : (⟨#[13, 10]⟩ : ByteArray).size = 2 := rfl
      have x0 := K1.out.cell 0 rfl
      clear AL0 HB BW KW
      go_wp2_with fail
      refine (writeStringK w.heap.size w.heap.size C t0 _ HB1.out (by omega) sw1).mono ?_
      rintro e w3 ⟨rfl, h3, b3, k3⟩
      have K3 := hide (K1.out.oth k3 nb tb)
      have m3 := Nat.le_trans sw1 b3.size
      have BW3 := hide (BW1.out.trans b3)
      have KW3 := hide (KW1.out.trans k3)
      clear b3 k3 K1 x0 HB1 BW1 KW1 sw1
      go_wp2_with fail
      refine (writeByteK w.heap.size w.heap.size _ 61 _ h3 (by simp only [List.length_append, Array.length_toList, ByteArray.size_data]; omega) m3).mono ?_
      rintro e w4 ⟨rfl, h4, b4, k4⟩
      have K4 := hide (K3.out.oth k4 nb tb)
      have m4 := Nat.le_trans m3 b4.size
      have BW4 := hide (BW3.out.trans b4)
      have KW4 := hide (KW3.out.trans k4)
      have x1 := K4.out.cell 1 rfl
      clear h3 b4 k4 K3 m3 BW3 KW3
      go_wp2_with fail
      refine (writeStringK w.heap.size w.heap.size _ t1 _ h4 (by simp only [List.length_append, List.length_cons, List.length_nil, Array.length_toList, ByteArray.size_data]; omega) m4).mono ?_
      rintro e w5 ⟨rfl, h5, b5, k5⟩
      have m5 := Nat.le_trans m4 b5.size
      have BW5 := hide (BW4.out.trans b5)
      have KW5 := hide (KW4.out.trans k5)
      clear h4 b5 k5 K4 x1 m4 BW4 KW4
      go_wp2_with fail
      refine (writeStringK w.heap.size w.heap.size _ ⟨#[13, 10]⟩ _ h5 (by simp only [List.length_append, List.length_cons, List.length_nil, Array.length_toList, ByteArray.size_data]; omega) m5).mono ?_
      rintro e w6 ⟨rfl, h6, b6, k6⟩
      have BW6 := hide (BW5.out.trans b6)
      have KW6 := hide (KW5.out.trans k6)
      have H6 : HoldsK w.heap.size w.heap.size (enN p (k + 1)) w6 := by rw [EX.out]; exact h6
      clear h5 b6 k6 m5 BW5 KW5 h6
      go_wp2_with fail
      go_roundw
      case rel => exact ⟨k + 1, by omega, by go_num, H6, BW6, KW6⟩
      case measure => simp [intOf]; omega
    · obtain rfl : k = p.length := by omega
      clear PF PS PT PE
      go_wp2_with fail
      refine (builderTextK _ _ _ _ HB BW.out.size).mono ?_
      rintro e w2 ⟨rfl, h2, b2, _⟩
      have B2 := BW.out.trans b2
      rw [EE.out]
      clear EE
      go_wp2_with fail
      go_ret
      exact ⟨rfl, B2⟩
end Go.Proofs.YtnojgejcmaajmaaGreatDoor

namespace Go.Proofs.YtnojgejcmaajmaaGreatDoor
open Go.RowKit
set_option maxRecDepth 100000
theorem sgIx0 (a b c d e f : Value) (w : World) : (Instr.index 177 (.agg #[a, b, c, d, e, f]) (.int .i64 0)).run Tryz.prog w = .ok (.agg #[a, b]) w := by kernel_rfl
theorem sgIx1 (a b c d e f : Value) (w : World) : (Instr.index 177 (.agg #[a, b, c, d, e, f]) (.int .i64 1)).run Tryz.prog w = .ok (.agg #[c, d]) w := by kernel_rfl
theorem sgIx2 (a b c d e f : Value) (w : World) : (Instr.index 177 (.agg #[a, b, c, d, e, f]) (.int .i64 2)).run Tryz.prog w = .ok (.agg #[e, f]) w := by kernel_rfl
def qS : Nat → List UInt8 → List UInt8
  | 0, l => l
  | 1, l => repA [10] [37, 48, 65] l
  | 2, l => repA [13] [37, 48, 68] (repA [10] [37, 48, 65] l)
  | _, l => repA [34] [37, 50, 50] (repA [13] [37, 48, 68] (repA [10] [37, 48, 65] l))
theorem rep_len3 (c : UInt8) (a b d : UInt8) (l : List UInt8) : (repA [c] [a, b, d] l).length ≤ 3 * l.length := by
  rw [rep_map]
  induction l with
  | nil => simp
  | cons x l ih =>
    rw [List.flatMap_cons, List.length_append, List.length_cons]
    have : (if x = c then [a, b, d] else [x]).length ≤ 3 := by split <;> simp
    omega
theorem qS_len (k : Nat) (l : List UInt8) : (qS k l).length ≤ 27 * l.length := by
  have h1 := rep_len3 10 37 48 65 l
  have h2 := rep_len3 13 37 48 68 (repA [10] [37, 48, 65] l)
  have h3 := rep_len3 34 37 50 50 (repA [13] [37, 48, 68] (repA [10] [37, 48, 65] l))
  match k with
  | 0 => show l.length ≤ _; omega
  | 1 => show (repA [10] [37, 48, 65] l).length ≤ _; omega
  | 2 => show (repA [13] [37, 48, 68] (repA [10] [37, 48, 65] l)).length ≤ _; omega
  | _ + 3 => show (repA [34] [37, 50, 50] (repA [13] [37, 48, 68] (repA [10] [37, 48, 65] l))).length ≤ _; omega
set_option maxHeartbeats 8000000 in
theorem quote_any (s : ByteArray) (w : World) (hs : s.size ≤ 16000000) (hT : PtTabs w) :
    Calls Tryz.prog 224 #[.string s] w fun e w' => e = .returned (.string (txt (nameL (bL s)))) ∧ Below w.heap.size w w' := by
  have HP : Hid (Calls Tryz.prog 148 #[.string s] w fun r w' => r = .returned (.string (txt (prsL (bL s)))) ∧ Below w.heap.size w w') := pairs_any_PairsProg s w (by omega)
  have PZ : (prsL (bL s)).length ≤ 2 * s.size := by have := pairsS_size s; exact this
  have EQ : Hid (qS 3 (prsL (bL s)) = nameL (bL s)) := rep_name _
  have HT := hide hT
  generalize nameL (bL s) = RES at *
  generalize prsL (bL s) = p at *
  have pz : p.length ≤ 32000000 := by omega
  clear PZ
  go_enter Tryz.func224, Tryz.ntmps224
  go_wp2_with fail
  refine HP.out.mono ?_
  rintro e w1 ⟨rfl, b1⟩
  have B1 := hide b1
  have T1 := hT.below b1
  have c0 := T1.sg.c0
  have c1 := T1.sg.c1
  have c2 := T1.sg.c2
  have c3 := T1.sg.c3
  have c4 := T1.sg.c4
  have c5 := T1.sg.c5
  clear T1 b1 HP hT hs
  go_wp2_with fail
  go_loopw [0, 8] (fun sv iv wr => ∃ k : Nat, k ≤ 3 ∧ iv = .int .i64 k ∧ sv = .string (txt (qS k p)) ∧ Hid (Below w.heap.size w wr)) (fun _ iv _ => 3 - (intOf iv).toNat)
  case atStart => exact ⟨0, by omega, rfl, rfl, B1⟩
  case round =>
    rename World => wr
    obtain ⟨k, hk, rfl, rfl, BW⟩ := hrel
    clear B1 c0 c1 c2 c3 c4 c5
    rcases (by omega : k = 0 ∨ k = 1 ∨ k = 2 ∨ k = 3) with rfl | rfl | rfl | rfl
    · have HR := hide (fun W (hb : Below w.heap.size w W) => replaceP_any (qS 0 p) [10] [37, 48, 65] W (by have := qS_len 0 p; omega) (HT.out.mx.below hb) (by decide) (by decide) (by decide))
      have EN : Hid (repA [10] [37, 48, 65] (qS 0 p) = qS 1 p) := rfl
      rw [EN.out] at HR
      have AL : Below wr.heap.size wr (wr.alloc (.cells #[.string ⟨#[10]⟩, .string ⟨#[37, 48, 65]⟩] 176)) := (Below.refl _ wr).alloc (Nat.le_refl _) _
      have B2 := hide (chain BW.out AL)
      clear AL EN
      have ix := fun w => sgIx0 (.string ⟨#[10]⟩) (.string ⟨#[37, 48, 65]⟩) (.string ⟨#[13]⟩) (.string ⟨#[37, 48, 68]⟩) (.string ⟨#[34]⟩) (.string ⟨#[37, 50, 50]⟩) w
      obtain ⟨p1, hp1⟩ : ∃ p1, p1 = qS 1 p := ⟨_, rfl⟩
      rw [← hp1] at HR
      have HP1 := hide hp1
      clear hp1
      generalize hp0 : qS 0 p = p0 at HR ⊢
      clear hp0
      go_wp2_with fail
      refine (HR.out _ B2.out).mono ?_
      rintro e w3 ⟨rfl, b3⟩
      have B3 := hide (chain B2.out b3)
      clear b3 HR B2 BW
      go_wp2_with fail
      go_roundw
      case rel => exact ⟨1, by omega, rfl, by rw [HP1.out], B3⟩
      case measure => decide
    · have HR := hide (fun W (hb : Below w.heap.size w W) => replaceP_any (qS 1 p) [13] [37, 48, 68] W (by have := qS_len 1 p; omega) (HT.out.mx.below hb) (by decide) (by decide) (by decide))
      have EN : Hid (repA [13] [37, 48, 68] (qS 1 p) = qS 2 p) := rfl
      rw [EN.out] at HR
      have AL : Below wr.heap.size wr (wr.alloc (.cells #[.string ⟨#[13]⟩, .string ⟨#[37, 48, 68]⟩] 176)) := (Below.refl _ wr).alloc (Nat.le_refl _) _
      have B2 := hide (chain BW.out AL)
      clear AL EN
      have ix := fun w => sgIx1 (.string ⟨#[10]⟩) (.string ⟨#[37, 48, 65]⟩) (.string ⟨#[13]⟩) (.string ⟨#[37, 48, 68]⟩) (.string ⟨#[34]⟩) (.string ⟨#[37, 50, 50]⟩) w
      obtain ⟨p1, hp1⟩ : ∃ p1, p1 = qS 2 p := ⟨_, rfl⟩
      rw [← hp1] at HR
      have HP1 := hide hp1
      clear hp1
      generalize hp0 : qS 1 p = p0 at HR ⊢
      clear hp0
      go_wp2_with fail
      refine (HR.out _ B2.out).mono ?_
      rintro e w3 ⟨rfl, b3⟩
      have B3 := hide (chain B2.out b3)
      clear b3 HR B2 BW
      go_wp2_with fail
      go_roundw
      case rel => exact ⟨2, by omega, rfl, by rw [HP1.out], B3⟩
      case measure => decide
    · have HR := hide (fun W (hb : Below w.heap.size w W) => replaceP_any (qS 2 p) [34] [37, 50, 50] W (by have := qS_len 2 p; omega) (HT.out.mx.below hb) (by decide) (by decide) (by decide))
      have EN : Hid (repA [34] [37, 50, 50] (qS 2 p) = qS 3 p) := rfl
      rw [EN.out] at HR
      have AL : Below wr.heap.size wr (wr.alloc (.cells #[.string ⟨#[34]⟩, .string ⟨#[37, 50, 50]⟩] 176)) := (Below.refl _ wr).alloc (Nat.le_refl _) _
      have B2 := hide (chain BW.out AL)
      clear AL EN
      have ix := fun w => sgIx2 (.string ⟨#[10]⟩) (.string ⟨#[37, 48, 65]⟩) (.string ⟨#[13]⟩) (.string ⟨#[37, 48, 68]⟩) (.string ⟨#[34]⟩) (.string ⟨#[37, 50, 50]⟩) w
      obtain ⟨p1, hp1⟩ : ∃ p1, p1 = qS 3 p := ⟨_, rfl⟩
      rw [← hp1] at HR
      have HP1 := hide hp1
      clear hp1
      generalize hp0 : qS 2 p = p0 at HR ⊢
      clear hp0
      go_wp2_with fail
      refine (HR.out _ B2.out).mono ?_
      rintro e w3 ⟨rfl, b3⟩
      have B3 := hide (chain B2.out b3)
      clear b3 HR B2 BW
      go_wp2_with fail
      go_roundw
      case rel => exact ⟨3, by omega, rfl, by rw [HP1.out], B3⟩
      case measure => decide
    · rw [EQ.out]
      clear EQ HT
      go_wp2_with fail
      go_ret
      exact ⟨rfl, BW.out⟩
set_option maxHeartbeats 8000000 in
theorem part_any (e0 : En) (w : World) (hz : EnZ 1000000 e0) (hT : PtTabs w) :
    Calls Tryz.prog 188 #[.agg #[.string e0.name, .string e0.val, .bool e0.file, .string e0.fname, .string e0.typ]] w fun e w' => e = .returned (.string (txt (partL e0))) ∧ Below w.heap.size w w' := by
  obtain ⟨z0, z1, z2, z3⟩ := hz
  have H0 := hide (fun W (hb : Below w.heap.size w W) => quote_any e0.name W (by omega) (hT.below hb))
  have H1 := hide (fun W (hb : Below w.heap.size w W) => quote_any e0.fname W (by omega) (hT.below hb))
  have H2 := hide (fun W => toldType_any e0.typ W (by omega))
  have H3 := hide (fun W => carried_any e0 W (by omega))
  have s0 := name_size (s := e0.name)
  have s1 := name_size (s := e0.fname)
  have s2 := type_size (s := e0.typ)
  have s3 : (txt (valP e0)).size ≤ 2000000 := by
    have := pairsS_size e0.val
    cases h : e0.file with
    | true => rw [val_file h]; omega
    | false => rw [val_text h]; omega
  have E : Hid (txt (partL e0) = txt (c1L ++ bL (txt (nameL (bL e0.name))) ++ [34] ++ (if e0.file = true then c2L ++ bL (txt (nameL (bL e0.fname))) ++ [34] ++ c3L ++ bL (txt (typeL (bL e0.typ))) else []) ++ c4L ++ bL (txt (valP e0)))) := rfl
  have K := hide (Bk.new w [.string e0.name, .string e0.val, .bool e0.file, .string e0.fname, .string e0.typ] 76)
  have B0 : Hid (Below w.heap.size w (w.alloc (.cells #[.string e0.name, .string e0.val, .bool e0.file, .string e0.fname, .string e0.typ] 76))) := (Below.refl _ w).alloc (Nat.le_refl _) _
  generalize txt (partL e0) = RES at *
  generalize txt (nameL (bL e0.name)) = n0 at *
  generalize txt (nameL (bL e0.fname)) = n1 at *
  generalize txt (typeL (bL e0.typ)) = n2 at *
  generalize txt (valP e0) = n3 at *
  generalize e0.name = t0 at *
  generalize e0.val = t1 at *
  generalize e0.fname = t2 at *
  generalize e0.typ = t3 at *
  have f0 : n0.size ≤ 6000000 := by omega
  have f1 : n1.size ≤ 6000000 := by omega
  have f2 : n2.size ≤ 2000000 := by omega
  clear s0 s1 s2 hT
  generalize e0.file = fb at *
  have S0 : (⟨#[67, 111, 110, 116, 101, 110, 116, 45, 68, 105, 115, 112, 111, 115, 105, 116, 105, 111, 110, 58, 32, 102, 111, 114, 109, 45, 100, 97, 116, 97, 59, 32, 110, 97, 109, 101, 61, 34]⟩ : ByteArray).size ≤ 38 := by decide
  have S1 : ((⟨#[67, 111, 110, 116, 101, 110, 116, 45, 68, 105, 115, 112, 111, 115, 105, 116, 105, 111, 110, 58, 32, 102, 111, 114, 109, 45, 100, 97, 116, 97, 59, 32, 110, 97, 109, 101, 61, 34]⟩ : ByteArray) ++ n0).size ≤ 6000038 := app_le S0 f0
  have S2 : ((⟨#[67, 111, 110, 116, 101, 110, 116, 45, 68, 105, 115, 112, 111, 115, 105, 116, 105, 111, 110, 58, 32, 102, 111, 114, 109, 45, 100, 97, 116, 97, 59, 32, 110, 97, 109, 101, 61, 34]⟩ : ByteArray) ++ n0 ++ (⟨#[34]⟩ : ByteArray)).size ≤ 6000039 := app_le S1 (show (⟨#[34]⟩ : ByteArray).size ≤ 1 by decide)
  have NZ : (⟨#[13, 10]⟩ : ByteArray).size ≤ 2 := by decide
  cases fb with
  | true =>
    rw [if_pos rfl] at E
    have E2 : Hid ((⟨#[67, 111, 110, 116, 101, 110, 116, 45, 68, 105, 115, 112, 111, 115, 105, 116, 105, 111, 110, 58, 32, 102, 111, 114, 109, 45, 100, 97, 116, 97, 59, 32, 110, 97, 109, 101, 61, 34]⟩ : ByteArray) ++ n0 ++ ⟨#[34]⟩ ++ (⟨#[59, 32, 102, 105, 108, 101, 110, 97, 109, 101, 61, 34]⟩ ++ n1 ++ ⟨#[34]⟩ ++ ⟨#[13, 10, 67, 111, 110, 116, 101, 110, 116, 45, 84, 121, 112, 101, 58, 32]⟩ ++ n2) ++ ⟨#[13, 10]⟩ ++ ⟨#[13, 10]⟩ ++ n3 = RES) := by
      show _ = _
      rw [E.out, ← txt_bL ((⟨#[67, 111, 110, 116, 101, 110, 116, 45, 68, 105, 115, 112, 111, 115, 105, 116, 105, 111, 110, 58, 32, 102, 111, 114, 109, 45, 100, 97, 116, 97, 59, 32, 110, 97, 109, 101, 61, 34]⟩ : ByteArray) ++ n0 ++ ⟨#[34]⟩ ++ (⟨#[59, 32, 102, 105, 108, 101, 110, 97, 109, 101, 61, 34]⟩ ++ n1 ++ ⟨#[34]⟩ ++ ⟨#[13, 10, 67, 111, 110, 116, 101, 110, 116, 45, 84, 121, 112, 101, 58, 32]⟩ ++ n2) ++ ⟨#[13, 10]⟩ ++ ⟨#[13, 10]⟩ ++ n3)]
      simp only [bL_app, List.append_assoc]
      rfl
    clear E
    have U0 : (⟨#[59, 32, 102, 105, 108, 101, 110, 97, 109, 101, 61, 34]⟩ : ByteArray).size ≤ 12 := by decide
    have U1 : ((⟨#[59, 32, 102, 105, 108, 101, 110, 97, 109, 101, 61, 34]⟩ : ByteArray) ++ n1).size ≤ 6000012 := app_le U0 f1
    have U2 : ((⟨#[59, 32, 102, 105, 108, 101, 110, 97, 109, 101, 61, 34]⟩ : ByteArray) ++ n1 ++ (⟨#[34]⟩ : ByteArray)).size ≤ 6000013 := app_le U1 (show (⟨#[34]⟩ : ByteArray).size ≤ 1 by decide)
    have U3 : ((⟨#[59, 32, 102, 105, 108, 101, 110, 97, 109, 101, 61, 34]⟩ : ByteArray) ++ n1 ++ (⟨#[34]⟩ : ByteArray) ++ (⟨#[13, 10, 67, 111, 110, 116, 101, 110, 116, 45, 84, 121, 112, 101, 58, 32]⟩ : ByteArray)).size ≤ 6000029 := app_le U2 (show (⟨#[13, 10, 67, 111, 110, 116, 101, 110, 116, 45, 84, 121, 112, 101, 58, 32]⟩ : ByteArray).size ≤ 16 by decide)
    have U4 : ((⟨#[59, 32, 102, 105, 108, 101, 110, 97, 109, 101, 61, 34]⟩ : ByteArray) ++ n1 ++ (⟨#[34]⟩ : ByteArray) ++ (⟨#[13, 10, 67, 111, 110, 116, 101, 110, 116, 45, 84, 121, 112, 101, 58, 32]⟩ : ByteArray) ++ n2).size ≤ 8000029 := app_le U3 f2
    have S3 := app_le S2 U4
    have S4 := app_le S3 NZ
    have S5 := app_le S4 NZ
    go_enter Tryz.func188, Tryz.ntmps188
    go_wp2_with fail
    refine (H0.out _ B0.out).mono ?_
    rintro e w1 ⟨rfl, b1⟩
    have K1 := hide (K.out.below b1)
    have B1 := hide (chain B0.out b1)
    have x2 := K1.out.cell 2 rfl
    have DR : Below w1.heap.size w1 w1.drew := ⟨rfl, rfl, rfl, Nat.le_refl _, fun _ _ => rfl⟩
    have BD := hide (chain B1.out DR)
    have KD := hide (K1.out.below DR)
    have x3 := K1.out.cell 3 rfl
    have x4 := K1.out.cell 4 rfl
    clear b1 B0 K H0 DR B1
    go_wp2_with fail
    generalize (⟨#[67, 111, 110, 116, 101, 110, 116, 45, 68, 105, 115, 112, 111, 115, 105, 116, 105, 111, 110, 58, 32, 102, 111, 114, 109, 45, 100, 97, 116, 97, 59, 32, 110, 97, 109, 101, 61, 34]⟩ : ByteArray) ++ n0 ++ ⟨#[34]⟩ = g0 at *
    have p1 := fun w => run_string_add_sum (P := Tryz.prog) w (⟨#[59, 32, 102, 105, 108, 101, 110, 97, 109, 101, 61, 34]⟩ : ByteArray) n1 (sum_le' U0 f1 (by decide))
    have p2 := fun w => run_string_add_sum (P := Tryz.prog) w ((⟨#[59, 32, 102, 105, 108, 101, 110, 97, 109, 101, 61, 34]⟩ : ByteArray) ++ n1) (⟨#[34]⟩ : ByteArray) (sum_le' U1 (show (⟨#[34]⟩ : ByteArray).size ≤ 1 by decide) (by decide))
    have p3 := fun w => run_string_add_sum (P := Tryz.prog) w ((⟨#[59, 32, 102, 105, 108, 101, 110, 97, 109, 101, 61, 34]⟩ : ByteArray) ++ n1 ++ (⟨#[34]⟩ : ByteArray)) (⟨#[13, 10, 67, 111, 110, 116, 101, 110, 116, 45, 84, 121, 112, 101, 58, 32]⟩ : ByteArray) (sum_le' U2 (show (⟨#[13, 10, 67, 111, 110, 116, 101, 110, 116, 45, 84, 121, 112, 101, 58, 32]⟩ : ByteArray).size ≤ 16 by decide) (by decide))
    have p4 := fun w => run_string_add_sum (P := Tryz.prog) w ((⟨#[59, 32, 102, 105, 108, 101, 110, 97, 109, 101, 61, 34]⟩ : ByteArray) ++ n1 ++ (⟨#[34]⟩ : ByteArray) ++ (⟨#[13, 10, 67, 111, 110, 116, 101, 110, 116, 45, 84, 121, 112, 101, 58, 32]⟩ : ByteArray)) n2 (sum_le' U3 f2 (by decide))
    have p5 := fun w => run_string_add_sum (P := Tryz.prog) w g0 ((⟨#[59, 32, 102, 105, 108, 101, 110, 97, 109, 101, 61, 34]⟩ : ByteArray) ++ n1 ++ (⟨#[34]⟩ : ByteArray) ++ (⟨#[13, 10, 67, 111, 110, 116, 101, 110, 116, 45, 84, 121, 112, 101, 58, 32]⟩ : ByteArray) ++ n2) (sum_le' S2 U4 (by decide))
    refine wp_region_held_drew (S := fun X : World => X.cell? ⟨w.heap.size, 3, none⟩ = some (.string t2) ∧ X.cell? ⟨w.heap.size, 4, none⟩ = some (.string t3)) (by kernel_rfl) ?_ (fun hHeld => ?_)
    · exact ⟨x3, x4⟩
    refine wpAnyH_take (i := 0) (oi := { dst := some 11, op := Op.move (Operand.tmp 3), type := 9, pos := "parts.go:120", after := #[], guard := none }) (v := ?_) rfl (by kernel_rfl) (by kernel_rfl) (by kernel_rfl) (fun _ _ _ h => h) (Or.inl ⟨by rfl, ?_⟩) (by assumption) ?_
    rotate_left
    · (intro w hSw; (try dsimp only at hSw); first | (go_simp; done) | (go_simp; with_reducible rfl))
    simp only [Act.put, List.setIfInBounds_toArray, List.set_cons_zero, List.set_cons_succ]
    refine wpAnyH_take (i := 1) (oi := { dst := some 12, op := Op.fieldAddr 76 (Operand.tmp 1) 3, type := 0, pos := "parts.go:120", after := #[], guard := none }) (v := ?_) rfl (by kernel_rfl) (by kernel_rfl) (by kernel_rfl) (fun _ _ _ h => h) (Or.inl ⟨by rfl, ?_⟩) (by assumption) ?_
    rotate_left
    · (intro w hSw; (try dsimp only at hSw); first | (go_simp; done) | (go_simp; with_reducible rfl))
    simp only [Act.put, List.setIfInBounds_toArray, List.set_cons_zero, List.set_cons_succ]
    refine wpAnyH_take (i := 2) (oi := { dst := some 13, op := Op.load 9 (Operand.tmp 12), type := 9, pos := "parts.go:120", after := #[{ on := 1, ground := Ground.data }], guard := none }) (v := ?_) rfl (by kernel_rfl) (by kernel_rfl) (by kernel_rfl) (fun _ _ _ h => h) (Or.inl ⟨by rfl, ?_⟩) (by assumption) ?_
    rotate_left
    · (intro w hSw; (try dsimp only at hSw); first | (go_simp; done) | (go_simp; with_reducible rfl))
    simp only [Act.put, List.setIfInBounds_toArray, List.set_cons_zero, List.set_cons_succ]
    refine wpAnyH_take (i := 7) (oi := { dst := some 18, op := Op.fieldAddr 76 (Operand.tmp 1) 4, type := 0, pos := "parts.go:120", after := #[], guard := none }) (v := ?_) rfl (by kernel_rfl) (by kernel_rfl) (by kernel_rfl) (fun _ _ _ h => h) (Or.inl ⟨by rfl, ?_⟩) (by assumption) ?_
    rotate_left
    · (intro w hSw; (try dsimp only at hSw); first | (go_simp; done) | (go_simp; with_reducible rfl))
    simp only [Act.put, List.setIfInBounds_toArray, List.set_cons_zero, List.set_cons_succ]
    refine wpAnyH_take (i := 8) (oi := { dst := some 19, op := Op.load 9 (Operand.tmp 18), type := 9, pos := "parts.go:120", after := #[{ on := 7, ground := Ground.data }], guard := none }) (v := ?_) rfl (by kernel_rfl) (by kernel_rfl) (by kernel_rfl) (fun _ _ _ h => h) (Or.inl ⟨by rfl, ?_⟩) (by assumption) ?_
    rotate_left
    · (intro w hSw; (try dsimp only at hSw); first | (go_simp; done) | (go_simp; with_reducible rfl))
    simp only [Act.put, List.setIfInBounds_toArray, List.set_cons_zero, List.set_cons_succ]
    refine wpAnyH_ready (rs := [3]) (by kernel_rfl) (by simp) ?_
    refine AllReadyH.cons (i := 3) (o := { dst := some 14, op := Op.call { callee := Callee.value (Operand.func 224), args := #[Operand.tmp 13], argTypes := #[9] }, type := 9, pos := "parts.go:120", after := #[{ on := 2, ground := Ground.data }], guard := none }) rfl (fun K hK => ?_) AllReadyH.nil
    go_simp
    refine (H1.out _ BD.out).mono ?_
    rintro e w2 ⟨rfl, b2⟩
    have K2 := hide (KD.out.below b2)
    have B2 := hide (chain BD.out b2)
    clear b2
    go_wp2_with fail
    refine hK.out _ _ ?_ (fun hHeld => ?_)
    · exact ⟨K2.out.cell 3 rfl, K2.out.cell 4 rfl⟩
    clear hK K
    refine wpAnyH_take (i := 4) (oi := { dst := some 15, op := Op.binOp BinOp.add 9 (Operand.const (Value.string { data := #[59, 32, 102, 105, 108, 101, 110, 97, 109, 101, 61, 34] })) (Operand.tmp 14) 9, type := 9, pos := "parts.go:120", after := #[{ on := 3, ground := Ground.data }], guard := none }) (v := ?_) rfl (by kernel_rfl) (by kernel_rfl) (by kernel_rfl) (fun _ _ _ h => h) (Or.inl ⟨by rfl, ?_⟩) (by assumption) ?_
    rotate_left
    · (intro w hSw; (try dsimp only at hSw); first | (go_simp; done) | (go_simp; with_reducible rfl))
    simp only [Act.put, List.setIfInBounds_toArray, List.set_cons_zero, List.set_cons_succ]
    refine wpAnyH_take (i := 5) (oi := { dst := some 16, op := Op.binOp BinOp.add 9 (Operand.tmp 15) (Operand.const (Value.string { data := #[34] })) 9, type := 9, pos := "parts.go:120", after := #[{ on := 4, ground := Ground.data }], guard := none }) (v := ?_) rfl (by kernel_rfl) (by kernel_rfl) (by kernel_rfl) (fun _ _ _ h => h) (Or.inl ⟨by rfl, ?_⟩) (by assumption) ?_
    rotate_left
    · (intro w hSw; (try dsimp only at hSw); first | (go_simp; done) | (go_simp; with_reducible rfl))
    simp only [Act.put, List.setIfInBounds_toArray, List.set_cons_zero, List.set_cons_succ]
    refine wpAnyH_take (i := 6) (oi := { dst := some 17, op := Op.binOp BinOp.add 9 (Operand.tmp 16) (Operand.const (Value.string { data := #[13, 10, 67, 111, 110, 116, 101, 110, 116, 45, 84, 121, 112, 101, 58, 32] })) 9, type := 9, pos := "parts.go:120", after := #[{ on := 5, ground := Ground.data }], guard := none }) (v := ?_) rfl (by kernel_rfl) (by kernel_rfl) (by kernel_rfl) (fun _ _ _ h => h) (Or.inl ⟨by rfl, ?_⟩) (by assumption) ?_
    rotate_left
    · (intro w hSw; (try dsimp only at hSw); first | (go_simp; done) | (go_simp; with_reducible rfl))
    simp only [Act.put, List.setIfInBounds_toArray, List.set_cons_zero, List.set_cons_succ]
    refine wpAnyH_ready (rs := [9]) (by kernel_rfl) (by simp) ?_
    refine AllReadyH.cons (i := 9) (o := { dst := some 20, op := Op.call { callee := Callee.value (Operand.func 225), args := #[Operand.tmp 19], argTypes := #[9] }, type := 9, pos := "parts.go:120", after := #[{ on := 8, ground := Ground.data }, { on := 3, ground := Ground.chain }], guard := none }) rfl (fun K hK => ?_) AllReadyH.nil
    go_simp
    refine (H2.out _).mono ?_
    rintro e w3 ⟨rfl, hu⟩
    obtain rfl : w2 = w3 := hu.symm
    go_wp2_with fail
    refine hK.out _ _ ?_ (fun hHeld => ?_)
    · exact ⟨K2.out.cell 3 rfl, K2.out.cell 4 rfl⟩
    clear hK K
    refine wpAnyH_take (i := 10) (oi := { dst := some 21, op := Op.binOp BinOp.add 9 (Operand.tmp 17) (Operand.tmp 20) 9, type := 9, pos := "parts.go:120", after := #[{ on := 6, ground := Ground.data }, { on := 9, ground := Ground.data }], guard := none }) (v := ?_) rfl (by kernel_rfl) (by kernel_rfl) (by kernel_rfl) (fun _ _ _ h => h) (Or.inl ⟨by rfl, ?_⟩) (by assumption) ?_
    rotate_left
    · (intro w hSw; (try dsimp only at hSw); first | (go_simp; done) | (go_simp; with_reducible rfl))
    simp only [Act.put, List.setIfInBounds_toArray, List.set_cons_zero, List.set_cons_succ]
    refine wpAnyH_take (i := 11) (oi := { dst := some 22, op := Op.binOp BinOp.add 9 (Operand.tmp 11) (Operand.tmp 21) 9, type := 9, pos := "parts.go:120", after := #[{ on := 0, ground := Ground.data }, { on := 10, ground := Ground.data }], guard := none }) (v := ?_) rfl (by kernel_rfl) (by kernel_rfl) (by kernel_rfl) (fun _ _ _ h => h) (Or.inl ⟨by rfl, ?_⟩) (by assumption) ?_
    rotate_left
    · (intro w hSw; (try dsimp only at hSw); first | (go_simp; done) | (go_simp; with_reducible rfl))
    simp only [Act.put, List.setIfInBounds_toArray, List.set_cons_zero, List.set_cons_succ]
    refine wpAnyH_take (i := 12) (oi := { dst := some 3, op := Op.assign (Operand.tmp 22), type := 9, pos := "parts.go:120", after := #[{ on := 11, ground := Ground.data }, { on := 9, ground := Ground.chain }, { on := 0, ground := Ground.phase }, { on := 1, ground := Ground.phase }, { on := 2, ground := Ground.phase }, { on := 3, ground := Ground.phase }, { on := 4, ground := Ground.phase }, { on := 5, ground := Ground.phase }, { on := 6, ground := Ground.phase }, { on := 7, ground := Ground.phase }, { on := 8, ground := Ground.phase }, { on := 9, ground := Ground.phase }, { on := 10, ground := Ground.phase }, { on := 11, ground := Ground.phase }], guard := none }) (v := ?_) rfl (by kernel_rfl) (by kernel_rfl) (by kernel_rfl) (fun _ _ _ h => h) (Or.inl ⟨by rfl, ?_⟩) (by assumption) ?_
    rotate_left
    · (intro w hSw; (try dsimp only at hSw); first | (go_simp; done) | (go_simp; with_reducible rfl))
    simp only [Act.put, List.setIfInBounds_toArray, List.set_cons_zero, List.set_cons_succ]
    refine wpAnyH_done (by kernel_rfl) ?_ _
    have y0 := K2.out.cell 0 rfl
    have y1 := K2.out.cell 1 rfl
    have y2 := K2.out.cell 2 rfl
    have y3 := K2.out.cell 3 rfl
    have y4 := K2.out.cell 4 rfl
    go_wp2_with fail
    refine (H3.out _).mono ?_
    rintro e w4 ⟨rfl, b4⟩
    have B4 := hide (chain B2.out b4)
    go_wp2_with fail
    go_ret
    exact ⟨ret_txt E2.out, B4.out⟩
  | false =>
    rw [if_neg (by decide), List.append_nil] at E
    have E2 : Hid ((⟨#[67, 111, 110, 116, 101, 110, 116, 45, 68, 105, 115, 112, 111, 115, 105, 116, 105, 111, 110, 58, 32, 102, 111, 114, 109, 45, 100, 97, 116, 97, 59, 32, 110, 97, 109, 101, 61, 34]⟩ : ByteArray) ++ n0 ++ ⟨#[34]⟩ ++ ⟨#[13, 10]⟩ ++ ⟨#[13, 10]⟩ ++ n3 = RES) := by
      show _ = _
      rw [E.out, ← txt_bL ((⟨#[67, 111, 110, 116, 101, 110, 116, 45, 68, 105, 115, 112, 111, 115, 105, 116, 105, 111, 110, 58, 32, 102, 111, 114, 109, 45, 100, 97, 116, 97, 59, 32, 110, 97, 109, 101, 61, 34]⟩ : ByteArray) ++ n0 ++ ⟨#[34]⟩ ++ ⟨#[13, 10]⟩ ++ ⟨#[13, 10]⟩ ++ n3)]
      simp only [bL_app, List.append_assoc]
      rfl
    clear E H1 H2
    have S4 := app_le S2 NZ
    have S5 := app_le S4 NZ
    have S6 := app_le S5 s3
    go_enter Tryz.func188, Tryz.ntmps188
    go_wp2_with fail
    refine (H0.out _ B0.out).mono ?_
    rintro e w1 ⟨rfl, b1⟩
    have K1 := hide (K.out.below b1)
    have B1 := hide (chain B0.out b1)
    have x0 := K1.out.cell 0 rfl
    have x1 := K1.out.cell 1 rfl
    have x2 := K1.out.cell 2 rfl
    have x3 := K1.out.cell 3 rfl
    have x4 := K1.out.cell 4 rfl
    clear b1 B0 K H0
    go_wp2_with fail
    refine (H3.out _).mono ?_
    rintro e w2 ⟨rfl, b2⟩
    have B2 := hide (chain B1.out b2)
    go_wp2_with fail
    go_ret
    exact ⟨ret_txt E2.out, B2.out⟩

end Go.Proofs.YtnojgejcmaajmaaGreatDoor
