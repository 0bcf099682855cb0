/- The document's six and Host of layer 8: they answer by the functions of 'Link'; what lay in the world lies there still. Condition: texts of at most 2^20 bytes. -/
import Derived.Test.YtkllknfgojjphaaDoorLinkRef3
namespace Go.Proofs.YtkllknfgojjphaaDoor
open Go.RowKit

theorem dbl_app : ∀ {a : List UInt8} (b : List UInt8), (∀ m, m < a.length → ¬ ((a ++ 58 :: 58 :: b).getD m 0 = 58 ∧ (a ++ 58 :: 58 :: b).getD (m + 1) 0 = 58)) → firstDbl (a ++ 58 :: 58 :: b) = some a.length
  | [], b, _ => by
    rw [List.nil_append, firstDbl, if_pos ⟨rfl, rfl⟩]; rfl
  | x :: a, b, h => by
    have ih := dbl_app (a := a) b (fun m hm => by
      have := h (m + 1) (by rw [List.length_cons]; omega)
      rw [List.cons_append] at this
      exact this)
    have h0 := h 0 (by simp)
    have hx : ¬ (x = 58 ∧ (a ++ 58 :: 58 :: b).head? = some 58) := by
      rintro ⟨e1, e2⟩
      refine h0 ⟨e1, ?_⟩
      cases a with
      | nil => rfl
      | cons y a => exact Option.some.inj e2
    rw [List.cons_append, firstDbl, if_neg hx, ih]; rfl
theorem dbl_no : ∀ {l : List UInt8}, (∀ m, m + 1 < l.length → ¬ (l.getD m 0 = 58 ∧ l.getD (m + 1) 0 = 58)) → firstDbl l = none
  | [], _ => rfl
  | x :: l, h => by
    have ih := dbl_no (l := l) (fun m hm => by
      have := h (m + 1) (by rw [List.length_cons]; omega)
      exact this)
    have hx : ¬ (x = 58 ∧ l.head? = some 58) := by
      rintro ⟨e1, e2⟩
      cases l with
      | nil => cases e2
      | cons y l => exact h 0 (by simp) ⟨e1, Option.some.inj e2⟩
    rw [firstDbl, if_neg hx, ih]; rfl
theorem getD_is (s : ByteArray) (k : Nat) (h : k < s.size) : s.data.toList.getD k 0 = s[k] := by
  rw [← at_list s k h]
  simp [List.getD, h]
theorem dbl_hit {s : ByteArray} {k : Nat} (hk : k + 1 < s.size) (h : ∀ j (_ : j + 1 < s.size), j < k → ¬ (s[j] = 58 ∧ s[j + 1] = 58)) (e1 : s[k] = 58) (e2 : s[k + 1] = 58) : firstDbl s.data.toList = some k := by
  have e : s.data.toList = s.data.toList.take k ++ 58 :: 58 :: s.data.toList.drop (k + 2) := by
    have h := (List.take_append_drop k s.data.toList).symm
    rw [drop_at (k := k) (by omega), e1, drop_at (k := k + 1) hk, e2] at h
    exact h
  have hl := len_take (s := s) (k := k) (by omega)
  rw [e]
  rw [dbl_app _ (fun m hm => ?_), hl]
  rw [← e]
  rw [hl] at hm
  rw [getD_is s m (by omega), getD_is s (m + 1) (by omega)]
  exact h m (by omega) hm
theorem dbl_end {s : ByteArray} (h : ∀ j (_ : j + 1 < s.size), ¬ (s[j] = 58 ∧ s[j + 1] = 58)) : firstDbl s.data.toList = none := by
  have hl : s.data.toList.length = s.size := by simp
  refine dbl_no fun m hm => ?_
  rw [getD_is s m (by omega), getD_is s (m + 1) (by omega)]
  exact h m (by omega)
theorem six_some {l : List UInt8} {k : Nat} (h : firstDbl l = some k) : sixL l = (decide (0 ≤ groupsL (l.take k)) && (decide (0 ≤ groupsL (l.drop (k + 2))) && decide (groupsL (l.take k) + groupsL (l.drop (k + 2)) < 8))) := by
  unfold sixL; rw [h]
theorem six_none {l : List UInt8} (h : firstDbl l = none) : sixL l = decide (groupsL l = 8) := by
  unfold sixL; rw [h]
theorem slice_cut (s : ByteArray) (a b : Nat) : (s.extract a b).data.toList = (s.data.toList.take b).drop a := by
  rw [ByteArray.data_extract, Array.toList_extract]
  show List.take (b - a) (List.drop a s.data.toList) = _
  rw [List.drop_take]

set_option maxHeartbeats 2000000 in
set_option maxRecDepth 100000 in
theorem refSix_any (s : ByteArray) (w : World) (hs : s.size ≤ 1048576) :
    Calls Tryd.prog 30 #[.string s] w fun e w' => e = .returned (.bool (sixL s.data.toList)) ∧ Below w.heap.size w w' := by
  have HIT := hide (fun k hk h e1 e2 => six_some (dbl_hit (s := s) (k := k) hk h e1 e2))
  have END := hide (fun h => six_none (dbl_end (s := s) h))
  have GA := hide (fun k w => refGroups_any (s.extract 0 k) w (by rw [ByteArray.size_extract]; omega))
  have GB := hide (fun k w => refGroups_any (s.extract k s.size) w (by rw [ByteArray.size_extract]; omega))
  have GW := hide (fun w => refGroups_any s w hs)
  have XA := hide (fun k => Lib.extract_from_zero s k)
  have XB : Hid (∀ k, (s.extract k s.size).data.toList = s.data.toList.drop k) := fun k => by rw [slice_cut, List.take_of_length_le (by simp)]
  generalize sixL s.data.toList = R at *
  go_enter Tryd.func30, Tryd.ntmps30
  go_wp2_with fail
  go_loop [3] (fun i => ∃ k : Nat, k ≤ s.size ∧ i = .int .i64 k ∧ Hid (∀ j (_ : j + 1 < s.size), j < k → ¬ (s[j] = 58 ∧ s[j + 1] = 58))) (fun i => s.size - (intOf i).toNat)
  case atStart => exact ⟨0, Nat.zero_le _, rfl, fun j _ h => by omega⟩
  case round =>
    obtain ⟨k, hk, rfl, hd⟩ := hrel
    by_cases hlt : k + 1 < s.size
    · have i1 : (k : Int) + 1 < (s.size : Int) := by omega
      have x1 := fun w => index_lk s ((k : Int) + 1) (k + 1) (by omega) hlt w
      have NX : ¬ (s[k] = 58 ∧ s[k + 1] = 58) → Hid (∀ j (_ : j + 1 < s.size), j < k + 1 → ¬ (s[j] = 58 ∧ s[j + 1] = 58)) := by
        intro h j hj hjk
        rcases Nat.lt_or_ge j k with q | q
        · exact hd.out j hj q
        · obtain rfl : j = k := by omega
          exact h
      have hk0 : k < s.size := by omega
      by_cases c1 : s[k] = 58
      · have d1 : ((s[k].toNat : Int) == 58) = true := by rw [c1]; rfl
        by_cases c2 : s[k + 1] = 58
        · have d2 : ((s[k + 1].toNat : Int) == 58) = true := by rw [c2]; rfl
          have E := HIT.out k hlt hd.out c1 c2
          have A := hide (fun w => GA.out k w)
          have B := hide (fun w => GB.out (k + 2) w)
          rw [XA.out] at A
          rw [XB.out] at B
          have bA := grp_bd (s.data.toList.take k)
          have bB := grp_bd (s.data.toList.drop (k + 2))
          have lA : (s.data.toList.take k).length ≤ 1048576 := by have := len_take (s := s) (k := k) (by omega); omega
          have lB : (s.data.toList.drop (k + 2)).length ≤ 1048576 := by rw [List.length_drop]; have : s.data.toList.length = s.size := by simp
                                                                        omega
          generalize groupsL (s.data.toList.take k) = a at *
          generalize groupsL (s.data.toList.drop (k + 2)) = b at *
          have a1 : a ≤ 1048577 := by omega
          have b1 : b ≤ 1048577 := by omega
          have a0 : -1 ≤ a := bA.1
          have b0 : -1 ≤ b := bB.1
          have z2 : k + 2 ≤ s.size := by omega
          clear hd HIT END GA GB GW XA XB NX c1 c2 bA bB lA lB
          by_cases ga : 0 ≤ a
          · rw [decide_eq_true ga, Bool.true_and] at E
            by_cases gb : 0 ≤ b
            · rw [decide_eq_true gb, Bool.true_and] at E
              replace E := hide E
              go_wp2_with fail
              refine (A.out _).mono ?_
              rintro e w1 ⟨rfl, b1⟩
              go_wp2_with fail
              refine (B.out _).mono ?_
              rintro e w2 ⟨rfl, b2⟩
              go_wp2_with fail
              go_ret
              exact ⟨ret_bool E.out.symm, chain b1 b2⟩
            · rw [decide_eq_false gb, Bool.false_and] at E
              replace E := hide E
              go_wp2_with fail
              refine (A.out _).mono ?_
              rintro e w1 ⟨rfl, b1⟩
              go_wp2_with fail
              refine (B.out _).mono ?_
              rintro e w2 ⟨rfl, b2⟩
              go_wp2_with fail
              go_ret
              exact ⟨ret_bool E.out.symm, chain b1 b2⟩
          · rw [decide_eq_false ga, Bool.false_and] at E
            replace E := hide E
            go_wp2_with fail
            refine (A.out _).mono ?_
            rintro e w1 ⟨rfl, b1⟩
            go_wp2_with fail
            refine (B.out _).mono ?_
            rintro e w2 ⟨rfl, b2⟩
            go_wp2_with fail
            go_ret
            exact ⟨ret_bool E.out.symm, chain b1 b2⟩
        · have d2 : ((s[k + 1].toNat : Int) == 58) = false := ne_int (c := 58) c2
          have E := NX (fun h => c2 h.2)
          clear hd HIT END GA GB GW XA XB NX c1 c2
          generalize ((s[k + 1].toNat : Nat) : Int) = p1 at *
          go_wp2_with fail
          go_round
          case rel => exact ⟨k + 1, by omega, by go_num, E⟩
          case measure => simp [intOf]; omega
      · have d1 : ((s[k].toNat : Int) == 58) = false := ne_int (c := 58) c1
        have E := NX (fun h => c1 h.1)
        clear hd HIT END GA GB GW XA XB NX c1
        go_wp2_with fail
        go_round
        case rel => exact ⟨k + 1, by omega, by go_num, E⟩
        case measure => simp [intOf]; omega
    · have i1 : ¬ (k : Int) + 1 < (s.size : Int) := by omega
      have E := hide (END.out (fun j hj => hd.out j hj (by omega)))
      have H := hide (fun w => GW.out w)
      clear hd HIT END GA GB GW XA XB hlt
      generalize groupsL s.data.toList = a at *
      by_cases h8 : a = 8
      · have d8 : (a == 8) = true := by rw [beq_iff_eq]; exact h8
        rw [decide_eq_true h8] at E
        clear h8
        go_wp2_with fail
        refine (H.out _).mono ?_
        rintro e w1 ⟨rfl, b1⟩
        go_wp2_with fail
        go_ret
        exact ⟨ret_bool E.out.symm, b1⟩
      · have d8 : (a == 8) = false := by rw [beq_eq_false_iff_ne]; exact h8
        rw [decide_eq_false h8] at E
        clear h8
        go_wp2_with fail
        refine (H.out _).mono ?_
        rintro e w1 ⟨rfl, b1⟩
        go_wp2_with fail
        go_ret
        exact ⟨ret_bool E.out.symm, b1⟩

end Go.Proofs.YtkllknfgojjphaaDoor
