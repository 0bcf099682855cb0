/- The walks of stage 8's laws on what stands behind an address, and on ports: each returns true, and what lay in the world lies there still. Condition: the tables that the program's road names. -/
import Derived.Test.YtkllknfgojjphaaDoorLinkLaws1
namespace Go.Proofs.YtkllknfgojjphaaDoor
open Go.RowKit

theorem has_next {s : ByteArray} {k : Nat} (hk : k < s.size) (c : UInt8) : hasB (s.data.toList.take (k + 1)) c = (hasB (s.data.toList.take k) c || (s[k] == c)) := by
  unfold hasB
  rw [byteAt_take s k hk, ← byteAt_eq s k hk, Bool.eq_iff_iff, Bool.or_eq_true, List.contains_iff_mem, List.contains_iff_mem, List.mem_append, beq_iff_eq]
  constructor
  · rintro (h | h)
    · exact .inl h
    · exact .inr (List.mem_singleton.1 h).symm
  · rintro (h | h)
    · exact .inl h
    · exact .inr (by simp [h])
theorem has_all (s : ByteArray) (c : UInt8) : hasB (s.data.toList.take s.size) c = hasB s.data.toList c := by rw [List.take_of_length_le (by simp)]
theorem has_not {l : List UInt8} {c : UInt8} (h : hasB l c = false) : c ∉ l := fun m => by
  unfold hasB at h
  rw [List.contains_iff_mem.2 m] at h; cases h

set_option maxHeartbeats 2000000 in
set_option maxRecDepth 100000 in
theorem linkBehind_walk (s more : ByteArray) (w : World) (hT : LinkTabs w) :
    Calls Tryd.prog 8 #[.string s, .string more] w fun e w' => e = .returned (.bool true) ∧ Below w.heap.size w w' := by
  have HW := hide (lwakes_any w hT)
  by_cases h : 8192 < s.size
  · have HL := hide (fun w' => longK_yes s w' h)
    clear hT h
    go_enter Tryd.func8, Tryd.ntmps8
    go_wp2_with fail
    refine (HW.out).mono ?_
    rintro e v1 ⟨rfl, c1⟩
    have b1 := c1
    go_wp2_with fail
    refine (HL.out _).mono ?_
    rintro e uu ⟨rfl, rfl⟩
    go_wp2_with fail
    go_ret
    exact ⟨rfl, b1⟩
  by_cases g : 8192 < more.size
  · have HL := hide (fun w' => longK_no s w' (by omega))
    have HM := hide (fun w' => longK_yes more w' g)
    clear hT h g
    go_enter Tryd.func8, Tryd.ntmps8
    go_wp2_with fail
    refine (HW.out).mono ?_
    rintro e v1 ⟨rfl, c1⟩
    have b1 := c1
    go_wp2_with fail
    refine (HL.out _).mono ?_
    rintro e uu ⟨rfl, rfl⟩
    go_wp2_with fail
    refine (HM.out _).mono ?_
    rintro e uu ⟨rfl, rfl⟩
    go_wp2_with fail
    go_ret
    exact ⟨rfl, b1⟩
  have HL := hide (fun w' => longK_no s w' (by omega))
  have HM := hide (fun w' => longK_no more w' (by omega))
  have hs8 : s.size ≤ 8192 := by omega
  have hm8 : more.size ≤ 8192 := by omega
  have z1 : (⟨#[35]⟩ : ByteArray).size = 1 := rfl
  have z2 : (⟨#[63]⟩ : ByteArray).size = 1 := rfl
  have H1 := hide (fun w' (b : Below w.heap.size w w') => linkAbs_any s w' (by omega) (hT.below b))
  have H2 := hide (fun w' (b : Below w.heap.size w w') => linkAbs_any (s ++ ⟨#[35]⟩ ++ more) w' (by rw [ByteArray.size_append, ByteArray.size_append]; omega) (hT.below b))
  have H3 := hide (fun w' (b : Below w.heap.size w w') => linkAbs_any (s ++ ⟨#[63]⟩ ++ more) w' (by rw [ByteArray.size_append, ByteArray.size_append]; omega) (hT.below b))
  rw [show (s ++ ⟨#[35]⟩ ++ more).data.toList = s.data.toList ++ 35 :: more.data.toList by simp] at H2
  rw [show (s ++ ⟨#[63]⟩ ++ more).data.toList = s.data.toList ++ 63 :: more.data.toList by simp] at H3
  have H4 := hide (fun w' => refFine_any more w' (by omega))
  have q1 := fun w => run_string_add_sum (P := Tryd.prog) w s ⟨#[35]⟩ (by omega)
  have q2 := fun w => run_string_add_sum (P := Tryd.prog) w (s ++ ⟨#[35]⟩) more (by rw [ByteArray.size_append]; omega)
  have q3 := fun w => run_string_add_sum (P := Tryd.prog) w s ⟨#[63]⟩ (by omega)
  have q4 := fun w => run_string_add_sum (P := Tryd.prog) w (s ++ ⟨#[63]⟩) more (by rw [ByteArray.size_append]; omega)
  have EH := hide (fun h => abs_hash (s := s.data.toList) more.data.toList (has_not h))
  have EA := hide (fun h h2 h3 => abs_ask (s := s.data.toList) (more := more.data.toList) (has_not h) (has_not h2) (has_not h3))
  have NS := hide (fun k hk c => has_next (s := s) (k := k) hk c)
  have NM := hide (fun k hk c => has_next (s := more) (k := k) hk c)
  clear hT h g z1 z2
  generalize s ++ ⟨#[35]⟩ ++ more = t1 at *
  generalize s ++ ⟨#[63]⟩ ++ more = t2 at *
  generalize s ++ ⟨#[35]⟩ = t3 at *
  generalize s ++ ⟨#[63]⟩ = t4 at *
  generalize absL (s.data.toList ++ 35 :: more.data.toList) = a1 at *
  generalize absL (s.data.toList ++ 63 :: more.data.toList) = a2 at *
  generalize absL s.data.toList = ia at *
  generalize fineL more.data.toList = fm at *
  go_enter Tryd.func8, Tryd.ntmps8
  go_wp2_with fail
  refine (HW.out).mono ?_
  rintro e v1 ⟨rfl, c1⟩
  have b1 := c1
  go_wp2_with fail
  refine (HL.out _).mono ?_
  rintro e uu ⟨rfl, rfl⟩
  go_wp2_with fail
  refine (HM.out _).mono ?_
  rintro e uu ⟨rfl, rfl⟩
  clear HW HL HM
  go_wp2_with fail
  go_loop [20, 5, 6] (fun i h a => ∃ (k : Nat) (hb ab : Bool), k ≤ s.size ∧ i = .int .i64 k ∧ h = .bool hb ∧ a = .bool ab ∧ Hid (hb = hasB (s.data.toList.take k) 35 ∧ ab = hasB (s.data.toList.take k) 63)) (fun i _ _ => s.size - (intOf i).toNat)
  case atStart => exact ⟨0, false, false, Nat.zero_le _, rfl, rfl, rfl, by show _ ∧ _; simp [hasB]⟩
  case round =>
    obtain ⟨k, hb, ab, hk, rfl, rfl, rfl, hd⟩ := hrel
    by_cases hlt : k < s.size
    · have i1 : (k : Int) < (s.size : Int) := by omega
      have n35 := NS.out k hlt 35
      have n63 := NS.out k hlt 63
      rw [← hd.out.1] at n35
      rw [← hd.out.2] at n63
      have e35 := beq_byte s[k] 35
      have e63 := beq_byte s[k] 63
      rw [← e35] at n35
      rw [← e63] at n63
      have hd' : Hid ((hb || ((s[k].toNat : Int) == 35)) = hasB (s.data.toList.take (k + 1)) 35 ∧ (ab || ((s[k].toNat : Int) == 63)) = hasB (s.data.toList.take (k + 1)) 63) := ⟨n35.symm, n63.symm⟩
      clear hd n35 n63 e35 e63 NS NM EH EA H1 H2 H3 H4
      cases hb <;> cases ab
      all_goals
      all_goals
        go_wp2_with fail
        go_round
        case rel => exact ⟨k + 1, _, _, by omega, by go_num, rfl, rfl, hd'⟩
        case measure => simp [intOf]; omega
    · obtain rfl : k = s.size := by omega
      have h35 := hd.out.1.trans (has_all s 35)
      have h63 := hd.out.2.trans (has_all s 63)
      clear hd hlt NS
      cases hb with
      | true =>
        clear h35 h63 NM EH EA H1 H2 H3 H4
        go_wp2_with fail
        go_ret
        exact ⟨rfl, b1⟩
      | false =>
        have E1 := EH.out h35.symm
        have EA2 := hide (fun h2 h3 => EA.out h35.symm h2 h3)
        clear EH EA h35
        cases ia with
      | false =>
        rw [Bool.false_and] at E1 EA2
        subst E1
        have H63 := hide h63
        clear h63 H4
        go_wp2_with fail
        refine (H1.out _ (b1)).mono ?_
        rintro e v2 ⟨rfl, c2⟩
        have b2 := chain b1 c2
        go_wp2_with fail
        refine (H2.out _ (b2)).mono ?_
        rintro e v3 ⟨rfl, c3⟩
        have b3 := chain b2 c3
        go_wp2_with fail
        go_loop [54, 6] (fun i a => ∃ (k : Nat) (ac : Bool), k ≤ more.size ∧ i = .int .i64 k ∧ a = .bool ac ∧ Hid (ac = (ab || hasB (more.data.toList.take k) 35))) (fun i _ => more.size - (intOf i).toNat)
        case atStart => exact ⟨0, ab, Nat.zero_le _, rfl, rfl, by show _ = _; simp [hasB]⟩
        case round =>
          obtain ⟨k, ac, hk, rfl, rfl, hd⟩ := hrel
          by_cases hlt : k < more.size
          · have i1 : (k : Int) < (more.size : Int) := by omega
            have n35 := NM.out k hlt 35
            have e35 := beq_byte more[k] 35
            rw [← e35] at n35
            have hd' : Hid ((ac || ((more[k].toNat : Int) == 35)) = (ab || hasB (more.data.toList.take (k + 1)) 35)) := by
              show _ = _
              rw [n35, hd.out, Bool.or_assoc]; rfl
            clear hd n35 e35 NM EA2 H1 H2 H3 H63
            cases ac
            all_goals
              go_wp2_with fail
              go_round
              case rel => exact ⟨k + 1, _, by omega, by go_num, rfl, hd'⟩
              case measure => simp [intOf]; omega
          · obtain rfl : k = more.size := by omega
            have hac := hd.out
            rw [has_all] at hac
            clear hd hlt NM
            cases ac with
            | true =>
              clear hac EA2 H1 H2 H3 H63
              go_wp2_with fail
              go_ret
              exact ⟨rfl, b3⟩
            | false =>
              have ⟨o1, o2⟩ : ab = false ∧ hasB more.data.toList 35 = false := by
                cases ab
                · exact ⟨rfl, by simpa using hac.symm⟩
                · cases hac
              subst o1
              have E2 := EA2.out H63.out.symm o2
              subst E2
              clear hac o2 EA2 H63
              go_wp2_with fail
              refine (H3.out _ (b3)).mono ?_
              rintro e v4 ⟨rfl, c4⟩
              have b4 := chain b3 c4
              go_wp2_with fail
              go_ret
              exact ⟨rfl, b4⟩
      | true =>
        rw [Bool.true_and] at E1 EA2
        subst E1
        have H63 := hide h63
        clear h63
        go_wp2_with fail
        refine (H1.out _ (b1)).mono ?_
        rintro e v2 ⟨rfl, c2⟩
        have b2 := chain b1 c2
        go_wp2_with fail
        refine (H2.out _ (b2)).mono ?_
        rintro e v3 ⟨rfl, c3⟩
        have b3 := chain b2 c3
        go_wp2_with fail
        refine (H4.out _).mono ?_
        rintro e v4 ⟨rfl, c4⟩
        have b4 := chain b3 c4
        go_wp2_with fail
        go_loop [54, 6] (fun i a => ∃ (k : Nat) (ac : Bool), k ≤ more.size ∧ i = .int .i64 k ∧ a = .bool ac ∧ Hid (ac = (ab || hasB (more.data.toList.take k) 35))) (fun i _ => more.size - (intOf i).toNat)
        case atStart => exact ⟨0, ab, Nat.zero_le _, rfl, rfl, by show _ = _; simp [hasB]⟩
        case round =>
          obtain ⟨k, ac, hk, rfl, rfl, hd⟩ := hrel
          by_cases hlt : k < more.size
          · have i1 : (k : Int) < (more.size : Int) := by omega
            have n35 := NM.out k hlt 35
            have e35 := beq_byte more[k] 35
            rw [← e35] at n35
            have hd' : Hid ((ac || ((more[k].toNat : Int) == 35)) = (ab || hasB (more.data.toList.take (k + 1)) 35)) := by
              show _ = _
              rw [n35, hd.out, Bool.or_assoc]; rfl
            clear hd n35 e35 NM EA2 H1 H2 H3 H63 H4
            cases ac
            all_goals
              go_wp2_with fail
              go_round
              case rel => exact ⟨k + 1, _, by omega, by go_num, rfl, hd'⟩
              case measure => simp [intOf]; omega
          · obtain rfl : k = more.size := by omega
            have hac := hd.out
            rw [has_all] at hac
            clear hd hlt NM
            cases ac with
            | true =>
              clear hac EA2 H1 H2 H3 H63 H4
              go_wp2_with fail
              go_ret
              exact ⟨rfl, b4⟩
            | false =>
              have ⟨o1, o2⟩ : ab = false ∧ hasB more.data.toList 35 = false := by
                cases ab
                · exact ⟨rfl, by simpa using hac.symm⟩
                · cases hac
              subst o1
              have E2 := EA2.out H63.out.symm o2
              subst E2
              clear hac o2 EA2 H63
              go_wp2_with fail
              refine (H3.out _ (b4)).mono ?_
              rintro e v5 ⟨rfl, c5⟩
              have b5 := chain b4 c5
              go_wp2_with fail
              refine (H4.out _).mono ?_
              rintro e v6 ⟨rfl, c6⟩
              have b6 := chain b5 c6
              go_wp2_with fail
              go_ret
              exact ⟨rfl, b6⟩


end Go.Proofs.YtkllknfgojjphaaDoor
