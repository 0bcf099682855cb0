/- The document's Scheme and Fine of layer 8: they answer by the functions of 'Link'; what lay in the world lies there still. Condition: texts of at most 2^20 bytes. -/
import Derived.Test.YtkllknfgojjphaaDoorLinkRef1
import Derived.Test.YtkllknfgojjphaaDoorHexRef
import Derived.Test.YtkllknfgojjphaaDoorValidRef
namespace Go.Proofs.YtkllknfgojjphaaDoor
open Go.RowKit

theorem sch_bad {s : ByteArray} {k : Nat} (hk : k < s.size) (h : ∀ j (_ : j < s.size), j < k → ¬ s[j] = 58) (h2 : ¬ s[k] = 58) (hb : schC s[k] = false ∨ (k = 0 ∧ alphaB s[k] = false)) : schOk s.data.toList = false := by
  rcases first_cases 58 s.data.toList with m | ⟨a, b, e, ha⟩
  · exact sch_none m
  · rw [e, (sch_cut b ha).1]
    have hlen : k < a.length := by
      rcases Nat.lt_or_ge k a.length with g | g
      · exact g
      · exfalso
        have hal : a.length < s.size := by
          have := congrArg List.length e
          rw [List.length_append, List.length_cons] at this
          have hl : s.data.toList.length = s.size := by simp
          omega
        have ea : s[a.length] = 58 := by
          rw [← at_list s a.length hal]
          simp [e]
        rcases Nat.lt_or_ge a.length k with q | q
        · exact h a.length hal q ea
        · obtain rfl : k = a.length := by omega
          exact h2 ea
    have ek : a[k] = s[k] := by
      rw [← at_list s k hk]
      simp [e, hlen]
    rcases hb with hb | ⟨h0, hb⟩
    · have : a.all schC = false := all_not (List.getElem_mem hlen) (by rw [ek]; exact hb)
      rw [this]; simp
    · subst h0
      have : a.getD 0 0 = s[0] := by rw [← ek]; simp [List.getD, hlen]
      rw [this, hb]; simp
theorem sch_end {s : ByteArray} (h : ∀ j (_ : j < s.size), ¬ s[j] = 58) : schOk s.data.toList = false := by
  refine sch_none ?_
  have := take_free (s := s) (c := 58) (k := s.size) (fun j hj _ => h j hj)
  rw [List.take_of_length_le (by simp)] at this
  exact this
theorem sch_zero {s : ByteArray} (hk : 0 < s.size) (e : s[0] = 58) : schOk s.data.toList = false := by
  have := list_at hk
  rw [e, List.take_zero, List.nil_append] at this
  rw [this]; rfl
theorem sch_yes {s : ByteArray} {k : Nat} (hk : k < s.size) (h0 : k ≠ 0) (h : ∀ j (_ : j < s.size), j < k → ¬ s[j] = 58 ∧ schC s[j] = true ∧ (j = 0 → alphaB s[j] = true)) (e : s[k] = 58) : schOk s.data.toList = true ∧ schL s.data.toList = lowL (s.data.toList.take k) := by
  have el := list_at hk
  rw [e] at el
  have hf := take_free (s := s) (c := 58) (k := k) (fun j hj hjk => (h j hj hjk).1)
  have hlen := len_take (s := s) (k := k) (by omega)
  have ok : schOk s.data.toList = true := by
    rw [el, (sch_cut _ hf).1]
    have a1 : (s.data.toList.take k).isEmpty = false := by
      cases g : s.data.toList.take k with
      | nil => rw [g] at hlen; simp at hlen; omega
      | cons => rfl
    have a2 : alphaB ((s.data.toList.take k).getD 0 0) = true := by
      have : (s.data.toList.take k).getD 0 0 = s[0] := by
        rw [← at_list s 0 (by omega)]
        simp [List.getD, show 0 < k by omega, show 0 < s.size by omega]
      rw [this]
      exact (h 0 (by omega) (by omega)).2.2 rfl
    have a3 : (s.data.toList.take k).all schC = true := by
      rw [List.all_eq_true]
      intro c m
      obtain ⟨j, hj, e2⟩ := List.getElem_of_mem m
      rw [List.getElem_take, at_list s j (by omega)] at e2
      rw [← e2]
      exact (h j (by omega) (by omega)).2.1
    rw [a1, a2, a3]; rfl
  refine ⟨ok, ?_⟩
  have := schL_cut (s.data.toList.drop (k + 1)) hf (by rw [← el]; exact ok)
  rw [← el] at this
  exact this

def schV (s : ByteArray) : Value := .tuple #[.string (txt (schL s.data.toList)), .bool (schOk s.data.toList)]
theorem schV_no {s : ByteArray} (h : schOk s.data.toList = false) : schV s = .tuple #[.string ⟨#[]⟩, .bool false] := by
  unfold schV schL
  rw [h]; rfl
theorem schV_yes {s t : ByteArray} (h : schOk s.data.toList = true) (h2 : schL s.data.toList = t.data.toList) : schV s = .tuple #[.string t, .bool true] := by
  unfold schV
  rw [h, h2]; rfl
theorem sch_parts (c : UInt8) : schC c = (plainB c || hasB schSg c) ∧ alphaB c = (plainB c && !isDg c) := ⟨rfl, rfl⟩

set_option maxHeartbeats 2000000 in
set_option maxRecDepth 100000 in
theorem refScheme_any (s : ByteArray) (w : World) (hs : s.size ≤ 1048576) :
    Calls Tryd.prog 12 #[.string s] w fun e w' => e = .returned (schV s) ∧ Below w.heap.size w w' := by
  have BAD := hide (fun k hk h h2 hb => schV_no (sch_bad (s := s) (k := k) hk h h2 hb))
  have END := hide (fun h => schV_no (sch_end (s := s) h))
  have ZERO := hide (fun hk e => schV_no (sch_zero (s := s) hk e))
  have YES := hide (fun k hk h0 h e => sch_yes (s := s) (k := k) hk h0 h e)
  have LOW := hide (fun k w => refLower_any (s.extract 0 k) w (by rw [ByteArray.size_extract]; omega))
  have EX := hide (fun k => Lib.extract_from_zero s k)
  have VY := hide (fun t h h2 => schV_yes (s := s) (t := t) h h2)
  generalize schV s = V at *
  go_enter Tryd.func12, Tryd.ntmps12
  go_wp2_with fail
  go_loop [4, 5, 6] (fun i _ _ => ∃ k : Nat, k ≤ s.size ∧ i = .int .i64 k ∧ Hid (∀ j (_ : j < s.size), j < k → ¬ s[j] = 58 ∧ schC s[j] = true ∧ (j = 0 → alphaB s[j] = true))) (fun i _ _ => s.size - (intOf i).toNat)
  case atStart => exact ⟨0, Nat.zero_le _, rfl, fun j _ h => by omega⟩
  case round =>
    obtain ⟨k, hk, rfl, hd⟩ := hrel
    by_cases hlt : k < s.size
    · have i1 : (k : Int) < (s.size : Int) := by omega
      have i2 : ((k : Int) == (s.size : Int)) = false := by rw [beq_eq_false_iff_ne]; omega
      by_cases hc : s[k] = 58
      · have c1 : ((s[k].toNat : Int) != 58) = false := by rw [hc]; rfl
        by_cases h0 : k = 0
        · subst h0
          have E := hide (ZERO.out hlt hc)
          clear hd hc BAD END ZERO YES LOW EX VY
          go_wp2_with fail
          go_ret2
          exact ⟨(congrArg Ending.returned E.out).symm, Below.refl _ _⟩
        · have h0i : ((k : Int) == 0) = false := by rw [beq_eq_false_iff_ne]; omega
          have ⟨y1, y2⟩ := YES.out k hlt h0 hd.out hc
          have E := hide (VY.out (lowS (s.extract 0 k)) y1 (by rw [y2, lowS_data, EX.out]))
          have LK := hide (fun w => LOW.out k w)
          clear hd hc BAD END ZERO YES y1 y2 h0 LOW EX VY
          go_wp2_with fail
          refine (LK.out _).mono ?_
          rintro e w1 ⟨rfl, b1⟩
          go_wp2_with fail
          go_ret2
          exact ⟨(congrArg Ending.returned E.out).symm, b1⟩
      · have c1 : ((s[k].toNat : Int) != 58) = true := by
          rw [bne_iff_ne]
          exact fun e => hc (UInt8.toNat_inj.1 (by show s[k].toNat = 58; omega))
        have ⟨p1, p2⟩ := sch_parts s[k]
        have BADk := BAD.out k hlt (fun j hj hjk => (hd.out j hj hjk).1) hc
        have NX : schC s[k] = true → (k = 0 → alphaB s[k] = true) → Hid (∀ j (_ : j < s.size), j < k + 1 → ¬ s[j] = 58 ∧ schC s[j] = true ∧ (j = 0 → alphaB s[j] = true)) := by
          intro g1 g2 j hj hjk
          rcases Nat.lt_or_ge j k with q | q
          · exact hd.out j hj q
          · obtain rfl : j = k := by omega
            exact ⟨hc, g1, g2⟩
        have HP := hide (fun w => refPlain_any s[k] w)
        have HI := hide (fun w => refIn_any s[k] ⟨#[43, 45, 46]⟩ w (by decide))
        rw [show (⟨#[43, 45, 46]⟩ : ByteArray).data.toList = schSg from rfl] at HI
        have hdg := isDg_iff s[k]
        clear hd BAD END ZERO YES LOW EX VY hc
        cases hp : plainB s[k] with
        | false =>
          rw [hp] at HP p1 p2
          have hnd : ¬ (48 ≤ s[k].toNat ∧ s[k].toNat ≤ 57) := by
            intro g
            unfold plainB at hp
            exact absurd (Or.inl g) (of_decide_eq_false hp)
          cases hi : hasB schSg s[k] with
          | false =>
            have E := hide (BADk (.inl (by rw [p1, hi]; rfl)))
            rw [hi] at HI
            clear BADk NX p1 p2 hp hi hdg
            rcases (show (s[k].toNat : Int) < 48 ∨ (48 ≤ (s[k].toNat : Int) ∧ 57 < (s[k].toNat : Int)) by omega) with g | ⟨g, g'⟩
            all_goals
              clear hnd
              go_wp2_with fail
              refine (HP.out _).mono ?_
              rintro e uu ⟨rfl, rfl⟩
              go_wp2_with fail
              refine (HI.out _).mono ?_
              rintro e uu ⟨rfl, rfl⟩
              go_wp2_with fail
              go_ret2
              exact ⟨(congrArg Ending.returned E.out).symm, Below.refl _ _⟩
          | true =>
            rw [hi] at HI
            by_cases h0 : k = 0
            · subst h0
              have E := hide (BADk (.inr ⟨rfl, by rw [p2]; rfl⟩))
              clear BADk NX p1 p2 hp hi hdg
              rcases (show (s[0].toNat : Int) < 48 ∨ (48 ≤ (s[0].toNat : Int) ∧ 57 < (s[0].toNat : Int)) by omega) with g | ⟨g, g'⟩
              all_goals
                clear hnd
                go_wp2_with fail
                refine (HP.out _).mono ?_
                rintro e uu ⟨rfl, rfl⟩
                go_wp2_with fail
                refine (HI.out _).mono ?_
                rintro e uu ⟨rfl, rfl⟩
                go_wp2_with fail
                refine (HP.out _).mono ?_
                rintro e uu ⟨rfl, rfl⟩
                go_wp2_with fail
                go_ret2
                exact ⟨(congrArg Ending.returned E.out).symm, Below.refl _ _⟩
            · have E := NX (by rw [p1, hi]; rfl) (fun h => absurd h h0)
              have h0i : ((k : Int) == 0) = false := by rw [beq_eq_false_iff_ne]; omega
              clear BADk NX p1 p2 hp hi hdg h0
              rcases (show (s[k].toNat : Int) < 48 ∨ (48 ≤ (s[k].toNat : Int) ∧ 57 < (s[k].toNat : Int)) by omega) with g | ⟨g, g'⟩
              all_goals
                clear hnd
                go_wp2_with fail
                refine (HP.out _).mono ?_
                rintro e uu ⟨rfl, rfl⟩
                go_wp2_with fail
                refine (HI.out _).mono ?_
                rintro e uu ⟨rfl, rfl⟩
                go_wp2_with fail
                go_round
                case rel => exact ⟨k + 1, by omega, by go_num, E⟩
                case measure => simp [intOf]; omega
        | true =>
          rw [hp] at HP p1 p2
          by_cases h0 : k = 0
          · subst h0
            rcases (show (s[0].toNat : Int) < 48 ∨ (48 ≤ (s[0].toNat : Int) ∧ 57 < (s[0].toNat : Int)) ∨ (48 ≤ (s[0].toNat : Int) ∧ (s[0].toNat : Int) ≤ 57) by omega) with g | ⟨g, g'⟩ | ⟨g, g'⟩
            · have hdf : isDg s[0] = false := by
                cases q : isDg s[0] with
                | false => rfl
                | true => have := hdg.1 q; omega
              have E := NX (by rw [p1]; rfl) (fun _ => by rw [p2, hdf]; rfl)
              clear BADk NX p1 p2 hp hdg hdf HI
              go_wp2_with fail
              refine (HP.out _).mono ?_
              rintro e uu ⟨rfl, rfl⟩
              go_wp2_with fail
              refine (HP.out _).mono ?_
              rintro e uu ⟨rfl, rfl⟩
              go_wp2_with fail
              go_round
              case rel => exact ⟨0 + 1, by omega, by go_num, E⟩
              case measure => simp [intOf]; omega
            · have hdf : isDg s[0] = false := by
                cases q : isDg s[0] with
                | false => rfl
                | true => have := hdg.1 q; omega
              have E := NX (by rw [p1]; rfl) (fun _ => by rw [p2, hdf]; rfl)
              clear BADk NX p1 p2 hp hdg hdf HI
              go_wp2_with fail
              refine (HP.out _).mono ?_
              rintro e uu ⟨rfl, rfl⟩
              go_wp2_with fail
              refine (HP.out _).mono ?_
              rintro e uu ⟨rfl, rfl⟩
              go_wp2_with fail
              go_round
              case rel => exact ⟨0 + 1, by omega, by go_num, E⟩
              case measure => simp [intOf]; omega
            · have hdt : isDg s[0] = true := hdg.2 (by omega)
              have E := hide (BADk (.inr ⟨rfl, by rw [p2, hdt]; rfl⟩))
              clear BADk NX p1 p2 hp hdg hdt HI
              go_wp2_with fail
              refine (HP.out _).mono ?_
              rintro e uu ⟨rfl, rfl⟩
              go_wp2_with fail
              go_ret2
              exact ⟨(congrArg Ending.returned E.out).symm, Below.refl _ _⟩
          · have E := NX (by rw [p1]; rfl) (fun h => absurd h h0)
            have h0i : ((k : Int) == 0) = false := by rw [beq_eq_false_iff_ne]; omega
            clear BADk NX p1 p2 hp hdg h0 HI
            rcases (show (s[k].toNat : Int) < 48 ∨ (48 ≤ (s[k].toNat : Int) ∧ 57 < (s[k].toNat : Int)) ∨ (48 ≤ (s[k].toNat : Int) ∧ (s[k].toNat : Int) ≤ 57) by omega) with g | ⟨g, g'⟩ | ⟨g, g'⟩
            all_goals
              go_wp2_with fail
              refine (HP.out _).mono ?_
              rintro e uu ⟨rfl, rfl⟩
              go_wp2_with fail
              go_round
              case rel => exact ⟨k + 1, by omega, by go_num, E⟩
              case measure => simp [intOf]; omega
    · obtain rfl : k = s.size := by omega
      have E := hide (END.out (fun j hj => (hd.out j hj hj).1))
      clear hd BAD END ZERO YES LOW EX VY hlt
      by_cases h0 : s.size = 0
      · have h0i : ((s.size : Int) == 0) = true := by rw [beq_iff_eq]; omega
        go_wp2_with fail
        go_ret2
        exact ⟨(congrArg Ending.returned E.out).symm, Below.refl _ _⟩
      · have h0i : ((s.size : Int) == 0) = false := by rw [beq_eq_false_iff_ne]; omega
        clear h0
        go_wp2_with fail
        go_ret2
        exact ⟨(congrArg Ending.returned E.out).symm, Below.refl _ _⟩

end Go.Proofs.YtkllknfgojjphaaDoor
