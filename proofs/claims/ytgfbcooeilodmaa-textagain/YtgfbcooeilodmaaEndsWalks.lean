/- The program's Lines, Pairs, NoBreaks (withEnds) and the document's (ends) answer by the same function of lists of bytes; they change nothing that was there. Condition: texts of at most 2^40 bytes. -/
import Derived.Test.YtgfbcooeilodmaaRows
import Derived.Test.YtgfbcooeilodmaaEnds
import Derived.Test.YtgfbcooeilodmaaBuilder
import Derived.Test.YtgfbcooeilodmaaLowWalks
namespace Go.Proofs.Ytgfbcooeilodmaa
open Go.RowKit

set_option maxHeartbeats 400000 in
theorem withEnds_any (s e : ByteArray) (w : World) (hs : s.size ≤ 1099511627776) (he : e.size ≤ 2) :
    Calls Try.prog 16 #[.string s, .string e] w fun r w' => r = .returned (.string (endsS e s)) ∧ Below w.heap.size w w' := by
  go_enter Try.func16, Try.ntmps16
  go_wp2_with fail
  refine (grow_fresh s.size w (by omega)).mono ?_
  rintro r w1 ⟨rfl, h1, b1⟩
  go_wp2_with fail
  go_loopw [13] (fun i wr => ∃ k : Nat, k ≤ s.size ∧ i = .int .i64 k ∧ HoldsB w.heap.size w.heap.size (endsP e.data.toList 0 (s.data.toList.take k)) wr ∧ Below w.heap.size w wr) (fun i _ => s.size - (intOf i).toNat)
  case atStart => exact ⟨0, Nat.zero_le _, rfl, h1, b1⟩
  case round =>
    obtain ⟨k, hk, rfl, hh, hb⟩ := hrel
    by_cases hlt : k < s.size
    · have hle := endsP_take_le e s k he
      have HT := hide (endsP_take e.data.toList s k hlt)
      have hsz := hb.size
      have HE := hide (byteAt_eq s k hlt)
      go_wp2_with fail
      · have h10 : (s[k].toNat : Int) = 10 := by assumption
        have h0 : 0 < k := by assumption
        have h13 : ((((s[k - 1]'(by omega)).toNat : Int)) == 13) = true := by assumption
        rw [HE.out] at h10
        rw [prevAt_eq s k hlt h0, beq_iff_eq] at h13
        go_roundw
        case rel => exact ⟨k + 1, by omega, by go_num, by rw [HT.out, piece_none ((b10 _).2 h10) ((b13 _).2 h13), List.append_nil]; exact hh, hb⟩
        case measure => simp [intOf]; omega
      · have h10 : (s[k].toNat : Int) = 10 := by assumption
        have h0 : 0 < k := by assumption
        have h13 : ((((s[k - 1]'(by omega)).toNat : Int)) == 13) = false := by assumption
        rw [HE.out] at h10
        rw [prevAt_eq s k hlt h0, beq_eq_false_iff_ne] at h13
        have HP := hide (piece_end (e := e.data.toList) (p := prevAt s k) (c := byteAt s k) (fun h => h13 ((b13 _).1 h.2)) (.inl ((b10 _).2 h10)))
        refine (writeString _ _ _ e wr hh (by omega) hb.size).mono ?_
        rintro r w2 ⟨rfl, h2, b2⟩
        go_wp2_with fail
        go_roundw
        case rel => exact ⟨k + 1, by omega, by go_num, by rw [HT.out, HP.out]; exact h2, hb.trans b2⟩
        case measure => simp [intOf]; omega
      · have h10 : (s[k].toNat : Int) = 10 := by assumption
        have h0 : ¬ 0 < k := by assumption
        rw [HE.out] at h10
        have HP := hide (piece_end (e := e.data.toList) (p := prevAt s k) (c := byteAt s k) (fun h => by have := h.2; unfold prevAt at this; rw [if_pos (by omega)] at this; exact absurd this (by decide)) (.inl ((b10 _).2 h10)))
        refine (writeString _ _ _ e wr hh (by omega) hb.size).mono ?_
        rintro r w2 ⟨rfl, h2, b2⟩
        go_wp2_with fail
        go_roundw
        case rel => exact ⟨k + 1, by omega, by go_num, by rw [HT.out, HP.out]; exact h2, hb.trans b2⟩
        case measure => simp [intOf]; omega
      · have h10 : ¬ (s[k].toNat : Int) = 10 := by assumption
        have h13 : ((s[k].toNat : Int) == 10) = true ∨ ((s[k].toNat : Int) == 13) = true := by assumption
        rw [HE.out] at h10 h13
        rw [beq_iff_eq, beq_iff_eq] at h13
        have HP := hide (piece_end (e := e.data.toList) (p := prevAt s k) (c := byteAt s k) (fun h => h10 ((b10 _).1 h.1)) (.inr ((b13 _).2 (by omega))))
        refine (writeString _ _ _ e wr hh (by omega) hb.size).mono ?_
        rintro r w2 ⟨rfl, h2, b2⟩
        go_wp2_with fail
        go_roundw
        case rel => exact ⟨k + 1, by omega, by go_num, by rw [HT.out, HP.out]; exact h2, hb.trans b2⟩
        case measure => simp [intOf]; omega
      · have h10 : ¬ (s[k].toNat : Int) = 10 := by assumption
        have h13 : ((s[k].toNat : Int) == 10) = false ∧ ((s[k].toNat : Int) == 13) = false := by assumption
        rw [HE.out] at h10 h13
        rw [beq_eq_false_iff_ne, beq_eq_false_iff_ne] at h13
        have HP := hide (piece_byte (e := e.data.toList) (p := prevAt s k) (c := byteAt s k) (fun h => h10 ((b10 _).1 h)) (fun h => h13.2 ((b13 _).1 h)))
        rw [HE.out]
        refine (writeByte _ _ _ (byteAt s k) wr hh (by omega) hb.size).mono ?_
        rintro r w2 ⟨rfl, h2, b2⟩
        go_wp2_with fail
        go_roundw
        case rel => exact ⟨k + 1, by omega, by go_num, by rw [HT.out, HP.out]; exact h2, hb.trans b2⟩
        case measure => simp [intOf]; omega
    · have e : k = s.size := by omega
      subst e
      rw [take_all] at hh
      go_wp2_with fail
      refine (builderText _ _ _ _ hh hb.size).mono ?_
      rintro r w2 ⟨rfl, b2⟩
      go_wp2_with fail
      go_ret
      exact ⟨rfl, hb.trans b2⟩

set_option maxHeartbeats 400000 in
theorem refEnds_any (s e : ByteArray) (w : World) (hs : s.size ≤ 1099511627776) (he : e.size ≤ 2) :
    Calls Try.prog 17 #[.string s, .string e] w fun r w' => r = .returned (.string (endsS e s)) ∧ Below w.heap.size w w' := by
  go_enter Try.func17, Try.ntmps17
  go_wp2
  go_loopw [5, 6] (fun v i wr => ∃ k : Nat, k ≤ s.size ∧ i = .int .i64 k ∧ OwnsB 5 w.heap.size wr v (endsP e.data.toList 0 (s.data.toList.take k)) ∧ (k < s.size → ¬ (byteAt s k = 10 ∧ prevAt s k = 13)) ∧ Below w.heap.size w wr) (fun _ i _ => s.size - (intOf i).toNat)
  case atStart => exact ⟨0, Nat.zero_le _, rfl, OwnsB.nil _ _ _, fun _ h => absurd h.2 (prevAt_zero s), Below.refl _ _⟩
  case round =>
    obtain ⟨k, hk, rfl, hown, hn, hb⟩ := hrel
    by_cases hlt : k < s.size
    · have hle := endsP_take_le e s k he
      have HT := hide (endsP_take e.data.toList s k hlt)
      have hsz := hb.size
      have HN := hide (hn hlt)
      clear hn
      have HE := hide (byteAt_eq s k hlt)
      have HB : Hid ((s[k].toNat : Int) = ((byteAt s k).toNat : Int)) := by rw [byteAt_eq s k hlt]; rfl
      by_cases h10 : (s[k].toNat : Int) = 10
      · have q1 : ((s[k].toNat : Int) != 10) = false := by simp [h10]
        have q2 : ((s[k].toNat : Int) == 13) = false := by simp [h10]
        have hc := (b10 (byteAt s k)).2 (by rw [← HB.out]; exact h10)
        have HP := hide (piece_end (e := e.data.toList) (p := prevAt s k) (c := byteAt s k) HN.out (.inl hc))
        have HX := hide (fun h : k + 1 < s.size => next_free s k (fun h13 => absurd (hc.symm.trans h13) (by decide)) h)
        clear h10 hc HE
        go_wp2_with (at_builtin; refine wpList_append_text byteTypes wr rfl _ _ rfl w.heap.size _ _ e rfl hown rfl (by omega) (by omega) ?_; intro v' w' hown' hb')
        go_roundw
        case rel => exact ⟨k + 1, by omega, by go_num, by rw [HT.out, HP.out]; exact hown', fun h => HX.out h, hb.trans hb'⟩
        case measure => simp [intOf]; omega
      · by_cases h13 : (s[k].toNat : Int) = 13
        · have q1 : ((s[k].toNat : Int) != 10) = true := by simp [h13]
          have q2 : ((s[k].toNat : Int) != 13) = false := by simp [h13]
          have q3 : ((s[k].toNat : Int) == 13) = true := by simp [h13]
          have hc := (b13 (byteAt s k)).2 (by rw [← HB.out]; exact h13)
          have HP := hide (piece_end (e := e.data.toList) (p := prevAt s k) (c := byteAt s k) HN.out (.inr hc))
          by_cases hn1 : k + 1 < s.size
          · have hi1 : (k : Int) + 1 < (s.size : Int) := by omega
            by_cases hx : ((s[k + 1]'hn1).toNat : Int) = 10
            · have q4 : (((s[k + 1]'hn1).toNat : Int) == 10) = true := by simp [hx]
              have hc1 := (b10 (byteAt s (k + 1))).2 (by rw [← byteAt_eq s (k + 1) hn1]; exact hx)
              have hp1 : prevAt s (k + 1) = 13 := by unfold prevAt; rw [if_neg (by omega)]; exact hc
              have HT2 : Hid (endsP e.data.toList 0 (s.data.toList.take (k + 1 + 1)) = endsP e.data.toList 0 (s.data.toList.take k) ++ e.data.toList) := by
                show _ = _
                rw [endsP_take _ _ _ hn1, piece_none hc1 hp1, List.append_nil, HT.out, HP.out]
              have HX := hide (fun h : k + 1 + 1 < s.size => next_free s (k + 1) (fun h13 => absurd (hc1.symm.trans h13) (by decide)) h)
              clear h10 h13 hc HE hx hc1 hp1
              go_wp2_with (at_builtin; refine wpList_append_text byteTypes wr rfl _ _ rfl w.heap.size _ _ e rfl hown rfl (by omega) (by omega) ?_; intro v' w' hown' hb')
              go_roundw
              case rel => exact ⟨k + 1 + 1, by omega, by go_num, by rw [HT2.out]; exact hown', fun h => HX.out h, hb.trans hb'⟩
              case measure => simp [intOf]; omega
            · have q4 : (((s[k + 1]'hn1).toNat : Int) == 10) = false := by simp [hx]
              have HX := hide (fun _ : k + 1 < s.size => fun h : byteAt s (k + 1) = 10 ∧ prevAt s (k + 1) = 13 => hx (by rw [byteAt_eq s (k + 1) hn1]; exact (b10 _).1 h.1))
              clear h10 h13 hc HE hx
              go_wp2_with (at_builtin; refine wpList_append_text byteTypes wr rfl _ _ rfl w.heap.size _ _ e rfl hown rfl (by omega) (by omega) ?_; intro v' w' hown' hb')
              go_roundw
              case rel => exact ⟨k + 1, by omega, by go_num, by rw [HT.out, HP.out]; exact hown', fun h => HX.out h, hb.trans hb'⟩
              case measure => simp [intOf]; omega
          · have hi1 : ¬ (k : Int) + 1 < (s.size : Int) := by omega
            clear h10 h13 hc HE
            go_wp2_with (at_builtin; refine wpList_append_text byteTypes wr rfl _ _ rfl w.heap.size _ _ e rfl hown rfl (by omega) (by omega) ?_; intro v' w' hown' hb')
            go_roundw
            case rel => exact ⟨k + 1, by omega, by go_num, by rw [HT.out, HP.out]; exact hown', fun h => absurd h hn1, hb.trans hb'⟩
            case measure => simp [intOf]; omega
        · have q1 : ((s[k].toNat : Int) != 10) = true := by simp [h10]
          have q2 : ((s[k].toNat : Int) != 13) = true := by simp [h13]
          have g10 := fun h => h10 (HB.out.trans ((b10 (byteAt s k)).1 h))
          have g13 := fun h => h13 (HB.out.trans ((b13 (byteAt s k)).1 h))
          have HP := hide (piece_byte (e := e.data.toList) (p := prevAt s k) (c := byteAt s k) g10 g13)
          have HX := hide (fun h : k + 1 < s.size => next_free s k g13 h)
          clear h10 h13 HE g10 g13
          go_wp2_with (at_builtin; refine wpList_append_byte byteTypes wr _ rfl _ _ rfl w.heap.size _ _ (byteAt s k) HB.out rfl hown rfl (by omega) (by omega) ?_; intro v' w' hown' hb')
          go_roundw
          case rel => exact ⟨k + 1, by omega, by go_num, by rw [HT.out, HP.out]; exact hown', fun h => HX.out h, hb.trans hb'⟩
          case measure => simp [intOf]; omega
    · have e : k = s.size := by omega
      subst e
      rw [take_all] at hown
      have hend := hown.text byteTypes
      go_wp2
      go_ret
      exact ⟨rfl, hb⟩

set_option maxHeartbeats 400000 in
theorem lines_any (s : ByteArray) (w : World) (hs : s.size ≤ 1099511627776) :
    Calls Try.prog 10 #[.string s] w fun r w' => r = .returned (.string (linesS s)) ∧ Below w.heap.size w w' := by
  go_enter Try.func10, Try.ntmps10
  go_wp2_with fail
  refine (withEnds_any s ⟨#[10]⟩ _ hs (by decide)).mono ?_
  rintro r w1 ⟨rfl, b1⟩
  go_wp2_with fail
  go_ret
  exact ⟨rfl, b1⟩

set_option maxHeartbeats 400000 in
theorem refLines_any (s : ByteArray) (w : World) (hs : s.size ≤ 1099511627776) :
    Calls Try.prog 11 #[.string s] w fun r w' => r = .returned (.string (linesS s)) ∧ Below w.heap.size w w' := by
  go_enter Try.func11, Try.ntmps11
  go_wp2_with fail
  refine (refEnds_any s ⟨#[10]⟩ _ hs (by decide)).mono ?_
  rintro r w1 ⟨rfl, b1⟩
  go_wp2_with fail
  go_ret
  exact ⟨rfl, b1⟩

set_option maxHeartbeats 400000 in
theorem pairs_any (s : ByteArray) (w : World) (hs : s.size ≤ 1099511627776) :
    Calls Try.prog 12 #[.string s] w fun r w' => r = .returned (.string (pairsS s)) ∧ Below w.heap.size w w' := by
  go_enter Try.func12, Try.ntmps12
  go_wp2_with fail
  refine (withEnds_any s ⟨#[13, 10]⟩ _ hs (by decide)).mono ?_
  rintro r w1 ⟨rfl, b1⟩
  go_wp2_with fail
  go_ret
  exact ⟨rfl, b1⟩

set_option maxHeartbeats 400000 in
theorem refPairs_any (s : ByteArray) (w : World) (hs : s.size ≤ 1099511627776) :
    Calls Try.prog 13 #[.string s] w fun r w' => r = .returned (.string (pairsS s)) ∧ Below w.heap.size w w' := by
  go_enter Try.func13, Try.ntmps13
  go_wp2_with fail
  refine (refEnds_any s ⟨#[13, 10]⟩ _ hs (by decide)).mono ?_
  rintro r w1 ⟨rfl, b1⟩
  go_wp2_with fail
  go_ret
  exact ⟨rfl, b1⟩

set_option maxHeartbeats 400000 in
theorem noBreaks_any (s : ByteArray) (w : World) (hs : s.size ≤ 1099511627776) :
    Calls Try.prog 14 #[.string s] w fun r w' => r = .returned (.string (noBreaksS s)) ∧ Below w.heap.size w w' := by
  go_enter Try.func14, Try.ntmps14
  go_wp2_with fail
  refine (withEnds_any s ⟨#[]⟩ _ hs (by decide)).mono ?_
  rintro r w1 ⟨rfl, b1⟩
  go_wp2_with fail
  go_ret
  exact ⟨rfl, b1⟩

set_option maxHeartbeats 400000 in
theorem refNoBreaks_any (s : ByteArray) (w : World) (hs : s.size ≤ 1099511627776) :
    Calls Try.prog 15 #[.string s] w fun r w' => r = .returned (.string (noBreaksS s)) ∧ Below w.heap.size w w' := by
  go_enter Try.func15, Try.ntmps15
  go_wp2_with fail
  refine (refEnds_any s ⟨#[]⟩ _ hs (by decide)).mono ?_
  rintro r w1 ⟨rfl, b1⟩
  go_wp2_with fail
  go_ret
  exact ⟨rfl, b1⟩

end Go.Proofs.Ytgfbcooeilodmaa
