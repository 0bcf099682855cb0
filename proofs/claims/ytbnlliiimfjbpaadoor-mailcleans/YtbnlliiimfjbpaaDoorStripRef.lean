/- The document's Blank and Strip: they answer by the functions of 'Strip'; the world is as it was. Condition: texts of at most 2^48 bytes. -/
import Derived.Test.YtbnlliiimfjbpaaDoorRows
import Derived.Test.YtbnlliiimfjbpaaDoorStrip
namespace Go.Proofs.YtbnlliiimfjbpaaDoor
open Go.RowKit

set_option maxHeartbeats 400000 in
theorem refBlank_any (c : UInt8) (w : World) :
    Calls Tryd.prog 36 #[.int .u8 (c.toNat : Int)] w fun e w' => e = .returned (.bool (isBl c)) ∧ w' = w := by
  have HB := hide (isBl_iff c)
  generalize (c.toNat : Int) = x at *
  cases hx : isBl c with
  | true =>
    have h5 := HB.out.1 hx
    clear hx HB
    rcases h5 with rfl | rfl | rfl | rfl | rfl
    all_goals
      go_enter Tryd.func36, Tryd.ntmps36
      go_wp2
      go_ret
      exact ⟨rfl, rfl⟩
  | false =>
    have h5 : ¬ (x = 9 ∨ x = 10 ∨ x = 12 ∨ x = 13 ∨ x = 32) := fun h => by rw [HB.out.2 h] at hx; cases hx
    have q1 : (x == 9) = false := by simp; omega
    have q2 : (x == 10) = false := by simp; omega
    have q3 : (x == 12) = false := by simp; omega
    have q4 : (x == 13) = false := by simp; omega
    have q5 : (x == 32) = false := by simp; omega
    clear hx HB h5
    go_enter Tryd.func36, Tryd.ntmps36
    go_wp2
    go_ret
    exact ⟨rfl, rfl⟩

set_option maxHeartbeats 400000 in
theorem refStrip_any (s : ByteArray) (w : World) (hs : s.size ≤ 281474976710656) :
    Calls Tryd.prog 25 #[.string s] w fun e w' => e = .returned (.string (stripS s)) ∧ Below w.heap.size w w' := by
  go_enter Tryd.func25, Tryd.ntmps25
  go_wp2_with fail
  go_loop [3] (fun i => ∃ p : Nat, p ≤ s.size ∧ i = .int .i64 p ∧ LeftB s p) (fun i => s.size - (intOf i).toNat)
  case atStart => exact ⟨0, Nat.zero_le _, rfl, leftB_zero s⟩
  case round =>
    obtain ⟨p, hp, rfl, hl⟩ := hrel
    by_cases hlt : p < s.size
    · cases hb : isBl s[p] with
      | true =>
        have HS := hide (leftB_succ hl hlt hb)
        go_wp2_with fail
        refine (refBlank_any s[p] _).mono ?_
        rintro e w1 ⟨rfl, rfl⟩
        go_wp2_with fail
        go_round
        case rel => exact ⟨p + 1, by omega, by go_num, HS.out⟩
        case measure => simp [intOf]; omega
      | false =>
        have HN := hide (noneB_at hlt hb)
        go_wp2_with fail
        refine (refBlank_any s[p] _).mono ?_
        rintro e w1 ⟨rfl, rfl⟩
        go_wp2_with fail
        go_loop [4] (fun i => ∃ q : Nat, p ≤ q ∧ q ≤ s.size ∧ i = .int .i64 q ∧ RightB s q) (fun i => (intOf i).toNat)
        case atStart => exact ⟨s.size, hp, Nat.le_refl _, rfl, rightB_end s⟩
        case round =>
          obtain ⟨q, hpq, hq, rfl, hr⟩ := hrel
          by_cases hgt : p < q
          · have hq1 : q - 1 < s.size := by omega
            have hti : ((q : Int) - 1).toNat = q - 1 := by omega
            cases hb : isBl (s[q - 1]'hq1) with
            | true =>
              have HS := hide (rightB_pred (k := q - 1) (by rw [Nat.sub_add_cancel (by omega)]; exact hr) hq1 hb)
              have HB := hide hb
              clear hb
              go_wp2_with fail
              refine (refBlank_any (s[q - 1]'hq1) _).mono ?_
              rintro e w1 ⟨rfl, rfl⟩
              rw [HB.out]
              go_wp2_with fail
              go_round
              case rel => exact ⟨q - 1, by omega, by omega, by go_num, HS.out⟩
              case measure => simp [intOf]; omega
            | false =>
              have HF := hide (stripS_found hpq hq hl hr HN.out (.inr (noneB_at hq1 hb)))
              go_wp2_with fail
              refine (refBlank_any (s[q - 1]'hq1) _).mono ?_
              rintro e w1 ⟨rfl, rfl⟩
              go_wp2_with fail
              go_ret
              exact ⟨ret_str HF.out.symm, Below.refl _ _⟩
          · have HF := hide (stripS_found hpq hq hl hr HN.out (.inl (by omega)))
            go_wp2_with fail
            go_ret
            exact ⟨ret_str HF.out.symm, Below.refl _ _⟩
    · have HN := hide (noneB_end (s := s) (k := p) (by omega))
      go_wp2_with fail
      go_loop [4] (fun i => ∃ q : Nat, p ≤ q ∧ q ≤ s.size ∧ i = .int .i64 q ∧ RightB s q) (fun i => (intOf i).toNat)
      case atStart => exact ⟨s.size, hp, Nat.le_refl _, rfl, rightB_end s⟩
      case round =>
        obtain ⟨q, hpq, hq, rfl, hr⟩ := hrel
        have hgt : ¬ p < q := by omega
        have HF := hide (stripS_found hpq hq hl hr HN.out (.inl (by omega)))
        go_wp2_with fail
        go_ret
        exact ⟨ret_str HF.out.symm, Below.refl _ _⟩

end Go.Proofs.YtbnlliiimfjbpaaDoor
