/- The document's Right of layer 9: it answers by the function of 'PatS'; what lay in the world lies there still. Condition: texts of at most 2^16 bytes. -/
import Derived.Test.YtncljgpcloanfaaDoorQatR8
namespace Go.Proofs.YtncljgpcloanfaaDoor
open Go.RowKit Go.Lib

set_option maxHeartbeats 1000000 in
theorem row_empty (p : Option Addr) (c : Nat) (d : Int) (w : World) :
    Calls Tryd.prog 26 #[.slice p 0 c, .int .i64 0, .int .i64 d] w fun e w' => e = .returned (.int .i64 0) ∧ Below w.heap.size w w' := by
  go_enter Tryd.func26, Tryd.ntmps26
  go_wp2_with fail
  go_loop [1] (fun i => i = .int .i64 0) (fun _ => 0)
  case atStart => exact rfl
  case round =>
    obtain rfl := hrel
    go_wp2_with fail
    go_ret
    exact ⟨rfl, Below.refl _ _⟩
set_option maxHeartbeats 1000000 in
theorem rows_empty (p : Option Addr) (c : Nat) (d : Int) (w : World) :
    Calls Tryd.prog 18 #[.slice p 0 c, .int .i64 0, .int .i64 d] w fun e w' => e = .returned (.int .i64 0) ∧ Below w.heap.size w w' := by
  have H := hide (row_empty p c d w)
  go_enter Tryd.func18, Tryd.ntmps18
  go_wp2_with fail
  refine H.out.mono ?_
  rintro e w1 ⟨rfl, b1⟩
  go_wp2_with fail
  go_loop [7] (fun i => i = .int .i64 0) (fun _ => 0)
  case atStart => exact rfl
  case round =>
    obtain rfl := hrel
    go_wp2_with fail
    go_ret
    exact ⟨rfl, b1⟩
theorem right_no1 {p : List UInt8} (h : 200 < p.length) : rightL p = false := by unfold rightL; rw [decide_eq_false (by omega)]; rfl
theorem right_no2 {p : List UInt8} (h : validD p = false) : rightL p = false := by unfold rightL; rw [h]; simp
theorem right_is {p : List UInt8} (h : p.length ≤ 200) (hv : validD p = true) : rightL p = decide (endP (signsL p) (rowsD 8 (signsL p)) = ((signsL p).length : Int)) := by
  rw [Bool.eq_iff_iff, right_iff, decide_eq_true_eq]
  constructor
  · rintro ⟨_, _, x, hx⟩
    rw [patOf_some.1 hx]
    show ((signsL p).length : Int) - (([] : List Nat).length : Int) = _
    simp
  · intro he
    refine ⟨h, hv, ?_⟩
    cases hr : rowsD 8 (signsL p) with
    | none => rw [hr] at he; have : (-1 : Int) = _ := he; omega
    | some y =>
      obtain ⟨x, r⟩ := y
      rw [hr] at he
      have he : ((signsL p).length : Int) - (r.length : Int) = _ := he
      have : r = [] := List.eq_nil_of_length_eq_zero (by omega)
      subst this
      exact ⟨x, patOf_some.2 hr⟩
theorem signs_small : ∀ (n : Nat) (p : List UInt8), p.length ≤ n → ∀ c ∈ signsL p, c ≤ 1114111
  | 0, p, h, c, hc => by
    have : p = [] := List.eq_nil_of_length_eq_zero (by omega)
    subst this; cases hc
  | n + 1, p, h, c, hc => by
    by_cases hne : p = []
    · subst hne; cases hc
    · rw [signs_step p hne] at hc
      have hw := decodeL_width p
      have hl : 0 < p.length := List.length_pos_iff.2 hne
      rcases List.mem_cons.1 hc with e | e
      · rw [e]; exact decodeL_rune p
      · exact signs_small n _ (by rw [List.length_drop]; omega) c e
set_option maxHeartbeats 1000000 in
set_option maxRecDepth 100000 in
theorem refRight_any (s : ByteArray) (w : World) (hs : s.size ≤ 65536) :
    Calls Tryd.prog 11 #[.string s] w fun e w' => e = .returned (.bool (rightL s.data.toList)) ∧ Below w.heap.size w w' := by
  have hl : s.data.toList.length = s.size := by simp
  by_cases h2 : 200 < s.size
  · have i2 : (200 : Int) < (s.size : Int) := by omega
    have E := hide (right_no1 (p := s.data.toList) (by omega))
    clear hl h2
    go_enter Tryd.func11, Tryd.ntmps11
    go_wp2_with fail
    go_ret
    exact ⟨ret_bool E.out.symm, Below.refl _ _⟩
  have i2 : ¬ (200 : Int) < (s.size : Int) := by omega
  have HV := hide (refValid_any s w (by omega))
  cases hv : validS s with
  | false =>
    have E := hide (right_no2 (p := s.data.toList) hv)
    rw [hv] at HV
    clear hv hl h2
    go_enter Tryd.func11, Tryd.ntmps11
    go_wp2_with fail
    refine HV.out.mono ?_
    rintro e w1 ⟨rfl, b1⟩
    go_wp2_with fail
    go_ret
    exact ⟨ret_bool E.out.symm, b1⟩
  | true =>
    have E := right_is (p := s.data.toList) (by omega) hv
    rw [hv] at HV
    have HS := hide (fun w => refSigns_any s w hs)
    have sm := hide (signs_small _ s.data.toList (Nat.le_refl _))
    have sl := signs_len _ s.data.toList (Nat.le_refl _)
    rw [hl] at sl
    clear hv hl
    generalize rightL s.data.toList = R at *
    generalize signsL s.data.toList = l at *
    go_enter Tryd.func11, Tryd.ntmps11
    go_wp2_with fail
    refine HV.out.mono ?_
    rintro e w1 ⟨rfl, b1⟩
    go_wp2_with fail
    refine (HS.out _).mono ?_
    rintro e w2 ⟨v, rfl, hv, b2⟩
    have b3 := chain b1 b2
    rcases hv.form with ⟨rfl, p, c, rfl⟩ | ⟨g, cap, rfl, _, hg, hc⟩
    · rw [show endP [] (rowsD 8 []) = 0 by decide +kernel] at E
      have E2 : Hid (R = true) := by show _ = _; rw [E]; rfl
      have H := hide (fun w => rows_empty p c 0 w)
      clear E HS sm hv
      go_wp2_with fail
      refine (H.out _).mono ?_
      rintro e w3 ⟨rfl, b4⟩
      go_wp2_with fail
      go_ret
      exact ⟨ret_bool E2.out.symm, chain b3 b4⟩
    · have HR := hide ((level_any g cap l 8 0 rfl).2.2 0 w2 ⟨hg, hc, sm.out, by omega⟩ (Nat.zero_le _))
      rw [List.drop_zero] at HR
      unfold rowV at HR ⊢
      have E2 : Hid (R = (endP l (rowsD 8 l) == (l.length : Int))) := by
        show _ = _
        rw [E, Bool.eq_iff_iff, decide_eq_true_eq, beq_iff_eq]
      clear E HS sm hv hc
      generalize endP l (rowsD 8 l) = z at *
      go_wp2_with fail
      refine HR.out.mono ?_
      rintro e w3 ⟨rfl, b4⟩
      go_wp2_with fail
      go_ret
      exact ⟨ret_bool E2.out.symm, chain b3 b4⟩

end Go.Proofs.YtncljgpcloanfaaDoor
