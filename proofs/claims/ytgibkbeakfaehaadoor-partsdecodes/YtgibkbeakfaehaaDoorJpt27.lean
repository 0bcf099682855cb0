/- The document's find, begins, quoted, Part of layer 20. -/
import Derived.Test.YtgibkbeakfaehaaDoorJpt3
import Derived.Test.YtgibkbeakfaehaaDoorJpt20

namespace Go.Proofs.YtgibkbeakfaehaaDoor
open Go.RowKit
set_option maxRecDepth 100000
/-- The first place of a text, from a place on. -/
def fndI (t l : List UInt8) (k : Nat) : Int := match cutL t l with
  | some p => ((k + p.1.length : Nat) : Int)
  | none => -1
theorem cut_short {t : List UInt8} : ∀ {l : List UInt8}, l.length < t.length → cutL t l = none
  | [], h => cut_end (fun e => by rw [e] at h; simp at h)
  | c :: l, h => by
    have e : t.isPrefixOf (c :: l) = false := by
      cases q : t.isPrefixOf (c :: l) with
      | false => rfl
      | true =>
        have := (List.isPrefixOf_iff_prefix.1 q).length_le
        omega
    rw [cut_miss e, cut_short (by simp at h; omega)]; rfl
theorem fnd_hit' {t l : List UInt8} {k : Nat} (h : t.isPrefixOf l = true) : fndI t l k = (k : Int) := by
  unfold fndI; rw [cut_hit h]; rfl
theorem fnd_miss' {t l : List UInt8} {c : UInt8} {k : Nat} (h : t.isPrefixOf (c :: l) = false) : fndI t (c :: l) k = fndI t l (k + 1) := by
  unfold fndI; rw [cut_miss h]
  cases cutL t l with
  | none => rfl
  | some p =>
    show ((k + (c :: p.1).length : Nat) : Int) = ((k + 1 + p.1.length : Nat) : Int)
    rw [List.length_cons]; omega
theorem fnd_short {t l : List UInt8} {k : Nat} (h : l.length < t.length) : fndI t l k = -1 := by
  unfold fndI; rw [cut_short h]
theorem ext_pre (s t : ByteArray) (k : Nat) (_h : k + t.size ≤ s.size) : ((s.extract k (k + t.size)).toList == t.toList) = (bL t).isPrefixOf ((bL s).drop k) := by
  rw [ByteArray.toList_eq, ByteArray.toList_eq]
  simp only [ByteArray.data_extract, Array.toList_extract]
  rw [List.extract_eq_take_drop]
  have e : k + t.size - k = t.size := by omega
  rw [e, Bool.eq_iff_iff, beq_iff_eq, List.isPrefixOf_iff_prefix]
  constructor
  · intro q
    refine ⟨(List.drop t.size (List.drop k (bL s))), ?_⟩
    rw [show bL t = List.take t.size (List.drop k s.data.toList) from q.symm]
    exact List.take_append_drop _ _
  · rintro ⟨z, hz⟩
    have : List.take t.size (List.drop k (bL s)) = bL t := by
      rw [← hz]
      exact List.take_left' (len_bL t)
    exact this
set_option maxHeartbeats 4000000 in
theorem refFindP_any (s t : ByteArray) (f : Nat) (w : World) (hs : s.size ≤ 1099511627776) (ht : t.size ≤ 1099511627776) (hf : f ≤ s.size) :
    Calls Tryd.prog 31 #[.string s, .string t, .int .i64 (f : Int)] w fun e w' => e = .returned (.int .i64 (fndI (bL t) ((bL s).drop f) f)) ∧ w' = w := by
  obtain ⟨RES, hRES⟩ : ∃ R, Hid (fndI (bL t) ((bL s).drop f) f = R) := ⟨_, show _ = _ from rfl⟩
  rw [hRES.out]
  go_enter Tryd.func31, Tryd.ntmps31
  go_wp2_with fail
  go_loop [7] (fun iv => ∃ k : Nat, k ≤ s.size ∧ iv = .int .i64 k ∧ Hid (fndI (bL t) ((bL s).drop k) k = RES)) (fun iv => s.size + 1 - (intOf iv).toNat)
  case atStart => exact ⟨f, hf, rfl, hRES⟩
  case round =>
    obtain ⟨k, hk, rfl, HE⟩ := hrel
    clear hRES
    by_cases g : k + t.size ≤ s.size
    · have d0 : decide ((k : Int) + (t.size : Int) ≤ (s.size : Int)) = true := decide_eq_true (by omega)
      have k2 : (k : Int) + (t.size : Int) ≤ (s.size : Int) := by omega
      have k0 : (0 : Int) ≤ (k : Int) := by omega
      have EP := hide (ext_pre s t k g)
      cases q : (bL t).isPrefixOf ((bL s).drop k) with
      | true =>
        have q1 : ((s.extract k (k + t.size)).toList == t.toList) = true := by rw [EP.out, q]
        have R1 : Hid (RES = (k : Int)) := by show _ = _; rw [← HE.out]; exact fnd_hit' q
        clear EP HE q
        go_wp2_with fail
        go_ret
        exact ⟨ret_int R1.out.symm, rfl⟩
      | false =>
        have q1 : ((s.extract k (k + t.size)).toList == t.toList) = false := by rw [EP.out, q]
        have lt : k < s.size := by
          apply Classical.byContradiction
          intro h
          have t0 : t.size = 0 := by omega
          have : bL t = [] := List.eq_nil_of_length_eq_zero (by rw [len_bL]; exact t0)
          rw [this] at q
          simp at q
        have HN : Hid (fndI (bL t) ((bL s).drop (k + 1)) (k + 1) = RES) := by
          show _ = _
          have D := drop1 s k lt
          rw [← HE.out]
          rw [show (bL s).drop k = s[k] :: (bL s).drop (k + 1) from D] at q ⊢
          exact (fnd_miss' q).symm
        clear EP HE q
        go_wp2_with fail
        go_round
        case rel => exact ⟨k + 1, by omega, by go_num, HN⟩
        case measure => simp [intOf]; omega
    · have d0 : decide ((k : Int) + (t.size : Int) ≤ (s.size : Int)) = false := decide_eq_false (by omega)
      have R1 : Hid (RES = -1) := by
        show _ = _
        rw [← HE.out]
        exact fnd_short (by rw [List.length_drop, len_bL, len_bL]; omega)
      clear HE
      go_wp2_with fail
      go_ret
      exact ⟨ret_int R1.out.symm, rfl⟩

end Go.Proofs.YtgibkbeakfaehaaDoor
