/- The program's reader: 'digits'. Condition: texts as long as the law asks. -/
import Derived.Test.YtekcbkicfoaheaaGreatDoorMomRd
import Derived.Test.YtekcbkicfoaheaaGreatDoorMomP
namespace Go.Proofs.YtekcbkicfoaheaaGreatDoor
open Go.RowKit

theorem all_takeDg {l : List UInt8} (h : ∀ c ∈ l, isDg c = true) : l.takeWhile isDg = l := by
  have := (takeWhile_all (k := []) h (fun _ _ e => by cases e)).1
  rw [List.append_nil] at this
  exact this
/-- The digits end at a place. -/
theorem digs_at {s : ByteArray} {m k : Nat} (hk : k ≤ s.size) (hm : k ≤ m) (h : ∀ c ∈ s.data.toList.take k, isDg c = true) (he : k = m ∨ k = s.size ∨ ∃ g : k < s.size, isDg s[k] = false) : digsOf m s.data.toList = s.data.toList.take k := by
  unfold digsOf
  have hl : s.data.toList.length = s.size := by simp
  rcases he with e | e | ⟨g, e⟩
  · subst e; exact all_takeDg h
  · subst e
    rw [List.take_of_length_le (show s.data.toList.length ≤ m by omega)]
    rw [List.take_of_length_le (show s.data.toList.length ≤ s.size by omega)] at h ⊢
    exact all_takeDg h
  · have e1 : s.data.toList = s.data.toList.take k ++ s[k] :: s.data.toList.drop (k + 1) := by
      have : s[k] = s.data.toList[k]'(by simpa using g) := by simp; rfl
      rw [this, ← List.drop_eq_getElem_cons]
      exact (List.take_append_drop k _).symm
    rcases Nat.lt_or_ge k m with g2 | g2
    · have e2 : s.data.toList.take m = s.data.toList.take k ++ s[k] :: (s.data.toList.drop (k + 1)).take (m - k - 1) := by
        have := congrArg (List.take m) e1
        rw [List.take_append, List.length_take, List.take_take, Nat.min_eq_right (by omega), Nat.min_eq_left (by omega)] at this
        rw [this]
        obtain ⟨j, rfl⟩ : ∃ j, m = k + 1 + j := ⟨m - k - 1, by omega⟩
        rw [show k + 1 + j - k = j + 1 by omega, show j + 1 - 1 = j by omega, List.take_succ_cons]
      rw [e2]
      exact (takeWhile_all h (fun c r' x => by cases x; exact e)).1
    · obtain rfl : k = m := by omega
      exact all_takeDg h
theorem txt_pre (s : ByteArray) (k : Nat) : s.extract 0 k = txt (s.data.toList.take k) := by
  apply ByteArray.ext
  rw [show (txt (s.data.toList.take k)).data = (s.data.toList.take k).toArray from rfl]
  apply Array.ext'
  simp
theorem txt_post (s : ByteArray) (k : Nat) : s.extract k s.size = txt (s.data.toList.drop k) := by
  apply ByteArray.ext
  rw [show (txt (s.data.toList.drop k)).data = (s.data.toList.drop k).toArray from rfl]
  apply Array.ext'
  have : (s.extract k s.size).data.toList = (s.data.toList.drop k).take (s.size - k) := by simp
  rw [this, List.take_of_length_le (by simp)]

set_option maxHeartbeats 1000000 in
theorem digits_any (w0 : World) (R : Nat) (l : List UInt8) (b : Bool) (m : Nat) (w : World) (h : Rd w0 w R l b) (hm : m ≤ 1000000) (hl : l.length ≤ 1000000) :
    Calls Tryz.prog 59 #[.pointer (some ⟨R, 0, none⟩), .int .i64 m] w fun e w' => e = .returned (.string (txt (digsOf m l))) ∧ Rd w0 w' R (l.drop (digsOf m l).length) b := by
  obtain ⟨s, rfl⟩ : ∃ s : ByteArray, l = s.data.toList := ⟨txt l, rfl⟩
  have hs : s.size ≤ 1000000 := by simpa using hl
  have f0 := h.frozen 0
  have c0 : w.cell? ⟨R, 0, none⟩ = some (.string s) := h.cell0
  have h0 := hide h
  clear h hl
  go_enter Tryz.func59, Tryz.ntmps59
  go_wp2_with fail
  go_loop [5] (fun i => ∃ k : Nat, k ≤ s.size ∧ k ≤ m ∧ i = .int .i64 k ∧ Hid (∀ c ∈ s.data.toList.take k, isDg c = true)) (fun i => s.size - (intOf i).toNat)
  case atStart => exact ⟨0, Nat.zero_le _, Nat.zero_le _, rfl, by intro c hc; simp at hc⟩
  case round =>
    obtain ⟨k, hk, hkm, rfl, hd⟩ := hrel
    have END : (k = m ∨ k = s.size ∨ ∃ g : k < s.size, isDg s[k] = false) → Hid (txt (digsOf m s.data.toList) = s.extract 0 k ∧ Rd w0 (w.setCell ⟨R, 0, none⟩ (.string (s.extract k s.size))) R (s.data.toList.drop (digsOf m s.data.toList).length) b) := by
      intro he
      have e := digs_at hk hkm hd.out he
      refine ⟨by rw [e, txt_pre], ?_⟩
      rw [e, txt_post, List.length_take, Nat.min_eq_left (by simpa using hk)]
      exact h0.out.set0 _
    by_cases h1 : k < m
    · by_cases h2 : k < s.size
      · have hI := isDg_iff s[k]
        have hN := isDg_not s[k]
        have NX : isDg s[k] = true → Hid (∀ c ∈ s.data.toList.take (k + 1), isDg c = true) := by
          intro g c hc
          have : s[k] = s.data.toList[k]'(by simpa using h2) := by simp; rfl
          rw [List.take_succ_eq_append_getElem (by simpa using h2), ← this] at hc
          rcases List.mem_append.1 hc with hc | hc
          · exact hd.out c hc
          · simp at hc; subst hc; exact g
        have i1 : (k : Int) < (m : Int) := by omega
        rcases (show (s[k].toNat : Int) < 48 ∨ (48 ≤ (s[k].toNat : Int) ∧ 57 < (s[k].toNat : Int)) ∨ (48 ≤ (s[k].toNat : Int) ∧ (s[k].toNat : Int) ≤ 57) by omega) with g1 | ⟨g1, g2⟩ | ⟨g1, g2⟩
        · have E := END (.inr (.inr ⟨h2, hN.2 (by omega)⟩))
          clear hI hN NX END hd
          go_wp2_with fail
          go_ret
          exact ⟨ret_str E.out.1.symm, E.out.2⟩
        · have E := END (.inr (.inr ⟨h2, hN.2 (by omega)⟩))
          clear hI hN NX END hd
          go_wp2_with fail
          go_ret
          exact ⟨ret_str E.out.1.symm, E.out.2⟩
        · have E := NX (hI.2 (by omega))
          clear hI hN NX END hd
          go_wp2_with fail
          go_round
          case rel => exact ⟨k + 1, by omega, by omega, by go_num, E⟩
          case measure => simp [intOf]; omega
      · have E := END (.inr (.inl (by omega)))
        have i1 : (k : Int) < (m : Int) := by omega
        have i2 : (s.size : Int) ≤ (k : Int) := by omega
        clear END hd
        go_wp2_with fail
        go_ret
        exact ⟨ret_str E.out.1.symm, E.out.2⟩
    · have E := END (.inl (by omega))
      have i1 : (m : Int) ≤ (k : Int) := by omega
      clear END hd
      go_wp2_with fail
      go_ret
      exact ⟨ret_str E.out.1.symm, E.out.2⟩

end Go.Proofs.YtekcbkicfoaheaaGreatDoor
