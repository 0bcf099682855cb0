/- The document's Parse answers by the function of 'Num'. -/
import Derived.Test.YtfjfkkbgkjmghaaGreatDoorJct5

namespace Go.Proofs.YtfjfkkbgkjmghaaGreatDoor
open Go.RowKit
set_option maxRecDepth 100000
theorem ret_twoN {r : Int × Int} {n m : Int} (h : r = (n, m)) : Ending.returned (.tuple #[.int .i64 n, .int .i64 m]) = .returned (.tuple #[.int .i64 r.1, .int .i64 r.2]) := by rw [h]
theorem count_at (s : ByteArray) (a : Nat) (x : Int) (n : Nat) (hs : s.size ≤ 1099511627776) (ha : a ≤ s.size) (hx : x = (a : Int)) (hn : cntV s.data.toList a = n) (w : World) :
    Calls Tryz.prog 92 #[.string s, .int .i64 x] w fun e w' => e = .returned (.int .i64 n) ∧ w' = w := by
  have := refCount_any s a w (by unfold maxLen; omega) ha
  rw [hn, ← hx] at this; exact this
set_option maxHeartbeats 2000000 in
theorem rp_N1_pos (s : ByteArray) (w : World) (hs : s.size ≤ 1099511627776) (h1 : s.size = 0) :
    Calls Tryz.prog 65 #[.string s] w fun e w' => e = .returned (.tuple #[.int .i64 0, .int .i64 1]) ∧ w' = w := by
  have HC := hide (count_at s 0 0 0 hs (by omega) rfl (by unfold cntV; rw [List.eq_nil_of_length_eq_zero (show s.data.toList.length = 0 from h1)]; rfl))
  have h1' : (s.size : Int) = 0 := by omega
  go_enter Tryz.func65, Tryz.ntmps65
  go_wp2_with fail
  refine (HC.out _).mono ?_
  rintro e u1 ⟨rfl, rfl⟩
  go_wp2_with fail
  go_ret2
  exact ⟨rfl, rfl⟩
set_option maxHeartbeats 2000000 in
theorem rp_N2_pos (s : ByteArray) (w : World) (hs : s.size ≤ 1099511627776) (h0 : 0 < s.size) (hc0 : ((s[0].toNat : Int) == 45) = false)(pt : Nat) (a1 : cntV s.data.toList 0 = pt) (hpt : pt < s.size) (hc : ((s[pt].toNat : Int) == 46) = false) (hz : pt ≠ 0) :
    Calls Tryz.prog 65 #[.string s] w fun e w' => e = .returned (.tuple #[.int .i64 0, .int .i64 1]) ∧ w' = w := by
  have HC := hide (count_at s 0 0 pt hs (by omega) rfl a1)
  have h0' : (0 : Int) < (s.size : Int) := by omega
  have hpt' : (pt : Int) < (s.size : Int) := by omega
  clear a1
  have hz2 : ((pt : Int) == 0) = false := by rw [beq_eq_false_iff_ne]; omega
  have hne : ((pt : Int) == (s.size : Int)) = false := by simp; omega
  clear hz
  go_enter Tryz.func65, Tryz.ntmps65
  go_wp2_with fail
  refine (HC.out _).mono ?_
  rintro e u1 ⟨rfl, rfl⟩
  go_wp2_with fail
  go_ret2
  exact ⟨rfl, rfl⟩
set_option maxHeartbeats 2000000 in
theorem rp_N2z_pos (s : ByteArray) (w : World) (hs : s.size ≤ 1099511627776) (h0 : 0 < s.size) (hc0 : ((s[0].toNat : Int) == 45) = false)(pt : Nat) (a1 : cntV s.data.toList 0 = pt) (hpt : pt < s.size) (hc : ((s[pt].toNat : Int) == 46) = false) (hz : pt = 0) :
    Calls Tryz.prog 65 #[.string s] w fun e w' => e = .returned (.tuple #[.int .i64 0, .int .i64 1]) ∧ w' = w := by
  have HC := hide (count_at s 0 0 pt hs (by omega) rfl a1)
  have h0' : (0 : Int) < (s.size : Int) := by omega
  have hpt' : (pt : Int) < (s.size : Int) := by omega
  clear a1
  have hz2 : ((pt : Int) == 0) = true := by rw [beq_iff_eq]; omega
  clear hz
  go_enter Tryz.func65, Tryz.ntmps65
  go_wp2_with fail
  refine (HC.out _).mono ?_
  rintro e u1 ⟨rfl, rfl⟩
  go_wp2_with fail
  go_ret2
  exact ⟨rfl, rfl⟩
set_option maxHeartbeats 2000000 in
theorem rp_N3_pos (s : ByteArray) (w : World) (hs : s.size ≤ 1099511627776) (h0 : 0 < s.size) (hc0 : ((s[0].toNat : Int) == 45) = false)(pt : Nat) (a1 : cntV s.data.toList 0 = pt) (hpt : pt < s.size) (hc : ((s[pt].toNat : Int) == 46) = true) (q pl : Nat) (hq : pt + 1 = q) (a2 : cntV s.data.toList q = pl) (hz : pl = 0) :
    Calls Tryz.prog 65 #[.string s] w fun e w' => e = .returned (.tuple #[.int .i64 0, .int .i64 1]) ∧ w' = w := by
  have HC := hide (count_at s 0 0 pt hs (by omega) rfl a1)
  have h0' : (0 : Int) < (s.size : Int) := by omega
  have hpt' : (pt : Int) < (s.size : Int) := by omega
  clear a1
  have HD := hide (count_at s q q pl hs (by omega) rfl a2)
  have hq' : (pt : Int) + 1 = (q : Int) := by omega
  clear a2
  have hz2 : ((pl : Int) == 0) = true := by rw [beq_iff_eq]; omega
  clear hz
  go_enter Tryz.func65, Tryz.ntmps65
  go_wp2_with fail
  refine (HC.out _).mono ?_
  rintro e u1 ⟨rfl, rfl⟩
  go_wp2_with fail
  refine (HD.out _).mono ?_
  rintro e u1 ⟨rfl, rfl⟩
  go_wp2_with fail
  go_ret2
  exact ⟨rfl, rfl⟩
set_option maxHeartbeats 2000000 in
theorem rp_N4_pos (s : ByteArray) (w : World) (hs : s.size ≤ 1099511627776) (h0 : 0 < s.size) (hc0 : ((s[0].toNat : Int) == 45) = false)(pt : Nat) (a1 : cntV s.data.toList 0 = pt) (hpt : pt < s.size) (hc : ((s[pt].toNat : Int) == 46) = true) (q pl : Nat) (hq : pt + 1 = q) (a2 : cntV s.data.toList q = pl) (hz : pl ≠ 0) (hn : q + pl < s.size) :
    Calls Tryz.prog 65 #[.string s] w fun e w' => e = .returned (.tuple #[.int .i64 0, .int .i64 1]) ∧ w' = w := by
  have HC := hide (count_at s 0 0 pt hs (by omega) rfl a1)
  have h0' : (0 : Int) < (s.size : Int) := by omega
  have hpt' : (pt : Int) < (s.size : Int) := by omega
  clear a1
  have HD := hide (count_at s q q pl hs (by omega) rfl a2)
  have hq' : (pt : Int) + 1 = (q : Int) := by omega
  clear a2
  have hz2 : ((pl : Int) == 0) = false := by rw [beq_eq_false_iff_ne]; omega
  have hne : ((q : Int) + (pl : Int) == (s.size : Int)) = false := by simp; omega
  have hn' : (q : Int) + (pl : Int) < (s.size : Int) := by omega
  clear hz hn
  go_enter Tryz.func65, Tryz.ntmps65
  go_wp2_with fail
  refine (HC.out _).mono ?_
  rintro e u1 ⟨rfl, rfl⟩
  go_wp2_with fail
  refine (HD.out _).mono ?_
  rintro e u1 ⟨rfl, rfl⟩
  go_wp2_with fail
  go_ret2
  exact ⟨rfl, rfl⟩
set_option maxHeartbeats 2000000 in
theorem rp_N1_neg (s : ByteArray) (w : World) (hs : s.size ≤ 1099511627776) (h0 : 0 < s.size) (hc0 : ((s[0].toNat : Int) == 45) = true) (h1 : s.size = 1) :
    Calls Tryz.prog 65 #[.string s] w fun e w' => e = .returned (.tuple #[.int .i64 0, .int .i64 1]) ∧ w' = w := by
  have HC := hide (count_at s 1 1 0 hs (by omega) rfl (by unfold cntV; rw [List.drop_of_length_le (by simp; omega)]; rfl))
  have h1' : (s.size : Int) = 1 := by omega
  go_enter Tryz.func65, Tryz.ntmps65
  go_wp2_with fail
  refine (HC.out _).mono ?_
  rintro e u1 ⟨rfl, rfl⟩
  go_wp2_with fail
  go_ret2
  exact ⟨rfl, rfl⟩
set_option maxHeartbeats 2000000 in
theorem rp_N2_neg (s : ByteArray) (w : World) (hs : s.size ≤ 1099511627776) (h0 : 0 < s.size) (hc0 : ((s[0].toNat : Int) == 45) = true)(pt wl : Nat) (a1 : cntV s.data.toList 1 = wl) (hw : 1 + wl = pt) (hpt : pt < s.size) (hc : ((s[pt].toNat : Int) == 46) = false) (hz : wl ≠ 0) :
    Calls Tryz.prog 65 #[.string s] w fun e w' => e = .returned (.tuple #[.int .i64 0, .int .i64 1]) ∧ w' = w := by
  have HC := hide (count_at s 1 1 wl hs (by omega) rfl a1)
  have hw' : (1 : Int) + (wl : Int) = (pt : Int) := by omega
  have h0' : (0 : Int) < (s.size : Int) := by omega
  have hpt' : (pt : Int) < (s.size : Int) := by omega
  clear a1
  have hz2 : ((wl : Int) == 0) = false := by rw [beq_eq_false_iff_ne]; omega
  have hne : ((pt : Int) == (s.size : Int)) = false := by simp; omega
  clear hz
  go_enter Tryz.func65, Tryz.ntmps65
  go_wp2_with fail
  refine (HC.out _).mono ?_
  rintro e u1 ⟨rfl, rfl⟩
  go_wp2_with fail
  go_ret2
  exact ⟨rfl, rfl⟩
set_option maxHeartbeats 2000000 in
theorem rp_N2z_neg (s : ByteArray) (w : World) (hs : s.size ≤ 1099511627776) (h0 : 0 < s.size) (hc0 : ((s[0].toNat : Int) == 45) = true)(pt wl : Nat) (a1 : cntV s.data.toList 1 = wl) (hw : 1 + wl = pt) (hpt : pt < s.size) (hc : ((s[pt].toNat : Int) == 46) = false) (hz : wl = 0) :
    Calls Tryz.prog 65 #[.string s] w fun e w' => e = .returned (.tuple #[.int .i64 0, .int .i64 1]) ∧ w' = w := by
  have HC := hide (count_at s 1 1 wl hs (by omega) rfl a1)
  have hw' : (1 : Int) + (wl : Int) = (pt : Int) := by omega
  have h0' : (0 : Int) < (s.size : Int) := by omega
  have hpt' : (pt : Int) < (s.size : Int) := by omega
  clear a1
  have hz2 : ((wl : Int) == 0) = true := by rw [beq_iff_eq]; omega
  clear hz
  go_enter Tryz.func65, Tryz.ntmps65
  go_wp2_with fail
  refine (HC.out _).mono ?_
  rintro e u1 ⟨rfl, rfl⟩
  go_wp2_with fail
  go_ret2
  exact ⟨rfl, rfl⟩
set_option maxHeartbeats 2000000 in
theorem rp_N3_neg (s : ByteArray) (w : World) (hs : s.size ≤ 1099511627776) (h0 : 0 < s.size) (hc0 : ((s[0].toNat : Int) == 45) = true)(pt wl : Nat) (a1 : cntV s.data.toList 1 = wl) (hw : 1 + wl = pt) (hpt : pt < s.size) (hc : ((s[pt].toNat : Int) == 46) = true) (q pl : Nat) (hq : pt + 1 = q) (a2 : cntV s.data.toList q = pl) (hz : pl = 0) :
    Calls Tryz.prog 65 #[.string s] w fun e w' => e = .returned (.tuple #[.int .i64 0, .int .i64 1]) ∧ w' = w := by
  have HC := hide (count_at s 1 1 wl hs (by omega) rfl a1)
  have hw' : (1 : Int) + (wl : Int) = (pt : Int) := by omega
  have h0' : (0 : Int) < (s.size : Int) := by omega
  have hpt' : (pt : Int) < (s.size : Int) := by omega
  clear a1
  have HD := hide (count_at s q q pl hs (by omega) rfl a2)
  have hq' : (pt : Int) + 1 = (q : Int) := by omega
  clear a2
  have hz2 : ((pl : Int) == 0) = true := by rw [beq_iff_eq]; omega
  clear hz
  go_enter Tryz.func65, Tryz.ntmps65
  go_wp2_with fail
  refine (HC.out _).mono ?_
  rintro e u1 ⟨rfl, rfl⟩
  go_wp2_with fail
  refine (HD.out _).mono ?_
  rintro e u1 ⟨rfl, rfl⟩
  go_wp2_with fail
  go_ret2
  exact ⟨rfl, rfl⟩
set_option maxHeartbeats 2000000 in
theorem rp_N4_neg (s : ByteArray) (w : World) (hs : s.size ≤ 1099511627776) (h0 : 0 < s.size) (hc0 : ((s[0].toNat : Int) == 45) = true)(pt wl : Nat) (a1 : cntV s.data.toList 1 = wl) (hw : 1 + wl = pt) (hpt : pt < s.size) (hc : ((s[pt].toNat : Int) == 46) = true) (q pl : Nat) (hq : pt + 1 = q) (a2 : cntV s.data.toList q = pl) (hz : pl ≠ 0) (hn : q + pl < s.size) :
    Calls Tryz.prog 65 #[.string s] w fun e w' => e = .returned (.tuple #[.int .i64 0, .int .i64 1]) ∧ w' = w := by
  have HC := hide (count_at s 1 1 wl hs (by omega) rfl a1)
  have hw' : (1 : Int) + (wl : Int) = (pt : Int) := by omega
  have h0' : (0 : Int) < (s.size : Int) := by omega
  have hpt' : (pt : Int) < (s.size : Int) := by omega
  clear a1
  have HD := hide (count_at s q q pl hs (by omega) rfl a2)
  have hq' : (pt : Int) + 1 = (q : Int) := by omega
  clear a2
  have hz2 : ((pl : Int) == 0) = false := by rw [beq_eq_false_iff_ne]; omega
  have hne : ((q : Int) + (pl : Int) == (s.size : Int)) = false := by simp; omega
  have hn' : (q : Int) + (pl : Int) < (s.size : Int) := by omega
  clear hz hn
  go_enter Tryz.func65, Tryz.ntmps65
  go_wp2_with fail
  refine (HC.out _).mono ?_
  rintro e u1 ⟨rfl, rfl⟩
  go_wp2_with fail
  refine (HD.out _).mono ?_
  rintro e u1 ⟨rfl, rfl⟩
  go_wp2_with fail
  go_ret2
  exact ⟨rfl, rfl⟩
set_option maxHeartbeats 2000000 in
theorem rp_S1_pos (s : ByteArray) (w : World) (hs : s.size ≤ 1099511627776) (h0 : 0 < s.size) (hc0 : ((s[0].toNat : Int) == 45) = false)(a1 : cntV s.data.toList 0 = s.size) (W F : List UInt8) (eW : (s.data.toList.drop 0).take s.size = W) (eF : (s.data.toList.drop s.size).take 0 = F) (eG : ∀ c ∈ F, isDg c = true) :
    Calls Tryz.prog 65 #[.string s] w fun e w' => e = .returned (.tuple #[.int .i64 (numV false W F).1, .int .i64 (numV false W F).2]) ∧ w' = w := by
  have HC := hide (count_at s 0 0 s.size hs (by omega) rfl a1)
  have h0' : (0 : Int) < (s.size : Int) := by omega
  have hdW : DigsAt s 0 s.size := by
    have := cnt_digs (s := s) (a := 0)
    rw [a1] at this; exact this
  have hz2 : ((s.size : Int) == 0) = false := by rw [beq_eq_false_iff_ne]; omega
  clear a1
  generalize hrr : numV false W F = R
  have HRR := hide hrr
  clear hrr
  have HW := hide eW
  have HF := hide eF
  have HG := hide eG
  have HDW := hide hdW
  clear eW eF eG hdW
  go_enter Tryz.func65, Tryz.ntmps65
  go_wp2_with fail
  refine (HC.out _).mono ?_
  rintro e u1 ⟨rfl, rfl⟩
  go_wp2_with fail
  go_loop [8, 9] (fun v i => ∃ k n : Nat, k ≤ s.size ∧ i = .int .i64 k ∧ v = .int .i64 n ∧ WhAt s 0 k n) (fun _ i => s.size - (intOf i).toNat)
  case atStart => exact ⟨0, 0, Nat.zero_le _, rfl, rfl, whAt_start s 0⟩
  case round =>
    obtain ⟨k, n, hk, rfl, rfl, hl⟩ := hrel
    have hle := hl.le
    unfold MW at hle
    by_cases hlt : k < s.size
    · have hik : 0 + k < s.size := by omega
      have hdk := digs_is HDW.out hlt hik
      have A1 := whAt_yes hl hik hdk
      have A2 := whAt_no hl hik
      have hI := (isDg_iff _).1 hdk
      have hN := dg_nat hdk
      simp only [Nat.zero_add] at A1 A2 hI hN hik hdk
      unfold MW at A1 A2
      obtain ⟨d1, d2⟩ := hI
      have HN := hide hN
      clear hl hdk hN
      by_cases hg : n ≤ 1000000000000
      · have E := hide (A1 hg)
        have HX : Hid ((10 : Int) * (n : Int) + ((s[k].toNat : Int) - 48) = ((10 * n + dg s[k] : Nat) : Int)) := hide (by have := HN.out; omega)
        have hx0 : 0 ≤ (n : Int) := by omega
        have hx1 : (n : Int) ≤ 1000000000000 := by omega
        clear A1 A2 hg hle HN
        generalize hnn : (n : Int) = x at *
        clear hnn
        go_wp2_with fail
        go_round
        case rel => exact ⟨k + 1, 10 * n + dg s[k], by omega, by go_num, by rw [← HX.out], E.out⟩
        case measure => simp [intOf]; omega
      · have E := hide (A2 (by omega))
        have hx1 : 1000000000000 < (n : Int) := by omega
        have hx2 : (n : Int) ≤ 10000000000009 := by omega
        clear A1 A2 hg hle HN
        generalize hnn : (n : Int) = x at hx1 hx2 ⊢
        have HX := hide hnn
        clear hnn
        go_wp2_with fail
        go_round
        case rel => exact ⟨k + 1, n, by omega, by go_num, by rw [HX.out], E.out⟩
        case measure => simp [intOf]; omega
    · have hkk : k = s.size := by omega
      have hnv := whAt_end (w := W) hl (by rw [hkk]; exact HW.out)
      have hkl : (k : Int) = (s.size : Int) := by omega
      clear hl hk hkk hlt
      by_cases hg : MW < n
      · have E := hide (HRR.out.symm.trans (num_bad (.inl (by rw [← hnv]; exact hg)) HG.out))
        have hx1 : 1000000000000 < (n : Int) := by unfold MW at hg; omega
        have hx2 : (n : Int) ≤ 10000000000009 := by omega
        clear hnv hg hle HRR HW HF HG HDW
        generalize (n : Int) = x at *
        go_wp2_with fail
        go_ret2
        exact ⟨ret_twoN E.out, rfl⟩
      · have hle2 : n ≤ MW := by omega
        have hx0 : 0 ≤ (n : Int) := by omega
        have hx1 : (n : Int) ≤ 1000000000000 := by unfold MW at hle2; omega
        have HX : Hid ((n : Int) * 1000000 = ((n * 1000000 : Nat) : Int) ∧ ((n : Int) = 1000000000000 ↔ n = MW)) := hide ⟨by omega, by unfold MW; omega⟩
        have HLE := hide hle2
        have HNV := hide hnv
        clear hnv hg hle hle2 HDW HW
        generalize hnn : (n : Int) = x at *
        have HNN := hide hnn
        clear hnn
        go_wp2_with fail
        go_loop [10, 11, 12] (fun vo vu vi => ∃ k o u : Nat, k ≤ 0 ∧ vi = .int .i64 k ∧ vo = .int .i64 o ∧ vu = .int .i64 u ∧ PtAt s s.size k n o u) (fun _ _ vi => 0 - (intOf vi).toNat)
        case atStart => exact ⟨0, n * 1000000, 100000, Nat.zero_le _, rfl, by rw [HX.out.1], rfl, ptAt_start s s.size n⟩
        case round =>
          obtain ⟨k, o, u, hk, rfl, rfl, rfl, hp⟩ := hrel
          have ⟨ho, hu⟩ := ptAt_less hp
          have ho' : (o : Int) < x * 1000000 + 1000000 := by have := HNN.out; omega
          have ho0 : 0 ≤ (o : Int) := by omega
          have hu' : (u : Int) ≤ 100000 := by omega
          have hu0 : 0 ≤ (u : Int) := by omega
          clear ho hu
          have hkk : k = 0 := by omega
          have E := hide (HRR.out.symm.trans (num_end (neg := false) (by rw [← HNV.out]; exact HLE.out) (by rw [← HNV.out]; exact hp) (by rw [hkk]; exact HF.out)))
          subst hkk
          clear hp HX HNN HLE HNV HRR
          generalize (o : Int) = y at *
          go_wp2_with fail
          go_ret2
          exact ⟨ret_twoN E.out, rfl⟩
set_option maxHeartbeats 2000000 in
theorem rp_S2_pos (s : ByteArray) (w : World) (hs : s.size ≤ 1099511627776) (h0 : 0 < s.size) (hc0 : ((s[0].toNat : Int) == 45) = false)(pt : Nat) (a1 : cntV s.data.toList 0 = pt) (hpt : pt < s.size) (hc : ((s[pt].toNat : Int) == 46) = true) (q pl : Nat) (hq : pt + 1 = q) (a2 : cntV s.data.toList q = pl) (hz : pl ≠ 0) (hn : q + pl = s.size) (W F : List UInt8) (eW : (s.data.toList.drop 0).take pt = W) (eF : (s.data.toList.drop q).take pl = F) (eG : ∀ c ∈ F, isDg c = true) :
    Calls Tryz.prog 65 #[.string s] w fun e w' => e = .returned (.tuple #[.int .i64 (numV false W F).1, .int .i64 (numV false W F).2]) ∧ w' = w := by
  have HC := hide (count_at s 0 0 pt hs (by omega) rfl a1)
  have h0' : (0 : Int) < (s.size : Int) := by omega
  have hdW : DigsAt s 0 pt := by
    have := cnt_digs (s := s) (a := 0)
    rw [a1] at this; exact this
  have hpt' : (pt : Int) < (s.size : Int) := by omega
  have HD := hide (count_at s q q pl hs (by omega) rfl a2)
  have hq' : (pt : Int) + 1 = (q : Int) := by omega
  have hdF : DigsAt s q pl := by
    have := cnt_digs (s := s) (a := q)
    rw [a2] at this; exact this
  have hz2 : ((pl : Int) == 0) = false := by rw [beq_eq_false_iff_ne]; omega
  have hn' : (q : Int) + (pl : Int) = (s.size : Int) := by omega
  clear a2
  clear a1
  generalize hrr : numV false W F = R
  have HRR := hide hrr
  clear hrr
  have HW := hide eW
  have HF := hide eF
  have HG := hide eG
  have HDW := hide hdW
  have HDF := hide hdF
  clear eW eF eG hdW hdF
  go_enter Tryz.func65, Tryz.ntmps65
  go_wp2_with fail
  refine (HC.out _).mono ?_
  rintro e u1 ⟨rfl, rfl⟩
  go_wp2_with fail
  refine (HD.out _).mono ?_
  rintro e u1 ⟨rfl, rfl⟩
  go_wp2_with fail
  go_loop [8, 9] (fun v i => ∃ k n : Nat, k ≤ pt ∧ i = .int .i64 k ∧ v = .int .i64 n ∧ WhAt s 0 k n) (fun _ i => pt - (intOf i).toNat)
  case atStart => exact ⟨0, 0, Nat.zero_le _, rfl, rfl, whAt_start s 0⟩
  case round =>
    obtain ⟨k, n, hk, rfl, rfl, hl⟩ := hrel
    have hle := hl.le
    unfold MW at hle
    by_cases hlt : k < pt
    · have hik : 0 + k < s.size := by omega
      have hdk := digs_is HDW.out hlt hik
      have A1 := whAt_yes hl hik hdk
      have A2 := whAt_no hl hik
      have hI := (isDg_iff _).1 hdk
      have hN := dg_nat hdk
      simp only [Nat.zero_add] at A1 A2 hI hN hik hdk
      unfold MW at A1 A2
      obtain ⟨d1, d2⟩ := hI
      have HN := hide hN
      clear hl hdk hN
      by_cases hg : n ≤ 1000000000000
      · have E := hide (A1 hg)
        have HX : Hid ((10 : Int) * (n : Int) + ((s[k].toNat : Int) - 48) = ((10 * n + dg s[k] : Nat) : Int)) := hide (by have := HN.out; omega)
        have hx0 : 0 ≤ (n : Int) := by omega
        have hx1 : (n : Int) ≤ 1000000000000 := by omega
        clear A1 A2 hg hle HN
        generalize hnn : (n : Int) = x at *
        clear hnn
        go_wp2_with fail
        go_round
        case rel => exact ⟨k + 1, 10 * n + dg s[k], by omega, by go_num, by rw [← HX.out], E.out⟩
        case measure => simp [intOf]; omega
      · have E := hide (A2 (by omega))
        have hx1 : 1000000000000 < (n : Int) := by omega
        have hx2 : (n : Int) ≤ 10000000000009 := by omega
        clear A1 A2 hg hle HN
        generalize hnn : (n : Int) = x at hx1 hx2 ⊢
        have HX := hide hnn
        clear hnn
        go_wp2_with fail
        go_round
        case rel => exact ⟨k + 1, n, by omega, by go_num, by rw [HX.out], E.out⟩
        case measure => simp [intOf]; omega
    · have hkk : k = pt := by omega
      have hnv := whAt_end (w := W) hl (by rw [hkk]; exact HW.out)
      have hkl : (k : Int) = (pt : Int) := by omega
      clear hl hk hkk hlt
      by_cases hg : MW < n
      · have E := hide (HRR.out.symm.trans (num_bad (.inl (by rw [← hnv]; exact hg)) HG.out))
        have hx1 : 1000000000000 < (n : Int) := by unfold MW at hg; omega
        have hx2 : (n : Int) ≤ 10000000000009 := by omega
        clear hnv hg hle HRR HW HF HG HDW HDF
        generalize (n : Int) = x at *
        go_wp2_with fail
        go_ret2
        exact ⟨ret_twoN E.out, rfl⟩
      · have hle2 : n ≤ MW := by omega
        have hx0 : 0 ≤ (n : Int) := by omega
        have hx1 : (n : Int) ≤ 1000000000000 := by unfold MW at hle2; omega
        have HX : Hid ((n : Int) * 1000000 = ((n * 1000000 : Nat) : Int) ∧ ((n : Int) = 1000000000000 ↔ n = MW)) := hide ⟨by omega, by unfold MW; omega⟩
        have HLE := hide hle2
        have HNV := hide hnv
        clear hnv hg hle hle2 HDW HW
        generalize hnn : (n : Int) = x at *
        have HNN := hide hnn
        clear hnn
        go_wp2_with fail
        go_loop [10, 11, 12] (fun vo vu vi => ∃ k o u : Nat, k ≤ pl ∧ vi = .int .i64 k ∧ vo = .int .i64 o ∧ vu = .int .i64 u ∧ PtAt s q k n o u) (fun _ _ vi => pl - (intOf vi).toNat)
        case atStart => exact ⟨0, n * 1000000, 100000, Nat.zero_le _, rfl, by rw [HX.out.1], rfl, ptAt_start s q n⟩
        case round =>
          obtain ⟨k, o, u, hk, rfl, rfl, rfl, hp⟩ := hrel
          have ⟨ho, hu⟩ := ptAt_less hp
          have ho' : (o : Int) < x * 1000000 + 1000000 := by have := HNN.out; omega
          have ho0 : 0 ≤ (o : Int) := by omega
          have hu' : (u : Int) ≤ 100000 := by omega
          have hu0 : 0 ≤ (u : Int) := by omega
          clear ho hu
          by_cases hlt : k < pl
          · have hik : q + k < s.size := by omega
            have hdk := digs_is HDF.out hlt hik
            have hzz : ((q : Int) + (k : Int)).toNat = q + k := by omega
            have B1 := fun h => ptAt_bad hik hdk h
            have A1 := ptAt_next hp hik hdk
            obtain ⟨d1, d2⟩ := (isDg_iff _).1 hdk
            have hN := dg_nat hdk
            have hft : s.data.toList.drop q = F := by rw [← HF.out]; exact (List.take_of_length_le (by simp; omega)).symm
            rw [hft] at B1
            clear hft
            by_cases hd0 : dg s[q + k] = 0
            · have E := hide (A1 (.inl hd0))
              rw [hd0, Nat.zero_mul, Nat.add_zero] at E
              have hc48 : (s[q + k].toNat : Int) = 48 := by omega
              have HU : Hid ((u : Int) / 10 = ((u / 10 : Nat) : Int)) := hide (by omega)
              clear A1 B1 hp hdk hN hd0 d1 d2
              generalize hoo : (o : Int) = y at ho' ho0 ⊢
              generalize huu : (u : Int) = z at hu' hu0 HU ⊢
              have HO := hide hoo
              clear hoo huu
              go_wp2_with fail
              go_round
              case rel => exact ⟨k + 1, o, u / 10, by omega, by go_num, by rw [HO.out], by rw [HU.out], E.out⟩
              case measure => simp [intOf]; omega
            · have hd1 : 48 < (s[q + k].toNat : Int) := by omega
              have hd2 : (s[q + k].toNat : Int) ≤ 57 := by omega
              have ⟨B2, B3⟩ := B1 hd0
              have hne0 : ((s[q + k].toNat : Int) - 48 == 0) = false := by rw [beq_eq_false_iff_ne]; omega
              by_cases hm : x = 1000000000000
              · have E := hide (HRR.out.symm.trans (num_most (by rw [← HNV.out]; exact HX.out.2.1 hm) B2 HG.out))
                have hm2 : (x == 1000000000000) = true := by rw [beq_iff_eq]; exact hm
                clear A1 B1 B2 B3 hp hdk hN hd0 d1 d2 HX HNN hm
                go_wp2_with fail
                go_ret2
                exact ⟨ret_twoN E.out, rfl⟩
              · have hm2 : (x == 1000000000000) = false := by simpa using hm
                have HM : Hid (n ≠ MW) := hide (fun e => hm (HX.out.2.2 e))
                by_cases h6 : 6 ≤ k
                · have E := hide (HRR.out.symm.trans (num_bad (.inr (.inr (B3 h6))) HG.out))
                  have h6' : (6 : Int) ≤ (k : Int) := by omega
                  clear A1 B1 B2 B3 hp hdk hN hd0 d1 d2 HX HNN hm
                  go_wp2_with fail
                  go_ret2
                  exact ⟨ret_twoN E.out, rfl⟩
                · have E := hide (A1 (.inr ⟨HM.out, by omega⟩))
                  have h6' : (k : Int) < 6 := by omega
                  have HU : Hid ((u : Int) / 10 = ((u / 10 : Nat) : Int)) := hide (by omega)
                  have HO : Hid ((o : Int) + ((s[q + k].toNat : Int) - 48) * (u : Int) = ((o + dg s[q + k] * u : Nat) : Int)) := hide (by rw [← hN]; simp)
                  have hm0 : 0 ≤ ((s[q + k].toNat : Int) - 48) * (u : Int) := Int.mul_nonneg (by omega) hu0
                  have hm1 : ((s[q + k].toNat : Int) - 48) * (u : Int) ≤ 900000 := Int.le_trans (Int.mul_le_mul (show (s[q + k].toNat : Int) - 48 ≤ 9 by omega) hu' hu0 (by decide)) (by decide)
                  clear A1 B1 B2 B3 hp hdk hN hd0 d1 d2 HX HNN hm h6
                  generalize hoo : (o : Int) = y at ho' ho0 HO ⊢
                  generalize huu : (u : Int) = z at hu' hu0 HU HO hm0 hm1 ⊢
                  clear hoo huu
                  go_wp2_with fail
                  go_round
                  case rel => exact ⟨k + 1, o + dg s[q + k] * u, u / 10, by omega, by go_num, by rw [← HO.out], by rw [HU.out], E.out⟩
                  case measure => simp [intOf]; omega
          · have hkk : k = pl := by omega
            have E := hide (HRR.out.symm.trans (num_end (neg := false) (by rw [← HNV.out]; exact HLE.out) (by rw [← HNV.out]; exact hp) (by rw [hkk]; exact HF.out)))
            have hkl : (k : Int) = (pl : Int) := by omega
            clear hp HX HNN HLE HNV HRR
            generalize (o : Int) = y at *
            go_wp2_with fail
            go_ret2
            exact ⟨ret_twoN E.out, rfl⟩
set_option maxHeartbeats 2000000 in
theorem rp_S1_neg (s : ByteArray) (w : World) (hs : s.size ≤ 1099511627776) (h0 : 0 < s.size) (hc0 : ((s[0].toNat : Int) == 45) = true)(wl : Nat) (a1 : cntV s.data.toList 1 = wl) (hw : 1 + wl = s.size) (hz : wl ≠ 0) (W F : List UInt8) (eW : (s.data.toList.drop 1).take wl = W) (eF : (s.data.toList.drop s.size).take 0 = F) (eG : ∀ c ∈ F, isDg c = true) :
    Calls Tryz.prog 65 #[.string s] w fun e w' => e = .returned (.tuple #[.int .i64 (numV true W F).1, .int .i64 (numV true W F).2]) ∧ w' = w := by
  have HC := hide (count_at s 1 1 wl hs (by omega) rfl a1)
  have h0' : (0 : Int) < (s.size : Int) := by omega
  have hdW : DigsAt s 1 wl := by
    have := cnt_digs (s := s) (a := 1)
    rw [a1] at this; exact this
  have hw' : (1 : Int) + (wl : Int) = (s.size : Int) := by omega
  have hz2 : ((wl : Int) == 0) = false := by rw [beq_eq_false_iff_ne]; omega
  clear a1
  generalize hrr : numV true W F = R
  have HRR := hide hrr
  clear hrr
  have HW := hide eW
  have HF := hide eF
  have HG := hide eG
  have HDW := hide hdW
  clear eW eF eG hdW
  go_enter Tryz.func65, Tryz.ntmps65
  go_wp2_with fail
  refine (HC.out _).mono ?_
  rintro e u1 ⟨rfl, rfl⟩
  go_wp2_with fail
  go_loop [8, 9] (fun v i => ∃ k n : Nat, k ≤ wl ∧ i = .int .i64 k ∧ v = .int .i64 n ∧ WhAt s 1 k n) (fun _ i => wl - (intOf i).toNat)
  case atStart => exact ⟨0, 0, Nat.zero_le _, rfl, rfl, whAt_start s 1⟩
  case round =>
    obtain ⟨k, n, hk, rfl, rfl, hl⟩ := hrel
    have hle := hl.le
    unfold MW at hle
    by_cases hlt : k < wl
    · have hik : 1 + k < s.size := by omega
      have hdk := digs_is HDW.out hlt hik
      have A1 := whAt_yes hl hik hdk
      have A2 := whAt_no hl hik
      have hI := (isDg_iff _).1 hdk
      have hN := dg_nat hdk
      have hzz : ((1 : Int) + (k : Int)).toNat = 1 + k := by omega
      unfold MW at A1 A2
      obtain ⟨d1, d2⟩ := hI
      have HN := hide hN
      clear hl hdk hN
      by_cases hg : n ≤ 1000000000000
      · have E := hide (A1 hg)
        have HX : Hid ((10 : Int) * (n : Int) + ((s[1 + k].toNat : Int) - 48) = ((10 * n + dg s[1 + k] : Nat) : Int)) := hide (by have := HN.out; omega)
        have hx0 : 0 ≤ (n : Int) := by omega
        have hx1 : (n : Int) ≤ 1000000000000 := by omega
        clear A1 A2 hg hle HN
        generalize hnn : (n : Int) = x at *
        clear hnn
        go_wp2_with fail
        go_round
        case rel => exact ⟨k + 1, 10 * n + dg s[1 + k], by omega, by go_num, by rw [← HX.out], E.out⟩
        case measure => simp [intOf]; omega
      · have E := hide (A2 (by omega))
        have hx1 : 1000000000000 < (n : Int) := by omega
        have hx2 : (n : Int) ≤ 10000000000009 := by omega
        clear A1 A2 hg hle HN
        generalize hnn : (n : Int) = x at hx1 hx2 ⊢
        have HX := hide hnn
        clear hnn
        go_wp2_with fail
        go_round
        case rel => exact ⟨k + 1, n, by omega, by go_num, by rw [HX.out], E.out⟩
        case measure => simp [intOf]; omega
    · have hkk : k = wl := by omega
      have hnv := whAt_end (w := W) hl (by rw [hkk]; exact HW.out)
      have hkl : (k : Int) = (wl : Int) := by omega
      clear hl hk hkk hlt
      by_cases hg : MW < n
      · have E := hide (HRR.out.symm.trans (num_bad (.inl (by rw [← hnv]; exact hg)) HG.out))
        have hx1 : 1000000000000 < (n : Int) := by unfold MW at hg; omega
        have hx2 : (n : Int) ≤ 10000000000009 := by omega
        clear hnv hg hle HRR HW HF HG HDW
        generalize (n : Int) = x at *
        go_wp2_with fail
        go_ret2
        exact ⟨ret_twoN E.out, rfl⟩
      · have hle2 : n ≤ MW := by omega
        have hx0 : 0 ≤ (n : Int) := by omega
        have hx1 : (n : Int) ≤ 1000000000000 := by unfold MW at hle2; omega
        have HX : Hid ((n : Int) * 1000000 = ((n * 1000000 : Nat) : Int) ∧ ((n : Int) = 1000000000000 ↔ n = MW)) := hide ⟨by omega, by unfold MW; omega⟩
        have HLE := hide hle2
        have HNV := hide hnv
        clear hnv hg hle hle2 HDW HW
        generalize hnn : (n : Int) = x at *
        have HNN := hide hnn
        clear hnn
        go_wp2_with fail
        go_loop [10, 11, 12] (fun vo vu vi => ∃ k o u : Nat, k ≤ 0 ∧ vi = .int .i64 k ∧ vo = .int .i64 o ∧ vu = .int .i64 u ∧ PtAt s s.size k n o u) (fun _ _ vi => 0 - (intOf vi).toNat)
        case atStart => exact ⟨0, n * 1000000, 100000, Nat.zero_le _, rfl, by rw [HX.out.1], rfl, ptAt_start s s.size n⟩
        case round =>
          obtain ⟨k, o, u, hk, rfl, rfl, rfl, hp⟩ := hrel
          have ⟨ho, hu⟩ := ptAt_less hp
          have ho' : (o : Int) < x * 1000000 + 1000000 := by have := HNN.out; omega
          have ho0 : 0 ≤ (o : Int) := by omega
          have hu' : (u : Int) ≤ 100000 := by omega
          have hu0 : 0 ≤ (u : Int) := by omega
          clear ho hu
          have hkk : k = 0 := by omega
          have E := hide (HRR.out.symm.trans (num_end (neg := true) (by rw [← HNV.out]; exact HLE.out) (by rw [← HNV.out]; exact hp) (by rw [hkk]; exact HF.out)))
          subst hkk
          clear hp HX HNN HLE HNV HRR
          generalize (o : Int) = y at *
          go_wp2_with fail
          go_ret2
          exact ⟨ret_twoN E.out, rfl⟩
set_option maxHeartbeats 2000000 in
theorem rp_S2_neg (s : ByteArray) (w : World) (hs : s.size ≤ 1099511627776) (h0 : 0 < s.size) (hc0 : ((s[0].toNat : Int) == 45) = true)(pt wl : Nat) (a1 : cntV s.data.toList 1 = wl) (hw : 1 + wl = pt) (hpt : pt < s.size) (hc : ((s[pt].toNat : Int) == 46) = true) (q pl : Nat) (hq : pt + 1 = q) (a2 : cntV s.data.toList q = pl) (hz : pl ≠ 0) (hn : q + pl = s.size) (W F : List UInt8) (eW : (s.data.toList.drop 1).take wl = W) (eF : (s.data.toList.drop q).take pl = F) (eG : ∀ c ∈ F, isDg c = true) :
    Calls Tryz.prog 65 #[.string s] w fun e w' => e = .returned (.tuple #[.int .i64 (numV true W F).1, .int .i64 (numV true W F).2]) ∧ w' = w := by
  have HC := hide (count_at s 1 1 wl hs (by omega) rfl a1)
  have h0' : (0 : Int) < (s.size : Int) := by omega
  have hdW : DigsAt s 1 wl := by
    have := cnt_digs (s := s) (a := 1)
    rw [a1] at this; exact this
  have hw' : (1 : Int) + (wl : Int) = (pt : Int) := by omega
  have hpt' : (pt : Int) < (s.size : Int) := by omega
  have HD := hide (count_at s q q pl hs (by omega) rfl a2)
  have hq' : (pt : Int) + 1 = (q : Int) := by omega
  have hdF : DigsAt s q pl := by
    have := cnt_digs (s := s) (a := q)
    rw [a2] at this; exact this
  have hz2 : ((pl : Int) == 0) = false := by rw [beq_eq_false_iff_ne]; omega
  have hn' : (q : Int) + (pl : Int) = (s.size : Int) := by omega
  clear a2
  clear a1
  generalize hrr : numV true W F = R
  have HRR := hide hrr
  clear hrr
  have HW := hide eW
  have HF := hide eF
  have HG := hide eG
  have HDW := hide hdW
  have HDF := hide hdF
  clear eW eF eG hdW hdF
  go_enter Tryz.func65, Tryz.ntmps65
  go_wp2_with fail
  refine (HC.out _).mono ?_
  rintro e u1 ⟨rfl, rfl⟩
  go_wp2_with fail
  refine (HD.out _).mono ?_
  rintro e u1 ⟨rfl, rfl⟩
  go_wp2_with fail
  go_loop [8, 9] (fun v i => ∃ k n : Nat, k ≤ wl ∧ i = .int .i64 k ∧ v = .int .i64 n ∧ WhAt s 1 k n) (fun _ i => wl - (intOf i).toNat)
  case atStart => exact ⟨0, 0, Nat.zero_le _, rfl, rfl, whAt_start s 1⟩
  case round =>
    obtain ⟨k, n, hk, rfl, rfl, hl⟩ := hrel
    have hle := hl.le
    unfold MW at hle
    by_cases hlt : k < wl
    · have hik : 1 + k < s.size := by omega
      have hdk := digs_is HDW.out hlt hik
      have A1 := whAt_yes hl hik hdk
      have A2 := whAt_no hl hik
      have hI := (isDg_iff _).1 hdk
      have hN := dg_nat hdk
      have hzz : ((1 : Int) + (k : Int)).toNat = 1 + k := by omega
      unfold MW at A1 A2
      obtain ⟨d1, d2⟩ := hI
      have HN := hide hN
      clear hl hdk hN
      by_cases hg : n ≤ 1000000000000
      · have E := hide (A1 hg)
        have HX : Hid ((10 : Int) * (n : Int) + ((s[1 + k].toNat : Int) - 48) = ((10 * n + dg s[1 + k] : Nat) : Int)) := hide (by have := HN.out; omega)
        have hx0 : 0 ≤ (n : Int) := by omega
        have hx1 : (n : Int) ≤ 1000000000000 := by omega
        clear A1 A2 hg hle HN
        generalize hnn : (n : Int) = x at *
        clear hnn
        go_wp2_with fail
        go_round
        case rel => exact ⟨k + 1, 10 * n + dg s[1 + k], by omega, by go_num, by rw [← HX.out], E.out⟩
        case measure => simp [intOf]; omega
      · have E := hide (A2 (by omega))
        have hx1 : 1000000000000 < (n : Int) := by omega
        have hx2 : (n : Int) ≤ 10000000000009 := by omega
        clear A1 A2 hg hle HN
        generalize hnn : (n : Int) = x at hx1 hx2 ⊢
        have HX := hide hnn
        clear hnn
        go_wp2_with fail
        go_round
        case rel => exact ⟨k + 1, n, by omega, by go_num, by rw [HX.out], E.out⟩
        case measure => simp [intOf]; omega
    · have hkk : k = wl := by omega
      have hnv := whAt_end (w := W) hl (by rw [hkk]; exact HW.out)
      have hkl : (k : Int) = (wl : Int) := by omega
      clear hl hk hkk hlt
      by_cases hg : MW < n
      · have E := hide (HRR.out.symm.trans (num_bad (.inl (by rw [← hnv]; exact hg)) HG.out))
        have hx1 : 1000000000000 < (n : Int) := by unfold MW at hg; omega
        have hx2 : (n : Int) ≤ 10000000000009 := by omega
        clear hnv hg hle HRR HW HF HG HDW HDF
        generalize (n : Int) = x at *
        go_wp2_with fail
        go_ret2
        exact ⟨ret_twoN E.out, rfl⟩
      · have hle2 : n ≤ MW := by omega
        have hx0 : 0 ≤ (n : Int) := by omega
        have hx1 : (n : Int) ≤ 1000000000000 := by unfold MW at hle2; omega
        have HX : Hid ((n : Int) * 1000000 = ((n * 1000000 : Nat) : Int) ∧ ((n : Int) = 1000000000000 ↔ n = MW)) := hide ⟨by omega, by unfold MW; omega⟩
        have HLE := hide hle2
        have HNV := hide hnv
        clear hnv hg hle hle2 HDW HW
        generalize hnn : (n : Int) = x at *
        have HNN := hide hnn
        clear hnn
        go_wp2_with fail
        go_loop [10, 11, 12] (fun vo vu vi => ∃ k o u : Nat, k ≤ pl ∧ vi = .int .i64 k ∧ vo = .int .i64 o ∧ vu = .int .i64 u ∧ PtAt s q k n o u) (fun _ _ vi => pl - (intOf vi).toNat)
        case atStart => exact ⟨0, n * 1000000, 100000, Nat.zero_le _, rfl, by rw [HX.out.1], rfl, ptAt_start s q n⟩
        case round =>
          obtain ⟨k, o, u, hk, rfl, rfl, rfl, hp⟩ := hrel
          have ⟨ho, hu⟩ := ptAt_less hp
          have ho' : (o : Int) < x * 1000000 + 1000000 := by have := HNN.out; omega
          have ho0 : 0 ≤ (o : Int) := by omega
          have hu' : (u : Int) ≤ 100000 := by omega
          have hu0 : 0 ≤ (u : Int) := by omega
          clear ho hu
          by_cases hlt : k < pl
          · have hik : q + k < s.size := by omega
            have hdk := digs_is HDF.out hlt hik
            have hzz : ((q : Int) + (k : Int)).toNat = q + k := by omega
            have B1 := fun h => ptAt_bad hik hdk h
            have A1 := ptAt_next hp hik hdk
            obtain ⟨d1, d2⟩ := (isDg_iff _).1 hdk
            have hN := dg_nat hdk
            have hft : s.data.toList.drop q = F := by rw [← HF.out]; exact (List.take_of_length_le (by simp; omega)).symm
            rw [hft] at B1
            clear hft
            by_cases hd0 : dg s[q + k] = 0
            · have E := hide (A1 (.inl hd0))
              rw [hd0, Nat.zero_mul, Nat.add_zero] at E
              have hc48 : (s[q + k].toNat : Int) = 48 := by omega
              have HU : Hid ((u : Int) / 10 = ((u / 10 : Nat) : Int)) := hide (by omega)
              clear A1 B1 hp hdk hN hd0 d1 d2
              generalize hoo : (o : Int) = y at ho' ho0 ⊢
              generalize huu : (u : Int) = z at hu' hu0 HU ⊢
              have HO := hide hoo
              clear hoo huu
              go_wp2_with fail
              go_round
              case rel => exact ⟨k + 1, o, u / 10, by omega, by go_num, by rw [HO.out], by rw [HU.out], E.out⟩
              case measure => simp [intOf]; omega
            · have hd1 : 48 < (s[q + k].toNat : Int) := by omega
              have hd2 : (s[q + k].toNat : Int) ≤ 57 := by omega
              have ⟨B2, B3⟩ := B1 hd0
              have hne0 : ((s[q + k].toNat : Int) - 48 == 0) = false := by rw [beq_eq_false_iff_ne]; omega
              by_cases hm : x = 1000000000000
              · have E := hide (HRR.out.symm.trans (num_most (by rw [← HNV.out]; exact HX.out.2.1 hm) B2 HG.out))
                have hm2 : (x == 1000000000000) = true := by rw [beq_iff_eq]; exact hm
                clear A1 B1 B2 B3 hp hdk hN hd0 d1 d2 HX HNN hm
                go_wp2_with fail
                go_ret2
                exact ⟨ret_twoN E.out, rfl⟩
              · have hm2 : (x == 1000000000000) = false := by simpa using hm
                have HM : Hid (n ≠ MW) := hide (fun e => hm (HX.out.2.2 e))
                by_cases h6 : 6 ≤ k
                · have E := hide (HRR.out.symm.trans (num_bad (.inr (.inr (B3 h6))) HG.out))
                  have h6' : (6 : Int) ≤ (k : Int) := by omega
                  clear A1 B1 B2 B3 hp hdk hN hd0 d1 d2 HX HNN hm
                  go_wp2_with fail
                  go_ret2
                  exact ⟨ret_twoN E.out, rfl⟩
                · have E := hide (A1 (.inr ⟨HM.out, by omega⟩))
                  have h6' : (k : Int) < 6 := by omega
                  have HU : Hid ((u : Int) / 10 = ((u / 10 : Nat) : Int)) := hide (by omega)
                  have HO : Hid ((o : Int) + ((s[q + k].toNat : Int) - 48) * (u : Int) = ((o + dg s[q + k] * u : Nat) : Int)) := hide (by rw [← hN]; simp)
                  have hm0 : 0 ≤ ((s[q + k].toNat : Int) - 48) * (u : Int) := Int.mul_nonneg (by omega) hu0
                  have hm1 : ((s[q + k].toNat : Int) - 48) * (u : Int) ≤ 900000 := Int.le_trans (Int.mul_le_mul (show (s[q + k].toNat : Int) - 48 ≤ 9 by omega) hu' hu0 (by decide)) (by decide)
                  clear A1 B1 B2 B3 hp hdk hN hd0 d1 d2 HX HNN hm h6
                  generalize hoo : (o : Int) = y at ho' ho0 HO ⊢
                  generalize huu : (u : Int) = z at hu' hu0 HU HO hm0 hm1 ⊢
                  clear hoo huu
                  go_wp2_with fail
                  go_round
                  case rel => exact ⟨k + 1, o + dg s[q + k] * u, u / 10, by omega, by go_num, by rw [← HO.out], by rw [HU.out], E.out⟩
                  case measure => simp [intOf]; omega
          · have hkk : k = pl := by omega
            have E := hide (HRR.out.symm.trans (num_end (neg := true) (by rw [← HNV.out]; exact HLE.out) (by rw [← HNV.out]; exact hp) (by rw [hkk]; exact HF.out)))
            have hkl : (k : Int) = (pl : Int) := by omega
            clear hp HX HNN HLE HNV HRR
            generalize (o : Int) = y at *
            go_wp2_with fail
            go_ret2
            exact ⟨ret_twoN E.out, rfl⟩
theorem split_at {s : ByteArray} {a : Nat} (ha : a ≤ s.size) :
    (a + cntV s.data.toList a = s.size ∧ (s.data.toList.drop a).dropWhile isDg = []) ∨ (∃ h : a + cntV s.data.toList a < s.size, (s.data.toList.drop a).dropWhile isDg = s[a + cntV s.data.toList a] :: s.data.toList.drop (a + cntV s.data.toList a + 1)) := by
  have hr := cnt_room ha
  have e := takeWhile_drop (s.data.toList.drop a)
  rw [List.drop_drop] at e
  change s.data.toList.drop (a + cntV s.data.toList a) = _ at e
  rcases Nat.lt_or_ge (a + cntV s.data.toList a) s.size with h | h
  · right
    refine ⟨h, ?_⟩
    rw [← e, drop_at h]
  · left
    refine ⟨by omega, ?_⟩
    rw [← e]; exact List.drop_of_length_le (by simp; omega)
theorem all_atN {s : ByteArray} {q : Nat} (hq : q ≤ s.size) : (s.data.toList.drop q).all isDg = true ↔ q + cntV s.data.toList q = s.size := by
  have hl : (s.data.toList.drop q).length = s.size - q := by rw [List.length_drop]; rfl
  constructor
  · intro h
    have : (s.data.toList.drop q).takeWhile isDg = s.data.toList.drop q := by
      have := (takeWhile_all (k := []) (List.all_eq_true.1 h) (fun c r e => by cases e)).1
      rw [List.append_nil] at this; exact this
    unfold cntV; rw [this, hl]; omega
  · intro h
    have e := takeWhile_take (s.data.toList.drop q)
    have : ((s.data.toList.drop q).takeWhile isDg).length = (s.data.toList.drop q).length := by
      rw [hl]; unfold cntV at h; omega
    rw [this, List.take_of_length_le (Nat.le_refl _)] at e
    rw [e]; exact List.all_takeWhile
theorem none_at {s : ByteArray} {q : Nat} (hq : q ≤ s.size) : s.data.toList.drop q = [] ↔ q = s.size := by
  have hl : (s.data.toList.drop q).length = s.size - q := by rw [List.length_drop]; rfl
  constructor
  · intro h
    rw [h] at hl; simp at hl; omega
  · intro h
    exact List.eq_nil_of_length_eq_zero (by rw [hl]; omega)
theorem beq_byte {c d : UInt8} : ((c.toNat : Int) == (d.toNat : Int)) = (c == d) := by
  by_cases h : c = d
  · subst h; simp
  · have : ¬ (c.toNat : Int) = (d.toNat : Int) := fun e => h (UInt8.toNat_inj.1 (by omega))
    rw [beq_eq_false_iff_ne.2 this, beq_eq_false_iff_ne.2 h]
theorem parse_none_of {l : List UInt8} (h : partsV (bodyV l) = none) : parseV l = (0, 1) := by unfold parseV; rw [h]
theorem parse_some_of {l : List UInt8} {w f : List UInt8} (h : partsV (bodyV l) = some (w, f)) : parseV l = numV (negV l) w f := by unfold parseV; rw [h]
theorem refParse_pos (s : ByteArray) (w : World) (hs : s.size ≤ 1099511627776) (h0 : 0 < s.size) (hc0 : ((s[0].toNat : Int) == 45) = false) (hg : negV s.data.toList = false) :
    Calls Tryz.prog 65 #[.string s] w fun e w' => e = .returned (.tuple #[.int .i64 (parseV s.data.toList).1, .int .i64 (parseV s.data.toList).2]) ∧ w' = w := by
  have hb : bodyV s.data.toList = s.data.toList.drop 0 := by rw [body_drop, hg]; rfl
  have htk : (s.data.toList.drop 0).take (cntV s.data.toList 0) = (s.data.toList.drop 0).takeWhile isDg := takeWhile_take _
  have hsp := split_at (s := s) (a := 0) (by omega)
  simp only [Nat.zero_add] at hsp
  have hp : partsV (bodyV s.data.toList) = match (s.data.toList.drop 0).dropWhile isDg with
    | [] => if (s.data.toList.drop 0).takeWhile isDg = [] then none else some ((s.data.toList.drop 0).takeWhile isDg, [])
    | c :: f => if c = 46 ∧ f ≠ [] ∧ f.all isDg = true then some ((s.data.toList.drop 0).takeWhile isDg, f) else none := by rw [hb]; rfl
  rcases hsp with ⟨hsz, hR⟩ | ⟨hlt, hR⟩
  · rw [hR] at hp
    simp only at hp
    by_cases hW : (s.data.toList.drop 0).takeWhile isDg = []
    · rw [if_pos hW] at hp
      have hz : cntV s.data.toList 0 = 0 := by unfold cntV; rw [hW]; rfl
      rw [parse_none_of hp]
      exact absurd hsz (by omega)
    · rw [if_neg hW] at hp
      have hz : cntV s.data.toList 0 ≠ 0 := by unfold cntV; exact fun e => hW (List.eq_nil_of_length_eq_zero e)
      rw [parse_some_of hp, hg]
      exact rp_S1_pos s w hs h0 hc0 hsz _ [] (by rw [← hsz]; exact htk) (by rw [List.take_zero]) (fun c hc => by cases hc)
  · rw [hR] at hp
    simp only at hp
    by_cases h46 : s[(cntV s.data.toList 0)] = 46
    · have hc : ((s[(cntV s.data.toList 0)].toNat : Int) == 46) = true := by rw [h46]; rfl
      have hq : (cntV s.data.toList 0) + 1 ≤ s.size := by omega
      by_cases hz : cntV s.data.toList ((cntV s.data.toList 0) + 1) = 0
      · have hp2 : partsV (bodyV s.data.toList) = none := by
          rw [hp, if_neg]
          rintro ⟨_, h1, h2⟩
          have x1 := (all_atN hq).1 h2
          exact h1 ((none_at hq).2 (by omega))
        rw [parse_none_of hp2]
        exact rp_N3_pos s w hs h0 hc0 (cntV s.data.toList 0) rfl hlt hc _ _ rfl rfl hz
      · by_cases hall : (cntV s.data.toList 0) + 1 + cntV s.data.toList ((cntV s.data.toList 0) + 1) = s.size
        · have hall' := (all_atN hq).2 hall
          have hne : s.data.toList.drop ((cntV s.data.toList 0) + 1) ≠ [] := fun e => by
            have := (none_at hq).1 e
            omega
          rw [if_pos ⟨h46, hne, hall'⟩] at hp
          rw [parse_some_of hp, hg]
          exact rp_S2_pos s w hs h0 hc0 (cntV s.data.toList 0) rfl hlt hc _ _ rfl rfl hz hall _ _ htk (List.take_of_length_le (by rw [List.length_drop]; simp; omega)) (List.all_eq_true.1 hall')
        · have hp2 : partsV (bodyV s.data.toList) = none := by
            rw [hp, if_neg]
            rintro ⟨_, h1, h2⟩
            exact hall ((all_atN hq).1 h2)
          rw [parse_none_of hp2]
          have hr := cnt_room (s := s) hq
          exact rp_N4_pos s w hs h0 hc0 (cntV s.data.toList 0) rfl hlt hc _ _ rfl rfl hz (by omega)
    · have hc : ((s[(cntV s.data.toList 0)].toNat : Int) == 46) = false := by
        have := beq_byte (c := s[(cntV s.data.toList 0)]) (d := 46)
        rw [beq_eq_false_iff_ne.2 h46] at this
        exact this
      rw [if_neg (fun x => h46 x.1)] at hp
      rw [parse_none_of hp]
      by_cases hz : cntV s.data.toList 0 = 0
      · exact rp_N2z_pos s w hs h0 hc0 (cntV s.data.toList 0) rfl hlt hc hz
      · exact rp_N2_pos s w hs h0 hc0 (cntV s.data.toList 0) rfl hlt hc hz
theorem refParse_neg (s : ByteArray) (w : World) (hs : s.size ≤ 1099511627776) (h0 : 0 < s.size) (hc0 : ((s[0].toNat : Int) == 45) = true) (hg : negV s.data.toList = true) :
    Calls Tryz.prog 65 #[.string s] w fun e w' => e = .returned (.tuple #[.int .i64 (parseV s.data.toList).1, .int .i64 (parseV s.data.toList).2]) ∧ w' = w := by
  have hb : bodyV s.data.toList = s.data.toList.drop 1 := by rw [body_drop, hg]; rfl
  have htk : (s.data.toList.drop 1).take (cntV s.data.toList 1) = (s.data.toList.drop 1).takeWhile isDg := takeWhile_take _
  have hsp := split_at (s := s) (a := 1) (by omega)
  have hp : partsV (bodyV s.data.toList) = match (s.data.toList.drop 1).dropWhile isDg with
    | [] => if (s.data.toList.drop 1).takeWhile isDg = [] then none else some ((s.data.toList.drop 1).takeWhile isDg, [])
    | c :: f => if c = 46 ∧ f ≠ [] ∧ f.all isDg = true then some ((s.data.toList.drop 1).takeWhile isDg, f) else none := by rw [hb]; rfl
  rcases hsp with ⟨hsz, hR⟩ | ⟨hlt, hR⟩
  · rw [hR] at hp
    simp only at hp
    by_cases hW : (s.data.toList.drop 1).takeWhile isDg = []
    · rw [if_pos hW] at hp
      have hz : cntV s.data.toList 1 = 0 := by unfold cntV; rw [hW]; rfl
      rw [parse_none_of hp]
      exact rp_N1_neg s w hs h0 hc0 (by omega)
    · rw [if_neg hW] at hp
      have hz : cntV s.data.toList 1 ≠ 0 := by unfold cntV; exact fun e => hW (List.eq_nil_of_length_eq_zero e)
      rw [parse_some_of hp, hg]
      exact rp_S1_neg s w hs h0 hc0 (cntV s.data.toList 1) rfl hsz hz _ [] htk (by rw [List.take_zero]) (fun c hc => by cases hc)
  · rw [hR] at hp
    simp only at hp
    by_cases h46 : s[(1 + cntV s.data.toList 1)] = 46
    · have hc : ((s[(1 + cntV s.data.toList 1)].toNat : Int) == 46) = true := by rw [h46]; rfl
      have hq : (1 + cntV s.data.toList 1) + 1 ≤ s.size := by omega
      by_cases hz : cntV s.data.toList ((1 + cntV s.data.toList 1) + 1) = 0
      · have hp2 : partsV (bodyV s.data.toList) = none := by
          rw [hp, if_neg]
          rintro ⟨_, h1, h2⟩
          have x1 := (all_atN hq).1 h2
          exact h1 ((none_at hq).2 (by omega))
        rw [parse_none_of hp2]
        exact rp_N3_neg s w hs h0 hc0 (1 + cntV s.data.toList 1) (cntV s.data.toList 1) rfl rfl hlt hc _ _ rfl rfl hz
      · by_cases hall : (1 + cntV s.data.toList 1) + 1 + cntV s.data.toList ((1 + cntV s.data.toList 1) + 1) = s.size
        · have hall' := (all_atN hq).2 hall
          have hne : s.data.toList.drop ((1 + cntV s.data.toList 1) + 1) ≠ [] := fun e => by
            have := (none_at hq).1 e
            omega
          rw [if_pos ⟨h46, hne, hall'⟩] at hp
          rw [parse_some_of hp, hg]
          exact rp_S2_neg s w hs h0 hc0 (1 + cntV s.data.toList 1) (cntV s.data.toList 1) rfl rfl hlt hc _ _ rfl rfl hz hall _ _ htk (List.take_of_length_le (by rw [List.length_drop]; simp; omega)) (List.all_eq_true.1 hall')
        · have hp2 : partsV (bodyV s.data.toList) = none := by
            rw [hp, if_neg]
            rintro ⟨_, h1, h2⟩
            exact hall ((all_atN hq).1 h2)
          rw [parse_none_of hp2]
          have hr := cnt_room (s := s) hq
          exact rp_N4_neg s w hs h0 hc0 (1 + cntV s.data.toList 1) (cntV s.data.toList 1) rfl rfl hlt hc _ _ rfl rfl hz (by omega)
    · have hc : ((s[(1 + cntV s.data.toList 1)].toNat : Int) == 46) = false := by
        have := beq_byte (c := s[(1 + cntV s.data.toList 1)]) (d := 46)
        rw [beq_eq_false_iff_ne.2 h46] at this
        exact this
      rw [if_neg (fun x => h46 x.1)] at hp
      rw [parse_none_of hp]
      by_cases hz : cntV s.data.toList 1 = 0
      · exact rp_N2z_neg s w hs h0 hc0 (1 + cntV s.data.toList 1) (cntV s.data.toList 1) rfl rfl hlt hc hz
      · exact rp_N2_neg s w hs h0 hc0 (1 + cntV s.data.toList 1) (cntV s.data.toList 1) rfl rfl hlt hc hz
theorem refParse_any (s : ByteArray) (w : World) (hs : s.size ≤ 1099511627776) :
    Calls Tryz.prog 65 #[.string s] w fun e w' => e = .returned (.tuple #[.int .i64 (parseV s.data.toList).1, .int .i64 (parseV s.data.toList).2]) ∧ w' = w := by
  by_cases h0 : s.size = 0
  · have e : s.data.toList = [] := List.eq_nil_of_length_eq_zero h0
    have : parseV s.data.toList = (0, 1) := by rw [e]; rfl
    rw [this]
    exact rp_N1_pos s w hs h0
  · have hpos : 0 < s.size := by omega
    have hl : s.data.toList = s[0] :: s.data.toList.drop 1 := by
      have := drop_at (s := s) (k := 0) hpos
      rw [List.drop_zero] at this; exact this
    have hn : negV s.data.toList = (s[0] == 45) := by
      rw [hl]; rfl
    have hb := beq_byte (c := s[0]) (d := 45)
    cases g : (s[0] == 45) with
    | true => exact refParse_neg s w hs hpos (by rw [g] at hb; exact hb) (by rw [hn, g])
    | false => exact refParse_pos s w hs hpos (by rw [g] at hb; exact hb) (by rw [hn, g])

end Go.Proofs.YtfjfkkbgkjmghaaGreatDoor
