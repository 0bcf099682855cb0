/- The document's Name, Find, count of layer 10: they answer by the functions of 'DocP'; the world is as it was. Conditions: rows as they lie in the world; of at most 2^47 bytes. -/
import Derived.Test.YtkloahpkjbohoaaRows
import Derived.Test.YtkloahpkjbohoaaDocM
namespace Go.Proofs.Ytkloahpkjbohoaa
open Go.RowKit

theorem cnt_take {l : List Int} {k : Nat} (n : Int) (hk : k < l.length) : cntI (l.take (k + 1)) n = cntI (l.take k) n + (if l[k] = n then 1 else 0) := by
  unfold cntI
  rw [List.take_succ_eq_append_getElem hk, List.count_append, List.count_singleton]
  congr 1
  by_cases h : l[k] = n
  · rw [if_pos h, h]; simp
  · rw [if_neg h]; simp [h]
theorem cnt_le (l : List Int) (n : Int) : cntI l n ≤ l.length := List.count_le_length
set_option maxHeartbeats 1000000 in
theorem refCount_any (v : Value) (ks : List Int) (n : Int) (w : World) (hv : IntsV w v ks) (hl : ks.length ≤ 17592186044416) :
    Calls Try.prog 42 #[v, .int .i64 n] w fun e w' => e = .returned (.int .i64 (cntI ks n : Nat)) ∧ w' = w := by
  obtain ⟨p, c, rfl, hk⟩ := hv
  have ST := hide (fun k hk => cnt_take (l := ks) (k := k) n hk)
  have LE := hide (fun k => Nat.le_trans (cnt_le (ks.take k) n) (List.length_take_le k ks))
  go_enter Try.func42, Try.ntmps42
  go_wp2_with fail
  go_loop [5, 6] (fun kv iv => ∃ j : Nat, j ≤ ks.length ∧ iv = .int .i64 j ∧ kv = .int .i64 (cntI (ks.take j) n : Nat)) (fun _ iv => ks.length - (intOf iv).toNat)
  case atStart => exact ⟨0, Nat.zero_le _, rfl, rfl⟩
  case round =>
    obtain ⟨j, hj, rfl, rfl⟩ := hrel
    by_cases h : j < ks.length
    · have i1 : (j : Int) < (ks.length : Int) := by omega
      have le := LE.out j
      have st := ST.out j h
      rcases hk with hk | ⟨b, o, rfl, hk⟩
      · subst hk; simp at h
      have hc := hk j h
      by_cases e : ks[j] = n
      · have d : (ks[j] == n) = true := by rw [e]; simp
        rw [if_pos e] at st
        replace st := hide st
        clear e ST LE hk
        generalize ks[j] = kj at *
        generalize cntI (ks.take j) n = cn at *
        go_wp2_with fail
        go_round
        case rel => exact ⟨j + 1, by omega, by go_num, by rw [st.out]; go_num⟩
        case measure => simp [intOf]; omega
      · have d : (ks[j] == n) = false := by rw [beq_eq_false_iff_ne]; exact e
        rw [if_neg e] at st
        replace st := hide st
        clear e ST LE hk
        generalize ks[j] = kj at *
        generalize cntI (ks.take j) n = cn at *
        go_wp2_with fail
        go_round
        case rel => exact ⟨j + 1, by omega, by go_num, by rw [st.out]; rfl⟩
        case measure => simp [intOf]; omega
    · obtain rfl : j = ks.length := by omega
      have E : Hid (cntI (ks.take ks.length) n = cntI ks n) := by show _ = _; rw [List.take_length]
      clear ST LE hk
      generalize cntI (ks.take ks.length) n = cn at *
      go_wp2_with fail
      go_ret
      exact ⟨by rw [← E.out]; rfl, rfl⟩
-- the rest
theorem byte_at (s : ByteArray) (k : Nat) (h : k < s.size) : s.data.toList[k]'(by simpa using h) = s[k] := by simp; rfl
theorem name_no {s : ByteArray} {k : Nat} (hk : k < s.size) (h : nmAt k s[k] = false) : nameOk s = false := by
  unfold nameOk
  rw [nmAll_bad (l := s.data.toList) (n := 0) (k := k) (by simpa using hk) (by rw [Nat.zero_add, byte_at s k hk]; exact h), Bool.and_false]
theorem name_end {s : ByteArray} (h : ∀ k (_ : k < s.size), nmAt k s[k] = true) : nameOk s = decide (0 < s.size ∧ s.size ≤ 20) := by
  unfold nameOk
  rw [nmAll_all (l := s.data.toList) (n := 0) (fun k hk => by
    have hk2 : k < s.size := by simpa using hk
    rw [Nat.zero_add, byte_at s k hk2]; exact h k hk2), Bool.and_true]
theorem small_iff (c : UInt8) : smallC c = true ↔ 97 ≤ c.toNat ∧ c.toNat ≤ 122 := by unfold smallC; simp
theorem nm_small {i : Nat} {c : UInt8} (h : 97 ≤ c.toNat ∧ c.toNat ≤ 122) : nmAt i c = true := by unfold nmAt; rw [(small_iff c).2 h]; rfl
theorem nm_other {i : Nat} {c : UInt8} (hi : ¬ i = 0) (h : (48 ≤ c.toNat ∧ c.toNat ≤ 57) ∨ c.toNat = 45) : nmAt i c = true := by
  unfold nmAt
  have h1 : (i == 0) = false := by simpa using hi
  have h2 : otherC c = true := by
    unfold otherC
    rcases h with h | h
    · rw [decide_eq_true h]; rfl
    · have : c = 45 := UInt8.toNat_inj.1 h
      subst this; rfl
  rw [h1, h2]; simp
theorem nm_not {i : Nat} {c : UInt8} (h : ¬ (97 ≤ c.toNat ∧ c.toNat ≤ 122)) (h2 : i = 0 ∨ ¬ ((48 ≤ c.toNat ∧ c.toNat ≤ 57) ∨ c.toNat = 45)) : nmAt i c = false := by
  unfold nmAt
  have h1 : smallC c = false := by unfold smallC; exact decide_eq_false h
  rw [h1, Bool.false_or]
  rcases h2 with rfl | h2
  · rfl
  · have h3 : otherC c = false := by
      unfold otherC
      rw [decide_eq_false (fun q => h2 (.inl q)), Bool.false_or, beq_eq_false_iff_ne]
      exact fun q => h2 (.inr (by rw [q]; rfl))
    rw [h3, Bool.and_false]
set_option maxHeartbeats 2000000 in
theorem refName_any (s : ByteArray) (w : World) (hs : s.size ≤ maxLen) :
    Calls Try.prog 46 #[.string s] w fun e w' => e = .returned (.bool (nameOk s)) ∧ w' = w := by
  unfold maxLen at hs
  have NO := hide (fun k hk h => name_no (s := s) (k := k) hk h)
  have END := hide (fun h => name_end (s := s) h)
  go_enter Try.func46, Try.ntmps46
  go_wp2_with fail
  go_loop [3] (fun iv => ∃ k : Nat, k ≤ s.size ∧ iv = .int .i64 k ∧ Hid (∀ j (_ : j < s.size), j < k → nmAt j s[j] = true)) (fun iv => s.size - (intOf iv).toNat)
  case atStart => exact ⟨0, Nat.zero_le _, rfl, fun j _ h => by omega⟩
  case round =>
    obtain ⟨k, hk, rfl, hd⟩ := hrel
    by_cases hlt : k < s.size
    · have hI : (k : Int) < (s.size : Int) := by omega
      have NX : nmAt k s[k] = true → Hid (∀ j (_ : j < s.size), j < k + 1 → nmAt j s[j] = true) := by
        intro h j hj hjk
        rcases Nat.lt_or_ge j k with q | q
        · exact hd.out j hj q
        · obtain rfl : j = k := by omega
          exact h
      have BAD := NO.out k hlt
      have h255 : (s[k].toNat : Int) ≤ 255 := by have := s[k].toNat_lt; omega
      clear hd NO END
      rcases (show s[k].toNat < 45 ∨ s[k].toNat = 45 ∨ (45 < s[k].toNat ∧ s[k].toNat < 48) ∨ (48 ≤ s[k].toNat ∧ s[k].toNat ≤ 57) ∨ (57 < s[k].toNat ∧ s[k].toNat < 97) ∨ (97 ≤ s[k].toNat ∧ s[k].toNat ≤ 122) ∨ 122 < s[k].toNat by omega) with r | r | r | r | r | r | r
      · have _r := r
        have d45 : ((s[k].toNat : Int) == 45) = false := by rw [beq_eq_false_iff_ne]; omega
        have d57 : decide ((s[k].toNat : Int) ≤ 57) = true := decide_eq_true (by omega)
        have d122 : decide ((s[k].toNat : Int) ≤ 122) = true := decide_eq_true (by omega)
        have E := hide (BAD (nm_not (by omega) (.inr (by omega))))
        clear NX BAD
        by_cases k0 : k = 0
        · have e0 : ((k : Int) == 0) = true := by rw [k0]; rfl
          clear k0
          go_wp2
          go_ret
          exact ⟨ret_bool E.out.symm, rfl⟩
        · have e0 : ((k : Int) == 0) = false := by rw [beq_eq_false_iff_ne]; omega
          clear k0
          go_wp2
          go_ret
          exact ⟨ret_bool E.out.symm, rfl⟩
      · have _r := r
        have d45 : ((s[k].toNat : Int) == 45) = true := by rw [r]; rfl
        have d57 : decide ((s[k].toNat : Int) ≤ 57) = true := decide_eq_true (by omega)
        have d122 : decide ((s[k].toNat : Int) ≤ 122) = true := decide_eq_true (by omega)
        by_cases k0 : k = 0
        · have E := hide (BAD (nm_not (by omega) (.inl k0)))
          have e0 : ((k : Int) == 0) = true := by rw [k0]; rfl
          have e1 : (k : Int) ≤ 0 := by omega
          clear NX BAD k0
          go_wp2
          go_ret
          exact ⟨ret_bool E.out.symm, rfl⟩
        · have E := NX (nm_other k0 (by omega))
          have e0 : ((k : Int) == 0) = false := by rw [beq_eq_false_iff_ne]; omega
          have e1 : 0 < (k : Int) := by omega
          clear NX BAD k0
          go_wp2
          go_round
          case rel => exact ⟨k + 1, by omega, by go_num, E⟩
          case measure => simp [intOf]; omega
      · have _r := r
        have d45 : ((s[k].toNat : Int) == 45) = false := by rw [beq_eq_false_iff_ne]; omega
        have d57 : decide ((s[k].toNat : Int) ≤ 57) = true := decide_eq_true (by omega)
        have d122 : decide ((s[k].toNat : Int) ≤ 122) = true := decide_eq_true (by omega)
        have E := hide (BAD (nm_not (by omega) (.inr (by omega))))
        clear NX BAD
        by_cases k0 : k = 0
        · have e0 : ((k : Int) == 0) = true := by rw [k0]; rfl
          clear k0
          go_wp2
          go_ret
          exact ⟨ret_bool E.out.symm, rfl⟩
        · have e0 : ((k : Int) == 0) = false := by rw [beq_eq_false_iff_ne]; omega
          clear k0
          go_wp2
          go_ret
          exact ⟨ret_bool E.out.symm, rfl⟩
      · have _r := r
        have d45 : ((s[k].toNat : Int) == 45) = false := by rw [beq_eq_false_iff_ne]; omega
        have d57 : decide ((s[k].toNat : Int) ≤ 57) = true := decide_eq_true (by omega)
        have d122 : decide ((s[k].toNat : Int) ≤ 122) = true := decide_eq_true (by omega)
        by_cases k0 : k = 0
        · have E := hide (BAD (nm_not (by omega) (.inl k0)))
          have e0 : ((k : Int) == 0) = true := by rw [k0]; rfl
          have e1 : (k : Int) ≤ 0 := by omega
          clear NX BAD k0
          go_wp2
          go_ret
          exact ⟨ret_bool E.out.symm, rfl⟩
        · have E := NX (nm_other k0 (by omega))
          have e0 : ((k : Int) == 0) = false := by rw [beq_eq_false_iff_ne]; omega
          have e1 : 0 < (k : Int) := by omega
          clear NX BAD k0
          go_wp2
          go_round
          case rel => exact ⟨k + 1, by omega, by go_num, E⟩
          case measure => simp [intOf]; omega
      · have _r := r
        have d45 : ((s[k].toNat : Int) == 45) = false := by rw [beq_eq_false_iff_ne]; omega
        have d57 : decide ((s[k].toNat : Int) ≤ 57) = false := decide_eq_false (by omega)
        have d122 : decide ((s[k].toNat : Int) ≤ 122) = true := decide_eq_true (by omega)
        have E := hide (BAD (nm_not (by omega) (.inr (by omega))))
        clear NX BAD
        by_cases k0 : k = 0
        · have e0 : ((k : Int) == 0) = true := by rw [k0]; rfl
          clear k0
          go_wp2
          go_ret
          exact ⟨ret_bool E.out.symm, rfl⟩
        · have e0 : ((k : Int) == 0) = false := by rw [beq_eq_false_iff_ne]; omega
          clear k0
          go_wp2
          go_ret
          exact ⟨ret_bool E.out.symm, rfl⟩
      · have E := NX (nm_small r)
        have d45 : ((s[k].toNat : Int) == 45) = false := by rw [beq_eq_false_iff_ne]; omega
        have d57 : decide ((s[k].toNat : Int) ≤ 57) = false := decide_eq_false (by omega)
        have d122 : decide ((s[k].toNat : Int) ≤ 122) = true := decide_eq_true (by omega)
        clear NX BAD
        go_wp2
        go_round
        case rel => exact ⟨k + 1, by omega, by go_num, E⟩
        case measure => simp [intOf]; omega
      · have _r := r
        have d45 : ((s[k].toNat : Int) == 45) = false := by rw [beq_eq_false_iff_ne]; omega
        have d57 : decide ((s[k].toNat : Int) ≤ 57) = false := decide_eq_false (by omega)
        have d122 : decide ((s[k].toNat : Int) ≤ 122) = false := decide_eq_false (by omega)
        have E := hide (BAD (nm_not (by omega) (.inr (by omega))))
        clear NX BAD
        by_cases k0 : k = 0
        · have e0 : ((k : Int) == 0) = true := by rw [k0]; rfl
          clear k0
          go_wp2
          go_ret
          exact ⟨ret_bool E.out.symm, rfl⟩
        · have e0 : ((k : Int) == 0) = false := by rw [beq_eq_false_iff_ne]; omega
          clear k0
          go_wp2
          go_ret
          exact ⟨ret_bool E.out.symm, rfl⟩
    · obtain rfl : k = s.size := by omega
      have E := END.out (fun j hj => hd.out j hj hj)
      clear hd NO END
      by_cases h0 : 0 < s.size
      · have i0 : (0 : Int) < (s.size : Int) := by omega
        by_cases h20 : s.size ≤ 20
        · have i20 : (s.size : Int) ≤ 20 := by omega
          rw [decide_eq_true ⟨h0, h20⟩] at E
          have d : decide ((s.size : Int) ≤ 20) = true := decide_eq_true i20
          replace E := hide E
          go_wp2_with fail
          go_ret
          exact ⟨ret_bool (by first | exact E.out.symm | exact d.trans E.out.symm), rfl⟩
        · have i20 : ¬ (s.size : Int) ≤ 20 := by omega
          rw [decide_eq_false (fun q => h20 q.2)] at E
          have d : decide ((s.size : Int) ≤ 20) = false := decide_eq_false i20
          replace E := hide E
          go_wp2_with fail
          go_ret
          exact ⟨ret_bool (by first | exact E.out.symm | exact d.trans E.out.symm), rfl⟩
      · have i0 : ¬ (0 : Int) < (s.size : Int) := by omega
        rw [decide_eq_false (fun q => h0 q.1)] at E
        replace E := hide E
        go_wp2_with fail
        go_ret
        exact ⟨ret_bool E.out.symm, rfl⟩

theorem find_hit {ax : List (ByteArray × ByteArray)} {n : ByteArray} {k : Nat} (hk : k < ax.length) (h : ∀ j (_ : j < ax.length), j < k → ¬ ax[j].1 = n) (e : ax[k].1 = n) : findA ax n = some k := by
  unfold findA
  rw [List.findIdx?_eq_some_iff_getElem]
  exact ⟨hk, decide_eq_true e, fun j hj => by have := h j (by omega) hj; simpa using this⟩
theorem find_none {ax : List (ByteArray × ByteArray)} {n : ByteArray} (h : ∀ j (_ : j < ax.length), ¬ ax[j].1 = n) : findA ax n = none := by
  unfold findA
  rw [List.findIdx?_eq_none_iff]
  intro a ha
  obtain ⟨j, hj, rfl⟩ := List.getElem_of_mem ha
  simpa using h j hj
theorem txt_beq (a b : ByteArray) : (a.toList == b.toList) = decide (a = b) := by
  rw [Bool.eq_iff_iff, beq_iff_eq, decide_eq_true_eq, ByteArray.toList_eq, ByteArray.toList_eq]
  constructor
  · intro h
    apply ByteArray.ext
    exact Array.ext' h
  · intro h; rw [h]
set_option maxHeartbeats 2000000 in
theorem refFind_any (v : Value) (ax : List (ByteArray × ByteArray)) (n : ByteArray) (w : World) (hv : AttrsV w v ax) (hl : ax.length ≤ 4398046511104) :
    Calls Try.prog 58 #[v, .string n] w fun e w' => e = .returned (.int .i64 (findV (findA ax n))) ∧ w' = w := by
  obtain ⟨p, c, rfl, hk⟩ := hv
  have HIT := hide (fun k hk h e => find_hit (ax := ax) (n := n) (k := k) hk h e)
  have END := hide (fun h => find_none (ax := ax) (n := n) h)
  go_enter Try.func58, Try.ntmps58
  go_wp2_with fail
  go_loop [5] (fun iv => ∃ j : Nat, j ≤ ax.length ∧ iv = .int .i64 j ∧ Hid (∀ m (_ : m < ax.length), m < j → ¬ ax[m].1 = n)) (fun iv => ax.length - (intOf iv).toNat)
  case atStart => exact ⟨0, Nat.zero_le _, rfl, fun m _ h => by omega⟩
  case round =>
    obtain ⟨j, hj, rfl, hd⟩ := hrel
    by_cases h : j < ax.length
    · have i1 : (j : Int) < (ax.length : Int) := by omega
      rcases hk with hk | ⟨b, o, rfl, hk⟩
      · subst hk; simp at h
      have hc := (hk j h).1
      by_cases e : ax[j].1 = n
      · have E := hide (HIT.out j h hd.out e)
        have d : (ax[j].1.toList == n.toList) = true := by rw [txt_beq]; exact decide_eq_true e
        clear e hd HIT END hk
        generalize ax[j].1 = aj at *
        go_wp2_with fail
        go_ret
        exact ⟨by rw [E.out]; rfl, rfl⟩
      · have d : (ax[j].1.toList == n.toList) = false := by rw [txt_beq]; exact decide_eq_false e
        have hd' : Hid (∀ m (_ : m < ax.length), m < j + 1 → ¬ ax[m].1 = n) := by
          intro m hm hmj
          rcases Nat.lt_or_ge m j with q | q
          · exact hd.out m hm q
          · obtain rfl : m = j := by omega
            exact e
        clear e hd HIT END hk
        generalize ax[j].1 = aj at *
        go_wp2_with fail
        go_round
        case rel => exact ⟨j + 1, by omega, by go_num, hd'⟩
        case measure => simp [intOf]; omega
    · obtain rfl : j = ax.length := by omega
      have E := hide (END.out (fun m hm => hd.out m hm hm))
      clear hd HIT END hk
      go_wp2_with fail
      go_ret
      exact ⟨by rw [E.out]; rfl, rfl⟩

end Go.Proofs.Ytkloahpkjbohoaa
