/- The questions of kinds, of the document. The document's Attr, SameFiles, Same of layer 14. The program's isSmall, isName, isText, called of layer 10. The program's areAttrs, isFormed of layer 10. -/
import Derived.Test.YtnojgejcmaajmaaDoorJsd10
import Derived.Test.YtnojgejcmaajmaaDoorJsd15
import Derived.Deep.RegionHeld3
import Derived.Deep.RegionWith
import Derived.BigRegion

namespace Go.Proofs.YtnojgejcmaajmaaDoor
open Go.RowKit
set_option maxHeartbeats 4000000 in
set_option maxRecDepth 100000 in
theorem refIs_5 (k : Int) (w : World) :
    Calls Tryd.prog 42 #[.int .i64 5, .int .i64 k] w fun e w' => e = .returned (.bool (fireB k)) ∧ w' = w := by
  rcases (show (k ≤ 0) ∨ (1 ≤ k ∧ k ≤ 18) ∨ (k = 19) ∨ (k = 20) ∨ (21 ≤ k ∧ k ≤ 22) ∨ (k = 23) ∨ (k = 24) ∨ (k = 25) ∨ (k = 26) ∨ (k = 27) ∨ (28 ≤ k) by omega) with q | q | q | q | q | q | q | q | q | q | q
  all_goals
    first | (have e1 : ¬ (1 ≤ k) := by omega) | (have e1 : 1 ≤ k := by omega)
    first | (have d1 : decide (1 ≤ k) = false := decide_eq_false e1) | (have d1 : decide (1 ≤ k) = true := decide_eq_true e1)
    first | (have e2 : k ≤ 22 := by omega) | (have e2 : ¬ (k ≤ 22) := by omega)
    first | (have d2 : decide (k ≤ 22) = true := decide_eq_true e2) | (have d2 : decide (k ≤ 22) = false := decide_eq_false e2)
    first | (have e3 : (k == 23) = false := by rw [beq_eq_false_iff_ne]; omega) | (have e3 : (k == 23) = true := by rw [beq_iff_eq]; omega)
    first | (have n3 : ¬ k = 23 := by omega) | (have n3 : (k != 23) = false := by unfold bne; rw [e3]; rfl)
    first | (have e4 : (k == 24) = false := by rw [beq_eq_false_iff_ne]; omega) | (have e4 : (k == 24) = true := by rw [beq_iff_eq]; omega)
    first | (have n4 : ¬ k = 24 := by omega) | (have n4 : (k != 24) = false := by unfold bne; rw [e4]; rfl)
    first | (have e5 : (k == 25) = false := by rw [beq_eq_false_iff_ne]; omega) | (have e5 : (k == 25) = true := by rw [beq_iff_eq]; omega)
    first | (have n5 : ¬ k = 25 := by omega) | (have n5 : (k != 25) = false := by unfold bne; rw [e5]; rfl)
    first | (have e6 : (k == 26) = false := by rw [beq_eq_false_iff_ne]; omega) | (have e6 : (k == 26) = true := by rw [beq_iff_eq]; omega)
    first | (have n6 : ¬ k = 26 := by omega) | (have n6 : (k != 26) = false := by unfold bne; rw [e6]; rfl)
    first | (have e7 : (k == 27) = false := by rw [beq_eq_false_iff_ne]; omega) | (have e7 : (k == 27) = true := by rw [beq_iff_eq]; omega)
    first | (have n7 : ¬ k = 27 := by omega) | (have n7 : (k != 27) = false := by unfold bne; rw [e7]; rfl)
    first | (have e8 : (k == 19) = false := by rw [beq_eq_false_iff_ne]; omega) | (have e8 : (k == 19) = true := by rw [beq_iff_eq]; omega)
    first | (have n8 : ¬ k = 19 := by omega) | (have n8 : (k != 19) = false := by unfold bne; rw [e8]; rfl)
    first | (have e9 : (k == 20) = false := by rw [beq_eq_false_iff_ne]; omega) | (have e9 : (k == 20) = true := by rw [beq_iff_eq]; omega)
    first | (have n9 : ¬ k = 20 := by omega) | (have n9 : (k != 20) = false := by unfold bne; rw [e9]; rfl)
    first | (have E := hide (show fireB k = false from decide_eq_false (by omega))) | (have E := hide (show fireB k = true from decide_eq_true (by omega)))
    clear q
    go_enter Tryd.func42, Tryd.ntmps42
    go_wp2_with fail
    go_ret
    exact ⟨ret_bool E.out.symm, rfl⟩
end Go.Proofs.YtnojgejcmaajmaaDoor

namespace Go.Proofs.YtnojgejcmaajmaaDoor
open Go.RowKit
set_option maxRecDepth 100000
theorem ret_fndA {a b : ByteArray} {c d : Bool} (h : a = b) (g : c = d) : Ending.returned (.tuple #[.string a, .bool c]) = .returned (.tuple #[.string b, .bool d]) := by rw [h, g]
set_option maxHeartbeats 4000000 in
set_option maxRecDepth 100000 in
theorem refAttrS_any (v : Value) (ax : List (ByteArray × ByteArray)) (name : ByteArray) (w : World) (hv : AttrsV w v ax) (hl : ax.length ≤ 4398046511104) :
    Calls Tryd.prog 38 #[v, .string name] w fun e w' => e = .returned (.tuple #[.string (fndS ax name), .bool (findA ax name).isSome]) ∧ w' = w := by
  have HF := hide (refFind_any v ax name w hv hl)
  obtain ⟨p, c, rfl, hv⟩ := hv
  cases hf : findA ax name with
  | none =>
    have E := hide (fnd_miss hf)
    rw [hf, show findV none = -1 from rfl] at HF
    clear hf hv hl
    go_enter Tryd.func38, Tryd.ntmps38
    go_wp2_with fail
    refine HF.out.mono ?_
    rintro e u ⟨rfl, hu⟩
    obtain rfl : w = u := hu.symm
    go_wp2_with fail
    go_ret2
    exact ⟨ret_fndA E.out.1.symm rfl, rfl⟩
  | some i =>
    obtain ⟨hi, _, _⟩ := List.findIdx?_eq_some_iff_getElem.1 (show ax.findIdx? (isN name) = some i from hf)
    have E := hide (fnd_hit hi hf)
    rw [hf, show findV (some i) = (i : Int) from rfl] at HF
    obtain ⟨b, o, rfl, hv2⟩ : ∃ b o, p = some ⟨b, o, none⟩ ∧ ∀ i (h : i < ax.length), w.cell? ⟨b, o + i * 2, none⟩ = some (.string ax[i].1) ∧ w.cell? ⟨b, o + i * 2 + 1, none⟩ = some (.string ax[i].2) := by
      rcases hv with t | t
      · rw [t] at hi; simp at hi
      · exact t
    have c1 := (hv2 i hi).2
    have i0 : (0 : Int) ≤ (i : Int) := by omega
    have i1 : (i : Int) < (ax.length : Int) := by omega
    have i2 : ¬ (i : Int) < 0 := by omega
    generalize ax[i].2 = t at *
    clear hf hv hv2 hl
    go_enter Tryd.func38, Tryd.ntmps38
    go_wp2_with fail
    refine HF.out.mono ?_
    rintro e u ⟨rfl, hu⟩
    obtain rfl : w = u := hu.symm
    go_wp2_with fail
    go_ret2
    exact ⟨ret_fndA E.out.1.symm rfl, rfl⟩
end Go.Proofs.YtnojgejcmaajmaaDoor

namespace Go.Proofs.YtnojgejcmaajmaaDoor
open Go.RowKit
set_option maxRecDepth 100000
def smI (z : Int) : Bool := decide (97 ≤ z ∧ z ≤ 122)
set_option maxHeartbeats 1000000 in
theorem isSmall_any (z : Int) (w : World) :
    Calls Tryd.prog 58 #[.int .u8 z] w fun e w' => e = .returned (.bool (smI z)) ∧ w' = w := by
  by_cases a : 97 ≤ z
  · by_cases b : z ≤ 122
    · have E := hide (show smI z = true from decide_eq_true ⟨a, b⟩)
      go_enter Tryd.func58, Tryd.ntmps58
      go_wp2_with fail
      go_ret
      exact ⟨ret_bool E.out.symm, rfl⟩
    · have E := hide (show smI z = false from decide_eq_false (fun q => b q.2))
      have d : decide (z ≤ 122) = false := decide_eq_false b
      go_enter Tryd.func58, Tryd.ntmps58
      go_wp2_with fail
      go_ret
      exact ⟨ret_bool E.out.symm, rfl⟩
  · have E := hide (show smI z = false from decide_eq_false (fun q => a q.1))
    go_enter Tryd.func58, Tryd.ntmps58
    go_wp2_with fail
    go_ret
    exact ⟨ret_bool E.out.symm, rfl⟩
theorem name_short {s : ByteArray} (h : ¬ (0 < s.size ∧ s.size ≤ 20)) : nameOk s = false := by unfold nameOk; rw [decide_eq_false h]; rfl
set_option maxHeartbeats 2000000 in
theorem isName_any (s : ByteArray) (w : World) (hs : s.size ≤ maxLen) :
    Calls Tryd.prog 46 #[.string s] w fun e w' => e = .returned (.bool (nameOk s)) ∧ w' = w := by
  unfold maxLen at hs
  by_cases h1 : s.size < 1
  · have E := hide (name_short (s := s) (by omega))
    have i1 : (s.size : Int) < 1 := by omega
    clear h1
    go_enter Tryd.func46, Tryd.ntmps46
    go_wp2_with fail
    go_ret
    exact ⟨ret_bool E.out.symm, rfl⟩
  by_cases h2 : 20 < s.size
  · have E := hide (name_short (s := s) (by omega))
    have i1 : ¬ (s.size : Int) < 1 := by omega
    have i2 : (20 : Int) < (s.size : Int) := by omega
    clear h1 h2
    go_enter Tryd.func46, Tryd.ntmps46
    go_wp2_with fail
    go_ret
    exact ⟨ret_bool E.out.symm, rfl⟩
  have i1 : ¬ (s.size : Int) < 1 := by omega
  have i2 : ¬ (20 : Int) < (s.size : Int) := by omega
  have i3 : decide ((20 : Int) < (s.size : Int)) = false := decide_eq_false i2
  have p0 : 0 < s.size := by omega
  have i4 : (0 : Int) < (s.size : Int) := by omega
  have b0 : (0 : Int) ≤ (s[0].toNat : Int) := by omega
  have b1 : (s[0].toNat : Int) ≤ 255 := by have := s[0].toNat_lt; omega
  have HS0 := hide (fun w => isSmall_any (s[0].toNat : Int) w)
  have NO := hide (fun k hk h => name_no (s := s) (k := k) hk h)
  have END := hide (fun h => (name_end (s := s) h).trans (decide_eq_true ⟨p0, by omega⟩))
  cases q0 : smI (s[0].toNat : Int) with
  | false =>
    rw [q0] at HS0
    have E := hide (NO.out 0 p0 (nm_not (by unfold smI at q0; have := of_decide_eq_false q0; omega) (.inl rfl)))
    clear NO END q0
    go_enter Tryd.func46, Tryd.ntmps46
    go_wp2_with fail
    refine (HS0.out _).mono ?_
    rintro e w1 ⟨rfl, hw⟩
    obtain rfl : w = w1 := hw.symm
    go_wp2_with fail
    go_ret
    exact ⟨ret_bool E.out.symm, rfl⟩
  | true =>
    rw [q0] at HS0
    have SM0 : Hid (97 ≤ s[0].toNat ∧ s[0].toNat ≤ 122) := by unfold smI at q0; have := of_decide_eq_true q0; show _ ∧ _; omega
    clear q0
    go_enter Tryd.func46, Tryd.ntmps46
    go_wp2_with fail
    refine (HS0.out _).mono ?_
    rintro e w1 ⟨rfl, hw⟩
    obtain rfl : w = w1 := hw.symm
    go_wp2_with fail
    go_loop [21] (fun iv => ∃ k : Nat, k ≤ s.size ∧ iv = .int .i64 k ∧ Hid (∀ j (_ : j < s.size), j < k → nmAt j s[j] = true)) (fun iv => s.size - (intOf iv).toNat)
    case atStart => exact ⟨0, Nat.zero_le _, rfl, fun j _ h => by omega⟩
    case round =>
      obtain ⟨k, hk, rfl, hd⟩ := hrel
      clear HS0 b0 b1
      by_cases hlt : k < s.size
      · have hI : (k : Int) < (s.size : Int) := by omega
        have hI0 : (0 : Int) ≤ (k : Int) := by omega
        have NX : nmAt k s[k] = true → Hid (∀ j (_ : j < s.size), j < k + 1 → nmAt j s[j] = true) := by
          intro h j hj hjk
          rcases Nat.lt_or_ge j k with q | q
          · exact hd.out j hj q
          · obtain rfl : j = k := by omega
            exact h
        have K0 : Hid (k = 0 → 97 ≤ s[k].toNat ∧ s[k].toNat ≤ 122) := by intro q; subst q; exact SM0.out
        have BAD := hide (NO.out k hlt)
        have h255 : (s[k].toNat : Int) ≤ 255 := by have := s[k].toNat_lt; omega
        have h000 : (0 : Int) ≤ (s[k].toNat : Int) := by omega
        have HS := hide (fun w => isSmall_any (s[k].toNat : Int) w)
        have NX' := hide NX
        clear hd NO END NX SM0
        cases q : smI (s[k].toNat : Int) with
        | true =>
          rw [q] at HS
          have E := NX'.out (nm_small (by unfold smI at q; have := of_decide_eq_true q; omega))
          clear q NX' BAD K0
          go_wp2_with fail
          refine (HS.out _).mono ?_
          rintro e w1 ⟨rfl, hw⟩
          obtain rfl : w = w1 := hw.symm
          go_wp2_with fail
          go_round
          case rel => exact ⟨k + 1, by omega, by go_num, E⟩
          case measure => simp [intOf]; omega
        | false =>
          rw [q] at HS
          have q2 : ¬ (97 ≤ s[k].toNat ∧ s[k].toNat ≤ 122) := by unfold smI at q; have := of_decide_eq_false q; omega
          have k0 : ¬ k = 0 := fun r => q2 (K0.out r)
          have Q2 := hide q2
          have K1 := hide k0
          clear q q2 k0 K0
          rcases (show s[k].toNat < 48 ∨ (48 ≤ s[k].toNat ∧ s[k].toNat ≤ 57) ∨ 57 < s[k].toNat by omega) with r | r | r
          · have d48 : decide ((48 : Int) ≤ (s[k].toNat : Int)) = false := decide_eq_false (by omega)
            by_cases e45 : s[k].toNat = 45
            · have d45 : ((s[k].toNat : Int) != 45) = false := by rw [e45]; rfl
              have d45' : ((s[k].toNat : Int) == 45) = true := by rw [e45]; rfl
              have E := NX'.out (nm_other K1.out (by omega))
              clear NX' BAD e45 r
              go_wp2_with fail
              refine (HS.out _).mono ?_
              rintro e w1 ⟨rfl, hw⟩
              obtain rfl : w = w1 := hw.symm
              go_wp2_with fail
              go_round
              case rel => exact ⟨k + 1, by omega, by go_num, E⟩
              case measure => simp [intOf]; omega
            · have d45 : ((s[k].toNat : Int) != 45) = true := by rw [bne_iff_ne]; omega
              have d45' : ((s[k].toNat : Int) == 45) = false := by rw [beq_eq_false_iff_ne]; omega
              have E := hide (BAD.out (nm_not Q2.out (.inr (by omega))))
              clear NX' BAD e45 r
              go_wp2_with fail
              refine (HS.out _).mono ?_
              rintro e w1 ⟨rfl, hw⟩
              obtain rfl : w = w1 := hw.symm
              go_wp2_with fail
              go_ret
              exact ⟨ret_bool E.out.symm, rfl⟩
          · have d48 : (48 : Int) ≤ (s[k].toNat : Int) := by omega
            have d57 : (s[k].toNat : Int) ≤ 57 := by omega
            have E := NX'.out (nm_other K1.out (by omega))
            clear NX' BAD r
            go_wp2_with fail
            refine (HS.out _).mono ?_
            rintro e w1 ⟨rfl, hw⟩
            obtain rfl : w = w1 := hw.symm
            go_wp2_with fail
            go_round
            case rel => exact ⟨k + 1, by omega, by go_num, E⟩
            case measure => simp [intOf]; omega
          · have d48 : (48 : Int) ≤ (s[k].toNat : Int) := by omega
            have d57 : decide ((s[k].toNat : Int) ≤ 57) = false := decide_eq_false (by omega)
            have d45 : ((s[k].toNat : Int) != 45) = true := by rw [bne_iff_ne]; omega
            have d45' : ((s[k].toNat : Int) == 45) = false := by rw [beq_eq_false_iff_ne]; omega
            have E := hide (BAD.out (nm_not Q2.out (.inr (by omega))))
            clear NX' BAD r
            go_wp2_with fail
            refine (HS.out _).mono ?_
            rintro e w1 ⟨rfl, hw⟩
            obtain rfl : w = w1 := hw.symm
            go_wp2_with fail
            go_ret
            exact ⟨ret_bool E.out.symm, rfl⟩
      · obtain rfl : k = s.size := by omega
        have E := hide (END.out (fun j hj => hd.out j hj hj))
        clear NO END hd SM0 hlt
        go_wp2_with fail
        go_ret
        exact ⟨ret_bool E.out.symm, rfl⟩
theorem noName_true {n : ByteArray} (h : noName n = true) : n = ⟨#[]⟩ := by
  unfold noName at h
  have h : n.size = 0 := beq_iff_eq.1 h
  have h2 : n.data.size = 0 := h
  cases n with
  | mk d =>
    have h2 : d.size = 0 := h2
    obtain rfl : d = #[] := Array.eq_empty_of_size_eq_zero h2
    rfl
theorem noName_false {n : ByteArray} (h : noName n = false) : ¬ n.toList = [] := by
  rw [ByteArray.toList_eq]
  intro q
  have : n.data = #[] := by cases hd : n.data with | mk d => rw [hd] at q; have q : d = [] := q; rw [q]
  have h2 : n.size = 0 := by show n.data.size = 0; rw [this]; rfl
  unfold noName at h
  rw [h2] at h
  cases h
set_option maxHeartbeats 1000000 in
theorem isText_any (a0 a1 : ByteArray) (va : Value) (p : Int) (vk : Value) (w : World) :
    Calls Tryd.prog 29 #[.agg #[.string a0, .string a1, va, .int .i64 p, vk]] w fun e w' => e = .returned (.bool (noName a0)) ∧ Below w.heap.size w w' := by
  cases q : noName a0 with
  | true =>
    obtain rfl := noName_true q
    go_enter Tryd.func29, Tryd.ntmps29
    go_wp2_with fail
    go_ret
    exact ⟨rfl, (Below.refl _ w).alloc (Nat.le_refl _) _⟩
  | false =>
    have e1 := noName_false q
    have e2 : a0.toList.isEmpty = false := by cases h : a0.toList with
      | nil => exact absurd h e1
      | cons => rfl
    have e3 : (a0.toList == []) = false := by rw [beq_eq_false_iff_ne]; exact e1
    clear q
    go_enter Tryd.func29, Tryd.ntmps29
    go_wp2_with fail
    go_ret
    exact ⟨rfl, (Below.refl _ w).alloc (Nat.le_refl _) _⟩
end Go.Proofs.YtnojgejcmaajmaaDoor

namespace Go.Proofs.YtnojgejcmaajmaaDoor
open Go.RowKit
def attrsB (ax : List (ByteArray × ByteArray)) : Bool := decide (ax.length ≤ 40) && (List.range ax.length).all (attrOk ax)
theorem attrs_long {ax : List (ByteArray × ByteArray)} (h : 40 < ax.length) : attrsB ax = false := by unfold attrsB; rw [decide_eq_false (by omega)]; rfl
theorem attrs_bad {ax : List (ByteArray × ByteArray)} {k : Nat} (hk : k < ax.length) (h : attrOk ax k = false) : attrsB ax = false := by
  unfold attrsB
  have : (List.range ax.length).all (attrOk ax) = false := by
    rw [List.all_eq_false]
    exact ⟨k, List.mem_range.2 hk, by rw [h]; decide⟩
  rw [this, Bool.and_false]
theorem attrs_good {ax : List (ByteArray × ByteArray)} (h0 : ax.length ≤ 40) (h : ∀ k, k < ax.length → attrOk ax k = true) : attrsB ax = true := by
  unfold attrsB
  rw [decide_eq_true h0, Bool.true_and, List.all_eq_true]
  exact fun k hk => h k (List.mem_range.1 hk)
theorem take_idx {ax : List (ByteArray × ByteArray)} {k : Nat} (hk : k < ax.length) : (findA ax ax[k].1 == some k) = !((ax.take k).findIdx? (isN ax[k].1)).isSome := by
  by_cases h : ∀ j (hj : j < k), ¬ ax[j].1 = ax[k].1
  · rw [(find_first hk).2 h]
    have : (ax.take k).findIdx? (isN ax[k].1) = none := by
      rw [List.findIdx?_eq_none_iff]
      intro x hx
      obtain ⟨j, hj, rfl⟩ := List.getElem_of_mem hx
      rw [List.length_take] at hj
      rw [List.getElem_take]
      exact decide_eq_false (h j (by omega))
    rw [this]; simp
  · have h1 : (findA ax ax[k].1 == some k) = false := by
      rw [beq_eq_false_iff_ne]
      exact fun q => h ((find_first hk).1 q)
    rw [h1]
    have : ((ax.take k).findIdx? (isN ax[k].1)).isSome = true := by
      rw [List.findIdx?_isSome, List.any_eq_true]
      have ⟨j, hj⟩ : ∃ j, ∃ hj : j < k, ax[j].1 = ax[k].1 := by
        refine Classical.byContradiction fun q => h fun j hj e => q ⟨j, hj, e⟩
      obtain ⟨hj, e⟩ := hj
      exact ⟨ax[j], List.mem_take_iff_getElem.2 ⟨j, by omega, rfl⟩, decide_eq_true e⟩
    rw [this]; rfl
theorem attrOk_tk {ax : List (ByteArray × ByteArray)} {k : Nat} (hk : k < ax.length) : attrOk ax k = (nameOk ax[k].1 && (decide (ax[k].2.size ≤ 4000) && !((ax.take k).findIdx? (isN ax[k].1)).isSome)) := by
  unfold attrOk
  have : ax.getD k at0 = ax[k] := by simp [List.getD, hk]
  rw [this, take_idx hk]
theorem AttrsV.take {w : World} {p : Option Addr} {c : Nat} {ax : List (ByteArray × ByteArray)} (h : AttrsV w (.slice p ax.length c) ax) {k : Nat} (hk : k ≤ ax.length) (c' : Nat) : AttrsV w (.slice p k c') (ax.take k) := by
  obtain ⟨p', c2, e, h⟩ := h
  cases e
  refine ⟨p, c', by rw [List.length_take, Nat.min_eq_left hk], ?_⟩
  rcases h with h | ⟨b, o, rfl, h⟩
  · exact .inl (by rw [h, List.take_nil])
  · refine .inr ⟨b, o, rfl, fun i hi => ?_⟩
    rw [List.length_take] at hi
    rw [List.getElem_take]
    exact h i (by omega)
set_option maxHeartbeats 4000000 in
set_option maxRecDepth 100000 in
theorem areAttrs_any (p : Option Addr) (c : Nat) (ax : List (ByteArray × ByteArray)) (w : World) (hv : AttrsV w (.slice p ax.length c) ax) (hl : ax.length ≤ 4398046511104) (hc : ax.length ≤ c) (hs : ∀ a ∈ ax, a.1.size ≤ maxLen ∧ a.2.size ≤ maxLen) :
    Calls Tryd.prog 47 #[.slice p ax.length c] w fun e w' => e = .returned (.bool (attrsB ax)) ∧ Below w.heap.size w w' := by
  by_cases h40 : 40 < ax.length
  · have E := hide (attrs_long h40)
    have i1 : (40 : Int) < (ax.length : Int) := by omega
    clear hv hs h40
    go_enter Tryd.func47, Tryd.ntmps47
    go_wp2_with fail
    go_ret
    exact ⟨ret_bool E.out.symm, Below.refl _ _⟩
  have i40 : ¬ (40 : Int) < (ax.length : Int) := by omega
  have n40 : ax.length ≤ 40 := by omega
  have BAD := hide (fun k hk h => attrs_bad (ax := ax) (k := k) hk h)
  have GOOD := hide (fun h => attrs_good (ax := ax) n40 h)
  have HV := hide hv
  have HS := hide hs
  clear hv hs h40
  generalize attrsB ax = R at *
  go_enter Tryd.func47, Tryd.ntmps47
  go_wp2_with fail
  go_loopw [10] (fun iv wr => ∃ k : Nat, k ≤ ax.length ∧ iv = .int .i64 k ∧ Hid (∀ j, j < k → attrOk ax j = true) ∧ Hid (Below w.heap.size w wr)) (fun iv _ => ax.length - (intOf iv).toNat)
  case atStart => exact ⟨0, Nat.zero_le _, rfl, fun j q => by omega, Below.refl _ _⟩
  case round =>
    rename World => wr
    obtain ⟨k, hk, rfl, hd, BW⟩ := hrel
    by_cases h : k < ax.length
    · have i1 : (k : Int) < (ax.length : Int) := by omega
      have i0 : (0 : Int) ≤ (k : Int) := by omega
      have i2 : (k : Int) ≤ (c : Int) := by omega
      obtain ⟨b, o, rfl, hcell⟩ : ∃ b o, p = some ⟨b, o, none⟩ ∧ ∀ i (h : i < ax.length), w.cell? ⟨b, o + i * 2, none⟩ = some (.string ax[i].1) ∧ w.cell? ⟨b, o + i * 2 + 1, none⟩ = some (.string ax[i].2) := by
        obtain ⟨p', c', e, hv⟩ := HV.out
        cases e
        rcases hv with hv | hv
        · rw [hv] at h; simp at h
        · exact hv
      have c0 := cell_below (hcell k h).1 BW.out
      have c1 := cell_below (hcell k h).2 BW.out
      have OK := hide (attrOk_tk h)
      have Z := HS.out ax[k] (List.getElem_mem _)
      have z1 := Z.1
      have z2 := Z.2
      have BK := hide (BAD.out k h)
      have NX := hide (fun q : attrOk ax k = true => (fun j (r : j < k + 1) => by
        rcases Nat.lt_or_ge j k with t | t
        · exact hd.out j t
        · obtain rfl : j = k := by omega
          exact q : ∀ j, j < k + 1 → attrOk ax j = true))
      have HT : Hid (AttrsV w (.slice (some ⟨b, o, none⟩) k c) (ax.take k)) := HV.out.take hk c
      have tl : (ax.take k).length ≤ 4398046511104 := by rw [List.length_take]; omega
      have TL := hide tl
      clear hcell Z HV HS BAD GOOD hd tl
      generalize ax.take k = tk at *
      obtain ⟨n, hn⟩ : ∃ n, Hid (ax[k].1 = n) := ⟨ax[k].1, show _ = _ from rfl⟩
      obtain ⟨u, hu⟩ : ∃ u, Hid (ax[k].2 = u) := ⟨ax[k].2, show _ = _ from rfl⟩
      rw [hn.out] at c0 OK z1
      rw [hu.out] at c1 OK z2
      have HN := hide (fun w => isName_any n w z1)
      clear hn hu z1
      unfold maxLen at z2
      have bn : b < wr.heap.size := World.block_lt_of_cell? _ _ c0
      have bn2 : b ≠ wr.heap.size := by omega
      cases q1 : nameOk n with
      | false =>
        rw [q1] at HN OK
        have E := hide (BK.out (by rw [OK.out]; rfl))
        clear OK BK NX q1 HT
        go_wp2_with fail
        generalize hw1 : wr.alloc (.cells #[.string n, .string u] 70) = w1
        have N1 : Hid (NB w1 wr.heap.size [.string n, .string u] 70) := by rw [← hw1]; exact NB.new wr _ _
        have b1 : Hid (Below w.heap.size w w1) := by rw [← hw1]; exact chain BW.out ((Below.refl _ wr).alloc (Nat.le_refl _) _)
        have d0 := N1.out.cell 0 rfl
        have d1 := N1.out.cell 1 rfl
        clear hw1
        go_quiet (exact Calls.quiet_of_same (HN.out _))
        go_wp2_with fail
        go_ret
        exact ⟨ret_bool E.out.symm, bel_drewN b1.out _⟩
      | true =>
        rw [q1, Bool.true_and] at OK
        rw [q1] at HN
        clear q1
        by_cases q2 : u.size ≤ 4000
        · rw [decide_eq_true q2, Bool.true_and] at OK
          have j1 : ¬ (4000 : Int) < (u.size : Int) := by omega
          have j2 : decide ((4000 : Int) < (u.size : Int)) = false := decide_eq_false j1
          go_wp2_with fail
          generalize hw1 : wr.alloc (.cells #[.string n, .string u] 70) = w1
          have N1 : Hid (NB w1 wr.heap.size [.string n, .string u] 70) := by rw [← hw1]; exact NB.new wr _ _
          have b1 : Hid (Below w.heap.size w w1) := by rw [← hw1]; exact chain BW.out ((Below.refl _ wr).alloc (Nat.le_refl _) _)
          have d0 := N1.out.cell 0 rfl
          have d1 := N1.out.cell 1 rfl
          have ln := N1.out.lt
          have ne : wr.heap.size ≠ w1.heap.size := by omega
          have AB : Hid (∀ m, Below w1.heap.size w1 ((w1.alloc (.cells #[.string n] 9)).drewN m)) := fun m => bel_drewN ((Below.refl _ w1).alloc (Nat.le_refl _) _) m
          have HCF := hide (fun m => containsFuncA_any (.slice (some ⟨b, o, none⟩) k c) tk (isN n) 68 #[.pointer (some ⟨w1.heap.size, 0, none⟩)] entersCalled ((w1.alloc (.cells #[.string n] 9)).drewN m) (HT.out.below (chain b1.out (AB.out m))) ((called_pred n w1).later (bel_drewN (Below.refl _ _) m)) TL.out)
          clear hw1 c0 c1 HT
          generalize (tk.findIdx? (isN n)).isSome = r at *
          go_region_held3 (fun w' => w'.cell? ⟨wr.heap.size, 0, none⟩ = some (.string n) ∧ w'.cell? ⟨wr.heap.size, 1, none⟩ = some (.string u)) (first | go_keep | exact ⟨cell_below d0 (chain (AB.out 1) bb), cell_below d1 (chain (AB.out 1) bb)⟩)
            (first | (go_at_call 46; refine (HN.out _).mono ?_; rintro e w' ⟨rfl, rfl⟩) | (go_at_call 60; refine (called_any n _).mono ?_; rintro e w' ⟨rfl, rfl⟩) | (go_at_call 59; refine (HCF.out 1).mono ?_; rintro e w2 ⟨rfl, bb⟩))
          have b2 : Hid (Below w.heap.size w w2) := chain b1.out (chain (AB.out 1) bb)
          cases r with
          | true =>
            have E := hide (BK.out (by rw [OK.out]; rfl))
            clear OK BK NX
            go_wp2_with fail
            go_ret
            exact ⟨ret_bool E.out.symm, b2.out⟩
          | false =>
            have E := hide (NX.out (by rw [OK.out]; rfl))
            clear OK BK NX
            go_wp2_with fail
            go_roundw
            case rel => exact ⟨k + 1, by omega, by go_num, E, b2⟩
            case measure => simp [intOf]; omega
        · rw [decide_eq_false q2, Bool.false_and] at OK
          have E := hide (BK.out OK.out)
          have j1 : (4000 : Int) < (u.size : Int) := by omega
          have j2 : decide ((4000 : Int) < (u.size : Int)) = true := decide_eq_true j1
          clear OK BK NX q2 HT
          go_wp2_with fail
          generalize hw1 : wr.alloc (.cells #[.string n, .string u] 70) = w1
          have N1 : Hid (NB w1 wr.heap.size [.string n, .string u] 70) := by rw [← hw1]; exact NB.new wr _ _
          have b1 : Hid (Below w.heap.size w w1) := by rw [← hw1]; exact chain BW.out ((Below.refl _ wr).alloc (Nat.le_refl _) _)
          have d0 := N1.out.cell 0 rfl
          have d1 := N1.out.cell 1 rfl
          clear hw1
          go_quiet (exact Calls.quiet_of_same (HN.out _))
          go_wp2_with fail
          go_ret
          exact ⟨ret_bool E.out.symm, bel_drewN b1.out _⟩
    · obtain rfl : k = ax.length := by omega
      have E := hide (GOOD.out (fun j hj => hd.out j hj))
      clear BAD GOOD hd HV HS h
      go_wp2_with fail
      go_ret
      exact ⟨ret_bool E.out.symm, BW.out⟩

end Go.Proofs.YtnojgejcmaajmaaDoor
