/- Attributes of an element found by a name. The document's Name, Find, count of layer 10. The document's alone of layer 10. The document's Right of layer 10. The document's Has, Within, Attr, Top, Up of layer 10. The types of kinds, and the names of elements, as tables of texts. Small letters of texts, as lists of bytes. What kind a node is, as a function of its name and its attributes. -/
import Derived.Test.YtnojgejcmaajmaaGreatDoorJsb1

namespace Go.Proofs.YtnojgejcmaajmaaGreatDoor
open Go.RowKit
set_option maxRecDepth 100000
theorem find_hit {ax : List (ByteArray × ByteArray)} {n : ByteArray} {k : Nat} (hk : k < ax.length) (h : ∀ j (_ : j < ax.length), j < k → ¬ ax[j].1 = n) (e : ax[k].1 = n) : findA ax n = some k := by
  unfold findA
  rw [List.findIdx?_eq_some_iff_getElem]
  exact ⟨hk, decide_eq_true e, fun j hj => by have := h j (by omega) hj; simpa using this⟩
theorem find_none {ax : List (ByteArray × ByteArray)} {n : ByteArray} (h : ∀ j (_ : j < ax.length), ¬ ax[j].1 = n) : findA ax n = none := by
  unfold findA
  rw [List.findIdx?_eq_none_iff]
  intro a ha
  obtain ⟨j, hj, rfl⟩ := List.getElem_of_mem ha
  simpa using h j hj
set_option maxHeartbeats 2000000 in
theorem refFind_any (v : Value) (ax : List (ByteArray × ByteArray)) (n : ByteArray) (w : World) (hv : AttrsV w v ax) (hl : ax.length ≤ 4398046511104) :
    Calls Tryz.prog 128 #[v, .string n] w fun e w' => e = .returned (.int .i64 (findV (findA ax n))) ∧ w' = w := by
  obtain ⟨p, c, rfl, hk⟩ := hv
  have HIT := hide (fun k hk h e => find_hit (ax := ax) (n := n) (k := k) hk h e)
  have END := hide (fun h => find_none (ax := ax) (n := n) h)
  go_enter Tryz.func128, Tryz.ntmps128
  go_wp2_with fail
  go_loop [5] (fun iv => ∃ j : Nat, j ≤ ax.length ∧ iv = .int .i64 j ∧ Hid (∀ m (_ : m < ax.length), m < j → ¬ ax[m].1 = n)) (fun iv => ax.length - (intOf iv).toNat)
  case atStart => exact ⟨0, Nat.zero_le _, rfl, fun m _ h => by omega⟩
  case round =>
    obtain ⟨j, hj, rfl, hd⟩ := hrel
    by_cases h : j < ax.length
    · have i1 : (j : Int) < (ax.length : Int) := by omega
      rcases hk with hk | ⟨b, o, rfl, hk⟩
      · subst hk; simp at h
      have hc := (hk j h).1
      by_cases e : ax[j].1 = n
      · have E := hide (HIT.out j h hd.out e)
        have d : (ax[j].1.toList == n.toList) = true := by rw [txt_beq]; exact decide_eq_true e
        clear e hd HIT END hk
        generalize ax[j].1 = aj at *
        go_wp2_with fail
        go_ret
        exact ⟨by rw [E.out]; rfl, rfl⟩
      · have d : (ax[j].1.toList == n.toList) = false := by rw [txt_beq]; exact decide_eq_false e
        have hd' : Hid (∀ m (_ : m < ax.length), m < j + 1 → ¬ ax[m].1 = n) := by
          intro m hm hmj
          rcases Nat.lt_or_ge m j with q | q
          · exact hd.out m hm q
          · obtain rfl : m = j := by omega
            exact e
        clear e hd HIT END hk
        generalize ax[j].1 = aj at *
        go_wp2_with fail
        go_round
        case rel => exact ⟨j + 1, by omega, by go_num, hd'⟩
        case measure => simp [intOf]; omega
    · obtain rfl : j = ax.length := by omega
      have E := hide (END.out (fun m hm => hd.out m hm hm))
      clear hd HIT END hk
      go_wp2_with fail
      go_ret
      exact ⟨by rw [E.out]; rfl, rfl⟩
end Go.Proofs.YtnojgejcmaajmaaGreatDoor

namespace Go.Proofs.YtnojgejcmaajmaaGreatDoor
open Go.RowKit
set_option maxRecDepth 100000
theorem cnt_take {l : List Int} {k : Nat} (n : Int) (hk : k < l.length) : cntI (l.take (k + 1)) n = cntI (l.take k) n + (if l[k] = n then 1 else 0) := by
  unfold cntI
  rw [List.take_succ_eq_append_getElem hk, List.count_append, List.count_singleton]
  congr 1
  by_cases h : l[k] = n
  · rw [if_pos h, h]; simp
  · rw [if_neg h]; simp [h]
theorem cnt_le (l : List Int) (n : Int) : cntI l n ≤ l.length := List.count_le_length
set_option maxHeartbeats 1000000 in
theorem refCount_any (v : Value) (ks : List Int) (n : Int) (w : World) (hv : IntsV w v ks) (hl : ks.length ≤ 17592186044416) :
    Calls Tryz.prog 151 #[v, .int .i64 n] w fun e w' => e = .returned (.int .i64 (cntI ks n : Nat)) ∧ w' = w := by
  obtain ⟨p, c, rfl, hk⟩ := hv
  have ST := hide (fun k hk => cnt_take (l := ks) (k := k) n hk)
  have LE := hide (fun k => Nat.le_trans (cnt_le (ks.take k) n) (List.length_take_le k ks))
  go_enter Tryz.func151, Tryz.ntmps151
  go_wp2_with fail
  go_loop [5, 6] (fun kv iv => ∃ j : Nat, j ≤ ks.length ∧ iv = .int .i64 j ∧ kv = .int .i64 (cntI (ks.take j) n : Nat)) (fun _ iv => ks.length - (intOf iv).toNat)
  case atStart => exact ⟨0, Nat.zero_le _, rfl, rfl⟩
  case round =>
    obtain ⟨j, hj, rfl, rfl⟩ := hrel
    by_cases h : j < ks.length
    · have i1 : (j : Int) < (ks.length : Int) := by omega
      have le := LE.out j
      have st := ST.out j h
      rcases hk with hk | ⟨b, o, rfl, hk⟩
      · subst hk; simp at h
      have hc := hk j h
      by_cases e : ks[j] = n
      · have d : (ks[j] == n) = true := by rw [e]; simp
        rw [if_pos e] at st
        replace st := hide st
        clear e ST LE hk
        generalize ks[j] = kj at *
        generalize cntI (ks.take j) n = cn at *
        go_wp2_with fail
        go_round
        case rel => exact ⟨j + 1, by omega, by go_num, by rw [st.out]; go_num⟩
        case measure => simp [intOf]; omega
      · have d : (ks[j] == n) = false := by rw [beq_eq_false_iff_ne]; exact e
        rw [if_neg e] at st
        replace st := hide st
        clear e ST LE hk
        generalize ks[j] = kj at *
        generalize cntI (ks.take j) n = cn at *
        go_wp2_with fail
        go_round
        case rel => exact ⟨j + 1, by omega, by go_num, by rw [st.out]; rfl⟩
        case measure => simp [intOf]; omega
    · obtain rfl : j = ks.length := by omega
      have E : Hid (cntI (ks.take ks.length) n = cntI ks n) := by show _ = _; rw [List.take_length]
      clear ST LE hk
      generalize cntI (ks.take ks.length) n = cn at *
      go_wp2_with fail
      go_ret
      exact ⟨by rw [← E.out]; rfl, rfl⟩
-- the rest
set_option maxHeartbeats 2000000 in
theorem refName_any (s : ByteArray) (w : World) (hs : s.size ≤ maxLen) :
    Calls Tryz.prog 201 #[.string s] w fun e w' => e = .returned (.bool (nameOk s)) ∧ w' = w := by
  unfold maxLen at hs
  have NO := hide (fun k hk h => name_no (s := s) (k := k) hk h)
  have END := hide (fun h => name_end (s := s) h)
  go_enter Tryz.func201, Tryz.ntmps201
  go_wp2_with fail
  go_loop [3] (fun iv => ∃ k : Nat, k ≤ s.size ∧ iv = .int .i64 k ∧ Hid (∀ j (_ : j < s.size), j < k → nmAt j s[j] = true)) (fun iv => s.size - (intOf iv).toNat)
  case atStart => exact ⟨0, Nat.zero_le _, rfl, fun j _ h => by omega⟩
  case round =>
    obtain ⟨k, hk, rfl, hd⟩ := hrel
    by_cases hlt : k < s.size
    · have hI : (k : Int) < (s.size : Int) := by omega
      have NX : nmAt k s[k] = true → Hid (∀ j (_ : j < s.size), j < k + 1 → nmAt j s[j] = true) := by
        intro h j hj hjk
        rcases Nat.lt_or_ge j k with q | q
        · exact hd.out j hj q
        · obtain rfl : j = k := by omega
          exact h
      have BAD := NO.out k hlt
      have h255 : (s[k].toNat : Int) ≤ 255 := by have := s[k].toNat_lt; omega
      clear hd NO END
      rcases (show s[k].toNat < 45 ∨ s[k].toNat = 45 ∨ (45 < s[k].toNat ∧ s[k].toNat < 48) ∨ (48 ≤ s[k].toNat ∧ s[k].toNat ≤ 57) ∨ (57 < s[k].toNat ∧ s[k].toNat < 97) ∨ (97 ≤ s[k].toNat ∧ s[k].toNat ≤ 122) ∨ 122 < s[k].toNat by omega) with r | r | r | r | r | r | r
      · have _r := r
        have d45 : ((s[k].toNat : Int) == 45) = false := by rw [beq_eq_false_iff_ne]; omega
        have d57 : decide ((s[k].toNat : Int) ≤ 57) = true := decide_eq_true (by omega)
        have d122 : decide ((s[k].toNat : Int) ≤ 122) = true := decide_eq_true (by omega)
        have E := hide (BAD (nm_not (by omega) (.inr (by omega))))
        clear NX BAD
        by_cases k0 : k = 0
        · have e0 : ((k : Int) == 0) = true := by rw [k0]; rfl
          clear k0
          go_wp2
          go_ret
          exact ⟨ret_bool E.out.symm, rfl⟩
        · have e0 : ((k : Int) == 0) = false := by rw [beq_eq_false_iff_ne]; omega
          clear k0
          go_wp2
          go_ret
          exact ⟨ret_bool E.out.symm, rfl⟩
      · have _r := r
        have d45 : ((s[k].toNat : Int) == 45) = true := by rw [r]; rfl
        have d57 : decide ((s[k].toNat : Int) ≤ 57) = true := decide_eq_true (by omega)
        have d122 : decide ((s[k].toNat : Int) ≤ 122) = true := decide_eq_true (by omega)
        by_cases k0 : k = 0
        · have E := hide (BAD (nm_not (by omega) (.inl k0)))
          have e0 : ((k : Int) == 0) = true := by rw [k0]; rfl
          have e1 : (k : Int) ≤ 0 := by omega
          clear NX BAD k0
          go_wp2
          go_ret
          exact ⟨ret_bool E.out.symm, rfl⟩
        · have E := NX (nm_other k0 (by omega))
          have e0 : ((k : Int) == 0) = false := by rw [beq_eq_false_iff_ne]; omega
          have e1 : 0 < (k : Int) := by omega
          clear NX BAD k0
          go_wp2
          go_round
          case rel => exact ⟨k + 1, by omega, by go_num, E⟩
          case measure => simp [intOf]; omega
      · have _r := r
        have d45 : ((s[k].toNat : Int) == 45) = false := by rw [beq_eq_false_iff_ne]; omega
        have d57 : decide ((s[k].toNat : Int) ≤ 57) = true := decide_eq_true (by omega)
        have d122 : decide ((s[k].toNat : Int) ≤ 122) = true := decide_eq_true (by omega)
        have E := hide (BAD (nm_not (by omega) (.inr (by omega))))
        clear NX BAD
        by_cases k0 : k = 0
        · have e0 : ((k : Int) == 0) = true := by rw [k0]; rfl
          clear k0
          go_wp2
          go_ret
          exact ⟨ret_bool E.out.symm, rfl⟩
        · have e0 : ((k : Int) == 0) = false := by rw [beq_eq_false_iff_ne]; omega
          clear k0
          go_wp2
          go_ret
          exact ⟨ret_bool E.out.symm, rfl⟩
      · have _r := r
        have d45 : ((s[k].toNat : Int) == 45) = false := by rw [beq_eq_false_iff_ne]; omega
        have d57 : decide ((s[k].toNat : Int) ≤ 57) = true := decide_eq_true (by omega)
        have d122 : decide ((s[k].toNat : Int) ≤ 122) = true := decide_eq_true (by omega)
        by_cases k0 : k = 0
        · have E := hide (BAD (nm_not (by omega) (.inl k0)))
          have e0 : ((k : Int) == 0) = true := by rw [k0]; rfl
          have e1 : (k : Int) ≤ 0 := by omega
          clear NX BAD k0
          go_wp2
          go_ret
          exact ⟨ret_bool E.out.symm, rfl⟩
        · have E := NX (nm_other k0 (by omega))
          have e0 : ((k : Int) == 0) = false := by rw [beq_eq_false_iff_ne]; omega
          have e1 : 0 < (k : Int) := by omega
          clear NX BAD k0
          go_wp2
          go_round
          case rel => exact ⟨k + 1, by omega, by go_num, E⟩
          case measure => simp [intOf]; omega
      · have _r := r
        have d45 : ((s[k].toNat : Int) == 45) = false := by rw [beq_eq_false_iff_ne]; omega
        have d57 : decide ((s[k].toNat : Int) ≤ 57) = false := decide_eq_false (by omega)
        have d122 : decide ((s[k].toNat : Int) ≤ 122) = true := decide_eq_true (by omega)
        have E := hide (BAD (nm_not (by omega) (.inr (by omega))))
        clear NX BAD
        by_cases k0 : k = 0
        · have e0 : ((k : Int) == 0) = true := by rw [k0]; rfl
          clear k0
          go_wp2
          go_ret
          exact ⟨ret_bool E.out.symm, rfl⟩
        · have e0 : ((k : Int) == 0) = false := by rw [beq_eq_false_iff_ne]; omega
          clear k0
          go_wp2
          go_ret
          exact ⟨ret_bool E.out.symm, rfl⟩
      · have E := NX (nm_small r)
        have d45 : ((s[k].toNat : Int) == 45) = false := by rw [beq_eq_false_iff_ne]; omega
        have d57 : decide ((s[k].toNat : Int) ≤ 57) = false := decide_eq_false (by omega)
        have d122 : decide ((s[k].toNat : Int) ≤ 122) = true := decide_eq_true (by omega)
        clear NX BAD
        go_wp2
        go_round
        case rel => exact ⟨k + 1, by omega, by go_num, E⟩
        case measure => simp [intOf]; omega
      · have _r := r
        have d45 : ((s[k].toNat : Int) == 45) = false := by rw [beq_eq_false_iff_ne]; omega
        have d57 : decide ((s[k].toNat : Int) ≤ 57) = false := decide_eq_false (by omega)
        have d122 : decide ((s[k].toNat : Int) ≤ 122) = false := decide_eq_false (by omega)
        have E := hide (BAD (nm_not (by omega) (.inr (by omega))))
        clear NX BAD
        by_cases k0 : k = 0
        · have e0 : ((k : Int) == 0) = true := by rw [k0]; rfl
          clear k0
          go_wp2
          go_ret
          exact ⟨ret_bool E.out.symm, rfl⟩
        · have e0 : ((k : Int) == 0) = false := by rw [beq_eq_false_iff_ne]; omega
          clear k0
          go_wp2
          go_ret
          exact ⟨ret_bool E.out.symm, rfl⟩
    · obtain rfl : k = s.size := by omega
      have E := END.out (fun j hj => hd.out j hj hj)
      clear hd NO END
      by_cases h0 : 0 < s.size
      · have i0 : (0 : Int) < (s.size : Int) := by omega
        by_cases h20 : s.size ≤ 20
        · have i20 : (s.size : Int) ≤ 20 := by omega
          rw [decide_eq_true ⟨h0, h20⟩] at E
          have d : decide ((s.size : Int) ≤ 20) = true := decide_eq_true i20
          replace E := hide E
          go_wp2_with fail
          go_ret
          exact ⟨ret_bool (by first | exact E.out.symm | exact d.trans E.out.symm), rfl⟩
        · have i20 : ¬ (s.size : Int) ≤ 20 := by omega
          rw [decide_eq_false (fun q => h20 q.2)] at E
          have d : decide ((s.size : Int) ≤ 20) = false := decide_eq_false i20
          replace E := hide E
          go_wp2_with fail
          go_ret
          exact ⟨ret_bool (by first | exact E.out.symm | exact d.trans E.out.symm), rfl⟩
      · have i0 : ¬ (0 : Int) < (s.size : Int) := by omega
        rw [decide_eq_false (fun q => h0 q.1)] at E
        replace E := hide E
        go_wp2_with fail
        go_ret
        exact ⟨ret_bool E.out.symm, rfl⟩
end Go.Proofs.YtnojgejcmaajmaaGreatDoor

namespace Go.Proofs.YtnojgejcmaajmaaGreatDoor
open Go.RowKit
set_option maxRecDepth 100000
theorem below_drewD {w w1 : World} {b : Nat} (h : Below b w w1) (q : Nat) : Below b w (w1.drewN q) := ⟨h.1, h.2, h.3, h.4, h.5⟩
theorem attr_no {ax : List (ByteArray × ByteArray)} {i : Nat} (hi : i < ax.length) (h : attrOk ax i = false) : (List.range ax.length).all (attrOk ax) = false := by
  rw [List.all_eq_false]
  exact ⟨i, List.mem_range.2 hi, by rw [h]; simp⟩
theorem attr_all {ax : List (ByteArray × ByteArray)} (h : ∀ i, i < ax.length → attrOk ax i = true) : (List.range ax.length).all (attrOk ax) = true := by
  rw [List.all_eq_true]
  exact fun i hi => h i (List.mem_range.1 hi)
theorem attrOk_at {ax : List (ByteArray × ByteArray)} {i : Nat} (hi : i < ax.length) : attrOk ax i = (nameOk ax[i].1 && (decide (ax[i].2.size ≤ 4000) && findA ax ax[i].1 == some i)) := by
  unfold attrOk
  rw [show ax.getD i at0 = ax[i] by simp [List.getD, hi]]
def aggN (n : Nd) (va vk : Value) : Value := .agg #[.string n.name, .string n.text, va, .int .i64 n.parent, vk]
theorem alone_text {n : Nd} (h0 : n.name.size = 0) : aloneB n = (n.attrs.isEmpty && (n.kids.isEmpty && decide (n.text.size ≤ 4000))) := by unfold aloneB; rw [if_pos h0]
theorem alone_el {n : Nd} (h0 : ¬ n.name.size = 0) : aloneB n = (nameOk n.name && (n.text.size == 0 && (decide (n.attrs.length ≤ 40) && (List.range n.attrs.length).all (attrOk n.attrs)))) := by unfold aloneB; rw [if_neg h0]
theorem empty_iff {α : Type} (l : List α) : l.isEmpty = (l.length == 0) := by cases l <;> rfl
set_option maxHeartbeats 4000000 in
set_option maxRecDepth 100000 in
theorem refAlone_any (n : Nd) (va vk : Value) (w : World) (ha : AttrsV w va n.attrs) (hk : IntsV w vk n.kids) (hl : n.attrs.length ≤ 4398046511104) (hs : n.name.size ≤ maxLen ∧ n.text.size ≤ maxLen ∧ ∀ a ∈ n.attrs, a.1.size ≤ maxLen ∧ a.2.size ≤ maxLen) :
    Calls Tryz.prog 150 #[aggN n va vk] w fun e w' => e = .returned (.bool (aloneB n)) ∧ Below w.heap.size w w' := by
  have HN := hide (fun w => refName_any n.name w hs.1)
  have HM := hide hs.2.2
  have HA := hide ha
  obtain ⟨p, c, rfl, hv⟩ := ha
  obtain ⟨q, d, rfl, hkk⟩ := hk
  clear hkk
  unfold aggN
  clear hs
  by_cases h0 : n.name.size = 0
  · have E := alone_text h0
    rw [empty_iff, empty_iff] at E
    have i0 : (n.name.size : Int) = 0 := by omega
    have e0 : ((n.name.size : Int) == 0) = true := by rw [i0]; rfl
    clear HN h0 i0 hv HM HA
    generalize n.name = nm at *
    by_cases h1 : n.attrs.length = 0
    · have e1 : ((n.attrs.length : Int) == 0) = true := by rw [h1]; rfl
      rw [h1, show ((0 : Nat) == 0) = true from rfl, Bool.true_and] at E
      clear h1
      by_cases h2 : n.kids.length = 0
      · have e2 : ((n.kids.length : Int) == 0) = true := by rw [h2]; rfl
        rw [h2, show ((0 : Nat) == 0) = true from rfl, Bool.true_and] at E
        have e3 : decide ((n.text.size : Int) ≤ 4000) = decide (n.text.size ≤ 4000) := by congr 1; simp only [eq_iff_iff]; omega
        rw [← e3] at E
        clear h2 e3
        replace E := hide E
        go_enter Tryz.func150, Tryz.ntmps150
        go_wp2_with fail
        go_ret
        exact ⟨ret_bool E.out.symm, (Below.refl _ w).alloc (Nat.le_refl _) _⟩
      · have e2 : ((n.kids.length : Int) == 0) = false := by rw [beq_eq_false_iff_ne]; omega
        rw [show (n.kids.length == 0) = false by rw [beq_eq_false_iff_ne]; exact h2, Bool.false_and] at E
        clear h2
        replace E := hide E
        go_enter Tryz.func150, Tryz.ntmps150
        go_wp2_with fail
        go_ret
        exact ⟨ret_bool E.out.symm, (Below.refl _ w).alloc (Nat.le_refl _) _⟩
    · have e1 : ((n.attrs.length : Int) == 0) = false := by rw [beq_eq_false_iff_ne]; omega
      rw [show (n.attrs.length == 0) = false by rw [beq_eq_false_iff_ne]; exact h1, Bool.false_and] at E
      clear h1
      replace E := hide E
      go_enter Tryz.func150, Tryz.ntmps150
      go_wp2_with fail
      go_ret
      exact ⟨ret_bool E.out.symm, (Below.refl _ w).alloc (Nat.le_refl _) _⟩
  · have E := alone_el h0
    have e0 : ((n.name.size : Int) == 0) = false := by rw [beq_eq_false_iff_ne]; omega
    clear h0
    cases h1 : nameOk n.name with
    | false =>
      rw [h1] at HN
      rw [h1, Bool.false_and] at E
      replace E := hide E
      clear h1 hv HM HA
      go_enter Tryz.func150, Tryz.ntmps150
      go_wp2_with fail
      refine (HN.out _).mono ?_
      rintro e u ⟨rfl, rfl⟩
      go_wp2_with fail
      go_ret
      exact ⟨ret_bool E.out.symm, (Below.refl _ w).alloc (Nat.le_refl _) _⟩
    | true =>
      rw [h1] at HN
      rw [h1, Bool.true_and] at E
      clear h1
      by_cases h2 : n.text.size = 0
      · have e2 : ¬ (0 : Int) < (n.text.size : Int) := by omega
        rw [show (n.text.size == 0) = true by rw [h2]; rfl, Bool.true_and] at E
        obtain ⟨tx, etx⟩ : ∃ tx, n.text = tx := ⟨_, rfl⟩
        obtain rfl : tx = ByteArray.empty := by
          rw [etx] at h2
          apply ByteArray.ext
          exact Array.eq_empty_of_size_eq_zero h2
        rw [etx]
        clear h2 etx e2
        by_cases h3 : n.attrs.length ≤ 40
        · have e3 : ¬ (40 : Int) < (n.attrs.length : Int) := by omega
          have e3d : decide ((40 : Int) < (n.attrs.length : Int)) = false := decide_eq_false e3
          rw [decide_eq_true h3, Bool.true_and] at E
          have NO := hide (fun i hi h => E.trans (attr_no (ax := n.attrs) (i := i) hi h))
          have END := hide (fun h => E.trans (attr_all (ax := n.attrs) h))
          have AT := hide (fun i hi => attrOk_at (ax := n.attrs) (i := i) hi)
          clear E
          go_enter Tryz.func150, Tryz.ntmps150
          go_wp2_with fail
          refine (HN.out _).mono ?_
          rintro e u ⟨rfl, rfl⟩
          go_wp2_with fail
          go_loopw [3] (fun iv wr => ∃ j : Nat, j ≤ n.attrs.length ∧ iv = .int .i64 j ∧ Hid (∀ m, m < j → m < n.attrs.length → attrOk n.attrs m = true) ∧ wr.cell? ⟨w.heap.size, 2, none⟩ = some (.slice p n.attrs.length c) ∧ Below w.heap.size w wr) (fun iv _ => n.attrs.length - (intOf iv).toNat)
          case atStart => exact ⟨0, Nat.zero_le _, rfl, fun m h => by omega, by rw [World.cell?_alloc_new]; rfl, (Below.refl _ w).alloc (Nat.le_refl _) _⟩
          case round =>
            obtain ⟨j, hj, rfl, hd, hc2, hb⟩ := hrel
            rename World => wr
            by_cases h : j < n.attrs.length
            · have i1 : (j : Int) < (n.attrs.length : Int) := by omega
              have HAw := hide (HA.out.below hb)
              rcases hv with hv | ⟨b, o, rfl, hv⟩
              · rw [hv] at h; simp at h
              have hc := cell_below (hv j h).1 hb
              have hd1 := cell_below (hv j h).2 hb
              have hm := HM.out n.attrs[j] (List.getElem_mem _)
              have HNj := hide (fun w => refName_any n.attrs[j].1 w hm.1)
              have HFj := hide (fun m => refFind_any (.slice (some ⟨b, o, none⟩) n.attrs.length c) n.attrs n.attrs[j].1 (wr.drewN m) HAw.out hl)
              have at1 := AT.out j h
              have BAD := NO.out j h
              have NX : attrOk n.attrs j = true → Hid (∀ m, m < j + 1 → m < n.attrs.length → attrOk n.attrs m = true) := by
                intro q m hm2 hm3
                rcases Nat.lt_or_ge m j with r | r
                · exact hd.out m r hm3
                · obtain rfl : m = j := by omega
                  exact q
              have hsz : n.attrs[j].2.size ≤ maxLen := hm.2
              clear hd NO END AT HA HM HAw hv HN hm
              generalize n.attrs[j].1 = x1 at *
              generalize n.attrs[j].2 = x2 at *
              cases k1 : nameOk x1 with
              | false =>
                rw [k1, Bool.false_and] at at1
                rw [k1] at HNj
                have E := hide (BAD at1)
                clear BAD NX at1 k1
                go_wp2_with fail
                go_quiet (first | with_reducible exact Calls.quiet_of_same (HNj.out _) | with_reducible exact Calls.quiet_of_same (HFj.out _))
                go_wp2_with fail
                go_ret
                exact ⟨ret_bool E.out.symm, below_drewD hb _⟩
              | true =>
                rw [k1, Bool.true_and] at at1
                rw [k1] at HNj
                by_cases k2 : x2.size ≤ 4000
                · have e5 : ¬ (4000 : Int) < (x2.size : Int) := by omega
                  have e6 : decide ((4000 : Int) < (x2.size : Int)) = false := decide_eq_false e5
                  rw [decide_eq_true k2, Bool.true_and] at at1
                  cases k3 : findA n.attrs x1 with
                  | none =>
                    rw [k3] at at1 HFj
                    have E := hide (BAD at1)
                    have e7 : ((findV none) != (j : Int)) = true := by rw [bne_iff_ne]; show ¬ (-1 : Int) = (j : Int); omega
                    clear BAD NX at1 k1 k2 k3
                    generalize findV none = fv at *
                    go_wp2_with fail
                    go_quiet (first | with_reducible exact Calls.quiet_of_same (HNj.out _) | with_reducible exact Calls.quiet_of_same (HFj.out _))
                    go_wp2_with fail
                    go_ret
                    exact ⟨ret_bool E.out.symm, below_drewD hb _⟩
                  | some z =>
                    rw [k3] at at1 HFj
                    by_cases k4 : z = j
                    · subst k4
                      have E := NX (by rw [at1]; simp)
                      have e7 : ((findV (some z)) != (z : Int)) = false := by rw [bne_eq_false_iff_eq]; rfl
                      clear BAD NX at1 k1 k2 k3
                      generalize findV (some z) = fv at *
                      go_wp2_with fail
                      go_quiet (first | with_reducible exact Calls.quiet_of_same (HNj.out _) | with_reducible exact Calls.quiet_of_same (HFj.out _))
                      go_wp2_with fail
                      go_roundw
                      case rel => exact ⟨z + 1, by omega, by go_num, E, hc2, below_drewD hb _⟩
                      case measure => simp [intOf]; omega
                    · have E := hide (BAD (by rw [at1]; simpa using k4))
                      have e7 : ((findV (some z)) != (j : Int)) = true := by rw [bne_iff_ne]; show ¬ (z : Int) = (j : Int); omega
                      clear BAD NX at1 k1 k2 k3 k4
                      generalize findV (some z) = fv at *
                      go_wp2_with fail
                      go_quiet (first | with_reducible exact Calls.quiet_of_same (HNj.out _) | with_reducible exact Calls.quiet_of_same (HFj.out _))
                      go_wp2_with fail
                      go_ret
                      exact ⟨ret_bool E.out.symm, below_drewD hb _⟩
                · have e5 : (4000 : Int) < (x2.size : Int) := by omega
                  have e6 : decide ((4000 : Int) < (x2.size : Int)) = true := decide_eq_true e5
                  rw [decide_eq_false k2, Bool.false_and] at at1
                  have E := hide (BAD at1)
                  clear BAD NX at1 k1 k2
                  go_wp2_with fail
                  go_quiet (first | with_reducible exact Calls.quiet_of_same (HNj.out _) | with_reducible exact Calls.quiet_of_same (HFj.out _))
                  go_wp2_with fail
                  go_ret
                  exact ⟨ret_bool E.out.symm, below_drewD hb _⟩
            · obtain rfl : j = n.attrs.length := by omega
              have E := hide (END.out (fun m hm => hd.out m hm hm))
              clear hd NO END AT HA HM hv HN
              go_wp2_with fail
              go_ret
              exact ⟨ret_bool E.out.symm, hb⟩
        · have e3 : (40 : Int) < (n.attrs.length : Int) := by omega
          have e3d : decide ((40 : Int) < (n.attrs.length : Int)) = true := decide_eq_true e3
          rw [decide_eq_false h3, Bool.false_and] at E
          replace E := hide E
          clear h3 hv HM HA
          go_enter Tryz.func150, Tryz.ntmps150
          go_wp2_with fail
          refine (HN.out _).mono ?_
          rintro e u ⟨rfl, rfl⟩
          go_wp2_with fail
          go_ret
          exact ⟨ret_bool E.out.symm, (Below.refl _ w).alloc (Nat.le_refl _) _⟩
      · have e2 : (0 : Int) < (n.text.size : Int) := by omega
        rw [show (n.text.size == 0) = false by rw [beq_eq_false_iff_ne]; exact h2, Bool.false_and] at E
        replace E := hide E
        have e2n : 0 < n.text.size := by omega
        have e2e : ¬ n.text = ByteArray.empty := fun q => h2 (by rw [q]; rfl)
        have e2d : decide (0 < n.text.size) = true := decide_eq_true e2n
        clear h2 hv HM HA
        generalize n.text = tx at *
        go_enter Tryz.func150, Tryz.ntmps150
        go_wp2_with fail
        refine (HN.out _).mono ?_
        rintro e u ⟨rfl, rfl⟩
        go_wp2_with fail
        go_ret
        exact ⟨ret_bool E.out.symm, (Below.refl _ w).alloc (Nat.le_refl _) _⟩
end Go.Proofs.YtnojgejcmaajmaaGreatDoor

namespace Go.Proofs.YtnojgejcmaajmaaGreatDoor
open Go.RowKit
set_option maxRecDepth 100000
theorem right_len {l : List Nd} (h : ¬ (1 ≤ l.length ∧ l.length ≤ 400)) : rightB l = false := by unfold rightB; rw [decide_eq_false h]; rfl
theorem right_head {l : List Nd} (h : (nd l 0).name.size = 0 ∨ ¬ (nd l 0).parent = -1) : rightB l = false := by
  unfold rightB
  rcases h with h | h
  · rw [h]; simp
  · rw [show ((nd l 0).parent == -1) = false by rw [beq_eq_false_iff_ne]; exact h]; simp
theorem right_node {l : List Nd} {i : Nat} (hi : i < l.length) (h : nodeOk l i = false) : rightB l = false := by
  have : (List.range l.length).all (nodeOk l) = false := by
    rw [List.all_eq_false]
    exact ⟨i, List.mem_range.2 hi, by rw [h]; simp⟩
  unfold rightB
  rw [this]; simp
theorem right_climb {l : List Nd} {i : Nat} (hi : i < l.length) (h : ¬ climb l (l.length + 1) i < 0) : rightB l = false := by
  have : ((List.range l.length).all fun i => decide (climb l (l.length + 1) i < 0)) = false := by
    rw [List.all_eq_false]
    exact ⟨i, List.mem_range.2 hi, by rw [decide_eq_false h]; simp⟩
  unfold rightB
  rw [this]; simp
theorem right_yes {l : List Nd} (h1 : 1 ≤ l.length ∧ l.length ≤ 400) (h2 : ¬ (nd l 0).name.size = 0) (h3 : (nd l 0).parent = -1) (h4 : ∀ i, i < l.length → nodeOk l i = true) (h5 : ∀ i : Nat, i < l.length → climb l (l.length + 1) i < 0) : rightB l = true := by
  unfold rightB
  rw [decide_eq_true h1, h3]
  have e2 : ((nd l 0).name.size == 0) = false := by rw [beq_eq_false_iff_ne]; exact h2
  have e4 : (List.range l.length).all (nodeOk l) = true := List.all_eq_true.2 fun i hi => h4 i (List.mem_range.1 hi)
  have e5 : ((List.range l.length).all fun i => decide (climb l (l.length + 1) i < 0)) = true := List.all_eq_true.2 fun i hi => decide_eq_true (h5 i (List.mem_range.1 hi))
  rw [e2, e4, e5]; rfl
/-- A node among the others, by its parts. -/
theorem nodeOk_at {l : List Nd} {i : Nat} (h : i < l.length) : nodeOk l i = (aloneB l[i] && (decide (-1 ≤ l[i].parent ∧ l[i].parent < l.length) && ((decide (l[i].parent < 0) || cntI (nd l l[i].parent.toNat).kids i == 1) && l[i].kids.all (kidOk l i)))) := by
  unfold nodeOk
  rw [nd_at h]
theorem kid_no {l : List Nd} {i : Nat} {ks : List Int} {k : Nat} (hk : k < ks.length) (h : kidOk l i ks[k] = false) : ks.all (kidOk l i) = false := by
  rw [List.all_eq_false]
  exact ⟨ks[k], List.getElem_mem _, by rw [h]; simp⟩
theorem kid_all {l : List Nd} {i : Nat} {ks : List Int} (h : ∀ k (_ : k < ks.length), kidOk l i ks[k] = true) : ks.all (kidOk l i) = true := by
  rw [List.all_eq_true]
  intro c hc
  obtain ⟨k, hk, rfl⟩ := List.getElem_of_mem hc
  exact h k hk
theorem kid_low {l : List Nd} {i : Nat} {c : Int} (h : ¬ (0 ≤ c ∧ c < l.length)) : kidOk l i c = false := by unfold kidOk; rw [decide_eq_false h]; rfl
theorem kid_at {l : List Nd} {i m : Nat} (h : m < l.length) : kidOk l i (m : Int) = (l[m].parent == (i : Int)) := by
  unfold kidOk parI
  rw [decide_eq_true (by omega), Bool.true_and, Int.toNat_natCast, nd_at h]
theorem climb_done {l : List Nd} : ∀ (n : Nat) {k : Int}, k < 0 → climb l n k = k
  | 0, _, _ => rfl
  | n + 1, k, h => by show (if k < 0 then k else _) = k; rw [if_pos h]
theorem climb_up {l : List Nd} {n m : Nat} (h : m < l.length) : climb l (n + 1) (m : Int) = climb l n l[m].parent := by
  show (if (m : Int) < 0 then _ else climb l n (parI l m)) = _
  rw [if_neg (by omega)]
  unfold parI
  rw [Int.toNat_natCast, nd_at h]
set_option maxHeartbeats 8000000 in
set_option maxRecDepth 100000 in
theorem refDocRight_any (v : Value) (l : List Nd) (w : World) (hv : NodesV w v l) (hz : DocSz l) :
    Calls Tryz.prog 85 #[v] w fun e w' => e = .returned (.bool (rightB l)) ∧ Below w.heap.size w w' := by
  have hlen := hz.len
  have SZ := hide hz
  clear hz
  by_cases h1 : l.length < 1
  · obtain ⟨p, c, rfl, hv⟩ := hv
    have i1 : (l.length : Int) < 1 := by omega
    have E := hide (right_len (l := l) (by omega))
    clear h1 hv
    go_enter Tryz.func85, Tryz.ntmps85
    go_wp2_with fail
    go_ret
    exact ⟨ret_bool E.out.symm, Below.refl _ _⟩
  have i1 : ¬ (l.length : Int) < 1 := by omega
  by_cases h2 : 400 < l.length
  · obtain ⟨p, c, rfl, hv⟩ := hv
    have i2 : (400 : Int) < (l.length : Int) := by omega
    have E := hide (right_len (l := l) (by omega))
    clear h1 h2 hv
    go_enter Tryz.func85, Tryz.ntmps85
    go_wp2_with fail
    go_ret
    exact ⟨ret_bool E.out.symm, Below.refl _ _⟩
  have i2 : ¬ (400 : Int) < (l.length : Int) := by omega
  have i3 : l.length ≤ 400 := by omega
  have i4 : 0 < l.length := by omega
  have NV := hide hv
  obtain ⟨p, c, rfl, hv⟩ := hv
  rcases hv with hv | ⟨b, o, rfl, hv⟩
  · rw [hv] at i4; simp at i4
  obtain ⟨va0, vk0, hN0⟩ := hv 0 i4
  have c00 := hN0.name
  have c03 := hN0.parent
  rw [show o + 0 * 5 = o by omega] at c00 c03
  by_cases h3 : l[0].name.size = 0
  · have e3 : ((l[0].name.size : Int) == 0) = true := by rw [h3]; rfl
    have E := hide (right_head (l := l) (.inl (by rw [nd_at i4]; exact h3)))
    clear h1 h2 h3 hv NV hN0
    generalize l[0].name = nm at *
    go_enter Tryz.func85, Tryz.ntmps85
    go_wp2_with fail
    go_ret
    exact ⟨ret_bool E.out.symm, Below.refl _ _⟩
  have e3 : ((l[0].name.size : Int) == 0) = false := by rw [beq_eq_false_iff_ne]; omega
  by_cases h4 : l[0].parent = -1
  rotate_left
  · have e4 : (l[0].parent != -1) = true := by rw [bne_iff_ne]; exact h4
    have E := hide (right_head (l := l) (.inr (by rw [nd_at i4]; exact h4)))
    clear h1 h2 h3 h4 hv NV hN0
    generalize l[0].name = nm at *
    generalize l[0].parent = pr at *
    go_enter Tryz.func85, Tryz.ntmps85
    go_wp2_with fail
    go_ret
    exact ⟨ret_bool E.out.symm, Below.refl _ _⟩
  have e4 : (l[0].parent != -1) = false := by rw [bne_eq_false_iff_eq]; exact h4
  have NO := hide (fun i hi q => right_node (l := l) (i := i) hi q)
  have NC := hide (fun i hi q => right_climb (l := l) (i := i) hi q)
  have YES := hide (fun q1 q2 => right_yes (l := l) (by omega) (by rw [nd_at i4]; exact h3) (by rw [nd_at i4]; exact h4) q1 q2)
  have HV := hide hv
  clear h1 h2 h3 h4 hv hN0
  generalize l[0].name = nm at *
  generalize l[0].parent = pr at *
  go_enter Tryz.func85, Tryz.ntmps85
  go_wp2_with fail
  go_loopw [3] (fun iv wr => ∃ j : Nat, j ≤ l.length ∧ iv = .int .i64 j ∧ Hid (∀ m, m < j → nodeOk l m = true) ∧ Below w.heap.size w wr) (fun iv _ => l.length - (intOf iv).toNat)
  case atStart => exact ⟨0, Nat.zero_le _, rfl, fun m q => by omega, Below.refl _ _⟩
  case round =>
    obtain ⟨j, hj, rfl, hd, hb⟩ := hrel
    rename World => wr
    clear c00 c03 e3 e4
    by_cases h : j < l.length
    · have j1 : (j : Int) < (l.length : Int) := by omega
      obtain ⟨va, vk, hN0⟩ := HV.out j h
      have hN := hN0.below hb
      have n0 := hN.name
      have n1 := hN.text
      have n2 := hN.attrs
      have n3 := hN.parent
      have n4 := hN.kids
      have sz := SZ.out.nds l[j] (List.getElem_mem _)
      have HAl := hide (refAlone_any l[j] va vk wr hN.at_ hN.ks sz.attrs ⟨sz.name, sz.text, sz.attr⟩)
      unfold aggN at HAl
      have at1 := nodeOk_at h
      have BAD := NO.out j h
      have HN := hide hN
      clear hN hN0 sz NC YES
      cases k1 : aloneB l[j] with
      | false =>
        rw [k1] at HAl
        rw [k1, Bool.false_and] at at1
        have E := hide (BAD at1)
        clear at1 BAD k1 hd HN
        generalize l[j].name = y1 at *
        generalize l[j].text = y2 at *
        generalize l[j].parent = y3 at *
        go_wp2_with fail
        refine HAl.out.mono ?_
        rintro e u1 ⟨rfl, b1⟩
        go_wp2_with fail
        go_ret
        exact ⟨ret_bool E.out.symm, chain hb b1⟩
      | true =>
        rw [k1] at HAl
        rw [k1, Bool.true_and] at at1
        by_cases k2 : l[j].parent < -1
        · rw [decide_eq_false (by omega), Bool.false_and] at at1
          have E := hide (BAD at1)
          clear at1 BAD k1 hd HN
          generalize l[j].name = y1 at *
          generalize l[j].text = y2 at *
          generalize l[j].parent = y3 at *
          go_wp2_with fail
          refine HAl.out.mono ?_
          rintro e u1 ⟨rfl, b1⟩
          go_wp2_with fail
          go_ret
          exact ⟨ret_bool E.out.symm, chain hb b1⟩
        · by_cases k3 : (l.length : Int) ≤ l[j].parent
          · rw [decide_eq_false (by omega), Bool.false_and] at at1
            have E := hide (BAD at1)
            clear at1 BAD k1 hd HN
            generalize l[j].name = y1 at *
            generalize l[j].text = y2 at *
            generalize l[j].parent = y3 at *
            go_wp2_with fail
            refine HAl.out.mono ?_
            rintro e u1 ⟨rfl, b1⟩
            go_wp2_with fail
            go_ret
            exact ⟨ret_bool E.out.symm, chain hb b1⟩
          · rw [decide_eq_true (by omega), Bool.true_and] at at1
            by_cases k4 : l[j].parent < 0
            · rw [decide_eq_true k4, Bool.true_or, Bool.true_and] at at1
              have KD := hide at1
              clear at1 k1
              generalize l[j].name = y1 at *
              generalize l[j].text = y2 at *
              generalize l[j].parent = y3 at *
              go_wp2_with fail
              refine HAl.out.mono ?_
              rintro e u1 ⟨rfl, b1⟩
              have bb := chain hb b1
              have hN1 := HN.out.below b1
              clear HN HAl n0 n1 n2 n3 n4 b1
              obtain ⟨pk, ck, evk, hks⟩ := hN1.ks
              subst evk
              have c4 := hN1.kids
              have ksz := (SZ.out.nds l[j] (List.getElem_mem _)).kids
              have NXK : (∀ t (_ : t < l[j].kids.length), kidOk l j l[j].kids[t] = true) → Hid (∀ m, m < j + 1 → nodeOk l m = true) := by
                intro q m hm
                rcases Nat.lt_or_ge m j with r | r
                · exact hd.out m r
                · obtain rfl : m = j := by omega
                  rw [KD.out]; exact kid_all q
              have BADK : ∀ t (ht : t < l[j].kids.length), kidOk l j l[j].kids[t] = false → rightB l = false := fun t ht q => BAD (KD.out.trans (kid_no ht q))
              replace NXK := hide NXK
              replace BADK := hide BADK
              clear hd KD BAD hN1
              generalize l[j].kids = ks at *
              go_wp2_with fail
              go_loop [5] (fun kv => ∃ t : Nat, t ≤ ks.length ∧ kv = .int .i64 t ∧ Hid (∀ m (_ : m < ks.length), m < t → kidOk l j ks[m] = true)) (fun kv => ks.length - (intOf kv).toNat)
              case atStart => exact ⟨0, Nat.zero_le _, rfl, fun m _ q => by omega⟩
              case round =>
                obtain ⟨t, ht, rfl, hdk⟩ := hrel
                by_cases h9 : t < ks.length
                · have t1 : (t : Int) < (ks.length : Int) := by omega
                  rcases hks with hks | ⟨kb, ko, rfl, hks⟩
                  · rw [hks] at h9; simp at h9
                  have cc := hks t h9
                  have BK := BADK.out t h9
                  by_cases q1 : ks[t] < 0
                  · have E := hide (BK (kid_low (by omega)))
                    clear BADK NXK hks hdk BK
                    generalize ks[t] = kc at *
                    go_wp2_with fail
                    go_ret
                    exact ⟨ret_bool E.out.symm, bb⟩
                  · by_cases q2 : (l.length : Int) ≤ ks[t]
                    · have E := hide (BK (kid_low (by omega)))
                      clear BADK NXK hks hdk BK
                      generalize ks[t] = kc at *
                      go_wp2_with fail
                      go_ret
                      exact ⟨ret_bool E.out.symm, bb⟩
                    · obtain ⟨m, em⟩ : ∃ m : Nat, ks[t] = (m : Int) := ⟨ks[t].toNat, by omega⟩
                      have hm : m < l.length := by omega
                      obtain ⟨vam, vkm, hNm⟩ := HV.out m hm
                      have cm := cell_below hNm.parent bb
                      have ka := kid_at (l := l) (i := j) hm
                      rw [← em] at ka
                      have m1 : (m : Int) < (l.length : Int) := by omega
                      by_cases q3 : l[m].parent = (j : Int)
                      · have e9 : (l[m].parent != (j : Int)) = false := by rw [bne_eq_false_iff_eq]; exact q3
                        have okt : kidOk l j ks[t] = true := by rw [ka, q3]; simp
                        have hdk' : Hid (∀ x (_ : x < ks.length), x < t + 1 → kidOk l j ks[x] = true) := by
                          intro x hx hxt
                          rcases Nat.lt_or_ge x t with r | r
                          · exact hdk.out x hx r
                          · obtain rfl : x = t := by omega
                            exact okt
                        rw [em] at cc
                        clear BADK NXK hks hdk BK ka q3 okt hNm em q1 q2
                        generalize l[m].parent = pm at *
                        go_wp2_with fail
                        go_round
                        case rel => exact ⟨t + 1, by omega, by go_num, hdk'⟩
                        case measure => simp [intOf]; omega
                      · have e9 : (l[m].parent != (j : Int)) = true := by rw [bne_iff_ne]; exact q3
                        have E := hide (BK (by rw [ka, beq_eq_false_iff_ne]; exact q3))
                        rw [em] at cc
                        clear BADK NXK hks hdk BK ka q3 hNm em q1 q2
                        generalize l[m].parent = pm at *
                        go_wp2_with fail
                        go_ret
                        exact ⟨ret_bool E.out.symm, bb⟩
                · obtain rfl : t = ks.length := by omega
                  have E := NXK.out (fun x hx => hdk.out x hx hx)
                  clear BADK NXK hks hdk
                  go_wp2_with fail
                  go_roundw
                  case rel => exact ⟨j + 1, by omega, by go_num, E, bb⟩
                  case measure => simp [intOf]; omega
            · obtain ⟨pn, epn⟩ : ∃ pn : Nat, l[j].parent = (pn : Int) := ⟨l[j].parent.toNat, by omega⟩
              have hpn : pn < l.length := by omega
              obtain ⟨vap, vkp, hNp⟩ := HV.out pn hpn
              have HNp := hide hNp
              have ksp := (SZ.out.nds l[pn] (List.getElem_mem _)).kids
              rw [decide_eq_false k4, Bool.false_or, epn, Int.toNat_natCast, nd_at hpn] at at1
              rw [epn] at n3 HAl
              have p1 : (pn : Int) < (l.length : Int) := by omega
              by_cases k5 : cntI l[pn].kids j = 1
              · have e5 : (((cntI l[pn].kids j : Nat) : Int) != 1) = false := by rw [k5]; rfl
                rw [show (cntI l[pn].kids j == 1) = true by rw [k5]; rfl, Bool.true_and] at at1
                have KD := hide at1
                have HCt := hide (fun u (bu : Below w.heap.size w u) => refCount_any vkp l[pn].kids (j : Int) u (HNp.out.below bu).ks ksp)
                have C4 := hide (fun u (bu : Below w.heap.size w u) => (HNp.out.below bu).kids)
                clear at1 k1 k2 k3 k4 k5 epn hNp HNp ksp
                generalize cntI l[pn].kids j = cn at *
                generalize l[j].name = y1 at *
                generalize l[j].text = y2 at *
                go_wp2_with fail
                refine HAl.out.mono ?_
                rintro e u1 ⟨rfl, b1⟩
                have bb := chain hb b1
                have hN1 := HN.out.below b1
                have c4p := C4.out u1 bb
                clear HN HAl n0 n1 n2 n3 n4 b1 C4
                go_wp2_with fail
                refine (HCt.out u1 bb).mono ?_
                rintro e u2 ⟨rfl, rfl⟩
                clear c4p HCt
                obtain ⟨pk, ck, evk, hks⟩ := hN1.ks
                subst evk
                have c4 := hN1.kids
                have ksz := (SZ.out.nds l[j] (List.getElem_mem _)).kids
                have NXK : (∀ t (_ : t < l[j].kids.length), kidOk l j l[j].kids[t] = true) → Hid (∀ m, m < j + 1 → nodeOk l m = true) := by
                  intro q m hm
                  rcases Nat.lt_or_ge m j with r | r
                  · exact hd.out m r
                  · obtain rfl : m = j := by omega
                    rw [KD.out]; exact kid_all q
                have BADK : ∀ t (ht : t < l[j].kids.length), kidOk l j l[j].kids[t] = false → rightB l = false := fun t ht q => BAD (KD.out.trans (kid_no ht q))
                replace NXK := hide NXK
                replace BADK := hide BADK
                clear hd KD BAD hN1
                generalize l[j].kids = ks at *
                go_wp2_with fail
                go_loop [5] (fun kv => ∃ t : Nat, t ≤ ks.length ∧ kv = .int .i64 t ∧ Hid (∀ m (_ : m < ks.length), m < t → kidOk l j ks[m] = true)) (fun kv => ks.length - (intOf kv).toNat)
                case atStart => exact ⟨0, Nat.zero_le _, rfl, fun m _ q => by omega⟩
                case round =>
                  obtain ⟨t, ht, rfl, hdk⟩ := hrel
                  by_cases h9 : t < ks.length
                  · have t1 : (t : Int) < (ks.length : Int) := by omega
                    rcases hks with hks | ⟨kb, ko, rfl, hks⟩
                    · rw [hks] at h9; simp at h9
                    have cc := hks t h9
                    have BK := BADK.out t h9
                    by_cases q1 : ks[t] < 0
                    · have E := hide (BK (kid_low (by omega)))
                      clear BADK NXK hks hdk BK
                      generalize ks[t] = kc at *
                      go_wp2_with fail
                      go_ret
                      exact ⟨ret_bool E.out.symm, bb⟩
                    · by_cases q2 : (l.length : Int) ≤ ks[t]
                      · have E := hide (BK (kid_low (by omega)))
                        clear BADK NXK hks hdk BK
                        generalize ks[t] = kc at *
                        go_wp2_with fail
                        go_ret
                        exact ⟨ret_bool E.out.symm, bb⟩
                      · obtain ⟨m, em⟩ : ∃ m : Nat, ks[t] = (m : Int) := ⟨ks[t].toNat, by omega⟩
                        have hm : m < l.length := by omega
                        obtain ⟨vam, vkm, hNm⟩ := HV.out m hm
                        have cm := cell_below hNm.parent bb
                        have ka := kid_at (l := l) (i := j) hm
                        rw [← em] at ka
                        have m1 : (m : Int) < (l.length : Int) := by omega
                        by_cases q3 : l[m].parent = (j : Int)
                        · have e9 : (l[m].parent != (j : Int)) = false := by rw [bne_eq_false_iff_eq]; exact q3
                          have okt : kidOk l j ks[t] = true := by rw [ka, q3]; simp
                          have hdk' : Hid (∀ x (_ : x < ks.length), x < t + 1 → kidOk l j ks[x] = true) := by
                            intro x hx hxt
                            rcases Nat.lt_or_ge x t with r | r
                            · exact hdk.out x hx r
                            · obtain rfl : x = t := by omega
                              exact okt
                          rw [em] at cc
                          clear BADK NXK hks hdk BK ka q3 okt hNm em q1 q2
                          generalize l[m].parent = pm at *
                          go_wp2_with fail
                          go_round
                          case rel => exact ⟨t + 1, by omega, by go_num, hdk'⟩
                          case measure => simp [intOf]; omega
                        · have e9 : (l[m].parent != (j : Int)) = true := by rw [bne_iff_ne]; exact q3
                          have E := hide (BK (by rw [ka, beq_eq_false_iff_ne]; exact q3))
                          rw [em] at cc
                          clear BADK NXK hks hdk BK ka q3 hNm em q1 q2
                          generalize l[m].parent = pm at *
                          go_wp2_with fail
                          go_ret
                          exact ⟨ret_bool E.out.symm, bb⟩
                  · obtain rfl : t = ks.length := by omega
                    have E := NXK.out (fun x hx => hdk.out x hx hx)
                    clear BADK NXK hks hdk
                    go_wp2_with fail
                    go_roundw
                    case rel => exact ⟨j + 1, by omega, by go_num, E, bb⟩
                    case measure => simp [intOf]; omega
              · have e5 : (((cntI l[pn].kids j : Nat) : Int) != 1) = true := by rw [bne_iff_ne]; omega
                rw [show (cntI l[pn].kids j == 1) = false by rw [beq_eq_false_iff_ne]; exact k5, Bool.false_and] at at1
                have E := hide (BAD at1)
                have HCt := hide (fun u (bu : Below w.heap.size w u) => refCount_any vkp l[pn].kids (j : Int) u (HNp.out.below bu).ks ksp)
                have C4 := hide (fun u (bu : Below w.heap.size w u) => (HNp.out.below bu).kids)
                clear at1 k1 k2 k3 k4 k5 epn hNp HNp ksp BAD hd HN
                generalize cntI l[pn].kids j = cn at *
                generalize l[j].name = y1 at *
                generalize l[j].text = y2 at *
                go_wp2_with fail
                refine HAl.out.mono ?_
                rintro e u1 ⟨rfl, b1⟩
                have bb := chain hb b1
                have c4p := C4.out u1 bb
                clear HAl n0 n1 n2 n3 n4 b1 C4
                go_wp2_with fail
                refine (HCt.out u1 bb).mono ?_
                rintro e u2 ⟨rfl, rfl⟩
                go_wp2_with fail
                go_ret
                exact ⟨ret_bool E.out.symm, bb⟩
    · obtain rfl : j = l.length := by omega
      have ALL := hide (fun m hm => hd.out m hm)
      clear hd h NO
      go_wp2_with fail
      go_loop [7] (fun iv => ∃ j : Nat, j ≤ l.length ∧ iv = .int .i64 j ∧ Hid (∀ m : Nat, m < j → climb l (l.length + 1) (m : Int) < 0)) (fun iv => l.length - (intOf iv).toNat)
      case atStart => exact ⟨0, Nat.zero_le _, rfl, fun m q => by omega⟩
      case round =>
        obtain ⟨j, hj, rfl, hd⟩ := hrel
        by_cases h : j < l.length
        · have j1 : (j : Int) < (l.length : Int) := by omega
          have NX : climb l (l.length + 1) (j : Int) < 0 → Hid (∀ m : Nat, m < j + 1 → climb l (l.length + 1) (m : Int) < 0) := by
            intro q m hm
            rcases Nat.lt_or_ge m j with r | r
            · exact hd.out m r
            · obtain rfl : m = j := by omega
              exact q
          replace NX := hide NX
          have BAD := hide (NC.out j h)
          clear hd NC YES
          go_wp2_with fail
          go_loop [8, 9] (fun kv nv => ∃ (t : Nat) (z : Int), t ≤ l.length + 1 ∧ nv = .int .i64 t ∧ kv = .int .i64 z ∧ -1 ≤ z ∧ z < (l.length : Int) ∧ Hid (climb l (l.length + 1 - t) z = climb l (l.length + 1) (j : Int))) (fun _ nv => l.length + 2 - (intOf nv).toNat)
          case atStart => exact ⟨0, (j : Int), Nat.zero_le _, rfl, rfl, by omega, by omega, rfl⟩
          case round =>
            obtain ⟨t, z, ht, rfl, rfl, z1, z2, hc⟩ := hrel
            by_cases q1 : z < 0
            · have z3 : ¬ (0 : Int) ≤ z := by omega
              have E := NX.out (by rw [← hc.out, climb_done _ q1]; exact q1)
              clear NX BAD hc ALL
              go_wp2_with fail
              go_round
              case rel => exact ⟨j + 1, by omega, by go_num, E⟩
              case measure => simp [intOf]; omega
            · obtain ⟨m, rfl⟩ : ∃ m : Nat, z = (m : Int) := ⟨z.toNat, by omega⟩
              have hm : m < l.length := by omega
              by_cases q2 : t ≤ l.length
              · have t1 : (t : Int) ≤ (l.length : Int) := by omega
                obtain ⟨vam, vkm, hNm⟩ := HV.out m hm
                have cm := cell_below hNm.parent hb
                have ok := ALL.out m hm
                rw [nodeOk_at hm, Bool.and_eq_true, Bool.and_eq_true] at ok
                have pb := of_decide_eq_true ok.2.1
                have hc' : Hid (climb l (l.length + 1 - (t + 1)) l[m].parent = climb l (l.length + 1) (j : Int)) := by
                  show _ = _
                  rw [← hc.out, show l.length + 1 - t = (l.length + 1 - (t + 1)) + 1 by omega, climb_up hm]
                have pb1 := pb.1
                have pb2 := pb.2
                clear NX BAD hc ALL ok pb hNm q1
                generalize l[m].parent = pm at *
                go_wp2_with fail
                go_round
                case rel => exact ⟨t + 1, pm, by omega, by go_num, rfl, pb1, pb2, hc'⟩
                case measure => simp [intOf]; omega
              · have t1 : ¬ (t : Int) ≤ (l.length : Int) := by omega
                have t2 : decide ((t : Int) ≤ (l.length : Int)) = false := decide_eq_false t1
                have E : Hid (rightB l = false) := by
                  refine BAD.out ?_
                  rw [← hc.out, show l.length + 1 - t = 0 by omega]
                  first | (show ¬ (m : Int) < 0; omega) | (show (0 : Int) ≤ (m : Int); omega)
                clear NX BAD hc ALL
                go_wp2_with fail
                go_ret
                exact ⟨ret_bool E.out.symm, hb⟩
        · obtain rfl : j = l.length := by omega
          have E := hide (YES.out (fun m hm => ALL.out m hm) (fun m hm => hd.out m hm))
          clear hd NC YES ALL h
          go_wp2_with fail
          go_ret
          exact ⟨ret_bool E.out.symm, hb⟩
end Go.Proofs.YtnojgejcmaajmaaGreatDoor

namespace Go.Proofs.YtnojgejcmaajmaaGreatDoor
open Go.RowKit
set_option maxRecDepth 100000
set_option maxHeartbeats 1000000 in
theorem refHas_any (v : Value) (l : List Nd) (id : Int) (w : World) (hv : NodesV w v l) (hz : DocSz l) :
    Calls Tryz.prog 34 #[v, .int .i64 id] w fun e w' => e = .returned (.bool (hasN l id)) ∧ Below w.heap.size w w' := by
  have HR := hide (refDocRight_any v l w hv hz)
  obtain ⟨p, c, rfl, hv⟩ := hv
  have hlen := hz.len
  clear hv hz
  unfold hasN
  by_cases h1 : 0 ≤ id
  · by_cases h2 : id < (l.length : Int)
    · rw [decide_eq_true ⟨h1, h2⟩, Bool.true_and]
      generalize rightB l = r at *
      go_enter Tryz.func34, Tryz.ntmps34
      go_wp2_with fail
      refine HR.out.mono ?_
      rintro e w1 ⟨rfl, b1⟩
      go_wp2_with fail
      go_ret
      exact ⟨rfl, b1⟩
    · rw [decide_eq_false (fun q => h2 q.2), Bool.false_and]
      have d : decide (id < (l.length : Int)) = false := decide_eq_false h2
      go_enter Tryz.func34, Tryz.ntmps34
      go_wp2_with fail
      go_ret
      exact ⟨rfl, Below.refl _ _⟩
  · rw [decide_eq_false (fun q => h1 q.1), Bool.false_and]
    go_enter Tryz.func34, Tryz.ntmps34
    go_wp2_with fail
    go_ret
    exact ⟨rfl, Below.refl _ _⟩
theorem Is.of {l : List Nd} {id : Int} (h : hasN l id = true) : ∃ m, Is l id m := by
  unfold hasN at h
  rw [Bool.and_eq_true, decide_eq_true_eq] at h
  exact ⟨id.toNat, right_is.1 h.2, by omega, by omega⟩
theorem parI_at {l : List Nd} {m : Nat} (h : m < l.length) : parI l (m : Int) = l[m].parent := by unfold parI; rw [Int.toNat_natCast, nd_at h]
end Go.Proofs.YtnojgejcmaajmaaGreatDoor

namespace Go.Proofs.YtnojgejcmaajmaaGreatDoor
open Go.RowKit
def typeS (k : Int) : ByteArray := if 0 ≤ k ∧ k ≤ 29 then typeN k.toNat else ⟨#[]⟩
end Go.Proofs.YtnojgejcmaajmaaGreatDoor

namespace Go.Proofs.YtnojgejcmaajmaaGreatDoor
open Go.RowKit
theorem lowL_length (l : List UInt8) : (lowL l).length = l.length := by simp [lowL]
theorem lowL_take (s : ByteArray) (k : Nat) (h : k < s.size) : lowL (s.data.toList.take (k + 1)) = lowL (s.data.toList.take k) ++ [lowB (byteAt s k)] := by
  rw [byteAt_take s k h]; simp [lowL]
end Go.Proofs.YtnojgejcmaajmaaGreatDoor

namespace Go.Proofs.YtnojgejcmaajmaaGreatDoor
open Go.RowKit
theorem typeS_nat {k : Nat} (h : k < 30) : typeS (k : Int) = typeN k := by
  unfold typeS
  rw [if_pos (by omega), Int.toNat_natCast]
theorem seek_from (t : ByteArray) : seekR t 1 22 (30 - 1) 1 = seekR t 1 22 30 0 := rfl
theorem seek_to (t : ByteArray) : seekR t 1 22 (30 - 23) 23 = none := rfl
theorem seek_empty : seekR ⟨#[]⟩ 1 22 30 0 = none := by decide +kernel
theorem seek_button (t : ByteArray) : kInt (seekR t 25 27 30 0) 25 = if t = ⟨#[114, 101, 115, 101, 116]⟩ then 26 else if t = ⟨#[98, 117, 116, 116, 111, 110]⟩ then 27 else 25 := by
  have e : seekR t 25 27 30 0 = (if decide (typeN 25 = t) = true then some 25 else if decide (typeN 26 = t) = true then some 26 else if decide (typeN 27 = t) = true then some 27 else none) := rfl
  have d6 : typeN 26 = ⟨#[114, 101, 115, 101, 116]⟩ := rfl
  have d7 : typeN 27 = ⟨#[98, 117, 116, 116, 111, 110]⟩ := rfl
  have n1 : ¬ typeN 25 = typeN 26 := by decide +kernel
  have n2 : ¬ typeN 25 = typeN 27 := by decide +kernel
  have n3 : ¬ typeN 26 = typeN 27 := by decide +kernel
  rw [e, ← d6, ← d7]
  by_cases h5 : typeN 25 = t
  · rw [decide_eq_true h5, if_pos (show true = true from rfl), if_neg (show ¬ t = typeN 26 from fun q => n1 (h5.trans q)), if_neg (show ¬ t = typeN 27 from fun q => n2 (h5.trans q))]; rfl
  · rw [decide_eq_false h5, if_neg (show ¬ false = true by decide)]
    by_cases h6 : typeN 26 = t
    · rw [decide_eq_true h6, if_pos (show true = true from rfl), if_pos (show t = typeN 26 from h6.symm)]; rfl
    · rw [decide_eq_false h6, if_neg (show ¬ false = true by decide), if_neg (show ¬ t = typeN 26 from fun q => h6 q.symm)]
      by_cases h7 : typeN 27 = t
      · rw [decide_eq_true h7, if_pos (show true = true from rfl), if_pos (show t = typeN 27 from h7.symm)]; rfl
      · rw [decide_eq_false h7, if_neg (show ¬ false = true by decide), if_neg (show ¬ t = typeN 27 from fun q => h7 q.symm)]; rfl

end Go.Proofs.YtnojgejcmaajmaaGreatDoor
