/- The document's Address, List, Trim, Clean of mail: they answer by the functions of 'Mail'; what lay in the world lies there still. Condition: texts of at most 2^17 bytes. -/
import Derived.Test.YtbnlliiimfjbpaaDoorMailRef1
import Derived.Test.YtbnlliiimfjbpaaDoorStripRef
import Derived.Test.YtbnlliiimfjbpaaDoorEndsRef
namespace Go.Proofs.YtbnlliiimfjbpaaDoor
open Go.RowKit

/-- The first places of a text, all of them signs ahead of the @. -/
theorem at_take {s : ByteArray} {k : Nat} (hk : k < s.size) (h : ∀ c ∈ s.data.toList.take k, notAt c = true) (h64 : s[k] = 64) : s.data.toList.takeWhile notAt = s.data.toList.take k ∧ s.data.toList.dropWhile notAt = 64 :: s.data.toList.drop (k + 1) := by
  have e : s.data.toList = s.data.toList.take k ++ 64 :: s.data.toList.drop (k + 1) := by
    have := (List.take_append_drop k s.data.toList).symm
    rw [drop_cons hk, h64] at this
    exact this
  have hn : (64 : UInt8) ∉ s.data.toList.take k := fun m => by have := h 64 m; revert this; decide
  have := take_at (u := s.data.toList.take k) (s.data.toList.drop (k + 1)) hn
  rw [← e] at this
  exact this
theorem addr_bad {l : List UInt8} {u : List UInt8} {c : UInt8} {r : List UInt8} (hl : l = u ++ c :: r) (hu : ∀ x ∈ u, notAt x = true) (hc : notAt c = true) (hb : userC c = false) : addrL l = false := by
  subst hl
  have ht : ∀ (u : List UInt8), (∀ x ∈ u, notAt x = true) → (u ++ c :: r).takeWhile notAt = u ++ c :: r.takeWhile notAt := by
    intro u hu
    rw [List.takeWhile_append_of_pos hu, List.takeWhile_cons, hc]; rfl
  unfold addrL
  rw [ht u hu]
  have : (u ++ c :: r.takeWhile notAt).all userC = false := by
    rw [List.all_eq_false]
    exact ⟨c, by simp, by rw [hb]; decide⟩
  rw [this, Bool.and_false, Bool.false_and]
theorem addr_first {s : ByteArray} (h : 0 < s.size) (h64 : s[0] = 64) : addrL s.data.toList = false := by
  have ⟨e1, _⟩ := at_take (s := s) (k := 0) h (by simp) h64
  unfold addrL
  rw [e1]; rfl
theorem addr_parts {s : ByteArray} {k : Nat} (hk : k < s.size) (h0 : k ≠ 0) (h : ∀ c ∈ s.data.toList.take k, notAt c = true ∧ userC c = true) (h64 : s[k] = 64) : addrL s.data.toList = (splitL 46 (s.data.toList.drop (k + 1))).all labelL := by
  have ⟨e1, e2⟩ := at_take hk (fun c hc => (h c hc).1) h64
  unfold addrL
  rw [e1, e2]
  have a1 : (s.data.toList.take k).isEmpty = false := by
    cases e : s.data.toList.take k with
    | cons => rfl
    | nil =>
      have := congrArg List.length e
      rw [List.length_take, List.length_nil] at this
      have hl : s.data.toList.length = s.size := by simp
      omega
  have a2 : (s.data.toList.take k).all userC = true := List.all_eq_true.2 (fun c hc => (h c hc).2)
  rw [a1, a2]; rfl
theorem drop_txt (s : ByteArray) (k : Nat) : s.extract k s.size = txt (s.data.toList.drop k) := by
  rw [subL_txt]
  unfold subL
  rw [List.take_of_length_le (by simp)]
/-- What a row of texts is, for a loop over it. -/
theorem row_form {w1 : World} {base : Nat} {v : Value} {ws : List (List UInt8)} (hv : OwnsT 9 base w1 v ws) (hn : ws ≠ []) : ∃ g cap, v = .slice (some ⟨g, 0, none⟩) ws.length cap ∧ g < w1.heap.size ∧ ∀ i (h : i < ws.length), w1.cell? ⟨g, i, none⟩ = some (.string (txt ws[i])) := by
  rcases hv.2 with ⟨h1, h2⟩ | ⟨g, cap, cur, h1, h2, h3, h4⟩
  · exact absurd (List.eq_nil_of_length_eq_zero h2) hn
  · refine ⟨g, cap, h1, ?_, fun i h => ?_⟩
    · rcases Nat.lt_or_ge g w1.heap.size with h' | h'
      · exact h'
      · simp [Array.getElem?_eq_none h'] at h3
    · subst h1
      rw [World.ownsRow.cellAt hv i (by omega)]
      simp [cellT, h]
theorem prep_sum (a : List UInt8) (m : List (List UInt8)) : ((prep a m).map List.length).sum = a.length + (m.map List.length).sum := by
  cases m with
  | nil => simp [prep]
  | cons h t => simp [prep]; omega
theorem split_sum (c : UInt8) : ∀ l : List UInt8, ((splitL c l).map List.length).sum ≤ l.length
  | [] => by simp [splitL]
  | x :: l => by
    have ih := split_sum c l
    by_cases h : x = c
    · subst h
      rw [split_hit]
      simp only [List.map_cons, List.length_nil, List.sum_cons, List.length_cons]
      omega
    · rw [split_miss l h, prep_sum]
      simp only [List.length_cons, List.length_nil]
      omega
theorem split_count (c : UInt8) : ∀ l : List UInt8, (splitL c l).length ≤ l.length + 1
  | [] => by simp [splitL]
  | x :: l => by
    have ih := split_count c l
    by_cases h : x = c
    · subst h
      rw [split_hit]
      simp only [List.length_cons]
      omega
    · rw [split_miss l h]
      have : (prep [x] (splitL c l)).length ≤ (splitL c l).length + 1 := by
        cases splitL c l with
        | nil => simp [prep]
        | cons => simp [prep]
      have h2 : (prep [x] (splitL c l)).length = (splitL c l).length := by
        cases e : splitL c l with
        | nil => exact absurd e (split_ne c l)
        | cons => rfl
      rw [h2, List.length_cons]; omega
theorem mem_sum {p : List UInt8} : ∀ {ps : List (List UInt8)}, p ∈ ps → p.length ≤ (ps.map List.length).sum
  | q :: ps, h => by
    rcases List.mem_cons.1 h with e | e
    · subst e; simp
    · have := mem_sum e
      simp only [List.map_cons, List.sum_cons]; omega
theorem split_mem {c : UInt8} {l p : List UInt8} (h : p ∈ splitL c l) : p.length ≤ l.length := Nat.le_trans (mem_sum h) (split_sum c l)
theorem all_at {α : Type} {f : α → Bool} {l : List α} {k : Nat} (hk : k < l.length) (h : f l[k] = false) : l.all f = false := List.all_eq_false.2 ⟨l[k], List.getElem_mem _, by rw [h]; decide⟩

set_option maxHeartbeats 2000000 in
set_option maxRecDepth 100000 in
theorem refAddr_any (s : ByteArray) (w : World) (hs : s.size ≤ 131072) :
    Calls Tryd.prog 9 #[.string s] w fun e w' => e = .returned (.bool (addrL s.data.toList)) ∧ Below w.heap.size w w' := by
  go_enter Tryd.func9, Tryd.ntmps9
  go_wp2_with fail
  go_loop [3] (fun i => ∃ k : Nat, k ≤ s.size ∧ i = .int .i64 k ∧ Hid (∀ c ∈ s.data.toList.take k, notAt c = true ∧ userC c = true)) (fun i => s.size - (intOf i).toNat)
  case atStart => exact ⟨0, Nat.zero_le _, rfl, fun c hc => by simp at hc⟩
  case round =>
    obtain ⟨k, hk, rfl, hd⟩ := hrel
    by_cases hlt : k < s.size
    · have i1 : (k : Int) < (s.size : Int) := by omega
      by_cases h64 : s[k] = 64
      · have n1 : ((s[k].toNat : Int) != 64) = false := by rw [h64]; rfl
        have n1' : ((s[k].toNat : Int) == 64) = true := by rw [h64]; rfl
        by_cases h0 : k = 0
        · subst h0
          have E := hide (addr_first hlt h64)
          clear h64 hd
          go_wp2_with fail
          go_ret
          exact ⟨ret_bool E.out.symm, Below.refl _ _⟩
        · have E := hide (addr_parts hlt h0 hd.out h64)
          have k0 : ((k : Int) == 0) = false := by simp; omega
          have k1 : ((k : Int) == (s.size : Int)) = false := by simp; omega
          have HX := hide (drop_txt s (k + 1))
          have HS := hide (fun w => refSplit_any (txt (s.data.toList.drop (k + 1))) 46 w (by rw [txt_size, List.length_drop]; simp; omega))
          rw [txt_data, ← HX.out] at HS
          have hne := split_ne 46 (s.data.toList.drop (k + 1))
          have hcnt := split_count 46 (s.data.toList.drop (k + 1))
          have hmem := hide (fun p hp => split_mem (c := 46) (l := s.data.toList.drop (k + 1)) (p := p) hp)
          rw [List.length_drop] at hcnt
          have hls : s.data.toList.length = s.size := by simp
          rw [hls] at hcnt
          have hml : Hid ((s.data.toList.drop (k + 1)).length ≤ 131072) := by show _ ≤ _; rw [List.length_drop]; omega
          clear h64 hd HX
          generalize s.data.toList.drop (k + 1) = host at *
          generalize splitL 46 host = ws at *
          go_wp2_with fail
          refine (HS.out _).mono ?_
          rintro e w1 ⟨v, rfl, hv, b1⟩
          obtain ⟨g, cap, rfl, hg, hcells⟩ := row_form hv hne
          have HC := hide hcells
          clear hcells hv HS
          go_wp2_with fail
          go_loop [5] (fun i => ∃ j : Nat, j ≤ ws.length ∧ i = .int .i64 j ∧ Hid (∀ m (h : m < j) (h2 : m < ws.length), labelL ws[m] = true)) (fun i => ws.length - (intOf i).toNat)
          case atStart => exact ⟨0, Nat.zero_le _, rfl, fun m h => by omega⟩
          case round =>
            obtain ⟨j, hj, rfl, hd⟩ := hrel
            by_cases hjl : j < ws.length
            · have hc := HC.out j hjl
              have HL := hide (refLabel_any (txt ws[j]) w1 (by rw [txt_size]; have h1 := hmem.out ws[j] (List.getElem_mem _); have h2 := hml.out; omega))
              rw [txt_data] at HL
              have j1 : (j : Int) < (ws.length : Int) := by omega
              cases hb : labelL ws[j] with
              | false =>
                have E2 := hide (E.out.trans (all_at (f := labelL) hjl hb))
                rw [hb] at HL
                clear hb hd hmem HC
                generalize txt ws[j] = t at *
                go_wp2_with fail
                refine HL.out.mono ?_
                rintro e u ⟨rfl, rfl⟩
                go_wp2_with fail
                go_ret
                exact ⟨ret_bool E2.out.symm, b1⟩
              | true =>
                have hd' : Hid (∀ m (h : m < j + 1) (h2 : m < ws.length), labelL ws[m] = true) := by
                  intro m hm h2
                  rcases Nat.lt_or_ge m j with q | q
                  · exact hd.out m q h2
                  · obtain rfl : m = j := by omega
                    exact hb
                rw [hb] at HL
                clear hb hd hmem HC
                generalize txt ws[j] = t at *
                go_wp2_with fail
                refine HL.out.mono ?_
                rintro e u ⟨rfl, rfl⟩
                go_wp2_with fail
                go_round
                case rel => exact ⟨j + 1, by omega, by go_num, hd'⟩
                case measure => simp [intOf]; omega
            · obtain rfl : j = ws.length := by omega
              have E2 : Hid (addrL s.data.toList = true) := by
                show _ = _
                rw [E.out, List.all_eq_true]
                intro p hp
                obtain ⟨m, hm, e⟩ := List.getElem_of_mem hp
                rw [← e]
                exact hd.out m hm hm
              clear hd hmem HC
              go_wp2_with fail
              go_ret
              exact ⟨ret_bool E2.out.symm, b1⟩
      · have n0 : ¬ (s[k].toNat : Int) = 64 := fun e => h64 (byte_eq (b := 64) e)
        have n1 : ((s[k].toNat : Int) != 64) = true := by simpa using n0
        have n1' : ((s[k].toNat : Int) == 64) = false := by simpa using n0
        have hna : notAt s[k] = true := by unfold notAt; simpa using h64
        have HP := hide (refPlain_any s[k] w)
        have HI := hide (refIn_any s[k] ⟨#[46, 33, 35, 36, 37, 38, 39, 42, 43, 47, 61, 63, 94, 95, 123, 124, 125, 126, 45, 96]⟩ w (by decide))
        have hspl : s.data.toList = s.data.toList.take k ++ s[k] :: s.data.toList.drop (k + 1) := by
          have := (List.take_append_drop k s.data.toList).symm
          rw [drop_cons hlt] at this
          exact this
        have NX : userC s[k] = true → Hid (∀ c ∈ s.data.toList.take (k + 1), notAt c = true ∧ userC c = true) := by
          intro hu c hc
          rw [byteAt_take s k hlt, ← byteAt_eq s k hlt] at hc
          rcases List.mem_append.1 hc with hc | hc
          · exact hd.out c hc
          · have : c = s[k] := by simpa using hc
            subst this; exact ⟨hna, hu⟩
        have BAD := fun hu => addr_bad hspl (fun c hc => (hd.out c hc).1) hna hu
        have hU : userC s[k] = (plainB s[k] || hasB mailSg s[k]) := rfl
        have HI : Hid (Calls Tryd.prog 21 #[.int .u8 (s[k].toNat : Int), .string ⟨#[46, 33, 35, 36, 37, 38, 39, 42, 43, 47, 61, 63, 94, 95, 123, 124, 125, 126, 45, 96]⟩] w fun e w' => e = .returned (.bool (hasB mailSg s[k])) ∧ w' = w) := HI
        clear hd h64 n0 hspl
        cases hp : plainB s[k] with
        | true =>
          have E := NX (by rw [hU, hp]; rfl)
          rw [hp] at HP
          clear NX BAD hU hp HI hna
          go_wp2_with fail
          refine HP.out.mono ?_
          rintro e u ⟨rfl, rfl⟩
          go_wp2_with fail
          go_round
          case rel => exact ⟨k + 1, by omega, by go_num, E⟩
          case measure => simp [intOf]; omega
        | false =>
          cases hi : hasB mailSg s[k] with
          | true =>
            have E := NX (by rw [hU, hp, hi]; rfl)
            rw [hp] at HP
            rw [hi] at HI
            clear NX BAD hU hp hi hna
            go_wp2_with fail
            refine HP.out.mono ?_
            rintro e u ⟨rfl, rfl⟩
            go_wp2_with fail
            refine HI.out.mono ?_
            rintro e u ⟨rfl, rfl⟩
            go_wp2_with fail
            go_round
            case rel => exact ⟨k + 1, by omega, by go_num, E⟩
            case measure => simp [intOf]; omega
          | false =>
            have E := hide (BAD (by rw [hU, hp, hi]; rfl))
            rw [hp] at HP
            rw [hi] at HI
            clear NX BAD hU hp hi hna
            go_wp2_with fail
            refine HP.out.mono ?_
            rintro e u ⟨rfl, rfl⟩
            go_wp2_with fail
            refine HI.out.mono ?_
            rintro e u ⟨rfl, rfl⟩
            go_wp2_with fail
            go_ret
            exact ⟨ret_bool E.out.symm, Below.refl _ _⟩
    · obtain rfl : k = s.size := by omega
      have E : Hid (addrL s.data.toList = false) := by
        refine addr_none fun m => ?_
        have ht : s.data.toList.take s.size = s.data.toList := List.take_of_length_le (by simp)
        have := (hd.out 64 (by rw [ht]; exact m)).1
        revert this; decide
      clear hd hlt
      by_cases hz : s.size = 0
      · have i0 : ((s.size : Int) == 0) = true := by rw [beq_iff_eq]; omega
        go_wp2_with fail
        go_ret
        exact ⟨ret_bool E.out.symm, Below.refl _ _⟩
      · have i0 : ((s.size : Int) == 0) = false := by rw [beq_eq_false_iff_ne]; omega
        clear hz
        go_wp2_with fail
        go_ret
        exact ⟨ret_bool E.out.symm, Below.refl _ _⟩

end Go.Proofs.YtbnlliiimfjbpaaDoor
