/- The program's oneOf, madeOf, isHigh, isEscape, Fine, isUpTo, isLabel of layer 8: they answer by the functions of 'LinkP'; what lay in the world lies there still. Conditions: texts of at most 100000 bytes; the library's tables hold what the program's text lays. -/
import Derived.Test.YtkllknfgojjphaaDoorRows
import Derived.Test.YtkllknfgojjphaaDoorLinkLib
import Derived.Test.YtkllknfgojjphaaDoorValidWalks
import Derived.Test.YtkllknfgojjphaaDoorLinkRef1
namespace Go.Proofs.YtkllknfgojjphaaDoor
open Go.RowKit

/-- What the program's road names: the library's variable MaxLen holds some number, its two tables of signs what its text lays. -/
structure LinkTabs (w : World) : Prop where
  max : SomeMax w
  tabs : Tabs w
theorem Tabs.below {w w' : World} (h : Tabs w) (hb : Below w.heap.size w w') : Tabs w' := by
  exact ⟨fun c hc => (hb.cell (World.block_lt_of_cell? _ _ (h.1 c hc))).trans (h.1 c hc), fun i hi => ⟨(hb.cell (World.block_lt_of_cell? _ _ (h.2 i hi).1)).trans (h.2 i hi).1, (hb.cell (World.block_lt_of_cell? _ _ (h.2 i hi).2)).trans (h.2 i hi).2⟩⟩
theorem LinkTabs.below {w w' : World} (h : LinkTabs w) (hb : Below w.heap.size w w') : LinkTabs w' := ⟨h.max.below hb, h.tabs.below hb⟩

theorem isHigh_any (c : UInt8) (w : World) :
    Calls Tryd.prog 36 #[.int .u8 (c.toNat : Int)] w fun e w' => e = .returned (.bool (high c)) ∧ w' = w := by
  unfold high
  rcases Nat.lt_or_ge 127 c.toNat with h | h
  · rw [decide_eq_true h]
    go_enter Tryd.func36, Tryd.ntmps36
    go_wp2
    go_ret
    exact ⟨ret_bool (by first | rfl | (simp; omega)), rfl⟩
  · rw [decide_eq_false (by omega)]
    go_enter Tryd.func36, Tryd.ntmps36
    go_wp2
    go_ret
    exact ⟨ret_bool (by first | rfl | (simp; omega)), rfl⟩

theorem index_mem (c : UInt8) : ∀ l : List UInt8, 0 ≤ Lib.indexByte l c ↔ l.contains c = true
  | [] => by simp [Lib.indexByte]
  | b :: l => by
    have ih := index_mem c l
    have ge := Lib.indexByte_ge l c
    unfold Lib.indexByte
    by_cases h : b = c
    · subst h; simp
    · have h1 : (b == c) = false := by simpa using h
      have h2 : (c == b) = false := by simpa using fun e => h e.symm
      rw [h1, List.contains_cons, h2, Bool.false_or]
      by_cases g : Lib.indexByte l c = -1
      · rw [g] at ih ⊢; simp at ih ⊢; exact ih
      · have g1 : (Lib.indexByte l c == -1) = false := by simpa using g
        rw [g1, ← ih]; simp; omega
theorem index_yes {c : UInt8} {l : List UInt8} (h : hasB l c = true) : 0 ≤ Lib.indexByte l c := (index_mem c l).2 h
theorem index_no {c : UInt8} {l : List UInt8} (h : hasB l c = false) : Lib.indexByte l c < 0 := by
  rcases Int.lt_or_le (Lib.indexByte l c) 0 with g | g
  · exact g
  · have := (index_mem c l).1 g
    unfold hasB at h
    rw [h] at this; cases this

theorem any_hit {ts : List (List UInt8)} {c : UInt8} {j : Nat} (hj : j < ts.length) (h : hasB ts[j] c = true) : anyT ts c = true := by
  unfold anyT
  rw [List.any_eq_true]
  exact ⟨ts[j], List.getElem_mem _, h⟩
theorem any_end {ts : List (List UInt8)} {c : UInt8} (h : ∀ m (_ : m < ts.length), hasB ts[m] c = false) : anyT ts c = false := by
  unfold anyT
  rw [List.any_eq_false]
  intro t ht
  obtain ⟨m, hm, rfl⟩ := List.getElem_of_mem ht
  rw [h m hm]; simp
set_option maxHeartbeats 1000000 in
theorem oneOf_any (c : UInt8) (ts : List (List UInt8)) (g cap : Nat) (w : World) (hr : TextsAt w g ts) (hl : ts.length ≤ 100) :
    Calls Tryd.prog 20 #[.int .u8 (c.toNat : Int), .slice (some ⟨g, 0, none⟩) ts.length cap] w fun e w' => e = .returned (.bool (anyT ts c)) ∧ w' = w := by
  have HIT := hide (fun j hj h => any_hit (ts := ts) (c := c) (j := j) hj h)
  have END := hide (fun h => any_end (ts := ts) (c := c) h)
  go_enter Tryd.func20, Tryd.ntmps20
  go_wp2_with fail
  go_loop [9] (fun i => ∃ j : Nat, j ≤ ts.length ∧ i = .int .i64 j ∧ Hid (∀ m (_ : m < j) (_ : m < ts.length), hasB ts[m] c = false)) (fun i => ts.length - (intOf i).toNat)
  case atStart => exact ⟨0, Nat.zero_le _, rfl, fun m h => by omega⟩
  case round =>
    obtain ⟨j, hj, rfl, hd⟩ := hrel
    by_cases hjl : j < ts.length
    · have hc := hr j hjl
      have HI := hide (fun w => indexByte_is (txt ts[j]) c w)
      rw [txt_data] at HI
      have j1 : (j : Int) < (ts.length : Int) := by omega
      cases hb : hasB ts[j] c with
      | true =>
        have E := hide (HIT.out j hjl hb)
        have ix := index_yes hb
        clear hb hd HIT END hr
        generalize Lib.indexByte ts[j] c = v at *
        generalize txt ts[j] = t at *
        go_wp2_with fail
        refine (HI.out _).mono ?_
        rintro e u ⟨rfl, rfl⟩
        go_wp2_with fail
        go_ret
        exact ⟨ret_bool E.out.symm, rfl⟩
      | false =>
        have hd' : Hid (∀ m (_ : m < j + 1) (_ : m < ts.length), hasB ts[m] c = false) := by
          intro m hm h2
          rcases Nat.lt_or_ge m j with q | q
          · exact hd.out m q h2
          · obtain rfl : m = j := by omega
            exact hb
        have ix := index_no hb
        clear hb hd HIT END hr
        generalize Lib.indexByte ts[j] c = v at *
        generalize txt ts[j] = t at *
        go_wp2_with fail
        refine (HI.out _).mono ?_
        rintro e u ⟨rfl, rfl⟩
        go_wp2_with fail
        go_round
        case rel => exact ⟨j + 1, by omega, by go_num, hd'⟩
        case measure => simp [intOf]; omega
    · obtain rfl : j = ts.length := by omega
      have E := hide (END.out (fun m hm => hd.out m hm hm))
      clear hd HIT END hr
      go_wp2_with fail
      go_ret
      exact ⟨ret_bool E.out.symm, rfl⟩
theorem oneOf_new (c : UInt8) (ts : List (List UInt8)) (n : Nat) (C : Array Value) (T : TypeId) (w : World) (hn : ts.length = n) (hC : C = (ts.map fun t => Value.string (txt t)).toArray) (hl : ts.length ≤ 100) :
    Calls Tryd.prog 20 #[.int .u8 (c.toNat : Int), .slice (some ⟨w.heap.size, 0, none⟩) n n] (w.alloc (.cells C T)) fun e w' => e = .returned (.bool (anyT ts c)) ∧ Below w.heap.size w w' := by
  subst hn hC
  refine (oneOf_any c ts w.heap.size ts.length _ (texts_new w T ts) hl).mono ?_
  rintro e u ⟨rfl, rfl⟩
  exact ⟨rfl, (Below.refl _ w).alloc (Nat.le_refl _) _⟩

theorem all_hit {ts : List (List UInt8)} {s : ByteArray} {k : Nat} (hk : k < s.size) (h : anyT ts s[k] = false) : allT ts s.data.toList = false := by
  unfold allT
  rw [List.all_eq_false]
  refine ⟨s[k], ?_, by rw [h]; simp⟩
  rw [← at_list s k hk]; exact List.getElem_mem _
theorem all_end {ts : List (List UInt8)} {s : ByteArray} (h : ∀ k (_ : k < s.size), anyT ts s[k] = true) : allT ts s.data.toList = true := by
  unfold allT
  rw [List.all_eq_true]
  intro c hc
  obtain ⟨k, hk, rfl⟩ := List.getElem_of_mem hc
  have hk2 : k < s.size := by simpa using hk
  rw [at_list s k hk2]
  exact h k hk2
set_option maxHeartbeats 1000000 in
theorem madeOf_any (s : ByteArray) (ts : List (List UInt8)) (g cap : Nat) (w : World) (hr : TextsAt w g ts) (hl : ts.length ≤ 100) (hs : s.size ≤ 100000) :
    Calls Tryd.prog 21 #[.string s, .slice (some ⟨g, 0, none⟩) ts.length cap] w fun e w' => e = .returned (.bool (allT ts s.data.toList)) ∧ w' = w := by
  have HIT := hide (fun k hk h => all_hit (ts := ts) (s := s) (k := k) hk h)
  have END := hide (fun h => all_end (ts := ts) (s := s) h)
  have HO := hide (fun c => oneOf_any c ts g cap w hr hl)
  clear hr
  go_enter Tryd.func21, Tryd.ntmps21
  go_wp2_with fail
  go_loop [8] (fun i => ∃ k : Nat, k ≤ s.size ∧ i = .int .i64 k ∧ Hid (∀ j (_ : j < s.size), j < k → anyT ts s[j] = true)) (fun i => s.size - (intOf i).toNat)
  case atStart => exact ⟨0, Nat.zero_le _, rfl, fun j _ h => by omega⟩
  case round =>
    obtain ⟨k, hk, rfl, hd⟩ := hrel
    by_cases hlt : k < s.size
    · have hbnd := hlt
      have HOk := hide (HO.out s[k])
      have hI : (k : Int) < (s.size : Int) := by omega
      cases hb : anyT ts s[k] with
      | true =>
        have hd' : Hid (∀ j (_ : j < s.size), j < k + 1 → anyT ts s[j] = true) := by
          intro j hj hjk
          rcases Nat.lt_or_ge j k with q | q
          · exact hd.out j hj q
          · obtain rfl : j = k := by omega
            exact hb
        rw [hb] at HOk
        clear hb hd HIT END HO
        go_wp2_with fail
        refine HOk.out.mono ?_
        rintro e u ⟨rfl, rfl⟩
        go_wp2_with fail
        go_round
        case rel => exact ⟨k + 1, by omega, by go_num, hd'⟩
        case measure => simp [intOf]; omega
      | false =>
        have E := hide (HIT.out k hlt hb)
        rw [hb] at HOk
        clear hb hd HIT END HO
        go_wp2_with fail
        refine HOk.out.mono ?_
        rintro e u ⟨rfl, rfl⟩
        go_wp2_with fail
        go_ret
        exact ⟨ret_bool E.out.symm, rfl⟩
    · obtain rfl : k = s.size := by omega
      have E := hide (END.out (fun j hj => hd.out j hj hj))
      clear hd HIT END HO
      go_wp2_with fail
      go_ret
      exact ⟨ret_bool E.out.symm, rfl⟩
theorem madeOf_new (s : ByteArray) (ts : List (List UInt8)) (n : Nat) (C : Array Value) (T : TypeId) (w : World) (hn : ts.length = n) (hC : C = (ts.map fun t => Value.string (txt t)).toArray) (hl : ts.length ≤ 100) (hs : s.size ≤ 100000) :
    Calls Tryd.prog 21 #[.string s, .slice (some ⟨w.heap.size, 0, none⟩) n n] (w.alloc (.cells C T)) fun e w' => e = .returned (.bool (allT ts s.data.toList)) ∧ Below w.heap.size w w' := by
  subst hn hC
  refine (madeOf_any s ts w.heap.size ts.length _ (texts_new w T ts) hl hs).mono ?_
  rintro e u ⟨rfl, rfl⟩
  exact ⟨rfl, (Below.refl _ w).alloc (Nat.le_refl _) _⟩

theorem esc_short {s : ByteArray} (h : s.size ≤ 2) : escL s.data.toList = false := by
  have hl : s.data.toList.length = s.size := by simp
  rcases e : s.data.toList with _ | ⟨a, _ | ⟨b, _ | ⟨c, t⟩⟩⟩
  · rfl
  · rfl
  · rfl
  · rw [e] at hl; simp at hl; omega
theorem esc_at {s : ByteArray} (h : 2 < s.size) : escL s.data.toList = (s[0] == 37 && allT [digT, hexT] (s.extract 1 3).data.toList) := by
  have hl : s.data.toList.length = s.size := by simp
  have e1 : (s.extract 1 3).data.toList = (s.data.toList.drop 1).take 2 := by simp
  have e0 : s[0] = s.data.toList.getD 0 0 := byteAt_eq s 0 (by omega)
  rw [all_hex, e1, e0]
  rcases e : s.data.toList with _ | ⟨a, _ | ⟨b, _ | ⟨c, t⟩⟩⟩
  · rw [e] at hl; simp at hl; omega
  · rw [e] at hl; simp at hl; omega
  · rw [e] at hl; simp at hl; omega
  · show (a == 37 && (hexOk b && hexOk c)) = (a == 37 && (hexOk b && (hexOk c && true)))
    rw [Bool.and_true]
set_option maxHeartbeats 1000000 in
theorem isEscape_any (s : ByteArray) (w : World) (hs : s.size ≤ 100000) :
    Calls Tryd.prog 37 #[.string s] w fun e w' => e = .returned (.bool (escL s.data.toList)) ∧ Below w.heap.size w w' := by
  by_cases h : 2 < s.size
  · have E := esc_at h
    have h0 : 0 < s.size := by omega
    have h1 : 1 < s.size := by omega
    have h3 : 3 ≤ s.size := by omega
    have HM := hide (fun w => madeOf_new (s.extract 1 3) [digT, hexT] 2 _ 9 w rfl rfl (by decide) (by rw [ByteArray.size_extract]; omega))
    by_cases g : s[0] = 37
    · have a0 : (s[0].toNat : Int) = 37 := by rw [g]; rfl
      rw [show (s[0] == 37) = true by rw [g]; rfl, Bool.true_and] at E
      replace E := hide E
      have i1 : (2 : Int) < (s.size : Int) := by omega
      clear g
      generalize allT [digT, hexT] (s.extract 1 3).data.toList = r at *
      go_enter Tryd.func37, Tryd.ntmps37
      go_wp2_with fail
      refine (HM.out _).mono ?_
      rintro e u ⟨rfl, b1⟩
      go_wp2_with fail
      go_ret
      exact ⟨ret_bool E.out.symm, b1⟩
    · have a0 : ((s[0].toNat : Int) == 37) = false := ne_int (c := 37) g
      rw [show (s[0] == 37) = false by rw [beq_eq_false_iff_ne]; exact g, Bool.false_and] at E
      replace E := hide E
      have i1 : (2 : Int) < (s.size : Int) := by omega
      clear HM g
      go_enter Tryd.func37, Tryd.ntmps37
      go_wp2_with fail
      go_ret
      exact ⟨ret_bool E.out.symm, Below.refl _ _⟩
  · have E := hide (esc_short (s := s) (by omega))
    have i1 : ¬ (2 : Int) < (s.size : Int) := by omega
    clear h
    go_enter Tryd.func37, Tryd.ntmps37
    go_wp2_with fail
    go_ret
    exact ⟨ret_bool E.out.symm, Below.refl _ _⟩

theorem from_txt (s : ByteArray) (k : Nat) : (s.extract k s.size).data.toList = s.data.toList.drop k := by
  rw [ByteArray.data_extract, Array.toList_extract]
  exact List.take_of_length_le (by simp)
theorem fine_hit {s : ByteArray} {k : Nat} (hk : k < s.size) (h : okAt s[k] (s.data.toList.drop k) = false) : fineP s.data.toList = false := by
  have hk2 : k < s.data.toList.length := by simpa using hk
  refine fineP_bad hk2 ?_
  rw [at_list s k hk]; exact h
theorem fine_end {s : ByteArray} (h : ∀ k (_ : k < s.size), okAt s[k] (s.data.toList.drop k) = true) : fineP s.data.toList = true := by
  refine fineP_all fun k hk => ?_
  have hk2 : k < s.size := by simpa using hk
  rw [at_list s k hk2]; exact h k hk2
set_option maxHeartbeats 2000000 in
theorem linkFine_any (s : ByteArray) (w : World) (hs : s.size ≤ 100000) (hT : LinkTabs w) :
    Calls Tryd.prog 15 #[.string s] w fun e w' => e = .returned (.bool (fineL s.data.toList)) ∧ Below w.heap.size w w' := by
  have HV := hide (valid_any s w (by omega) hT.tabs)
  rw [fine_is]
  rw [show validS s = Lib.validD s.data.toList from rfl] at HV
  clear hT
  cases hv : Lib.validD s.data.toList with
  | false =>
    rw [hv] at HV
    clear hv
    go_enter Tryd.func15, Tryd.ntmps15
    go_wp2_with fail
    refine HV.out.mono ?_
    rintro e u ⟨rfl, b1⟩
    go_wp2_with fail
    go_ret
    exact ⟨rfl, b1⟩
  | true =>
    rw [hv] at HV
    rw [Bool.true_and]
    clear hv
    have HIT := hide (fun k hk h => fine_hit (s := s) (k := k) hk h)
    have END := hide (fun h => fine_end (s := s) h)
    go_enter Tryd.func15, Tryd.ntmps15
    go_wp2_with fail
    refine HV.out.mono ?_
    rintro e w1 ⟨rfl, b1⟩
    clear HV
    go_wp2_with fail
    go_loopw [9] (fun i wr => ∃ k : Nat, k ≤ s.size ∧ i = .int .i64 k ∧ Hid (∀ j (_ : j < s.size), j < k → okAt s[j] (s.data.toList.drop j) = true) ∧ Below w.heap.size w wr) (fun i _ => s.size - (intOf i).toNat)
    case atStart => exact ⟨0, Nat.zero_le _, rfl, fun j _ h => by omega, b1⟩
    case round =>
      obtain ⟨k, hk, rfl, hd, hb⟩ := hrel
      by_cases hlt : k < s.size
      · have hbnd := hlt
        have HH := hide (fun w => isHigh_any s[k] w)
        have HO := hide (fun w => oneOf_new s[k] [letT, digT, fineSg] 3 _ 9 w rfl rfl (by decide))
        have HE := hide (fun w => isEscape_any (s.extract k s.size) w (by rw [ByteArray.size_extract]; omega))
        rw [from_txt] at HE
        have hI : (k : Int) < (s.size : Int) := by omega
        have hU : okAt s[k] (s.data.toList.drop k) = ((high s[k] || anyT [letT, digT, fineSg] s[k]) || escL (s.data.toList.drop k)) := by unfold okAt; rw [any_sign]
        have NX : okAt s[k] (s.data.toList.drop k) = true → Hid (∀ j (_ : j < s.size), j < k + 1 → okAt s[j] (s.data.toList.drop j) = true) := by
          intro h j hj hjk
          rcases Nat.lt_or_ge j k with q | q
          · exact hd.out j hj q
          · obtain rfl : j = k := by omega
            exact h
        have BAD := HIT.out k hlt
        clear HIT END hd b1
        cases h1 : high s[k] with
        | true =>
          have E := NX (by rw [hU, h1]; rfl)
          rw [h1] at HH
          clear NX BAD hU h1 HO HE
          go_wp2_with fail
          refine (HH.out _).mono ?_
          rintro e u ⟨rfl, rfl⟩
          go_wp2_with fail
          go_roundw
          case rel => exact ⟨k + 1, by omega, by go_num, E, hb⟩
          case measure => simp [intOf]; omega
        | false =>
          rw [h1] at HH
          cases h2 : anyT [letT, digT, fineSg] s[k] with
          | true =>
            have E := NX (by rw [hU, h1, h2]; rfl)
            rw [h2] at HO
            clear NX BAD hU h1 h2 HE
            go_wp2_with fail
            refine (HH.out _).mono ?_
            rintro e u ⟨rfl, rfl⟩
            go_wp2_with fail
            refine (HO.out _).mono ?_
            rintro e u ⟨rfl, b2⟩
            go_wp2_with fail
            go_roundw
            case rel => exact ⟨k + 1, by omega, by go_num, E, chain hb b2⟩
            case measure => simp [intOf]; omega
          | false =>
            rw [h2] at HO
            cases h3 : escL (s.data.toList.drop k) with
            | true =>
              have E := NX (by rw [hU, h1, h2, h3]; rfl)
              rw [h3] at HE
              clear NX BAD hU h1 h2 h3
              go_wp2_with fail
              refine (HH.out _).mono ?_
              rintro e u ⟨rfl, rfl⟩
              go_wp2_with fail
              refine (HO.out _).mono ?_
              rintro e u ⟨rfl, b2⟩
              go_wp2_with fail
              refine (HE.out _).mono ?_
              rintro e u ⟨rfl, b3⟩
              go_wp2_with fail
              go_roundw
              case rel => exact ⟨k + 1, by omega, by go_num, E, chain hb (chain b2 b3)⟩
              case measure => simp [intOf]; omega
            | false =>
              have E := hide (BAD (by rw [hU, h1, h2, h3]; rfl))
              rw [h3] at HE
              clear NX BAD hU h1 h2 h3
              go_wp2_with fail
              refine (HH.out _).mono ?_
              rintro e u ⟨rfl, rfl⟩
              go_wp2_with fail
              refine (HO.out _).mono ?_
              rintro e u ⟨rfl, b2⟩
              go_wp2_with fail
              refine (HE.out _).mono ?_
              rintro e u ⟨rfl, b3⟩
              go_wp2_with fail
              go_ret
              exact ⟨ret_bool E.out.symm, chain hb (chain b2 b3)⟩
      · obtain rfl : k = s.size := by omega
        have E := hide (END.out (fun j hj => hd.out j hj hj))
        clear hd HIT END b1
        go_wp2_with fail
        go_ret
        exact ⟨ret_bool E.out.symm, hb⟩

theorem up_hit {most n : Nat} {s : ByteArray} {k : Nat} (hk : k < s.size) : upF most n (s.data.toList.drop k) = (isDg s[k] && (decide (10 * n + (s[k].toNat - 48) ≤ most) && upF most (10 * n + (s[k].toNat - 48)) (s.data.toList.drop (k + 1)))) := by
  have hk2 : k < s.data.toList.length := by simpa using hk
  rw [List.drop_eq_getElem_cons hk2, at_list s k hk]
  rfl
theorem up_end {most n : Nat} {s : ByteArray} : upF most n (s.data.toList.drop s.size) = true := by
  rw [List.drop_of_length_le (by simp)]
  rfl
set_option maxHeartbeats 2000000 in
theorem isUpTo_any (s : ByteArray) (most : Nat) (w : World) (hs : s.size ≤ 100000) (hm : most ≤ 1000000) :
    Calls Tryd.prog 63 #[.string s, .int .i64 (most : Int)] w fun e w' => e = .returned (.bool (upL most s.data.toList)) ∧ Below w.heap.size w w' := by
  have E0 : Hid (upL most s.data.toList = upF most 0 (s.data.toList.drop 0)) := rfl
  have HIT := hide (fun n k hk => up_hit (most := most) (n := n) (s := s) (k := k) hk)
  have END := hide (fun n => up_end (most := most) (n := n) (s := s))
  go_enter Tryd.func63, Tryd.ntmps63
  go_wp2_with fail
  go_loopw [5, 9] (fun nv i wr => ∃ (k n : Nat), k ≤ s.size ∧ i = .int .i64 k ∧ nv = .int .i64 n ∧ n ≤ most ∧ Hid (upL most s.data.toList = upF most n (s.data.toList.drop k)) ∧ Below w.heap.size w wr) (fun _ i _ => s.size - (intOf i).toNat)
  case atStart => exact ⟨0, 0, Nat.zero_le _, rfl, rfl, Nat.zero_le _, E0, Below.refl _ _⟩
  case round =>
    obtain ⟨k, n, hk, rfl, rfl, hn, hd, hb⟩ := hrel
    by_cases hlt : k < s.size
    · have hbnd := hlt
      have HO := hide (fun w => oneOf_new s[k] [digT] 1 _ 9 w rfl rfl (by decide))
      rw [any_dig] at HO
      have U := hd.out.trans (HIT.out n k hlt)
      have hI : (k : Int) < (s.size : Int) := by omega
      clear HIT END E0 hd
      cases h1 : isDg s[k] with
      | false =>
        rw [h1] at HO U
        replace U := hide (U.trans (Bool.false_and _))
        clear h1
        go_wp2_with fail
        refine (HO.out _).mono ?_
        rintro e u ⟨rfl, b2⟩
        go_wp2_with fail
        go_ret
        exact ⟨ret_bool U.out.symm, chain hb b2⟩
      | true =>
        have hd2 := (isDg_iff s[k]).1 h1
        rw [h1] at HO U
        rw [Bool.true_and] at U
        by_cases g : 10 * n + (s[k].toNat - 48) ≤ most
        · rw [decide_eq_true g, Bool.true_and] at U
          replace U := hide U
          have d1 : 48 ≤ (s[k].toNat : Int) := by omega
          have d2 : (s[k].toNat : Int) ≤ 57 := by omega
          have d3 : (n : Int) * 10 + ((s[k].toNat : Int) - 48) ≤ (most : Int) := by omega
          have d4 : (n : Int) ≤ 1000000 := by omega
          have ev : (n : Int) * 10 + ((s[k].toNat : Int) - 48) = ((10 * n + (s[k].toNat - 48) : Nat) : Int) := by omega
          replace ev := hide ev
          replace g := hide g
          clear h1 hd2
          go_wp2_with fail
          refine (HO.out _).mono ?_
          rintro e u ⟨rfl, b2⟩
          go_wp2_with fail
          go_roundw
          case rel => exact ⟨k + 1, 10 * n + (s[k].toNat - 48), by omega, by go_num, by rw [← ev.out], g.out, U, chain hb b2⟩
          case measure => simp [intOf]; omega
        · rw [decide_eq_false g, Bool.false_and] at U
          replace U := hide U
          have d1 : 48 ≤ (s[k].toNat : Int) := by omega
          have d2 : (s[k].toNat : Int) ≤ 57 := by omega
          have d3 : (most : Int) < (n : Int) * 10 + ((s[k].toNat : Int) - 48) := by omega
          have d4 : (n : Int) ≤ 1000000 := by omega
          clear h1 hd2 g
          go_wp2_with fail
          refine (HO.out _).mono ?_
          rintro e u ⟨rfl, b2⟩
          go_wp2_with fail
          go_ret
          exact ⟨ret_bool U.out.symm, chain hb b2⟩
    · obtain rfl : k = s.size := by omega
      have E := hide (hd.out.trans (END.out n))
      clear hd HIT END E0
      go_wp2_with fail
      go_ret
      exact ⟨ret_bool E.out.symm, hb⟩

theorem name_hit {s : ByteArray} {k : Nat} (hk : k < s.size) (h : nameC s[k] = false) : labV s.data.toList = false := by
  unfold labV
  have : s.data.toList.all nameC = false := by
    rw [List.all_eq_false]
    refine ⟨s[k], ?_, by rw [h]; simp⟩
    rw [← at_list s k hk]; exact List.getElem_mem _
  rw [this]; rfl
theorem name_end {s : ByteArray} (h : ∀ k (_ : k < s.size), nameC s[k] = true) : labV s.data.toList = (!s.data.toList.isEmpty && Lib.validD s.data.toList) := by
  unfold labV
  have : s.data.toList.all nameC = true := by
    rw [List.all_eq_true]
    intro c hc
    obtain ⟨k, hk, rfl⟩ := List.getElem_of_mem hc
    have hk2 : k < s.size := by simpa using hk
    rw [at_list s k hk2]
    exact h k hk2
  rw [this]; rfl
set_option maxHeartbeats 2000000 in
theorem isLabel_any (s : ByteArray) (w : World) (hs : s.size ≤ 100000) (hT : LinkTabs w) :
    Calls Tryd.prog 48 #[.string s] w fun e w' => e = .returned (.bool (labV s.data.toList)) ∧ Below w.heap.size w w' := by
  have HIT := hide (fun k hk h => name_hit (s := s) (k := k) hk h)
  have END := hide (fun h => name_end (s := s) h)
  have HV := hide (fun w' (b : Below w.heap.size w w') => valid_any s w' (by omega) (hT.tabs.below b))
  rw [show validS s = Lib.validD s.data.toList from rfl] at HV
  clear hT
  go_enter Tryd.func48, Tryd.ntmps48
  go_wp2_with fail
  go_loopw [6] (fun i wr => ∃ k : Nat, k ≤ s.size ∧ i = .int .i64 k ∧ Hid (∀ j (_ : j < s.size), j < k → nameC s[j] = true) ∧ Below w.heap.size w wr) (fun i _ => s.size - (intOf i).toNat)
  case atStart => exact ⟨0, Nat.zero_le _, rfl, fun j _ h => by omega, Below.refl _ _⟩
  case round =>
    obtain ⟨k, hk, rfl, hd, hb⟩ := hrel
    by_cases hlt : k < s.size
    · have hbnd := hlt
      have HH := hide (fun w => isHigh_any s[k] w)
      have HO := hide (fun w => oneOf_new s[k] [letT, digT, [45, 95]] 3 _ 9 w rfl rfl (by decide))
      have hI : (k : Int) < (s.size : Int) := by omega
      have hU := (any_name s[k]).symm
      have NX : nameC s[k] = true → Hid (∀ j (_ : j < s.size), j < k + 1 → nameC s[j] = true) := by
        intro h j hj hjk
        rcases Nat.lt_or_ge j k with q | q
        · exact hd.out j hj q
        · obtain rfl : j = k := by omega
          exact h
      have BAD := HIT.out k hlt
      clear HIT END hd HV
      cases h1 : high s[k] with
      | true =>
        have E := NX (by rw [hU, h1]; rfl)
        rw [h1] at HH
        clear NX BAD hU h1 HO
        go_wp2_with fail
        refine (HH.out _).mono ?_
        rintro e u ⟨rfl, rfl⟩
        go_wp2_with fail
        go_roundw
        case rel => exact ⟨k + 1, by omega, by go_num, E, hb⟩
        case measure => simp [intOf]; omega
      | false =>
        rw [h1] at HH
        cases h2 : anyT [letT, digT, [45, 95]] s[k] with
        | true =>
          have E := NX (by rw [hU, h1, h2]; rfl)
          rw [h2] at HO
          clear NX BAD hU h1 h2
          go_wp2_with fail
          refine (HH.out _).mono ?_
          rintro e u ⟨rfl, rfl⟩
          go_wp2_with fail
          refine (HO.out _).mono ?_
          rintro e u ⟨rfl, b2⟩
          go_wp2_with fail
          go_roundw
          case rel => exact ⟨k + 1, by omega, by go_num, E, chain hb b2⟩
          case measure => simp [intOf]; omega
        | false =>
          have E := hide (BAD (by rw [hU, h1, h2]; rfl))
          rw [h2] at HO
          clear NX BAD hU h1 h2
          go_wp2_with fail
          refine (HH.out _).mono ?_
          rintro e u ⟨rfl, rfl⟩
          go_wp2_with fail
          refine (HO.out _).mono ?_
          rintro e u ⟨rfl, b2⟩
          go_wp2_with fail
          go_ret
          exact ⟨ret_bool E.out.symm, chain hb b2⟩
    · obtain rfl : k = s.size := by omega
      have E := END.out (fun j hj => hd.out j hj hj)
      clear hd HIT END
      by_cases hz : s.size = 0
      · have hn : s.data.toList = [] := List.eq_nil_of_length_eq_zero (by simpa using hz)
        have z0 : s.toList = [] := by rw [ByteArray.toList_eq]; exact hn
        rw [hn] at E
        replace E : Hid (labV s.data.toList = false) := by rw [hn]; exact E
        clear hz hn HV
        go_wp2_with fail
        go_ret
        exact ⟨ret_bool E.out.symm, hb⟩
      · have hn : ¬ s.data.toList = [] := fun e => hz (by have := congrArg List.length e; simpa using this)
        have z0 : ¬ s.toList = [] := by rw [ByteArray.toList_eq]; exact hn
        have z1 : s.toList.isEmpty = false := by
          cases hx : s.toList with
          | nil => exact absurd hx z0
          | cons => rfl
        have z2 : s.data.toList.isEmpty = false := by rw [← ByteArray.toList_eq]; exact z1
        rw [z2, Bool.not_false, Bool.true_and] at E
        replace E := hide E
        clear hz hn z2
        generalize Lib.validD s.data.toList = r at *
        go_wp2_with fail
        refine (HV.out _ hb).mono ?_
        rintro e u ⟨rfl, b2⟩
        go_wp2_with fail
        go_ret
        exact ⟨ret_bool E.out.symm, chain hb b2⟩

end Go.Proofs.YtkllknfgojjphaaDoor
