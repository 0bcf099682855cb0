/- The program's hosts, Address, List, Clean and Trim of mail: they answer by the functions of 'Mail'; what lay in the world lies there still. Conditions: texts of at most 100000 bytes; the library's variable MaxLen holds some number. -/
import Derived.Test.YtbnlliiimfjbpaaDoorMailProg1
import Derived.Test.YtbnlliiimfjbpaaDoorMailRef3
import Derived.Test.YtbnlliiimfjbpaaDoorStripProg
import Derived.Test.YtbnlliiimfjbpaaDoorEndsProg
namespace Go.Proofs.YtbnlliiimfjbpaaDoor
open Go.RowKit

/-- What the program's road names: the library's variable MaxLen holds some number. -/
def MailTabs (w : World) : Prop := SomeMax w
theorem MailTabs.below {w w' : World} (h : MailTabs w) (hb : Below w.heap.size w w') : MailTabs w' := SomeMax.below h hb

set_option maxHeartbeats 1000000 in
theorem isHost_any (s : ByteArray) (w : World) (hs : s.size ≤ 100000) (hm : MailTabs w) :
    Calls Tryd.prog 19 #[.string s] w fun e w' => e = .returned (.bool ((splitL 46 s.data.toList).all labelL)) ∧ Below w.heap.size w w' := by
  have HS := hide (split_any 46 s w (by omega) hm)
  have hls : s.data.toList.length = s.size := by simp
  have hcnt := split_count 46 s.data.toList
  have hmem := hide (fun p hp => Nat.le_trans (split_mem (c := 46) (l := s.data.toList) (p := p) hp) (show s.data.toList.length ≤ 100000 by omega))
  rw [hls] at hcnt
  clear hls hm
  generalize splitL 46 s.data.toList = ws at *
  go_enter Tryd.func19, Tryd.ntmps19
  go_wp2_with fail
  refine HS.out.mono ?_
  rintro e w1 ⟨g, rfl, hg, hr, b1⟩
  clear HS
  go_wp2_with fail
  go_loop [8] (fun i => ∃ j : Nat, j ≤ ws.length ∧ i = .int .i64 j ∧ Hid (∀ m (h : m < j) (h2 : m < ws.length), labelL ws[m] = true)) (fun i => ws.length - (intOf i).toNat)
  case atStart => exact ⟨0, Nat.zero_le _, rfl, fun m h => by omega⟩
  case round =>
    obtain ⟨j, hj, rfl, hd⟩ := hrel
    by_cases hjl : j < ws.length
    · have hc := hr.cells j hjl
      have hmm := hmem.out ws[j] (List.getElem_mem _)
      have HA := hide (fun w => isLabel_any (txt ws[j]) w (by rw [txt_size]; omega))
      rw [txt_data] at HA
      have j1 : (j : Int) < (ws.length : Int) := by omega
      cases hbb : labelL ws[j] with
      | false =>
        have E2 := hide (all_at (f := labelL) hjl hbb)
        rw [hbb] at HA
        clear hbb hd hmem hmm hr
        generalize txt ws[j] = t at *
        go_wp2_with fail
        refine (HA.out _).mono ?_
        rintro e u ⟨rfl, rfl⟩
        go_wp2_with fail
        go_ret
        exact ⟨ret_bool E2.out.symm, b1⟩
      | true =>
        have hd' : Hid (∀ m (h : m < j + 1) (h2 : m < ws.length), labelL ws[m] = true) := by
          intro m hm2 h2
          rcases Nat.lt_or_ge m j with q | q
          · exact hd.out m q h2
          · obtain rfl : m = j := by omega
            exact hbb
        rw [hbb] at HA
        clear hbb hd hmem hmm hr
        generalize txt ws[j] = t at *
        go_wp2_with fail
        refine (HA.out _).mono ?_
        rintro e u ⟨rfl, rfl⟩
        go_wp2_with fail
        go_round
        case rel => exact ⟨j + 1, by omega, by go_num, hd'⟩
        case measure => simp [intOf]; omega
    · obtain rfl : j = ws.length := by omega
      have E2 : Hid (ws.all labelL = true) := by
        show _ = _
        rw [List.all_eq_true]
        intro p hp
        obtain ⟨m, hm, e⟩ := List.getElem_of_mem hp
        rw [← e]
        exact hd.out m hm hm
      clear hd hmem hr
      go_wp2_with fail
      go_ret
      exact ⟨ret_bool E2.out.symm, b1⟩

set_option maxHeartbeats 1000000 in
theorem mailAddr_any (s : ByteArray) (w : World) (hs : s.size ≤ 100000) (hT : MailTabs w) :
    Calls Tryd.prog 7 #[.string s] w fun e w' => e = .returned (.bool (addrL s.data.toList)) ∧ Below w.heap.size w w' := by
  obtain ⟨l, rfl⟩ : ∃ l, s = txt l := ⟨s.data.toList, rfl⟩
  rw [txt_data]
  rw [txt_size] at hs
  by_cases h : (64 : UInt8) ∈ l
  · obtain ⟨a, b, rfl, ha⟩ := ix_first h
    have hlen : a.length + (b.length + 1) ≤ 100000 := by rw [List.length_append, List.length_cons] at hs; exact hs
    have HC := hide (cutc_some 64 a b w (by omega) hT ha)
    have E := addr_at b ha
    rw [user_made] at E
    have HM := hide (fun w => madeOf_any (txt a) ⟨#[46, 33, 35, 36, 37, 38, 39, 42, 43, 47, 61, 63, 94, 95, 123, 124, 125, 126, 45, 96]⟩ w (by rw [txt_size]; omega))
    rw [txt_data, show (⟨#[46, 33, 35, 36, 37, 38, 39, 42, 43, 47, 61, 63, 94, 95, 123, 124, 125, 126, 45, 96]⟩ : ByteArray).data.toList = mailSg from rfl] at HM
    have HH := hide (fun w' (bb : Below w.heap.size w w') => isHost_any (txt b) w' (by rw [txt_size]; omega) (hT.below bb))
    rw [txt_data] at HH
    clear hs h ha hT hlen
    cases a with
    | nil =>
      replace E := hide E
      have z0 : (txt ([] : List UInt8)).toList = [] := by rw [ByteArray.toList_eq, txt_data]
      generalize txt ([] ++ 64 :: b : List UInt8) = t at *
      generalize txt ([] : List UInt8) = ta at *
      clear HM HH
      go_enter Tryd.func7, Tryd.ntmps7
      go_wp2_with fail
      refine HC.out.mono ?_
      rintro e w1 ⟨rfl, b1⟩
      go_wp2_with fail
      go_ret
      exact ⟨ret_bool E.out.symm, b1⟩
    | cons x a =>
      have z0 : ¬ (txt (x :: a)).toList = [] := by rw [ByteArray.toList_eq, txt_data]; simp
      have z1 : (txt (x :: a)).toList.isEmpty = false := by rw [ByteArray.toList_eq, txt_data]; rfl
      generalize txt (x :: a ++ 64 :: b) = t at *
      generalize txt (x :: a) = ta at *
      cases hmd : madeL mailSg (x :: a) with
      | false =>
        rw [hmd] at E HM
        rw [Bool.and_false, Bool.false_and] at E
        replace E := hide E
        clear hmd HH
        go_enter Tryd.func7, Tryd.ntmps7
        go_wp2_with fail
        refine HC.out.mono ?_
        rintro e w1 ⟨rfl, b1⟩
        go_wp2_with fail
        refine (HM.out _).mono ?_
        rintro e u ⟨rfl, rfl⟩
        go_wp2_with fail
        go_ret
        exact ⟨ret_bool E.out.symm, b1⟩
      | true =>
        rw [hmd] at E HM
        rw [Bool.and_true, show (!(x :: a).isEmpty) = true from rfl, Bool.true_and] at E
        replace E := hide E
        clear hmd
        generalize (splitL 46 b).all labelL = r at *
        go_enter Tryd.func7, Tryd.ntmps7
        go_wp2_with fail
        refine HC.out.mono ?_
        rintro e w1 ⟨rfl, b1⟩
        go_wp2_with fail
        refine (HM.out _).mono ?_
        rintro e u ⟨rfl, rfl⟩
        go_wp2_with fail
        refine (HH.out _ b1).mono ?_
        rintro e w2 ⟨rfl, b2⟩
        go_wp2_with fail
        go_ret
        exact ⟨ret_bool E.out.symm, chain b1 b2⟩
  · have HC := hide (cutc_none 64 l w (by omega) hT h)
    have E := hide (addr_none h)
    clear h hT
    generalize txt l = t at *
    go_enter Tryd.func7, Tryd.ntmps7
    go_wp2_with fail
    refine HC.out.mono ?_
    rintro e w1 ⟨rfl, b1⟩
    go_wp2_with fail
    go_ret
    exact ⟨ret_bool E.out.symm, b1⟩

set_option maxHeartbeats 1000000 in
theorem mailList_any (s : ByteArray) (w : World) (hs : s.size ≤ 100000) (hT : MailTabs w) :
    Calls Tryd.prog 10 #[.string s] w fun e w' => e = .returned (.bool (listL s.data.toList)) ∧ Below w.heap.size w w' := by
  by_cases hz : s.size = 0
  · have E : Hid (listL s.data.toList = true) := by
      show _ = _
      have : s.data.toList = [] := List.eq_nil_of_length_eq_zero (by simpa using hz)
      rw [this]; decide
    have z0 : s.toList = [] := List.eq_nil_of_length_eq_zero (by rw [ByteArray.toList_eq]; simpa using hz)
    clear hz
    go_enter Tryd.func10, Tryd.ntmps10
    go_wp2_with fail
    go_ret
    exact ⟨ret_bool E.out.symm, Below.refl _ _⟩
  · have z0 : ¬ s.toList = [] := fun e => hz (by have := congrArg List.length e; rw [ByteArray.toList_eq] at this; simpa using this)
    have z1 : s.toList.isEmpty = false := by
      cases hx : s.toList with
      | nil => exact absurd hx z0
      | cons => rfl
    have E : Hid (listL s.data.toList = (splitL 44 s.data.toList).all fun p => addrL (stripL p)) := by
      show _ = _
      unfold listL
      have : s.data.toList.isEmpty = false := by
        cases e : s.data.toList with
        | nil => exact absurd (by have := congrArg List.length e; simpa using this) hz
        | cons => rfl
      rw [this]; rfl
    have HS := hide (split_any 44 s w (by omega) hT)
    have hls : s.data.toList.length = s.size := by simp
    have hcnt := split_count 44 s.data.toList
    have hmem := hide (fun p hp => Nat.le_trans (split_mem (c := 44) (l := s.data.toList) (p := p) hp) (show s.data.toList.length ≤ 100000 by omega))
    rw [hls] at hcnt
    have HT := hide hT
    clear hls hT hz
    generalize splitL 44 s.data.toList = ws at *
    go_enter Tryd.func10, Tryd.ntmps10
    go_wp2_with fail
    refine HS.out.mono ?_
    rintro e w1 ⟨g, rfl, hg, hr, b1⟩
    clear HS
    go_wp2_with fail
    go_loopw [10] (fun i wr => ∃ j : Nat, j ≤ ws.length ∧ i = .int .i64 j ∧ Hid (∀ m (h : m < j) (h2 : m < ws.length), addrL (stripL ws[m]) = true) ∧ Below w1.heap.size w1 wr) (fun i _ => ws.length - (intOf i).toNat)
    case atStart => exact ⟨0, Nat.zero_le _, rfl, fun m h => by omega, Below.refl _ _⟩
    case round =>
      obtain ⟨j, hj, rfl, hd, hb⟩ := hrel
      rename World => wr
      by_cases hjl : j < ws.length
      · have hc := (hr.below hb).cells j hjl
        have hmm := hmem.out ws[j] (List.getElem_mem _)
        have HP := hide (strip_any (txt ws[j]) wr (by rw [txt_size]; omega))
        have HA := hide (fun w' (bb : Below wr.heap.size wr w') => mailAddr_any (stripS (txt ws[j])) w' (by have := stripS_size (txt ws[j]); rw [txt_size] at this; omega) (HT.out.below (chain b1 (chain hb bb))))
        rw [show (stripS (txt ws[j])).data.toList = stripL ws[j] from rfl] at HA
        have j1 : (j : Int) < (ws.length : Int) := by omega
        cases hbb : addrL (stripL ws[j]) with
        | false =>
          have E2 := hide (E.out.trans (all_at (f := fun p => addrL (stripL p)) hjl hbb))
          rw [hbb] at HA
          clear hbb hd hmem hmm hr
          generalize stripS (txt ws[j]) = t2 at *
          generalize txt ws[j] = t at *
          go_wp2_with fail
          refine HP.out.mono ?_
          rintro e u1 ⟨rfl, c1⟩
          go_wp2_with fail
          refine (HA.out _ c1).mono ?_
          rintro e u2 ⟨rfl, c2⟩
          go_wp2_with fail
          go_ret
          exact ⟨ret_bool E2.out.symm, chain b1 (hb.trans ((chain c1 c2).mono hb.size))⟩
        | true =>
          have hd' : Hid (∀ m (h : m < j + 1) (h2 : m < ws.length), addrL (stripL ws[m]) = true) := by
            intro m hm2 h2
            rcases Nat.lt_or_ge m j with q | q
            · exact hd.out m q h2
            · obtain rfl : m = j := by omega
              exact hbb
          rw [hbb] at HA
          clear hbb hd hmem hmm hr
          generalize stripS (txt ws[j]) = t2 at *
          generalize txt ws[j] = t at *
          go_wp2_with fail
          refine HP.out.mono ?_
          rintro e u1 ⟨rfl, c1⟩
          go_wp2_with fail
          refine (HA.out _ c1).mono ?_
          rintro e u2 ⟨rfl, c2⟩
          go_wp2_with fail
          go_roundw
          case rel => exact ⟨j + 1, by omega, by go_num, hd', hb.trans ((chain c1 c2).mono hb.size)⟩
          case measure => simp [intOf]; omega
      · obtain rfl : j = ws.length := by omega
        have E2 : Hid (listL s.data.toList = true) := by
          show _ = _
          rw [E.out, List.all_eq_true]
          intro p hp
          obtain ⟨m, hm, e⟩ := List.getElem_of_mem hp
          rw [← e]
          exact hd.out m hm hm
        clear hd hmem hr
        go_wp2_with fail
        go_ret
        exact ⟨ret_bool E2.out.symm, chain b1 hb⟩

/-- The first j texts are stripped, the others as they were. -/
def partS (ws : List (List UInt8)) (j : Nat) : List (List UInt8) := (ws.take j).map stripL ++ ws.drop j
theorem partS_zero (ws : List (List UInt8)) : partS ws 0 = ws := rfl
theorem partS_len {ws : List (List UInt8)} {j : Nat} : (partS ws j).length = ws.length := by
  unfold partS
  rw [List.length_append, List.length_map, List.length_take, List.length_drop]; omega
theorem partS_all (ws : List (List UInt8)) : partS ws ws.length = ws.map stripL := by
  unfold partS
  rw [List.take_length, List.drop_length, List.append_nil]
theorem partS_at {ws : List (List UInt8)} {j : Nat} (hj : j < ws.length) (h2 : j < (partS ws j).length) : (partS ws j)[j] = ws[j] := by
  have hl : ((ws.take j).map stripL).length = j := by rw [List.length_map, List.length_take]; omega
  have h3 : (partS ws j)[j]? = ws[j]? := by
    unfold partS
    rw [List.getElem?_append_right (by omega), List.getElem?_drop]
    congr 1
    omega
  rw [List.getElem?_eq_getElem h2, List.getElem?_eq_getElem hj] at h3
  exact Option.some.inj h3
theorem partS_next {ws : List (List UInt8)} {j : Nat} (hj : j < ws.length) : (partS ws j).set j (stripL ws[j]) = partS ws (j + 1) := by
  have hl : ((ws.take j).map stripL).length = j := by rw [List.length_map, List.length_take]; omega
  unfold partS
  rw [List.set_append_right _ _ (by omega), hl, Nat.sub_self, List.drop_eq_getElem_cons hj, List.set_cons_zero, take_one hj, List.map_append, List.append_assoc]
  rfl

set_option maxHeartbeats 1000000 in
theorem mailClean_any (s : ByteArray) (w : World) (hs : s.size ≤ 100000) (hT : MailTabs w) :
    Calls Tryd.prog 12 #[.string s] w fun e w' => e = .returned (.string (txt (cleanM s.data.toList))) ∧ Below w.heap.size w w' := by
  have HS := hide (split_any 44 s w (by omega) hT)
  have E : Hid (cleanM s.data.toList = joinL 44 ((splitL 44 s.data.toList).map stripL)) := rfl
  have hls : s.data.toList.length = s.size := by simp
  have hcnt := split_count 44 s.data.toList
  have hsum := split_sum 44 s.data.toList
  have hmem := hide (fun p hp => Nat.le_trans (split_mem (c := 44) (l := s.data.toList) (p := p) hp) (show s.data.toList.length ≤ 100000 by omega))
  rw [hls] at hcnt hsum
  clear hls hT
  generalize splitL 44 s.data.toList = ws at *
  have JL : Hid ((joinL 44 (ws.map stripL)).length ≤ 4294967296) := by
    have := join_take_le ws ws.length
    rw [List.take_length] at this
    show _ ≤ _
    omega
  clear hsum
  go_enter Tryd.func12, Tryd.ntmps12
  go_wp2_with fail
  refine HS.out.mono ?_
  rintro e w1 ⟨g, rfl, hg, hr, b1⟩
  clear HS
  have R0 : RowT w1 g (partS ws 0) := hr
  clear hr
  go_wp2_with fail
  go_loopw [9] (fun i wr => ∃ j : Nat, j ≤ ws.length ∧ i = .int .i64 j ∧ RowT wr g (partS ws j) ∧ Below w.heap.size w wr) (fun i _ => ws.length - (intOf i).toNat)
  case atStart => exact ⟨0, Nat.zero_le _, rfl, R0, b1⟩
  case round =>
    obtain ⟨j, hj, rfl, hr, hb⟩ := hrel
    rename World => wr
    by_cases hjl : j < ws.length
    · have hj2 : j < (partS ws j).length := by rw [partS_len]; exact hjl
      have hc := hr.cells j hj2
      rw [partS_at hjl hj2] at hc
      have hmm := hmem.out ws[j] (List.getElem_mem _)
      have HP := hide (strip_any (txt ws[j]) wr (by rw [txt_size]; omega))
      have HR := hide (fun w' (bb : Below wr.heap.size wr w') => (hr.below bb).store hj2 (stripL ws[j]))
      rw [partS_next hjl, show txt (stripL ws[j]) = stripS (txt ws[j]) from rfl] at HR
      have HF := hide (fun w' (bb : Below wr.heap.size wr w') => (hr.below bb).free j)
      have HX := hide (fun w' (bb : Below wr.heap.size wr w') => (hr.below bb).cells j hj2)
      rw [partS_at hjl hj2] at HX
      have HB := hide (fun w' (bb : Below wr.heap.size wr w') => (chain hb bb).setCell (p := ⟨g, j, none⟩) hg (.string (stripS (txt ws[j]))))
      have j1 : (j : Int) < (ws.length : Int) := by omega
      clear hr hmm hmem R0
      generalize stripS (txt ws[j]) = t2 at *
      generalize txt ws[j] = t at *
      go_wp2_with fail
      refine HP.out.mono ?_
      rintro e u1 ⟨rfl, c1⟩
      have hf := HF.out u1 c1
      have hx := HX.out u1 c1
      go_wp2_with fail
      go_roundw
      case rel => exact ⟨j + 1, by omega, by go_num, HR.out _ c1, HB.out _ c1⟩
      case measure => simp [intOf]; omega
    · obtain rfl : j = ws.length := by omega
      rw [partS_all] at hr
      have HJ := hide (join_any 44 g ws.length (ws.map stripL) wr hr (by rw [List.length_map]; omega) (by rw [List.length_map]; omega) JL.out)
      rw [List.length_map, ← E.out] at HJ
      clear hmem hr R0
      go_wp2_with fail
      refine HJ.out.mono ?_
      rintro e u1 ⟨rfl, c1⟩
      go_wp2_with fail
      go_ret
      exact ⟨rfl, chain hb c1⟩

set_option maxHeartbeats 1000000 in
theorem mailTrim_any (s : ByteArray) (w : World) (hs : s.size ≤ 100000) (_hT : MailTabs w) :
    Calls Tryd.prog 13 #[.string s] w fun e w' => e = .returned (.string (txt (trimM s.data.toList))) ∧ Below w.heap.size w w' := by
  have HN := hide (noBreaks_any s w (by omega))
  have HT := hide (fun w => strip_any (noBreaksS s) w (by have := endsS_size ⟨#[]⟩ s (by decide); unfold noBreaksS; omega))
  rw [show stripS (noBreaksS s) = txt (trimM s.data.toList) from rfl] at HT
  generalize txt (trimM s.data.toList) = t at *
  generalize noBreaksS s = n at *
  go_enter Tryd.func13, Tryd.ntmps13
  go_wp2_with fail
  refine HN.out.mono ?_
  rintro e v1 ⟨rfl, b1⟩
  go_wp2_with fail
  refine (HT.out _).mono ?_
  rintro e v2 ⟨rfl, b2⟩
  go_wp2_with fail
  go_ret
  exact ⟨rfl, chain b1 b2⟩

end Go.Proofs.YtbnlliiimfjbpaaDoor
