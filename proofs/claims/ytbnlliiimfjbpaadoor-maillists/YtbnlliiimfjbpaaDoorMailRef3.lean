/- The document's List, Trim, Clean of mail: they answer by the functions of 'Mail'; what lay in the world lies there still. Condition: texts of at most 2^17 bytes. -/
import Derived.Test.YtbnlliiimfjbpaaDoorMailRef2
namespace Go.Proofs.YtbnlliiimfjbpaaDoor
open Go.RowKit

theorem strip_sum : ∀ (ws : List (List UInt8)) (k : Nat), ((((ws.take k).map stripL)).map List.length).sum ≤ (ws.map List.length).sum
  | [], k => by simp
  | a :: t, 0 => by simp
  | a :: t, k + 1 => by
    have ih := strip_sum t k
    have h := stripL_le a
    simp only [List.take_succ_cons, List.map_cons, List.sum_cons]
    omega
theorem join_take_le (ws : List (List UInt8)) (k : Nat) : (joinL 44 ((ws.take k).map stripL)).length ≤ (ws.map List.length).sum + ws.length := by
  have h1 := join_len 44 ((ws.take k).map stripL)
  have h2 := strip_sum ws k
  have h3 : ((ws.take k).map stripL).length ≤ ws.length := by rw [List.length_map]; exact List.length_take_le' ..
  omega
theorem take_one {α : Type} {ws : List α} {k : Nat} (hk : k < ws.length) : ws.take (k + 1) = ws.take k ++ [ws[k]] := by
  rw [List.take_succ_eq_append_getElem hk]
theorem join_first {ws : List (List UInt8)} (hk : 0 < ws.length) : joinL 44 ((ws.take (0 + 1)).map stripL) = stripL ws[0] := by
  rw [take_one hk]; rfl
theorem join_next {ws : List (List UInt8)} {k : Nat} (hk : k < ws.length) (h0 : k ≠ 0) : joinL 44 ((ws.take (k + 1)).map stripL) = joinL 44 ((ws.take k).map stripL) ++ [44] ++ stripL ws[k] := by
  rw [take_one hk, List.map_append]
  show joinL 44 (_ ++ [stripL ws[k]]) = _
  rw [join_snoc]
  · simp
  · intro e
    have := congrArg List.length e
    rw [List.length_map, List.length_take, List.length_nil] at this
    omega
theorem txt_plus (l k : List UInt8) : txt l ++ txt k = txt (l ++ k) := by
  apply ByteArray.ext
  rw [ByteArray.data_append]
  show l.toArray ++ k.toArray = (l ++ k).toArray
  simp

set_option maxHeartbeats 2000000 in
set_option maxRecDepth 100000 in
theorem refList_any (s : ByteArray) (w : World) (hs : s.size ≤ 131072) :
    Calls Tryd.prog 11 #[.string s] w fun e w' => e = .returned (.bool (listL s.data.toList)) ∧ Below w.heap.size w w' := by
  by_cases hz : s.size = 0
  · have E : Hid (listL s.data.toList = true) := by
      show _ = _
      have : s.data.toList = [] := List.eq_nil_of_length_eq_zero (by simpa using hz)
      rw [this]; decide
    have i0 : ((s.size : Int) == 0) = true := by rw [beq_iff_eq]; omega
    clear hz
    go_enter Tryd.func11, Tryd.ntmps11
    go_wp2_with fail
    go_ret
    exact ⟨ret_bool E.out.symm, Below.refl _ _⟩
  · have i0 : ((s.size : Int) == 0) = false := by rw [beq_eq_false_iff_ne]; omega
    have E : Hid (listL s.data.toList = (splitL 44 s.data.toList).all fun p => addrL (stripL p)) := by
      show _ = _
      unfold listL
      have : s.data.toList.isEmpty = false := by
        cases e : s.data.toList with
        | nil => exact absurd (by have := congrArg List.length e; simpa using this) hz
        | cons => rfl
      rw [this]; rfl
    have HS := hide (refSplit_any s 44 w (by omega))
    have hne := split_ne 44 s.data.toList
    have hcnt := split_count 44 s.data.toList
    have hls : s.data.toList.length = s.size := by simp
    have hmem := hide (fun p hp => Nat.le_trans (split_mem (c := 44) (l := s.data.toList) (p := p) hp) (show s.data.toList.length ≤ 131072 by omega))
    rw [hls] at hcnt
    clear hz hls
    generalize splitL 44 s.data.toList = ws at *
    go_enter Tryd.func11, Tryd.ntmps11
    go_wp2_with fail
    refine HS.out.mono ?_
    rintro e w1 ⟨v, rfl, hv, b1⟩
    obtain ⟨g, cap, rfl, hg, hcells⟩ := row_form hv hne
    have HC := hide hcells
    clear hcells hv HS
    go_wp2_with fail
    go_loopw [4] (fun i wr => ∃ j : Nat, j ≤ ws.length ∧ i = .int .i64 j ∧ Hid (∀ m (h : m < j) (h2 : m < ws.length), addrL (stripL ws[m]) = true) ∧ Below w1.heap.size w1 wr) (fun i _ => ws.length - (intOf i).toNat)
    case atStart => exact ⟨0, Nat.zero_le _, rfl, fun m h => by omega, Below.refl _ _⟩
    case round =>
      obtain ⟨j, hj, rfl, hd, hb⟩ := hrel
      rename World => wr
      by_cases hjl : j < ws.length
      · have hc := (hb.cell (p := ⟨g, j, none⟩) hg).trans (HC.out j hjl)
        have hm := hmem.out ws[j] (List.getElem_mem _)
        have HT := hide (refStrip_any (txt ws[j]) wr (by rw [txt_size]; omega))
        have HA := hide (fun w => refAddr_any (stripS (txt ws[j])) w (by have := stripS_size (txt ws[j]); rw [txt_size] at this; omega))
        rw [show (stripS (txt ws[j])).data.toList = stripL ws[j] from rfl] at HA
        have j1 : (j : Int) < (ws.length : Int) := by omega
        cases hbb : addrL (stripL ws[j]) with
        | false =>
          have E2 := hide (E.out.trans (all_at (f := fun p => addrL (stripL p)) hjl hbb))
          rw [hbb] at HA
          clear hbb hd hmem HC hm
          generalize stripS (txt ws[j]) = t2 at *
          generalize txt ws[j] = t at *
          go_wp2_with fail
          refine HT.out.mono ?_
          rintro e u1 ⟨rfl, c1⟩
          go_wp2_with fail
          refine (HA.out _).mono ?_
          rintro e u2 ⟨rfl, c2⟩
          go_wp2_with fail
          go_ret
          exact ⟨ret_bool E2.out.symm, chain b1 (hb.trans ((chain c1 c2).mono hb.size))⟩
        | true =>
          have hd' : Hid (∀ m (h : m < j + 1) (h2 : m < ws.length), addrL (stripL ws[m]) = true) := by
            intro m hm2 h2
            rcases Nat.lt_or_ge m j with q | q
            · exact hd.out m q h2
            · obtain rfl : m = j := by omega
              exact hbb
          rw [hbb] at HA
          clear hbb hd hmem HC hm
          generalize stripS (txt ws[j]) = t2 at *
          generalize txt ws[j] = t at *
          go_wp2_with fail
          refine HT.out.mono ?_
          rintro e u1 ⟨rfl, c1⟩
          go_wp2_with fail
          refine (HA.out _).mono ?_
          rintro e u2 ⟨rfl, c2⟩
          go_wp2_with fail
          go_roundw
          case rel => exact ⟨j + 1, by omega, by go_num, hd', hb.trans ((chain c1 c2).mono hb.size)⟩
          case measure => simp [intOf]; omega
      · obtain rfl : j = ws.length := by omega
        have E2 : Hid (listL s.data.toList = true) := by
          show _ = _
          rw [E.out, List.all_eq_true]
          intro p hp
          obtain ⟨m, hm, e⟩ := List.getElem_of_mem hp
          rw [← e]
          exact hd.out m hm hm
        clear hd hmem HC
        go_wp2_with fail
        go_ret
        exact ⟨ret_bool E2.out.symm, chain b1 hb⟩

set_option maxHeartbeats 1000000 in
theorem refTrim_any (s : ByteArray) (w : World) (hs : s.size ≤ 131072) :
    Calls Tryd.prog 15 #[.string s] w fun e w' => e = .returned (.string (txt (trimM s.data.toList))) ∧ Below w.heap.size w w' := by
  have HN := hide (refNoBreaks_any s w (by omega))
  have HT := hide (fun w => refStrip_any (noBreaksS s) w (by have := endsS_size ⟨#[]⟩ s (by decide); unfold noBreaksS; omega))
  rw [show stripS (noBreaksS s) = txt (trimM s.data.toList) from rfl] at HT
  generalize txt (trimM s.data.toList) = t at *
  generalize noBreaksS s = n at *
  go_enter Tryd.func15, Tryd.ntmps15
  go_wp2_with fail
  refine HN.out.mono ?_
  rintro e v1 ⟨rfl, b1⟩
  go_wp2_with fail
  refine (HT.out _).mono ?_
  rintro e v2 ⟨rfl, b2⟩
  go_wp2_with fail
  go_ret
  exact ⟨rfl, chain b1 b2⟩

set_option maxHeartbeats 2000000 in
set_option maxRecDepth 100000 in
theorem refCleanM_any (s : ByteArray) (w : World) (hs : s.size ≤ 131072) :
    Calls Tryd.prog 14 #[.string s] w fun e w' => e = .returned (.string (txt (cleanM s.data.toList))) ∧ Below w.heap.size w w' := by
  have HS := hide (refSplit_any s 44 w (by omega))
  have E : Hid (cleanM s.data.toList = joinL 44 ((splitL 44 s.data.toList).map stripL)) := rfl
  have hne := split_ne 44 s.data.toList
  have hcnt := split_count 44 s.data.toList
  have hsum := split_sum 44 s.data.toList
  have hls : s.data.toList.length = s.size := by simp
  have hmem := hide (fun p hp => Nat.le_trans (split_mem (c := 44) (l := s.data.toList) (p := p) hp) (show s.data.toList.length ≤ 131072 by omega))
  rw [hls] at hcnt hsum
  clear hls
  generalize splitL 44 s.data.toList = ws at *
  have JL : Hid (∀ k, (joinL 44 ((ws.take k).map stripL)).length ≤ 262146) := fun k => by have := join_take_le ws k; omega
  clear hsum
  go_enter Tryd.func14, Tryd.ntmps14
  go_wp2_with fail
  refine HS.out.mono ?_
  rintro e w1 ⟨v, rfl, hv, b1⟩
  obtain ⟨g, cap, rfl, hg, hcells⟩ := row_form hv hne
  have HC := hide hcells
  clear hcells hv HS
  go_wp2_with fail
  go_loopw [4, 5] (fun o i wr => ∃ j : Nat, j ≤ ws.length ∧ i = .int .i64 j ∧ o = .string (txt (joinL 44 ((ws.take j).map stripL))) ∧ Below w1.heap.size w1 wr) (fun _ i _ => ws.length - (intOf i).toNat)
  case atStart => exact ⟨0, Nat.zero_le _, rfl, rfl, Below.refl _ _⟩
  case round =>
    obtain ⟨j, hj, rfl, rfl, hb⟩ := hrel
    rename World => wr
    by_cases hjl : j < ws.length
    · have hc := (hb.cell (p := ⟨g, j, none⟩) hg).trans (HC.out j hjl)
      have hm := hmem.out ws[j] (List.getElem_mem _)
      have HT := hide (refStrip_any (txt ws[j]) wr (by rw [txt_size]; omega))
      have z2 : (stripS (txt ws[j])).size ≤ 131072 := by have := stripS_size (txt ws[j]); rw [txt_size] at this; omega
      have z1 : (txt (joinL 44 ((ws.take j).map stripL))).size ≤ 262146 := JL.out j
      have j1 : (j : Int) < (ws.length : Int) := by omega
      have zc : (⟨#[44]⟩ : ByteArray).size = 1 := rfl
      by_cases h0 : j = 0
      · subst h0
        have EQ : Hid (txt (joinL 44 ((ws.take (0 + 1)).map stripL)) = txt (joinL 44 ((ws.take 0).map stripL)) ++ stripS (txt ws[0])) := by
          show _ = _
          rw [join_first hjl]
          show txt (stripL ws[0]) = txt [] ++ txt (stripL ws[0])
          rw [txt_plus]; rfl
        have p1 := fun w => run_string_add_sum (P := Tryd.prog) w (txt (joinL 44 ((ws.take 0).map stripL))) (stripS (txt ws[0])) (by omega)
        have RD : Hid (∀ u, u = txt (joinL 44 ((ws.take 0).map stripL)) ++ stripS (txt ws[0]) → Value.string u = .string (txt (joinL 44 ((ws.take (0 + 1)).map stripL)))) := fun u hu => by rw [hu, EQ.out]
        clear EQ hmem HC hm JL
        generalize txt (joinL 44 ((ws.take 0).map stripL)) ++ stripS (txt ws[0]) = s2 at *
        generalize txt (joinL 44 ((ws.take 0).map stripL)) = s0 at *
        generalize stripS (txt ws[0]) = t2 at *
        generalize txt ws[0] = t at *
        go_wp2_with fail
        refine HT.out.mono ?_
        rintro e u1 ⟨rfl, c1⟩
        go_wp2_with fail
        go_roundw
        case rel => exact ⟨0 + 1, by omega, by go_num, RD.out _ rfl, hb.trans (c1.mono hb.size)⟩
        case measure => simp [intOf]; omega
      · have EQ : Hid (txt (joinL 44 ((ws.take (j + 1)).map stripL)) = txt (joinL 44 ((ws.take j).map stripL)) ++ ⟨#[44]⟩ ++ stripS (txt ws[j])) := by
          show _ = _
          rw [join_next hjl h0]
          show _ = txt _ ++ txt [44] ++ txt (stripL ws[j])
          rw [txt_plus, txt_plus]
        have p1 := fun w => run_string_add_sum (P := Tryd.prog) w (txt (joinL 44 ((ws.take j).map stripL))) ⟨#[44]⟩ (by omega)
        have p2 := fun w => run_string_add_sum (P := Tryd.prog) w (txt (joinL 44 ((ws.take j).map stripL)) ++ ⟨#[44]⟩) (stripS (txt ws[j])) (by rw [ByteArray.size_append]; omega)
        have RD : Hid (∀ u, u = txt (joinL 44 ((ws.take j).map stripL)) ++ ⟨#[44]⟩ ++ stripS (txt ws[j]) → Value.string u = .string (txt (joinL 44 ((ws.take (j + 1)).map stripL)))) := fun u hu => by rw [hu, EQ.out]
        have j0 : (0 : Int) < (j : Int) := by omega
        clear EQ hmem HC hm JL h0
        generalize txt (joinL 44 ((ws.take j).map stripL)) ++ ⟨#[44]⟩ ++ stripS (txt ws[j]) = s2 at *
        generalize txt (joinL 44 ((ws.take j).map stripL)) ++ ⟨#[44]⟩ = s1 at *
        generalize txt (joinL 44 ((ws.take j).map stripL)) = s0 at *
        generalize stripS (txt ws[j]) = t2 at *
        generalize txt ws[j] = t at *
        go_wp2_with fail
        refine HT.out.mono ?_
        rintro e u1 ⟨rfl, c1⟩
        go_wp2_with fail
        go_roundw
        case rel => exact ⟨j + 1, by omega, by go_num, RD.out _ rfl, hb.trans (c1.mono hb.size)⟩
        case measure => simp [intOf]; omega
    · obtain rfl : j = ws.length := by omega
      have E2 : Hid (txt (joinL 44 ((ws.take ws.length).map stripL)) = txt (cleanM s.data.toList)) := by
        show _ = _
        rw [E.out, List.take_length]
      clear hmem HC JL
      generalize txt (joinL 44 ((ws.take ws.length).map stripL)) = s0 at *
      go_wp2_with fail
      go_ret
      exact ⟨ret_str E2.out, chain b1 hb⟩

end Go.Proofs.YtbnlliiimfjbpaaDoor
