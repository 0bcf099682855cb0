/- The program's Host, servers, Scheme and Absolute of layer 8: they answer by the functions of 'Link'; what lay in the world lies there still. Conditions: texts of at most 100000 bytes; the library's tables hold what the program's text lays. -/
import Derived.OwnWalk
import Derived.Deep.QuietTactic
import Derived.BigQuiet
import Derived.Test.YtkllknfgojjphaaDoorLinkProg3
import Derived.Test.YtkllknfgojjphaaDoorLinkRef2
namespace Go.Proofs.YtkllknfgojjphaaDoor
open Go.RowKit

theorem drewL_low (w : World) (q : Nat) : Below w.heap.size w (w.drewN q) := ⟨rfl, rfl, rfl, Nat.le_refl _, fun _ _ => rfl⟩
theorem pre_no {l p : List UInt8} (h : Lib.hasPrefix l p = false) : Lib.trimPrefix l p = l := by unfold Lib.trimPrefix; rw [h]; rfl
theorem pre_yes {l p : List UInt8} (h : Lib.hasPrefix l p = true) : Lib.trimPrefix l p = l.drop p.length := by unfold Lib.trimPrefix; rw [h]; rfl
theorem suf_len (t p : List UInt8) : (Lib.trimSuffix t p).length ≤ t.length := by
  unfold Lib.trimSuffix
  split
  · rw [List.length_take]; omega
  · exact Nat.le_refl _
set_option maxHeartbeats 2000000 in
theorem host_list (l : List UInt8) (w : World) (hs : l.length ≤ 100000) (hT : LinkTabs w) :
    Calls Tryd.prog 13 #[.string (txt l)] w fun e w' => e = .returned (.bool (hostL l)) ∧ Below w.heap.size w w' := by
  have HC := hide (cutPre_is l [91] w)
  rcases host_shape l with h | ⟨t, rfl⟩
  · have E := hide (hostQ_name h)
    rw [h, pre_no h] at HC
    have HN := hide (isName_any l w hs hT)
    clear h hT
    generalize nameL l = r at *
    generalize txt l = tl at *
    go_enter Tryd.func13, Tryd.ntmps13
    go_wp2_with fail
    refine (HC.out).mono ?_
    rintro e u1 ⟨rfl, rfl⟩
    go_wp2_with fail
    refine (HN.out).mono ?_
    rintro e u2 ⟨rfl, b2⟩
    go_wp2_with fail
    go_ret
    exact ⟨ret_bool E.out.symm, b2⟩
  · have hp : Lib.hasPrefix (91 :: t) [91] = true := rfl
    rw [hp, pre_yes hp] at HC
    rw [show (91 :: t).drop [(91 : UInt8)].length = t from rfl] at HC
    have ht : t.length ≤ 100000 := by rw [List.length_cons] at hs; omega
    have HS := hide (cutSuf_is t [93] w (by omega))
    have E := hostQ_six (t := t)
    have hl := suf_len t [93]
    have HG := hide (isGroups_any (Lib.trimSuffix t [93]) w (by omega) hT)
    clear hT hp hl hs ht
    generalize txt (91 :: t) = tl at *
    generalize txt t = tt at *
    cases hv : Lib.hasSuffix t [93] with
    | false =>
      rw [hv] at HS
      rw [hv, Bool.false_and] at E
      replace E := hide E
      clear hv HG
      generalize txt (Lib.trimSuffix t [93]) = ti at *
      go_enter Tryd.func13, Tryd.ntmps13
      go_wp2_with fail
      refine (HC.out).mono ?_
      rintro e u1 ⟨rfl, rfl⟩
      go_wp2_with fail
      refine (HS.out).mono ?_
      rintro e u2 ⟨rfl, rfl⟩
      go_wp2_with fail
      go_ret
      exact ⟨ret_bool E.out.symm, Below.refl _ _⟩
    | true =>
      rw [hv] at HS
      rw [hv, Bool.true_and] at E
      replace E := hide E
      clear hv
      generalize sixL (Lib.trimSuffix t [93]) = r at *
      generalize txt (Lib.trimSuffix t [93]) = ti at *
      go_enter Tryd.func13, Tryd.ntmps13
      go_wp2_with fail
      refine (HC.out).mono ?_
      rintro e u1 ⟨rfl, rfl⟩
      go_wp2_with fail
      refine (HS.out).mono ?_
      rintro e u2 ⟨rfl, rfl⟩
      go_wp2_with fail
      refine (HG.out).mono ?_
      rintro e u3 ⟨rfl, b3⟩
      go_wp2_with fail
      go_ret
      exact ⟨ret_bool E.out.symm, b3⟩

theorem linkHost_any (s : ByteArray) (w : World) (hs : s.size ≤ 100000) (hT : LinkTabs w) :
    Calls Tryd.prog 13 #[.string s] w fun e w' => e = .returned (.bool (hostL s.data.toList)) ∧ Below w.heap.size w w' := host_list s.data.toList w (by simpa using hs) hT
theorem fine_list (l : List UInt8) (w : World) (hs : l.length ≤ 100000) (hT : LinkTabs w) :
    Calls Tryd.prog 15 #[.string (txt l)] w fun e w' => e = .returned (.bool (fineL l)) ∧ Below w.heap.size w w' := linkFine_any (txt l) w hs hT
theorem ex_take (l : List UInt8) (k : Nat) : (txt l).extract 0 k = txt (l.take k) := by
  apply ByteArray.ext
  apply Array.ext'
  show ((txt l).extract 0 k).data.toList = l.take k
  rw [ByteArray.data_extract, Array.toList_extract]
  simp [txt]
theorem ex_drop (l : List UInt8) (k : Nat) : (txt l).extract k (txt l).size = txt (l.drop k) := by
  apply ByteArray.ext
  apply Array.ext'
  show ((txt l).extract k (txt l).size).data.toList = l.drop k
  rw [ByteArray.data_extract, Array.toList_extract]
  exact List.take_of_length_le (by simp [txt]; rw [show (ByteArray.mk l.toArray).size = l.length from rfl]; omega)

set_option maxHeartbeats 2000000 in
theorem port_list (l : List UInt8) (w : World) (hs : l.length ≤ 100000) (hT : LinkTabs w) :
    Calls Tryd.prog 66 #[.string (txt l)] w fun e w' => e = .returned (.bool (portL l)) ∧ Below w.heap.size w w' := by
  have HH := hide (host_list l w hs hT)
  have E := port_is l
  unfold portQ at E
  cases hv : hostL l with
  | true =>
    rw [hv] at HH
    rw [hv, Bool.true_or] at E
    replace E := hide E.symm
    clear hv hT
    generalize txt l = tl at *
    go_enter Tryd.func66, Tryd.ntmps66
    go_wp2_with fail
    refine (HH.out).mono ?_
    rintro e u1 ⟨rfl, b1⟩
    go_wp2_with fail
    go_ret
    exact ⟨ret_bool E.out.symm, b1⟩
  | false =>
    rw [hv] at HH
    rw [hv, Bool.false_or] at E
    have HL := hide (fun w => lastIx_is l 58 w (by omega))
    have hge := last_ge 58 l
    have hlt := last_lt 58 l
    have hz : (txt l).size = l.length := rfl
    by_cases g : 0 ≤ lastL 58 l
    · obtain ⟨k, ek⟩ : ∃ k : Nat, lastL 58 l = (k : Int) := ⟨(lastL 58 l).toNat, by omega⟩
      rw [ek] at HL hlt E
      rw [decide_eq_true (by omega), Bool.true_and, show ((k : Int)).toNat = k by omega] at E
      have HA := hide (fun w' (bb : Below w.heap.size w w') => host_list (l.take k) w' (by rw [List.length_take]; omega) (hT.below bb))
      have HB := hide (fun w => isUpTo_any (txt (l.drop (k + 1))) 65535 w (by rw [txt_size, List.length_drop]; omega) (by decide))
      rw [txt_data, show (((65535 : Nat) : Int)) = 65535 from rfl, ← ex_drop] at HB
      rw [← ex_take] at HA
      have hk : k < (txt l).size := by omega
      have hk1 : k + 1 ≤ (txt l).size := by omega
      have hki : (k : Int) < ((txt l).size : Int) := by omega
      have hsz : (txt l).size ≤ 100000 := by omega
      clear hv hT ek hge g hz hlt
      generalize hostL (l.take k) = r1 at *
      generalize upL 65535 (l.drop (k + 1)) = r2 at *
      generalize txt l = tl at *
      cases r1 with
      | false =>
        rw [Bool.false_and] at E
        replace E := hide E.symm
        go_enter Tryd.func66, Tryd.ntmps66
        go_wp2_with fail
        refine (HH.out).mono ?_
        rintro e u1 ⟨rfl, b1⟩
        go_wp2_with fail
        refine (HL.out _).mono ?_
        rintro e u2 ⟨rfl, rfl⟩
        go_wp2_with fail
        refine (HA.out _ b1).mono ?_
        rintro e u3 ⟨rfl, c3⟩
        have b3 := chain b1 c3
        clear c3
        go_wp2_with fail
        go_ret
        exact ⟨ret_bool E.out.symm, b3⟩
      | true =>
        rw [Bool.true_and] at E
        replace E := hide E.symm
        go_enter Tryd.func66, Tryd.ntmps66
        go_wp2_with fail
        refine (HH.out).mono ?_
        rintro e u1 ⟨rfl, b1⟩
        go_wp2_with fail
        refine (HL.out _).mono ?_
        rintro e u2 ⟨rfl, rfl⟩
        go_wp2_with fail
        refine (HA.out _ b1).mono ?_
        rintro e u3 ⟨rfl, c3⟩
        have b3 := chain b1 c3
        clear c3
        go_wp2_with fail
        refine (HB.out _).mono ?_
        rintro e u4 ⟨rfl, c4⟩
        have b4 := chain b3 c4
        clear c4
        go_wp2_with fail
        go_ret
        exact ⟨ret_bool E.out.symm, b4⟩
    · have ek : lastL 58 l = -1 := by omega
      rw [ek] at HL
      rw [decide_eq_false g, Bool.false_and] at E
      replace E := hide E.symm
      clear hv hT ek hge g hz hlt
      generalize txt l = tl at *
      go_enter Tryd.func66, Tryd.ntmps66
      go_wp2_with fail
      refine (HH.out).mono ?_
      rintro e u1 ⟨rfl, b1⟩
      go_wp2_with fail
      refine (HL.out _).mono ?_
      rintro e u2 ⟨rfl, rfl⟩
      go_wp2_with fail
      go_ret
      exact ⟨ret_bool E.out.symm, b1⟩

set_option maxHeartbeats 2000000 in
theorem site_list (l : List UInt8) (w : World) (hs : l.length ≤ 100000) (hT : LinkTabs w) :
    Calls Tryd.prog 56 #[.string (txt l)] w fun e w' => e = .returned (.bool (serverL l)) ∧ Below w.heap.size w w' := by
  have HC := hide (cutc_is 64 l w (by omega) hT.max)
  have E := server_is l
  cases hv : hasB l 64 with
  | false =>
    rw [hv] at HC
    rw [hv, if_neg (by simp)] at E
    replace E := hide E
    have HP := hide (fun w' (bb : Below w.heap.size w w') => port_list l w' hs (hT.below bb))
    clear hv hT
    generalize portL l = r at *
    generalize txt l = tl at *
    generalize txt (headL 64 l) = th at *
    generalize txt (tailL 64 l) = tt at *
    go_enter Tryd.func56, Tryd.ntmps56
    go_wp2_with fail
    refine (HC.out).mono ?_
    rintro e u1 ⟨rfl, b1⟩
    go_wp2_with fail
    refine (HP.out _ b1).mono ?_
    rintro e u2 ⟨rfl, c2⟩
    have b2 := chain b1 c2
    clear c2
    go_wp2_with fail
    go_ret
    exact ⟨ret_bool E.out.symm, b2⟩
  | true =>
    rw [hv] at HC
    rw [hv, if_pos rfl] at E
    have h1 := head_len 64 l
    have h2 := tail_len 64 l
    have HF := hide (fun w' (bb : Below w.heap.size w w') => fine_list (headL 64 l) w' (by omega) (hT.below bb))
    have HP := hide (fun w' (bb : Below w.heap.size w w') => port_list (tailL 64 l) w' (by omega) (hT.below bb))
    clear hv hT h1 h2
    generalize fineL (headL 64 l) = r1 at *
    generalize portL (tailL 64 l) = r2 at *
    generalize txt l = tl at *
    generalize txt (headL 64 l) = th at *
    generalize txt (tailL 64 l) = tt at *
    cases r1 with
    | false =>
      rw [Bool.false_and] at E
      replace E := hide E
      go_enter Tryd.func56, Tryd.ntmps56
      go_wp2_with fail
      refine (HC.out).mono ?_
      rintro e u1 ⟨rfl, b1⟩
      go_wp2_with fail
      refine (HF.out _ b1).mono ?_
      rintro e u2 ⟨rfl, c2⟩
      have b2 := chain b1 c2
      clear c2
      go_wp2_with fail
      go_ret
      exact ⟨ret_bool E.out.symm, b2⟩
    | true =>
      rw [Bool.true_and] at E
      replace E := hide E
      go_enter Tryd.func56, Tryd.ntmps56
      go_wp2_with fail
      refine (HC.out).mono ?_
      rintro e u1 ⟨rfl, b1⟩
      go_wp2_with fail
      refine (HF.out _ b1).mono ?_
      rintro e u2 ⟨rfl, c2⟩
      have b2 := chain b1 c2
      clear c2
      go_wp2_with fail
      refine (HP.out _ b2).mono ?_
      rintro e u3 ⟨rfl, c3⟩
      have b3 := chain b2 c3
      clear c3
      go_wp2_with fail
      go_ret
      exact ⟨ret_bool E.out.symm, b3⟩

set_option maxHeartbeats 2000000 in
theorem cutSite_no (l : List UInt8) (w : World) (h : twoB l = false) :
    Calls Tryd.prog 55 #[.string (txt l)] w fun e w' => e = .returned (.tuple #[.string ⟨#[]⟩, .string ⟨#[]⟩, .bool false]) ∧ w' = w := by
  have HC := hide (cutPre_is l [47, 47] w)
  rw [two_is, h, pre_no (by rw [two_is]; exact h)] at HC
  clear h
  generalize txt l = tl at *
  go_enter Tryd.func55, Tryd.ntmps55
  go_wp2_with fail
  refine (HC.out).mono ?_
  rintro e u1 ⟨rfl, rfl⟩
  go_wp2_with fail
  go_ret3
  exact ⟨rfl, rfl⟩

set_option maxHeartbeats 2000000 in
theorem cutSite_yes (l : List UInt8) (w : World) (hs : l.length ≤ 100000) (h : twoB l = true) :
    Calls Tryd.prog 55 #[.string (txt l)] w fun e w' => e = .returned (.tuple #[.string (txt (nameOf l)), .string (txt (pathOf l)), .bool true]) ∧ Below w.heap.size w w' := by
  have HC := hide (cutPre_is l [47, 47] w)
  have h2 : Lib.hasPrefix l [47, 47] = true := by rw [two_is]; exact h
  rw [h2, pre_yes h2, show [(47 : UInt8), 47].length = 2 from rfl] at HC
  have hd : (l.drop 2).length ≤ 100000 := by rw [List.length_drop]; omega
  unfold nameOf pathOf
  clear h h2
  generalize l.drop 2 = m at *
  have HI := hide (fun w => indexFirst_is m 47 w)
  have hz : (txt m).size = m.length := rfl
  have hle := first_le 47 m
  by_cases g : firstL 47 m < m.length
  · rw [if_pos g] at HI
    rw [← ex_take, ← ex_drop]
    have hk : firstL 47 m < (txt m).size := by omega
    have hk2 : firstL 47 m ≤ (txt m).size := by omega
    have hsz : (txt m).size ≤ 100000 := by omega
    have hki : ¬ ((firstL 47 m : Nat) : Int) < 0 := by omega
    clear g hle hd
    generalize firstL 47 m = k at *
    generalize txt l = tl at *
    generalize txt m = tm at *
    clear hz
    go_enter Tryd.func55, Tryd.ntmps55
    go_wp2_with fail
    refine (HC.out).mono ?_
    rintro e u1 ⟨rfl, rfl⟩
    go_wp2_with fail
    refine (HI.out _).mono ?_
    rintro e u2 ⟨rfl, rfl⟩
    go_wp2_with fail
    go_quiet (fail)
    go_wp2_with fail
    go_ret3
    exact ⟨rfl, drewL_low _ _⟩
  · rw [if_neg g] at HI
    have ek : firstL 47 m = m.length := by omega
    rw [ek, List.take_length, List.drop_length, show txt ([] : List UInt8) = ByteArray.empty from rfl]
    have hsz : (txt m).size ≤ 100000 := by omega
    clear g hle hd ek hz
    generalize txt l = tl at *
    generalize txt m = tm at *
    go_enter Tryd.func55, Tryd.ntmps55
    go_wp2_with fail
    refine (HC.out).mono ?_
    rintro e u1 ⟨rfl, rfl⟩
    go_wp2_with fail
    refine (HI.out _).mono ?_
    rintro e u2 ⟨rfl, rfl⟩
    go_wp2_with fail
    go_quiet (fail)
    go_wp2_with fail
    go_ret3
    exact ⟨rfl, drewL_low _ _⟩

end Go.Proofs.YtkllknfgojjphaaDoor
