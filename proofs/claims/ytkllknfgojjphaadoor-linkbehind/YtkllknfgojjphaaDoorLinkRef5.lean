/- The document's Host of layer 8: it answers by the function of 'Link'; what lay in the world lies there still. Condition: texts of at most 2^20 bytes. -/
import Derived.Test.YtkllknfgojjphaaDoorLinkRef4
namespace Go.Proofs.YtkllknfgojjphaaDoor
open Go.RowKit

theorem host_six {s : ByteArray} (h : 1 < s.size) (e : s[0] = 91) : hostL s.data.toList = (s[s.size - 1] == 93 && sixL ((s.data.toList.take (s.size - 1)).drop 1)) := by
  have hl : s.data.toList.length = s.size := by simp
  unfold hostL
  rw [getD_is s 0 (by omega), if_pos e, hl, decide_eq_true h, Bool.true_and, getD_is s (s.size - 1) (by omega)]
theorem host_one {s : ByteArray} (h : s.size = 1) (e : s[0] = 91) : hostL s.data.toList = false := by
  have hl : s.data.toList.length = s.size := by simp
  unfold hostL
  rw [getD_is s 0 (by omega), if_pos e, hl, decide_eq_false (by omega)]; rfl
theorem host_name {s : ByteArray} (h : ∀ h : 0 < s.size, ¬ s[0] = 91) : hostL s.data.toList = nameL s.data.toList := by
  unfold hostL
  rw [if_neg]
  by_cases h0 : 0 < s.size
  · rw [getD_is s 0 h0]; exact h h0
  · have : s.data.toList = [] := List.eq_nil_of_length_eq_zero (by rw [show s.data.toList.length = s.size by simp]; omega)
    rw [this]; decide
theorem name_bad {s : ByteArray} (h : validS s = false) : nameL s.data.toList = false := by
  unfold nameL
  rw [show Lib.validD s.data.toList = validS s from rfl, h]; rfl
theorem name_ok {s : ByteArray} (h : validS s = true) : nameL s.data.toList = nameP (splitL 46 s.data.toList) := by
  unfold nameL
  rw [show Lib.validD s.data.toList = validS s from rfl, h]; rfl
theorem labN_yes {ws : List (List UInt8)} (h1 : 1 < ws.length) (h2 : ws[ws.length - 1] = []) : labN ws = ws.length - 1 := by
  unfold labN
  rw [if_pos ⟨h1, by simp [List.getD, show ws.length - 1 < ws.length by omega, h2]⟩]
theorem labN_no {ws : List (List UInt8)} (h : ∀ h1 : 1 < ws.length, ¬ ws[ws.length - 1] = []) : labN ws = ws.length := by
  unfold labN
  rw [if_neg]
  rintro ⟨h1, h2⟩
  refine h h1 ?_
  simpa [List.getD, show ws.length - 1 < ws.length by omega] using h2
theorem labP_bad {ws : List (List UInt8)} {n j : Nat} (hn : labN ws = n) (hj : j < ws.length) (h1 : j < n) (h : labOk ws[j] = false) : nameP ws = false := by
  unfold nameP
  rw [hn]
  have : (ws.take n).all labOk = false := by
    refine List.all_eq_false.2 ⟨ws[j], ?_, by rw [h]; simp⟩
    exact List.mem_take_iff_getElem.2 ⟨j, by omega, rfl⟩
  rw [this]; rfl
theorem labP_all {ws : List (List UInt8)} {n : Nat} (hn : labN ws = n) (hle : n ≤ ws.length) (h : ∀ j (_ : j < ws.length), j < n → labOk ws[j] = true) (h0 : n - 1 < ws.length) : nameP ws = (!digitsL ws[n - 1] || (decide (n = 4 ∧ ws.length = 4) && ws.all octOk)) := by
  unfold nameP
  rw [hn]
  have : (ws.take n).all labOk = true := by
    rw [List.all_eq_true]
    intro p hp
    obtain ⟨j, hj, e⟩ := List.mem_take_iff_getElem.1 hp
    rw [← e]
    exact h j (by omega) (by omega)
  rw [this, Bool.true_and, show ws.getD (n - 1) [] = ws[n - 1] by simp [List.getD, h0]]
theorem lab_empty {t : ByteArray} (h : t.size = 0) : labOk t.data.toList = false := by
  have : t.data.toList = [] := List.eq_nil_of_length_eq_zero (by simpa using h)
  rw [this]; rfl
theorem lab_sign {t : ByteArray} {k : Nat} (hk : k < t.size) (h : nameC t[k] = false) : labOk t.data.toList = false := by
  unfold labOk
  rw [List.all_eq_false.2 ⟨t[k], mem_at hk, by rw [h]; simp⟩, Bool.and_false]
theorem lab_good {t : ByteArray} (h1 : ¬ t.size = 0) (h : ∀ k (_ : k < t.size), nameC t[k] = true) : labOk t.data.toList = true := by
  have hl : t.data.toList.length = t.size := by simp
  unfold labOk
  have : t.data.toList.isEmpty = false := by
    cases e : t.data.toList with
    | nil => rw [e] at hl; exact absurd hl.symm h1
    | cons => rfl
  rw [this, List.all_eq_true.2]
  · rfl
  · intro c m
    obtain ⟨j, hj, e⟩ := List.getElem_of_mem m
    rw [← e, at_list t j (by omega)]
    exact h j (by omega)
theorem name_parts (c : UInt8) : nameC c = (decide (128 ≤ c.toNat) || (plainB c || (c == 45 || c == 95))) := rfl
theorem oct_parts (p : List UInt8) : octOk p = (digitsL p && (decide (p.length ≤ 3) && decide (valueL p ≤ 255))) := rfl
theorem digits_all {p : List UInt8} (h : digitsL p = true) : p.all isDg = true := by
  unfold digitsL at h
  rw [Bool.and_eq_true] at h
  exact h.2
theorem beq_byte (a c : UInt8) : ((a.toNat : Int) == (c.toNat : Int)) = (a == c) := by
  rw [Bool.eq_iff_iff, beq_iff_eq, beq_iff_eq]
  exact ⟨fun e => UInt8.toNat_inj.1 (by omega), fun e => by rw [e]⟩
theorem bne_byte (a c : UInt8) : ((a.toNat : Int) != (c.toNat : Int)) = !(a == c) := by
  unfold bne
  rw [beq_byte]
theorem txt_ex (p : List UInt8) : ∃ t : ByteArray, txt p = t ∧ t.data.toList = p ∧ t.size = p.length := ⟨_, rfl, rfl, txt_size _⟩

/-- The labels of a name, once the text is UTF-8: the walk behind the document's Split. -/
structure Labs (w1 : World) (ws : List (List UInt8)) (g : Nat) : Prop where
  cells : ∀ i (h : i < ws.length), w1.cell? ⟨g, i, none⟩ = some (.string (txt ws[i]))
  mem : ∀ p ∈ ws, p.length ≤ 1048576

set_option maxHeartbeats 2000000 in
set_option maxRecDepth 100000 in
theorem refHost_empty (s : ByteArray) (w : World) (hz : s.size = 0) :
    Calls Tryd.prog 14 #[.string s] w fun e w' => e = .returned (.bool (hostL s.data.toList)) ∧ Below w.heap.size w w' := by
  obtain rfl : s = ⟨#[]⟩ := by
    apply ByteArray.ext
    exact Array.eq_empty_of_size_eq_zero hz
  clear hz
  have HV := hide (refValid_any ⟨#[]⟩ w (by decide))
  rw [show validS ⟨#[]⟩ = true by decide] at HV
  have HS := hide (fun w => refSplit_any ⟨#[]⟩ 46 w (by decide))
  have E : Hid (hostL (⟨#[]⟩ : ByteArray).data.toList = false) := by show _ = _; decide
  have hw : splitL 46 (⟨#[]⟩ : ByteArray).data.toList = [[]] := rfl
  rw [hw] at HS
  go_enter Tryd.func14, Tryd.ntmps14
  go_wp2_with fail
  refine HV.out.mono ?_
  rintro e w0 ⟨rfl, b0⟩
  go_wp2_with fail
  refine (HS.out _).mono ?_
  rintro e w1 ⟨v, rfl, hv, b1⟩
  obtain ⟨g, cap, rfl, hg, hcells⟩ := row_form hv (by simp)
  have hc : w1.cell? ⟨g, 0, none⟩ = some (.string ⟨#[]⟩) := hcells 0 (by decide)
  have b1 := chain b0 b1
  clear hcells hv HS HV b0
  go_wp2_with fail
  go_loop [5, 6, 7] (fun i _ _ => i = .int .i64 0) (fun _ _ _ => 0)
  case atStart => exact rfl
  case round =>
    obtain rfl := hrel
    go_wp2_with fail
    go_ret
    exact ⟨ret_bool E.out.symm, b1⟩

set_option maxHeartbeats 4000000 in
set_option maxRecDepth 100000 in
theorem refHost_any (s : ByteArray) (w : World) (hs : s.size ≤ 1048576) :
    Calls Tryd.prog 14 #[.string s] w fun e w' => e = .returned (.bool (hostL s.data.toList)) ∧ Below w.heap.size w w' := by
  by_cases hb : ∃ h : 0 < s.size, s[0] = 91
  · obtain ⟨h0, e0⟩ := hb
    have i0 : (0 : Int) < (s.size : Int) := by omega
    have d0 : ((s[0].toNat : Int) == 91) = true := by rw [e0]; rfl
    by_cases h1 : 1 < s.size
    · have i1 : (1 : Int) < (s.size : Int) := by omega
      have z1 : s.size - 1 < s.size := by omega
      have E := host_six h1 e0
      have bb := beq_byte s[s.size - 1] 93
      have HS := hide (fun w => refSix_any (s.extract 1 (s.size - 1)) w (by rw [ByteArray.size_extract]; omega))
      rw [slice_cut] at HS
      cases g : (s[s.size - 1] == 93) with
      | false =>
        rw [g, Bool.false_and] at E
        rw [g] at bb
        replace bb : ((s[s.size - 1].toNat : Int) == 93) = false := bb
        replace E := hide E
        clear HS e0 g
        go_enter Tryd.func14, Tryd.ntmps14
        go_wp2_with fail
        go_ret
        exact ⟨ret_bool E.out.symm, Below.refl _ _⟩
      | true =>
        rw [g, Bool.true_and] at E
        rw [g] at bb
        replace bb : ((s[s.size - 1].toNat : Int) == 93) = true := bb
        replace E := hide E
        clear e0 g
        generalize sixL ((s.data.toList.take (s.size - 1)).drop 1) = r at *
        go_enter Tryd.func14, Tryd.ntmps14
        go_wp2_with fail
        refine (HS.out _).mono ?_
        rintro e w1 ⟨rfl, b1⟩
        go_wp2_with fail
        go_ret
        exact ⟨ret_bool E.out.symm, b1⟩
    · have i1 : ¬ (1 : Int) < (s.size : Int) := by omega
      have E := hide (host_one (by omega) e0)
      clear h1 e0
      go_enter Tryd.func14, Tryd.ntmps14
      go_wp2_with fail
      go_ret
      exact ⟨ret_bool E.out.symm, Below.refl _ _⟩
  · by_cases h0 : 0 < s.size
    rotate_left
    · exact refHost_empty s w (by omega)
    have E0 := host_name (s := s) (fun h e => hb ⟨h, e⟩)
    have HD : (0 : Int) < (s.size : Int) → ∀ h : 0 < s.size, ((s[0].toNat : Int) == 91) = false := fun _ h => ne_int (c := 91) (fun e => hb ⟨h, e⟩)
    clear hb
    have HV := hide (refValid_any s w (by omega))
    cases hv : validS s with
    | false =>
      have E := hide (E0.trans (name_bad hv))
      rw [hv] at HV
      clear hv E0
      have i0 : (0 : Int) < (s.size : Int) := by omega
      have d0 := HD i0 h0
      clear HD
      go_enter Tryd.func14, Tryd.ntmps14
      go_wp2_with fail
      refine HV.out.mono ?_
      rintro e w1 ⟨rfl, b1⟩
      go_wp2_with fail
      go_ret
      exact ⟨ret_bool E.out.symm, b1⟩
    | true =>
      have E := E0.trans (name_ok hv)
      rw [hv] at HV
      clear hv E0
      have HS := hide (fun w => refSplit_any s 46 w (by omega))
      have hne := split_ne 46 s.data.toList
      have hcnt := split_count 46 s.data.toList
      have hls : s.data.toList.length = s.size := by simp
      have hmem := hide (fun p hp => Nat.le_trans (split_mem (c := 46) (l := s.data.toList) (p := p) hp) (show s.data.toList.length ≤ 1048576 by omega))
      rw [hls] at hcnt
      clear hls
      generalize splitL 46 s.data.toList = ws at *
      generalize hostL s.data.toList = R at *
      have hpos : 0 < ws.length := List.length_pos_iff.2 hne
      -- what comes behind the labels are counted
      have BADL := hide (fun n j hn hj h1 h => E.trans (labP_bad (ws := ws) (n := n) (j := j) hn hj h1 h))
      have ALLL := hide (fun n hn hle h h0 => E.trans (labP_all (ws := ws) (n := n) hn hle h h0))
      clear E
      · have i0 : (0 : Int) < (s.size : Int) := by omega
        have d0 := HD i0 h0
        clear HD
        go_enter Tryd.func14, Tryd.ntmps14
        go_wp2_with fail
        refine HV.out.mono ?_
        rintro e w0 ⟨rfl, b0⟩
        go_wp2_with fail
        refine (HS.out _).mono ?_
        rintro e w1 ⟨v, rfl, hv, b1⟩
        obtain ⟨g, cap, rfl, hg, hcells⟩ := row_form hv hne
        have HC := hide hcells
        have b1 := chain b0 b1
        clear hcells hv HS HV b0
        -- n
        have KEY : ∃ n, labN ws = n ∧ 1 ≤ n ∧ n ≤ ws.length := by
          refine ⟨_, rfl, ?_, ?_⟩
          · unfold labN; split <;> omega
          · unfold labN; split <;> omega
        obtain ⟨n, hn, hn1, hnl⟩ := KEY
        have cl := HC.out (ws.length - 1) (by omega)
        have ml := hmem.out ws[ws.length - 1] (List.getElem_mem _)
        obtain ⟨tl, e1, e2, e3⟩ := txt_ex ws[ws.length - 1]
        rw [e1] at cl
        have CASES : (1 < ws.length ∧ tl.size = 0 ∧ n = ws.length - 1) ∨ (1 < ws.length ∧ ¬ tl.size = 0 ∧ n = ws.length) ∨ (ws.length = 1 ∧ n = 1) := by
          by_cases g1 : 1 < ws.length
          · by_cases g2 : ws[ws.length - 1] = []
            · exact .inl ⟨g1, by rw [e3, g2]; rfl, by rw [← hn]; exact labN_yes g1 g2⟩
            · refine .inr (.inl ⟨g1, fun z => g2 (List.eq_nil_of_length_eq_zero (by omega)), ?_⟩)
              rw [← hn]; exact labN_no (fun _ => g2)
          · refine .inr (.inr ⟨by omega, ?_⟩)
            have : labN ws = ws.length := labN_no (fun h => absurd h g1)
            omega
        have HN := hide hn
        clear hn
        rcases CASES with ⟨g1, g2, g3⟩ | ⟨g1, g4, g3⟩ | ⟨g5, g3⟩
        all_goals
          first
          | (have l2 : ((tl.size : Int) == 0) = true := by rw [beq_iff_eq]; have := g2; omega
             have l1 : (1 : Int) < (ws.length : Int) := by omega
             have tz : tl.size ≤ 1048576 := by omega
             have nn : (ws.length : Int) - 1 = (n : Int) := by omega
             rw [← g3] at cl
             clear e1 e2 e3 g1 g2 g3 ml
             go_wp2_with fail)
          | (have l2 : ((tl.size : Int) == 0) = false := by rw [beq_eq_false_iff_ne]; have := g4; omega
             have l1 : (1 : Int) < (ws.length : Int) := by omega
             have tz : tl.size ≤ 1048576 := by omega
             have nn : (ws.length : Int) = (n : Int) := by omega
             rw [← g3] at cl
             clear e1 e2 e3 g1 g4 g3 ml
             go_wp2_with fail)
          | (have l1 : ¬ (1 : Int) < (ws.length : Int) := by have := g5; omega
             have nn : (ws.length : Int) = (n : Int) := by omega
             clear e1 e2 e3 ml g5 g3
             go_wp2_with fail)
        all_goals
          clear nn cl l1
          go_loop [5, 6, 7] (fun i _ _ => ∃ j : Nat, j ≤ n ∧ i = .int .i64 j ∧ Hid (∀ m (_ : m < ws.length), m < j → labOk ws[m] = true)) (fun i _ _ => n - (intOf i).toNat)
          case atStart => exact ⟨0, Nat.zero_le _, rfl, fun m _ h => by omega⟩
          case round =>
            obtain ⟨j, hj, rfl, hd⟩ := hrel
            by_cases hjl : j < n
            · have hjw : j < ws.length := by omega
              have hc := HC.out j hjw
              have hm := hmem.out ws[j] (List.getElem_mem _)
              have j1 : (j : Int) < (n : Int) := by omega
              have j2 : (j : Int) < (ws.length : Int) := by omega
              have BAD := hide (fun (h : labOk ws[j] = false) => BADL.out n j HN.out hjw hjl h)
              have NX : labOk ws[j] = true → Hid (∀ m (_ : m < ws.length), m < j + 1 → labOk ws[m] = true) := by
                intro h m hm2 hmj
                rcases Nat.lt_or_ge m j with q | q
                · exact hd.out m hm2 q
                · obtain rfl : m = j := by omega
                  exact h
              obtain ⟨t, f1, f2, f3⟩ := txt_ex ws[j]
              rw [f1] at hc
              rw [← f2] at BAD NX
              have ht : t.size ≤ 1048576 := by omega
              clear f1 f2 f3 hd HC hmem hm BADL ALLL
              by_cases z : t.size = 0
              · have E2 := hide (BAD.out (lab_empty z))
                have t1 : ((t.size : Int) == 0) = true := by rw [beq_iff_eq]; omega
                clear BAD NX z
                go_wp2_with fail
                go_ret
                exact ⟨ret_bool E2.out.symm, b1⟩
              · have t1 : ((t.size : Int) == 0) = false := by rw [beq_eq_false_iff_ne]; omega
                have BH := hide (fun k hk h => BAD.out (lab_sign (t := t) (k := k) hk h))
                have NG := hide (fun h => NX (lab_good (t := t) z h))
                clear BAD NX z
                go_wp2_with fail
                go_loop [6, 7] (fun i _ => ∃ k : Nat, k ≤ t.size ∧ i = .int .i64 k ∧ Hid (∀ m (_ : m < t.size), m < k → nameC t[m] = true)) (fun i _ => t.size - (intOf i).toNat)
                case atStart => exact ⟨0, Nat.zero_le _, rfl, fun m _ h => by omega⟩
                case round =>
                  obtain ⟨k, hk, rfl, hd⟩ := hrel
                  by_cases hlt : k < t.size
                  · have i1 : (k : Int) < (t.size : Int) := by omega
                    have H1 := hide (fun w => refPlain_any t[k] w)
                    have NK : nameC t[k] = true → Hid (∀ m (_ : m < t.size), m < k + 1 → nameC t[m] = true) := by
                      intro h m hm hmk
                      rcases Nat.lt_or_ge m k with q | q
                      · exact hd.out m hm q
                      · obtain rfl : m = k := by omega
                        exact h
                    have BK := BH.out k hlt
                    have p45 := bne_byte t[k] 45
                    have p95 := bne_byte t[k] 95
                    rw [name_parts] at NK BK
                    clear hd BH NG
                    by_cases q : 128 ≤ t[k].toNat
                    · have E2 := NK (by rw [decide_eq_true q, Bool.true_or])
                      have qi : ¬ (t[k].toNat : Int) < 128 := by omega
                      clear NK BK q H1 p45 p95
                      go_wp2_with fail
                      go_round
                      case rel => exact ⟨k + 1, by omega, by go_num, E2⟩
                      case measure => simp [intOf]; omega
                    · rw [decide_eq_false q, Bool.false_or] at NK BK
                      have qi : (t[k].toNat : Int) < 128 := by omega
                      clear q
                      cases hp : plainB t[k] with
                      | true =>
                        rw [hp] at H1
                        have E2 := NK (by rw [hp, Bool.true_or])
                        clear NK BK hp p45 p95
                        go_wp2_with fail
                        refine (H1.out _).mono ?_
                        rintro e uu ⟨rfl, rfl⟩
                        go_wp2_with fail
                        go_round
                        case rel => exact ⟨k + 1, by omega, by go_num, E2⟩
                        case measure => simp [intOf]; omega
                      | false =>
                        rw [hp] at H1 NK BK
                        rw [Bool.false_or] at NK BK
                        cases h45 : (t[k] == 45) with
                        | true =>
                          have E2 := NK (by rw [h45, Bool.true_or])
                          rw [h45] at p45
                          replace p45 : ((t[k].toNat : Int) != 45) = false := p45
                          clear NK BK hp p95 h45
                          go_wp2_with fail
                          refine (H1.out _).mono ?_
                          rintro e uu ⟨rfl, rfl⟩
                          go_wp2_with fail
                          go_round
                          case rel => exact ⟨k + 1, by omega, by go_num, E2⟩
                          case measure => simp [intOf]; omega
                        | false =>
                          rw [h45] at p45
                          replace p45 : ((t[k].toNat : Int) != 45) = true := p45
                          cases h95 : (t[k] == 95) with
                          | true =>
                            have E2 := NK (by rw [h45, h95]; rfl)
                            rw [h95] at p95
                            replace p95 : ((t[k].toNat : Int) != 95) = false := p95
                            clear NK BK hp h45 h95
                            go_wp2_with fail
                            refine (H1.out _).mono ?_
                            rintro e uu ⟨rfl, rfl⟩
                            go_wp2_with fail
                            go_round
                            case rel => exact ⟨k + 1, by omega, by go_num, E2⟩
                            case measure => simp [intOf]; omega
                          | false =>
                            have E2 := hide (BK (by rw [h45, h95]; rfl))
                            rw [h95] at p95
                            replace p95 : ((t[k].toNat : Int) != 95) = true := p95
                            clear NK BK hp h45 h95
                            go_wp2_with fail
                            refine (H1.out _).mono ?_
                            rintro e uu ⟨rfl, rfl⟩
                            go_wp2_with fail
                            go_ret
                            exact ⟨ret_bool E2.out.symm, b1⟩
                  · obtain rfl : k = t.size := by omega
                    have hn2 := NG.out (fun m hm => hd.out m hm hm)
                    clear hd BH NG hlt
                    go_wp2_with fail
                    go_round
                    case rel => exact ⟨j + 1, by omega, by go_num, hn2⟩
                    case measure => simp [intOf]; omega
            · obtain rfl : j = n := by omega
              obtain ⟨q, rfl⟩ : ∃ q, j = q + 1 := ⟨j - 1, by omega⟩
              have E := ALLL.out (q + 1) HN.out hnl hd.out (by omega)
              have eq1 : ((q + 1 : Nat) : Int) - 1 = (q : Int) := by omega
              have hqw : q < ws.length := by omega
              have q2 : (q : Int) < (ws.length : Int) := by omega
              rw [show ws[q + 1 - 1]'(by omega) = ws[q] from rfl] at E
              have hc := HC.out q hqw
              have hm := hmem.out ws[q] (List.getElem_mem _)
              obtain ⟨t, f1, f2, f3⟩ := txt_ex ws[q]
              rw [f1] at hc
              rw [← f2] at E
              have ht : t.size ≤ 1048576 := by omega
              have HG := hide (fun w => refDigs_any t w ht)
              clear f1 f2 f3 hd hm BADL ALLL hjl
              cases hdg : digitsL t.data.toList with
              | false =>
                rw [hdg] at E HG
                rw [show (!false || (decide (q + 1 = 4 ∧ ws.length = 4) && ws.all octOk)) = true from rfl] at E
                replace E := hide E
                clear HC hmem hdg
                go_wp2_with fail
                refine (HG.out _).mono ?_
                rintro e uu ⟨rfl, rfl⟩
                go_wp2_with fail
                go_ret
                exact ⟨ret_bool E.out.symm, b1⟩
              | true =>
                rw [hdg] at E HG
                rw [Bool.not_true, Bool.false_or] at E
                clear hdg
                by_cases n4 : q + 1 = 4
                · by_cases w4 : ws.length = 4
                  · rw [decide_eq_true ⟨n4, w4⟩, Bool.true_and] at E
                    have d4 : ((q : Int) + 1 != 4) = false := by
                      have : (q : Int) + 1 = 4 := by omega
                      rw [this]; rfl
                    have e4 : ((ws.length : Int) != 4) = false := by rw [w4]; rfl
                    have BADO := hide (fun j (hj : j < ws.length) h => E.trans (all_at (f := octOk) hj h))
                    have ALLO : Hid ((∀ j (_ : j < ws.length), octOk ws[j] = true) → R = true) := fun h => by
                      rw [E, List.all_eq_true]
                      intro p hp
                      obtain ⟨m, hm, e⟩ := List.getElem_of_mem hp
                      rw [← e]
                      exact h m hm
                    have w4a : ws.length ≤ 4 := by omega
                    have w4b : 4 ≤ ws.length := by omega
                    clear E n4 w4
                    go_wp2_with fail
                    refine (HG.out _).mono ?_
                    rintro e uu ⟨rfl, rfl⟩
                    clear HG
                    go_wp2_with fail
                    go_loop [8] (fun i => ∃ j : Nat, j ≤ 4 ∧ i = .int .i64 j ∧ Hid (∀ m (_ : m < ws.length), m < j → octOk ws[m] = true)) (fun i => 4 - (intOf i).toNat)
                    case atStart => exact ⟨0, by omega, rfl, fun m _ h => by omega⟩
                    case round =>
                      obtain ⟨j, hj, rfl, hd⟩ := hrel
                      by_cases hjl : j < 4
                      · have hjw : j < ws.length := by omega
                        have hc := HC.out j hjw
                        have hm := hmem.out ws[j] (List.getElem_mem _)
                        have j2 : (j : Int) < (ws.length : Int) := by omega
                        have BAD := BADO.out j hjw
                        have NX : octOk ws[j] = true → Hid (∀ m (_ : m < ws.length), m < j + 1 → octOk ws[m] = true) := by
                          intro h m hm2 hmj
                          rcases Nat.lt_or_ge m j with q | q
                          · exact hd.out m hm2 q
                          · obtain rfl : m = j := by omega
                            exact h
                        obtain ⟨t, f1, f2, f3⟩ := txt_ex ws[j]
                        rw [f1] at hc
                        rw [← f2, oct_parts] at BAD NX
                        have htl : t.data.toList.length = t.size := by simp
                        have ht : t.size ≤ 1048576 := by omega
                        rw [htl] at BAD NX
                        have HG := hide (fun w => refDigs_any t w ht)
                        clear f1 f2 f3 hd hm BADO ALLO HC hmem d4 e4 htl
                        cases hdg : digitsL t.data.toList with
                        | false =>
                          rw [hdg] at HG
                          have E2 := hide (BAD (by rw [hdg, Bool.false_and]))
                          clear BAD NX hdg
                          go_wp2_with fail
                          refine (HG.out _).mono ?_
                          rintro e uu ⟨rfl, rfl⟩
                          go_wp2_with fail
                          go_ret
                          exact ⟨ret_bool E2.out.symm, b1⟩
                        | true =>
                          have HVl := hide (fun w => refValue_any t w ht (digits_all hdg))
                          rw [hdg] at HG BAD NX
                          rw [Bool.true_and] at BAD NX
                          clear hdg
                          generalize valueL t.data.toList = vv at *
                          by_cases q3 : t.size ≤ 3
                          · rw [decide_eq_true q3, Bool.true_and] at BAD NX
                            have q3i : ¬ (3 : Int) < (t.size : Int) := by omega
                            by_cases q5 : vv ≤ 255
                            · have E2 := NX (by rw [decide_eq_true q5])
                              have q5i : ¬ (255 : Int) < (vv : Int) := by omega
                              clear BAD NX q5 q3
                              go_wp2_with fail
                              refine (HG.out _).mono ?_
                              rintro e uu ⟨rfl, rfl⟩
                              go_wp2_with fail
                              refine (HVl.out _).mono ?_
                              rintro e uu ⟨rfl, rfl⟩
                              go_wp2_with fail
                              go_round
                              case rel => exact ⟨j + 1, by omega, by go_num, E2⟩
                              case measure => simp [intOf]; omega
                            · have E2 := hide (BAD (by rw [decide_eq_false q5]))
                              have q5i : (255 : Int) < (vv : Int) := by omega
                              clear BAD NX q5 q3
                              go_wp2_with fail
                              refine (HG.out _).mono ?_
                              rintro e uu ⟨rfl, rfl⟩
                              go_wp2_with fail
                              refine (HVl.out _).mono ?_
                              rintro e uu ⟨rfl, rfl⟩
                              go_wp2_with fail
                              go_ret
                              exact ⟨ret_bool E2.out.symm, b1⟩
                          · have E2 := hide (BAD (by rw [decide_eq_false q3, Bool.false_and]))
                            have q3i : (3 : Int) < (t.size : Int) := by omega
                            clear BAD NX q3 HVl
                            go_wp2_with fail
                            refine (HG.out _).mono ?_
                            rintro e uu ⟨rfl, rfl⟩
                            go_wp2_with fail
                            go_ret
                            exact ⟨ret_bool E2.out.symm, b1⟩
                      · obtain rfl : j = 4 := by omega
                        have E2 := hide (ALLO.out (fun m hm => hd.out m hm (by omega)))
                        clear hd BADO ALLO HC hmem hjl
                        go_wp2_with fail
                        go_ret
                        exact ⟨ret_bool E2.out.symm, b1⟩
                  · rw [decide_eq_false (fun h => w4 h.2), Bool.false_and] at E
                    replace E := hide E
                    have d4 : ((q : Int) + 1 != 4) = false := by
                      have : (q : Int) + 1 = 4 := by omega
                      rw [this]; rfl
                    have e4 : ((ws.length : Int) != 4) = true := by rw [bne_iff_ne]; omega
                    clear HC hmem n4 w4
                    go_wp2_with fail
                    refine (HG.out _).mono ?_
                    rintro e uu ⟨rfl, rfl⟩
                    go_wp2_with fail
                    go_ret
                    exact ⟨ret_bool E.out.symm, b1⟩
                · rw [decide_eq_false (fun h => n4 h.1), Bool.false_and] at E
                  replace E := hide E
                  have d4 : ((q : Int) + 1 != 4) = true := by rw [bne_iff_ne]; omega
                  clear HC hmem n4
                  go_wp2_with fail
                  refine (HG.out _).mono ?_
                  rintro e uu ⟨rfl, rfl⟩
                  go_wp2_with fail
                  go_ret
                  exact ⟨ret_bool E.out.symm, b1⟩

end Go.Proofs.YtkllknfgojjphaaDoor
