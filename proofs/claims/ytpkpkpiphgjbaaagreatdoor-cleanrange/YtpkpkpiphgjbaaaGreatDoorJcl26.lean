/- Joined texts. EndsProg: The program's NoBreaks answers by the function of 'Ends'; it changes nothing that was there. Condition: texts of at most 2^40 bytes. MailPTC: The program's Clean and Trim of mail alone: they answer by the functions of 'Mail'; what lay in the world lies there still. Conditions: texts of at most 100000 bytes; the library's variable MaxLen holds some number. CleanS1: The program's functions of layer 13 behind Value: they answer by the functions of 'CleanB'; what lay in the world lies there still. Conditions: a row of attributes as it lies in the world; texts of at most 100000 bytes; the tables of layer 12's road read as the texts lay them. -/
import Derived.Test.YtpkpkpiphgjbaaaGreatDoorJcl25
import Derived.Test.YtpkpkpiphgjbaaaGreatDoorJcl17
import Derived.Test.YtpkpkpiphgjbaaaGreatDoorJcl16
import Derived.Test.YtpkpkpiphgjbaaaGreatDoorJcl24
namespace Go.Proofs.YtpkpkpiphgjbaaaGreatDoor
open Go.RowKit
set_option maxRecDepth 100000

set_option maxHeartbeats 400000 in
theorem withEnds_any (s e : ByteArray) (w : World) (hs : s.size ≤ 1099511627776) (he : e.size ≤ 2) :
    Calls Tryz.prog 42 #[.string s, .string e] w fun r w' => r = .returned (.string (endsS e s)) ∧ Below w.heap.size w w' := by
  go_enter Tryz.func42, Tryz.ntmps42
  go_wp2_with fail
  refine (grow_fresh s.size w (by omega)).mono ?_
  rintro r w1 ⟨rfl, h1, b1⟩
  go_wp2_with fail
  go_loopw [13] (fun i wr => ∃ k : Nat, k ≤ s.size ∧ i = .int .i64 k ∧ HoldsB w.heap.size w.heap.size (endsP e.data.toList 0 (s.data.toList.take k)) wr ∧ Below w.heap.size w wr) (fun i _ => s.size - (intOf i).toNat)
  case atStart => exact ⟨0, Nat.zero_le _, rfl, h1, b1⟩
  case round =>
    obtain ⟨k, hk, rfl, hh, hb⟩ := hrel
    by_cases hlt : k < s.size
    · have hle := endsP_take_le e s k he
      have HT := hide (endsP_take e.data.toList s k hlt)
      have hsz := hb.size
      have HE := hide (byteAt_eq s k hlt)
      go_wp2_with fail
      · have h10 : (s[k].toNat : Int) = 10 := by assumption
        have h0 : 0 < k := by assumption
        have h13 : ((((s[k - 1]'(by omega)).toNat : Int)) == 13) = true := by assumption
        rw [HE.out] at h10
        rw [prevAt_eq s k hlt h0, beq_iff_eq] at h13
        go_roundw
        case rel => exact ⟨k + 1, by omega, by go_num, by rw [HT.out, piece_none ((b10 _).2 h10) ((b13 _).2 h13), List.append_nil]; exact hh, hb⟩
        case measure => simp [intOf]; omega
      · have h10 : (s[k].toNat : Int) = 10 := by assumption
        have h0 : 0 < k := by assumption
        have h13 : ((((s[k - 1]'(by omega)).toNat : Int)) == 13) = false := by assumption
        rw [HE.out] at h10
        rw [prevAt_eq s k hlt h0, beq_eq_false_iff_ne] at h13
        have HP := hide (piece_end (e := e.data.toList) (p := prevAt s k) (c := byteAt s k) (fun h => h13 ((b13 _).1 h.2)) (.inl ((b10 _).2 h10)))
        refine (writeString _ _ _ e wr hh (by omega) hb.size).mono ?_
        rintro r w2 ⟨rfl, h2, b2⟩
        go_wp2_with fail
        go_roundw
        case rel => exact ⟨k + 1, by omega, by go_num, by rw [HT.out, HP.out]; exact h2, hb.trans b2⟩
        case measure => simp [intOf]; omega
      · have h10 : (s[k].toNat : Int) = 10 := by assumption
        have h0 : ¬ 0 < k := by assumption
        rw [HE.out] at h10
        have HP := hide (piece_end (e := e.data.toList) (p := prevAt s k) (c := byteAt s k) (fun h => by have := h.2; unfold prevAt at this; rw [if_pos (by omega)] at this; exact absurd this (by decide)) (.inl ((b10 _).2 h10)))
        refine (writeString _ _ _ e wr hh (by omega) hb.size).mono ?_
        rintro r w2 ⟨rfl, h2, b2⟩
        go_wp2_with fail
        go_roundw
        case rel => exact ⟨k + 1, by omega, by go_num, by rw [HT.out, HP.out]; exact h2, hb.trans b2⟩
        case measure => simp [intOf]; omega
      · have h10 : ¬ (s[k].toNat : Int) = 10 := by assumption
        have h13 : ((s[k].toNat : Int) == 10) = true ∨ ((s[k].toNat : Int) == 13) = true := by assumption
        rw [HE.out] at h10 h13
        rw [beq_iff_eq, beq_iff_eq] at h13
        have HP := hide (piece_end (e := e.data.toList) (p := prevAt s k) (c := byteAt s k) (fun h => h10 ((b10 _).1 h.1)) (.inr ((b13 _).2 (by omega))))
        refine (writeString _ _ _ e wr hh (by omega) hb.size).mono ?_
        rintro r w2 ⟨rfl, h2, b2⟩
        go_wp2_with fail
        go_roundw
        case rel => exact ⟨k + 1, by omega, by go_num, by rw [HT.out, HP.out]; exact h2, hb.trans b2⟩
        case measure => simp [intOf]; omega
      · have h10 : ¬ (s[k].toNat : Int) = 10 := by assumption
        have h13 : ((s[k].toNat : Int) == 10) = false ∧ ((s[k].toNat : Int) == 13) = false := by assumption
        rw [HE.out] at h10 h13
        rw [beq_eq_false_iff_ne, beq_eq_false_iff_ne] at h13
        have HP := hide (piece_byte (e := e.data.toList) (p := prevAt s k) (c := byteAt s k) (fun h => h10 ((b10 _).1 h)) (fun h => h13.2 ((b13 _).1 h)))
        rw [HE.out]
        refine (writeByte _ _ _ (byteAt s k) wr hh (by omega) hb.size).mono ?_
        rintro r w2 ⟨rfl, h2, b2⟩
        go_wp2_with fail
        go_roundw
        case rel => exact ⟨k + 1, by omega, by go_num, by rw [HT.out, HP.out]; exact h2, hb.trans b2⟩
        case measure => simp [intOf]; omega
    · have e : k = s.size := by omega
      subst e
      rw [take_all] at hh
      go_wp2_with fail
      refine (builderText _ _ _ _ hh hb.size).mono ?_
      rintro r w2 ⟨rfl, b2⟩
      go_wp2_with fail
      go_ret
      exact ⟨rfl, hb.trans b2⟩

set_option maxHeartbeats 400000 in
theorem noBreaks_any (s : ByteArray) (w : World) (hs : s.size ≤ 1099511627776) :
    Calls Tryz.prog 19 #[.string s] w fun r w' => r = .returned (.string (noBreaksS s)) ∧ Below w.heap.size w w' := by
  go_enter Tryz.func19, Tryz.ntmps19
  go_wp2_with fail
  refine (withEnds_any s ⟨#[]⟩ _ hs (by decide)).mono ?_
  rintro r w1 ⟨rfl, b1⟩
  go_wp2_with fail
  go_ret
  exact ⟨rfl, b1⟩

end Go.Proofs.YtpkpkpiphgjbaaaGreatDoor

namespace Go.Proofs.YtpkpkpiphgjbaaaGreatDoor
open Go.RowKit
set_option maxRecDepth 100000

/-- What the program's road names: the library's variable MaxLen holds some number. -/
def MailTabs (w : World) : Prop := SomeMax w
theorem MailTabs.below {w w' : World} (h : MailTabs w) (hb : Below w.heap.size w w') : MailTabs w' := SomeMax.below h hb

/-- The first j texts are stripped, the others as they were. -/
def partS (ws : List (List UInt8)) (j : Nat) : List (List UInt8) := (ws.take j).map stripL ++ ws.drop j
theorem partS_zero (ws : List (List UInt8)) : partS ws 0 = ws := rfl
theorem partS_len {ws : List (List UInt8)} {j : Nat} : (partS ws j).length = ws.length := by
  unfold partS
  rw [List.length_append, List.length_map, List.length_take, List.length_drop]; omega
theorem partS_all (ws : List (List UInt8)) : partS ws ws.length = ws.map stripL := by
  unfold partS
  rw [List.take_length, List.drop_length, List.append_nil]
theorem partS_at {ws : List (List UInt8)} {j : Nat} (hj : j < ws.length) (h2 : j < (partS ws j).length) : (partS ws j)[j] = ws[j] := by
  have hl : ((ws.take j).map stripL).length = j := by rw [List.length_map, List.length_take]; omega
  have h3 : (partS ws j)[j]? = ws[j]? := by
    unfold partS
    rw [List.getElem?_append_right (by omega), List.getElem?_drop]
    congr 1
    omega
  rw [List.getElem?_eq_getElem h2, List.getElem?_eq_getElem hj] at h3
  exact Option.some.inj h3
theorem partS_next {ws : List (List UInt8)} {j : Nat} (hj : j < ws.length) : (partS ws j).set j (stripL ws[j]) = partS ws (j + 1) := by
  have hl : ((ws.take j).map stripL).length = j := by rw [List.length_map, List.length_take]; omega
  unfold partS
  rw [List.set_append_right _ _ (by omega), hl, Nat.sub_self, List.drop_eq_getElem_cons hj, List.set_cons_zero, take_one hj, List.map_append, List.append_assoc]
  rfl

set_option maxHeartbeats 1000000 in
theorem mailClean_any (s : ByteArray) (w : World) (hs : s.size ≤ 100000) (hT : MailTabs w) :
    Calls Tryz.prog 45 #[.string s] w fun e w' => e = .returned (.string (txt (cleanM s.data.toList))) ∧ Below w.heap.size w w' := by
  have HS := hide (splitT_any 44 s w (by omega) hT)
  have E : Hid (cleanM s.data.toList = joinL 44 ((splitL 44 s.data.toList).map stripL)) := rfl
  have hls : s.data.toList.length = s.size := by simp
  have hcnt := split_count 44 s.data.toList
  have hsum := split_sum 44 s.data.toList
  have hmem := hide (fun p hp => Nat.le_trans (split_mem (c := 44) (l := s.data.toList) (p := p) hp) (show s.data.toList.length ≤ 100000 by omega))
  rw [hls] at hcnt hsum
  clear hls hT
  generalize splitL 44 s.data.toList = ws at *
  have JL : Hid ((joinL 44 (ws.map stripL)).length ≤ 4294967296) := by
    have := join_take_le ws ws.length
    rw [List.take_length] at this
    show _ ≤ _
    omega
  clear hsum
  go_enter Tryz.func45, Tryz.ntmps45
  go_wp2_with fail
  refine HS.out.mono ?_
  rintro e w1 ⟨g, rfl, hg, hr, b1⟩
  clear HS
  have R0 : RowT w1 g (partS ws 0) := hr
  clear hr
  go_wp2_with fail
  go_loopw [9] (fun i wr => ∃ j : Nat, j ≤ ws.length ∧ i = .int .i64 j ∧ RowT wr g (partS ws j) ∧ Below w.heap.size w wr) (fun i _ => ws.length - (intOf i).toNat)
  case atStart => exact ⟨0, Nat.zero_le _, rfl, R0, b1⟩
  case round =>
    obtain ⟨j, hj, rfl, hr, hb⟩ := hrel
    rename World => wr
    by_cases hjl : j < ws.length
    · have hj2 : j < (partS ws j).length := by rw [partS_len]; exact hjl
      have hc := hr.cells j hj2
      rw [partS_at hjl hj2] at hc
      have hmm := hmem.out ws[j] (List.getElem_mem _)
      have HP := hide (strip_any (txt ws[j]) wr (by rw [txt_size]; omega))
      have HR := hide (fun w' (bb : Below wr.heap.size wr w') => (hr.below bb).store hj2 (stripL ws[j]))
      rw [partS_next hjl, show txt (stripL ws[j]) = stripS (txt ws[j]) from rfl] at HR
      have HF := hide (fun w' (bb : Below wr.heap.size wr w') => (hr.below bb).free j)
      have HX := hide (fun w' (bb : Below wr.heap.size wr w') => (hr.below bb).cells j hj2)
      rw [partS_at hjl hj2] at HX
      have HB := hide (fun w' (bb : Below wr.heap.size wr w') => (chain hb bb).setCell (p := ⟨g, j, none⟩) hg (.string (stripS (txt ws[j]))))
      have j1 : (j : Int) < (ws.length : Int) := by omega
      clear hr hmm hmem R0
      generalize stripS (txt ws[j]) = t2 at *
      generalize txt ws[j] = t at *
      go_wp2_with fail
      refine HP.out.mono ?_
      rintro e u1 ⟨rfl, c1⟩
      have hf := HF.out u1 c1
      have hx := HX.out u1 c1
      go_wp2_with fail
      go_roundw
      case rel => exact ⟨j + 1, by omega, by go_num, HR.out _ c1, HB.out _ c1⟩
      case measure => simp [intOf]; omega
    · obtain rfl : j = ws.length := by omega
      rw [partS_all] at hr
      have HJ := hide (join_any 44 g ws.length (ws.map stripL) wr hr (by rw [List.length_map]; omega) (by rw [List.length_map]; omega) JL.out)
      rw [List.length_map, ← E.out] at HJ
      clear hmem hr R0
      go_wp2_with fail
      refine HJ.out.mono ?_
      rintro e u1 ⟨rfl, c1⟩
      go_wp2_with fail
      go_ret
      exact ⟨rfl, chain hb c1⟩

set_option maxHeartbeats 1000000 in
theorem mailTrim_any (s : ByteArray) (w : World) (hs : s.size ≤ 100000) (_hT : MailTabs w) :
    Calls Tryz.prog 20 #[.string s] w fun e w' => e = .returned (.string (txt (trimM s.data.toList))) ∧ Below w.heap.size w w' := by
  have HN := hide (noBreaks_any s w (by omega))
  have HT := hide (fun w => strip_any (noBreaksS s) w (by have := endsS_size ⟨#[]⟩ s (by decide); unfold noBreaksS; omega))
  rw [show stripS (noBreaksS s) = txt (trimM s.data.toList) from rfl] at HT
  generalize txt (trimM s.data.toList) = t at *
  generalize noBreaksS s = n at *
  go_enter Tryz.func20, Tryz.ntmps20
  go_wp2_with fail
  refine HN.out.mono ?_
  rintro e v1 ⟨rfl, b1⟩
  go_wp2_with fail
  refine (HT.out _).mono ?_
  rintro e v2 ⟨rfl, b2⟩
  go_wp2_with fail
  go_ret
  exact ⟨rfl, chain b1 b2⟩

end Go.Proofs.YtpkpkpiphgjbaaaGreatDoor

namespace Go.Proofs.YtpkpkpiphgjbaaaGreatDoor
open Go.RowKit
set_option maxRecDepth 100000

theorem findV_nonneg (o : Option Nat) : decide (0 ≤ findV o) = o.isSome := by
  cases o with
  | none => rfl
  | some k => exact decide_eq_true (by show (0 : Int) ≤ (k : Int); omega)
set_option maxHeartbeats 8000000 in
theorem containsFuncA_any (v : Value) (ax : List (ByteArray × ByteArray)) (p : ByteArray × ByteArray → Bool) (g : Nat) (lb : Array Value) (eg : ∀ args w, (callFunc g args).run Tryz.prog w = .ok (.enter g args) w) (w : World) (hv : AttrsV w v ax) (hp : PredA g lb p w) (hl : ax.length ≤ 4398046511104) :
    Calls Tryz.prog 70 #[v, .func (.func g) #[] lb] w fun e w' => e = .returned (.bool (ax.findIdx? p).isSome) ∧ Below w.heap.size w w' := by
  have HI := hide (indexFuncA_any v ax p g lb eg w hv hp hl)
  have E := hide (findV_nonneg (ax.findIdx? p))
  generalize (ax.findIdx? p).isSome = R at *
  generalize findV (ax.findIdx? p) = z at *
  clear hv hp
  go_enter Tryz.func70, Tryz.ntmps70
  go_wp2_with fail
  refine HI.out.mono ?_
  rintro e w1 ⟨rfl, b1⟩
  go_wp2_with fail
  go_ret
  exact ⟨ret_bool E.out, b1⟩
set_option maxHeartbeats 8000000 in
theorem clHas1_any (n : ByteArray) (B : Nat) (x : ByteArray × ByteArray) (W : World) (hc : W.cell? ⟨B, 0, none⟩ = some (.string n)) :
    Calls Tryz.prog 71 #[.agg #[.string x.1, .string x.2], .pointer (some ⟨B, 0, none⟩)] W fun e w' => e = .returned (.bool (isN n x)) ∧ Below W.heap.size W w' := by
  have hB := World.block_lt_of_cell? _ _ hc
  have hne : B ≠ W.heap.size := by have : B < W.heap.size := hB; omega
  have E := hide (txt_beq x.1 n)
  unfold isN
  generalize x.1 = a at *
  generalize x.2 = b at *
  generalize hR : decide (a = n) = R at *
  clear hR
  go_enter Tryz.func71, Tryz.ntmps71
  go_wp2_with fail
  go_ret
  exact ⟨ret_bool E.out, (Below.refl _ W).alloc (Nat.le_refl _) _⟩
theorem clHas_pred (n : ByteArray) (w : World) : PredA 71 #[.pointer (some ⟨w.heap.size, 0, none⟩)] (isN n) (w.alloc (.cells #[.string n] 9)) := fun W x hb =>
  clHas1_any n w.heap.size x W ((hb.cell (by simp)).trans (by simp))
theorem entersClHas : ∀ args w, (callFunc 71 args).run Tryz.prog w = .ok (.enter 71 args) w := Go.Proofs.enters_of Tryz.func71 (by kernel_rfl) rfl
set_option maxHeartbeats 8000000 in
theorem clHas_any (v : Value) (ax : List (ByteArray × ByteArray)) (w : World) (hv : AttrsV w v ax) (hz : AxOK ax) (n : ByteArray) :
    Calls Tryz.prog 44 #[v, .string n] w fun e w' => e = .returned (.bool (findA ax n).isSome) ∧ Below w.heap.size w w' := by
  have B0 : Hid (Below w.heap.size w (w.alloc (.cells #[.string n] 9))) := (Below.refl _ w).alloc (Nat.le_refl _) _
  have HC := hide (containsFuncA_any v ax (isN n) 71 #[.pointer (some ⟨w.heap.size, 0, none⟩)] entersClHas (w.alloc (.cells #[.string n] 9)) (hv.below B0.out) (clHas_pred n w) hz.len)
  have E : Hid ((ax.findIdx? (isN n)).isSome = (findA ax n).isSome) := rfl
  rw [E.out] at HC
  generalize (findA ax n).isSome = R at *
  obtain ⟨p, c, rfl, _⟩ := hv
  clear hz E
  go_enter Tryz.func44, Tryz.ntmps44
  go_wp2_with fail
  refine HC.out.mono ?_
  rintro e w1 ⟨rfl, b1⟩
  go_wp2_with fail
  go_ret
  exact ⟨rfl, chain B0.out b1⟩
set_option maxHeartbeats 8000000 in
theorem clBounds_any (v : Value) (ax : List (ByteArray × ByteArray)) (w : World) (hv : AttrsV w v ax) (hz : AxOK ax) (hT : StTabs w) :
    Calls Tryz.prog 41 #[v] w fun e w' => e = .returned (.tuple #[.int .i64 (loK ax), .int .i64 (hiK ax)]) ∧ Below w.heap.size w w' := by
  have H1 := hide (stLeast_any 14 v ax w hv hz hT)
  have H2 := hide (fun W (hb : Below w.heap.size w W) => stMost_any 14 v ax W (hv.below hb) hz (hT.below hb))
  obtain ⟨x1, e1⟩ := least14 ax
  obtain ⟨x2, e2⟩ := most14 ax
  rw [e1] at H1
  rw [e2] at H2
  obtain ⟨p, c, rfl, _⟩ := hv
  clear hz hT e1 e2
  generalize loK ax = lo at *
  generalize hiK ax = hi at *
  go_enter Tryz.func41, Tryz.ntmps41
  go_wp2_with fail
  refine H1.out.mono ?_
  rintro e w1 ⟨rfl, b1⟩
  go_wp2_with fail
  refine (H2.out _ b1).mono ?_
  rintro e w2 ⟨rfl, b2⟩
  go_wp2_with fail
  go_ret2
  exact ⟨rfl, chain b1 b2⟩
set_option maxHeartbeats 8000000 in
theorem clDefault_any (v : Value) (ax : List (ByteArray × ByteArray)) (w : World) (hv : AttrsV w v ax) (hz : AxOK ax) (hT : StTabs w) :
    Calls Tryz.prog 17 #[v] w fun e w' => e = .returned (.int .i64 (defG (loK ax) (hiK ax))) ∧ Below w.heap.size w w' := by
  have HB := hide (clBounds_any v ax w hv hz hT)
  have r1 : -1000000000000000000 ≤ loK ax ∧ loK ax ≤ 1000000000000000000 := least_range 14 ax
  have r2 : -1000000000000000000 ≤ hiK ax ∧ hiK ax ≤ 1000000000000000000 := most_range 14 ax
  obtain ⟨p, c, rfl, _⟩ := hv
  clear hz hT
  generalize loK ax = lo at *
  generalize hiK ax = hi at *
  obtain ⟨a1, a2⟩ := r1
  obtain ⟨a3, a4⟩ := r2
  have E : Hid (defG lo hi = if hi < lo then lo else lo + (hi - lo) / 2) := rfl
  by_cases q : hi < lo
  · rw [if_pos q] at E
    go_enter Tryz.func17, Tryz.ntmps17
    go_wp2_with fail
    refine HB.out.mono ?_
    rintro e w1 ⟨rfl, b1⟩
    go_wp2_with fail
    go_ret
    exact ⟨ret_int E.out.symm, b1⟩
  · rw [if_neg q] at E
    have q2 : 0 ≤ hi - lo := by omega
    go_enter Tryz.func17, Tryz.ntmps17
    go_wp2_with fail
    refine HB.out.mono ?_
    rintro e w1 ⟨rfl, b1⟩
    go_wp2_with fail
    go_ret
    exact ⟨ret_int E.out.symm, b1⟩
set_option maxHeartbeats 8000000 in
theorem clInto_any (v : Value) (ax : List (ByteArray × ByteArray)) (w : World) (hv : AttrsV w v ax) (hz : AxOK ax) (n : Int) (hT : StTabs w) :
    Calls Tryz.prog 49 #[v, .int .i64 n] w fun e w' => e = .returned (.int .i64 (heldG (loK ax) (hiK ax) n)) ∧ Below w.heap.size w w' := by
  have HB := hide (clBounds_any v ax w hv hz hT)
  obtain ⟨p, c, rfl, _⟩ := hv
  clear hz hT
  generalize loK ax = lo at *
  generalize hiK ax = hi at *
  have E : Hid (heldG lo hi n = if n < lo then lo else if hi < n ∧ lo ≤ hi then hi else n) := rfl
  by_cases q1 : n < lo
  · rw [if_pos q1] at E
    go_enter Tryz.func49, Tryz.ntmps49
    go_wp2_with fail
    refine HB.out.mono ?_
    rintro e w1 ⟨rfl, b1⟩
    go_wp2_with fail
    go_ret
    exact ⟨ret_int E.out.symm, b1⟩
  · rw [if_neg q1] at E
    have d1 : decide (n < lo) = false := decide_eq_false q1
    by_cases q2 : hi < n
    · by_cases q3 : lo ≤ hi
      · rw [if_pos ⟨q2, q3⟩] at E
        go_enter Tryz.func49, Tryz.ntmps49
        go_wp2_with fail
        refine HB.out.mono ?_
        rintro e w1 ⟨rfl, b1⟩
        go_wp2_with fail
        go_ret
        exact ⟨ret_int E.out.symm, b1⟩
      · rw [if_neg (fun t => q3 t.2)] at E
        have d3 : decide (lo ≤ hi) = false := decide_eq_false q3
        go_enter Tryz.func49, Tryz.ntmps49
        go_wp2_with fail
        refine HB.out.mono ?_
        rintro e w1 ⟨rfl, b1⟩
        go_wp2_with fail
        go_ret
        exact ⟨ret_int E.out.symm, b1⟩
    · rw [if_neg (fun t => q2 t.1)] at E
      have d2 : decide (hi < n) = false := decide_eq_false q2
      go_enter Tryz.func49, Tryz.ntmps49
      go_wp2_with fail
      refine HB.out.mono ?_
      rintro e w1 ⟨rfl, b1⟩
      go_wp2_with fail
      go_ret
      exact ⟨ret_int E.out.symm, b1⟩
set_option maxHeartbeats 8000000 in
theorem clOnto_any (v : Value) (ax : List (ByteArray × ByteArray)) (w : World) (hv : AttrsV w v ax) (hz : AxOK ax) (n : Int) (n1 : -1000000000000000000 ≤ n) (n2 : n ≤ 1000000000000000000) (hT : StTabs w) :
    Calls Tryz.prog 48 #[v, .int .i64 n] w fun e w' => e = .returned (.int .i64 (stepG (loK ax) (hiK ax) (baseK 14 ax) (stepK 14 ax) n)) ∧ Below w.heap.size w w' := by
  have HB := hide (fun W (hb : Below w.heap.size w W) => clBounds_any v ax W (hv.below hb) hz (hT.below hb))
  have H3 := hide (stStep_any 14 v ax w hv hz hT)
  have H4 := hide (fun W (hb : Below w.heap.size w W) => stBase_any 14 v ax W (hv.below hb) hz (hT.below hb))
  have r1 : -1000000000000000000 ≤ loK ax ∧ loK ax ≤ 1000000000000000000 := least_range 14 ax
  have r2 : -1000000000000000000 ≤ hiK ax ∧ hiK ax ≤ 1000000000000000000 := most_range 14 ax
  have r3 := base_range 14 ax
  have SR := hide (fun st => step_range 14 ax (b := st))
  obtain ⟨p, c, rfl, _⟩ := hv
  clear hz hT
  generalize loK ax = lo at *
  generalize hiK ax = hi at *
  generalize baseK 14 ax = bs at *
  generalize stepK 14 ax = S at *
  obtain ⟨a1, a2⟩ := r1
  obtain ⟨a3, a4⟩ := r2
  obtain ⟨a5, a6⟩ := r3
  unfold optV at H3
  cases S with
  | none =>
    have E : Hid (stepG lo hi bs none n = n) := rfl
    rw [show optI none = 0 from rfl, show (none : Option Int).isSome = false from rfl] at H3
    clear SR HB
    go_enter Tryz.func48, Tryz.ntmps48
    go_wp2_with fail
    refine H3.out.mono ?_
    rintro e w1 ⟨rfl, b1⟩
    go_wp2_with fail
    refine (H4.out _ b1).mono ?_
    rintro e w2 ⟨rfl, b2⟩
    have B2 := hide (chain b1 b2)
    clear b1 b2
    go_wp2_with fail
    go_ret
    exact ⟨ret_int E.out.symm, B2.out⟩
  | some st =>
    obtain ⟨s1, s2⟩ := SR.out st rfl
    rw [show optI (some st) = st from rfl, show (some st).isSome = true from rfl] at H3
    have HF := hide (fun W => fits_any n bs st W (by omega) (by omega) (by omega) (by omega) (by omega) (by omega))
    have HDo := hide (fun W => down_any n bs st W (by omega) (by omega) (by omega) (by omega) (by omega) (by omega))
    obtain ⟨k1, k2⟩ := down_ok (n := n) (base := bs) s1 n1 s2
    rw [k1, k2] at HDo
    obtain ⟨_, _, l1, l2⟩ := lo_fits (n := n) (base := bs) s1
    have E : Hid (stepG lo hi bs (some st) n = if fitV n bs st = true then n else if loG n bs st + st ≤ hi ∧ (loG n bs st + st - n ≤ n - loG n bs st ∨ loG n bs st < lo) then loG n bs st + st else if lo ≤ loG n bs st then loG n bs st else n) := rfl
    generalize stepG lo hi bs (some st) n = R at *
    generalize loG n bs st = d at *
    clear SR k1 k2
    cases q : fitV n bs st with
    | true =>
      rw [if_pos q] at E
      rw [q] at HF
      clear HDo HB q
      go_enter Tryz.func48, Tryz.ntmps48
      go_wp2_with fail
      refine H3.out.mono ?_
      rintro e w1 ⟨rfl, b1⟩
      go_wp2_with fail
      refine (H4.out _ b1).mono ?_
      rintro e w2 ⟨rfl, b2⟩
      have B2 := hide (chain b1 b2)
      clear b1 b2
      go_wp2_with fail
      refine (HF.out _).mono ?_
      rintro e w3 ⟨rfl, h3⟩
      obtain rfl : w2 = w3 := h3.symm
      go_wp2_with fail
      go_ret
      exact ⟨ret_int E.out.symm, B2.out⟩
    | false =>
      rw [if_neg (by rw [q]; decide)] at E
      rw [q] at HF
      clear q
      by_cases q1 : d + st ≤ hi
      · by_cases q2 : d + st - n ≤ n - d
        · rw [if_pos ⟨q1, .inl q2⟩] at E
          go_enter Tryz.func48, Tryz.ntmps48
          go_wp2_with fail
          refine H3.out.mono ?_
          rintro e w1 ⟨rfl, b1⟩
          go_wp2_with fail
          refine (H4.out _ b1).mono ?_
          rintro e w2 ⟨rfl, b2⟩
          have B2 := hide (chain b1 b2)
          clear b1 b2
          go_wp2_with fail
          refine (HF.out _).mono ?_
          rintro e w3 ⟨rfl, h3⟩
          obtain rfl : w2 = w3 := h3.symm
          go_wp2_with fail
          refine (HDo.out _).mono ?_
          rintro e w4 ⟨rfl, h4⟩
          obtain rfl : w2 = w4 := h4.symm
          go_wp2_with fail
          refine (HB.out _ B2.out).mono ?_
          rintro e w5 ⟨rfl, b5⟩
          go_wp2_with fail
          go_ret
          exact ⟨ret_int E.out.symm, chain B2.out b5⟩
        · have e2 : decide (d + st - n ≤ n - d) = false := decide_eq_false q2
          by_cases q3 : d < lo
          · rw [if_pos ⟨q1, .inr q3⟩] at E
            go_enter Tryz.func48, Tryz.ntmps48
            go_wp2_with fail
            refine H3.out.mono ?_
            rintro e w1 ⟨rfl, b1⟩
            go_wp2_with fail
            refine (H4.out _ b1).mono ?_
            rintro e w2 ⟨rfl, b2⟩
            have B2 := hide (chain b1 b2)
            clear b1 b2
            go_wp2_with fail
            refine (HF.out _).mono ?_
            rintro e w3 ⟨rfl, h3⟩
            obtain rfl : w2 = w3 := h3.symm
            go_wp2_with fail
            refine (HDo.out _).mono ?_
            rintro e w4 ⟨rfl, h4⟩
            obtain rfl : w2 = w4 := h4.symm
            go_wp2_with fail
            refine (HB.out _ B2.out).mono ?_
            rintro e w5 ⟨rfl, b5⟩
            go_wp2_with fail
            go_ret
            exact ⟨ret_int E.out.symm, chain B2.out b5⟩
          · have e3 : decide (d < lo) = false := decide_eq_false q3
            have q4 : lo ≤ d := by omega
            rw [if_neg (fun t => t.2.elim q2 q3), if_pos q4] at E
            go_enter Tryz.func48, Tryz.ntmps48
            go_wp2_with fail
            refine H3.out.mono ?_
            rintro e w1 ⟨rfl, b1⟩
            go_wp2_with fail
            refine (H4.out _ b1).mono ?_
            rintro e w2 ⟨rfl, b2⟩
            have B2 := hide (chain b1 b2)
            clear b1 b2
            go_wp2_with fail
            refine (HF.out _).mono ?_
            rintro e w3 ⟨rfl, h3⟩
            obtain rfl : w2 = w3 := h3.symm
            go_wp2_with fail
            refine (HDo.out _).mono ?_
            rintro e w4 ⟨rfl, h4⟩
            obtain rfl : w2 = w4 := h4.symm
            go_wp2_with fail
            refine (HB.out _ B2.out).mono ?_
            rintro e w5 ⟨rfl, b5⟩
            go_wp2_with fail
            go_ret
            exact ⟨ret_int E.out.symm, chain B2.out b5⟩
      · have e1 : decide (d + st ≤ hi) = false := decide_eq_false q1
        by_cases q4 : lo ≤ d
        · rw [if_neg (fun t => q1 t.1), if_pos q4] at E
          go_enter Tryz.func48, Tryz.ntmps48
          go_wp2_with fail
          refine H3.out.mono ?_
          rintro e w1 ⟨rfl, b1⟩
          go_wp2_with fail
          refine (H4.out _ b1).mono ?_
          rintro e w2 ⟨rfl, b2⟩
          have B2 := hide (chain b1 b2)
          clear b1 b2
          go_wp2_with fail
          refine (HF.out _).mono ?_
          rintro e w3 ⟨rfl, h3⟩
          obtain rfl : w2 = w3 := h3.symm
          go_wp2_with fail
          refine (HDo.out _).mono ?_
          rintro e w4 ⟨rfl, h4⟩
          obtain rfl : w2 = w4 := h4.symm
          go_wp2_with fail
          refine (HB.out _ B2.out).mono ?_
          rintro e w5 ⟨rfl, b5⟩
          go_wp2_with fail
          go_ret
          exact ⟨ret_int E.out.symm, chain B2.out b5⟩
        · have e4 : decide (lo ≤ d) = false := decide_eq_false q4
          rw [if_neg (fun t => q1 t.1), if_neg q4] at E
          go_enter Tryz.func48, Tryz.ntmps48
          go_wp2_with fail
          refine H3.out.mono ?_
          rintro e w1 ⟨rfl, b1⟩
          go_wp2_with fail
          refine (H4.out _ b1).mono ?_
          rintro e w2 ⟨rfl, b2⟩
          have B2 := hide (chain b1 b2)
          clear b1 b2
          go_wp2_with fail
          refine (HF.out _).mono ?_
          rintro e w3 ⟨rfl, h3⟩
          obtain rfl : w2 = w3 := h3.symm
          go_wp2_with fail
          refine (HDo.out _).mono ?_
          rintro e w4 ⟨rfl, h4⟩
          obtain rfl : w2 = w4 := h4.symm
          go_wp2_with fail
          refine (HB.out _ B2.out).mono ?_
          rintro e w5 ⟨rfl, b5⟩
          go_wp2_with fail
          go_ret
          exact ⟨ret_int E.out.symm, chain B2.out b5⟩
set_option maxHeartbeats 8000000 in
theorem clRange_any (v : Value) (ax : List (ByteArray × ByteArray)) (w : World) (hv : AttrsV w v ax) (hz : AxOK ax) (s : ByteArray) (hs : s.size ≤ 100000) (hT : StTabs w) :
    Calls Tryz.prog 24 #[v, .string s] w fun e w' => e = .returned (.string (txt (rangeT ax s.data.toList))) ∧ Below w.heap.size w w' := by
  have H5 := hide (stValue_any 14 s w hs hT)
  have H6 := hide (fun W (hb : Below w.heap.size w W) => clDefault_any v ax W (hv.below hb) hz (hT.below hb))
  have RR := rangeK_range ax s.data.toList
  have HSh := hide (fun W (hb : Below w.heap.size w W) => stShow_any (k := 14) (n := rangeK ax s.data.toList) (o := some (showL (rangeK ax s.data.toList))) (.inl ⟨.inr rfl, .inl ⟨RR.1, RR.2, rfl⟩⟩) W (by omega) (by omega) (hT.below hb))
  rw [show txtV (some (showL (rangeK ax s.data.toList))) = .tuple #[.string (txt (showL (rangeK ax s.data.toList))), .bool true] from rfl] at HSh
  have HC := hide (fun W => clone_any s W (by omega))
  have d0 : -1000000000000000000 ≤ (numK 14 s.data.toList).getD (defG (loK ax) (hiK ax)) ∧ (numK 14 s.data.toList).getD (defG (loK ax) (hiK ax)) ≤ 1000000000000000000 := by
    have r1 : -1000000000000000000 ≤ loK ax ∧ loK ax ≤ 1000000000000000000 := least_range 14 ax
    have r2 : -1000000000000000000 ≤ hiK ax ∧ hiK ax ≤ 1000000000000000000 := most_range 14 ax
    cases h : numK 14 s.data.toList with
    | none =>
      show -1000000000000000000 ≤ defG (loK ax) (hiK ax) ∧ defG (loK ax) (hiK ax) ≤ 1000000000000000000
      unfold defG
      split <;> omega
    | some n => exact num_range h
  obtain ⟨n0, hn0⟩ : ∃ n0, (numK 14 s.data.toList).getD (defG (loK ax) (hiK ax)) = n0 := ⟨_, rfl⟩
  rw [hn0] at d0
  have bn : -1000000000000000000 ≤ heldG (loK ax) (hiK ax) n0 ∧ heldG (loK ax) (hiK ax) n0 ≤ 1000000000000000000 := by
    have r1 : -1000000000000000000 ≤ loK ax ∧ loK ax ≤ 1000000000000000000 := least_range 14 ax
    have r2 : -1000000000000000000 ≤ hiK ax ∧ hiK ax ≤ 1000000000000000000 := most_range 14 ax
    unfold heldG
    split
    · omega
    · split <;> omega
  have HI := hide (fun W (hb : Below w.heap.size w W) => clInto_any v ax W (hv.below hb) hz n0 (hT.below hb))
  have HO := hide (fun W (hb : Below w.heap.size w W) => clOnto_any v ax W (hv.below hb) hz (heldG (loK ax) (hiK ax) n0) bn.1 bn.2 (hT.below hb))
  have EK : stepG (loK ax) (hiK ax) (baseK 14 ax) (stepK 14 ax) (heldG (loK ax) (hiK ax) n0) = rangeK ax s.data.toList := by rw [← hn0]; rfl
  rw [EK] at HO
  have ET : Hid (rangeT ax s.data.toList = if numK 14 s.data.toList = some (rangeK ax s.data.toList) then s.data.toList else showL (rangeK ax s.data.toList)) := rfl
  obtain ⟨p, c, rfl, _⟩ := hv
  clear hz hs hT RR d0 bn EK
  generalize heldG (loK ax) (hiK ax) n0 = n1 at *
  generalize defG (loK ax) (hiK ax) = df at *
  generalize rangeK ax s.data.toList = rk at *
  generalize numK 14 s.data.toList = own at *
  generalize rangeT ax s.data.toList = rt at *
  unfold optV at H5
  cases own with
  | none =>
    obtain rfl : df = n0 := hn0
    rw [show optI none = 0 from rfl, show (none : Option Int).isSome = false from rfl] at H5
    rw [if_neg (by intro t; cases t)] at ET
    have ES : Hid (txt (showL rk) = txt rt) := by show _ = _; rw [ET.out]
    generalize txt (showL rk) = x at *
    clear ET HC
    go_enter Tryz.func24, Tryz.ntmps24
    go_wp2_with fail
    refine H5.out.mono ?_
    rintro e w1 ⟨rfl, b1⟩
    go_wp2_with fail
    refine (H6.out _ b1).mono ?_
    rintro e w2 ⟨rfl, b2⟩
    have B2 := hide (chain b1 b2)
    clear b1 b2 H6
    go_wp2_with fail
    refine (HI.out _ B2.out).mono ?_
    rintro e w3 ⟨rfl, b3⟩
    have B3 := hide (chain B2.out b3)
    clear b3 B2 HI
    go_wp2_with fail
    refine (HO.out _ B3.out).mono ?_
    rintro e w4 ⟨rfl, b4⟩
    have B4 := hide (chain B3.out b4)
    clear b4 B3 HO
    go_wp2_with fail
    refine (HSh.out _ B4.out).mono ?_
    rintro e w6 ⟨rfl, b6⟩
    go_wp2_with fail
    go_ret
    exact ⟨ret_txt ES.out, chain B4.out b6⟩
  | some m =>
    obtain rfl : m = n0 := hn0
    rw [show optI (some m) = m from rfl, show (some m).isSome = true from rfl] at H5
    by_cases f : rk = m
    · subst f
      rw [if_pos rfl] at ET
      have ES : Hid (s = txt rt) := by show _ = _; rw [ET.out]; exact (txt_back s).symm
      clear ET HSh H6
      go_enter Tryz.func24, Tryz.ntmps24
      go_wp2_with fail
      refine H5.out.mono ?_
      rintro e w1 ⟨rfl, b1⟩
      have B2 := hide b1
      clear b1
      go_wp2_with fail
      refine (HI.out _ B2.out).mono ?_
      rintro e w3 ⟨rfl, b3⟩
      have B3 := hide (chain B2.out b3)
      clear b3 B2 HI
      go_wp2_with fail
      refine (HO.out _ B3.out).mono ?_
      rintro e w4 ⟨rfl, b4⟩
      have B4 := hide (chain B3.out b4)
      clear b4 B3 HO
      go_wp2_with fail
      refine (HC.out _).mono ?_
      rintro e w6 ⟨rfl, b6⟩
      go_wp2_with fail
      go_ret
      exact ⟨ret_txt ES.out, chain B4.out b6⟩
    · rw [if_neg (by intro t; cases t; exact f rfl)] at ET
      have ES : Hid (txt (showL rk) = txt rt) := by show _ = _; rw [ET.out]
      generalize txt (showL rk) = x at *
      have nf : (rk == m) = false := beq_eq_false_iff_ne.2 f
      clear ET HC H6
      go_enter Tryz.func24, Tryz.ntmps24
      go_wp2_with fail
      refine H5.out.mono ?_
      rintro e w1 ⟨rfl, b1⟩
      have B2 := hide b1
      clear b1
      go_wp2_with fail
      refine (HI.out _ B2.out).mono ?_
      rintro e w3 ⟨rfl, b3⟩
      have B3 := hide (chain B2.out b3)
      clear b3 B2 HI
      go_wp2_with fail
      refine (HO.out _ B3.out).mono ?_
      rintro e w4 ⟨rfl, b4⟩
      have B4 := hide (chain B3.out b4)
      clear b4 B3 HO
      go_wp2_with fail
      refine (HSh.out _ B4.out).mono ?_
      rintro e w6 ⟨rfl, b6⟩
      go_wp2_with fail
      go_ret
      exact ⟨ret_txt ES.out, chain B4.out b6⟩
set_option maxHeartbeats 8000000 in
theorem clMail_y (v : Value) (ax : List (ByteArray × ByteArray)) (w : World) (hv : AttrsV w v ax) (hz : AxOK ax) (s : ByteArray) (hs : s.size ≤ 100000) (hf : (findA ax multS).isSome = true) (hT : StTabs w) :
    Calls Tryz.prog 21 #[v, .string s] w fun e w' => e = .returned (.string (txt (cleanM s.data.toList))) ∧ Below w.heap.size w w' := by
  have HH := hide (clHas_any v ax w hv hz multS)
  rw [hf, show multS = ⟨#[109, 117, 108, 116, 105, 112, 108, 101]⟩ from rfl] at HH
  have HM := hide (fun W (hb : Below w.heap.size w W) => mailClean_any s W hs (hT.below hb).max)
  generalize txt (cleanM s.data.toList) = x at *
  obtain ⟨p, c, rfl, _⟩ := hv
  clear hz hs hf hT
  go_enter Tryz.func21, Tryz.ntmps21
  go_wp2_with fail
  refine HH.out.mono ?_
  rintro e w1 ⟨rfl, b1⟩
  go_wp2_with fail
  refine (HM.out _ b1).mono ?_
  rintro e w2 ⟨rfl, b2⟩
  go_wp2_with fail
  go_ret
  exact ⟨rfl, chain b1 b2⟩
set_option maxHeartbeats 8000000 in
theorem clMail_n (v : Value) (ax : List (ByteArray × ByteArray)) (w : World) (hv : AttrsV w v ax) (hz : AxOK ax) (s : ByteArray) (hs : s.size ≤ 100000) (hf : (findA ax multS).isSome = false) (hT : StTabs w) :
    Calls Tryz.prog 21 #[v, .string s] w fun e w' => e = .returned (.string (txt (trimM s.data.toList))) ∧ Below w.heap.size w w' := by
  have HH := hide (clHas_any v ax w hv hz multS)
  rw [hf, show multS = ⟨#[109, 117, 108, 116, 105, 112, 108, 101]⟩ from rfl] at HH
  have HM := hide (fun W (hb : Below w.heap.size w W) => mailTrim_any s W hs (hT.below hb).max)
  generalize txt (trimM s.data.toList) = x at *
  obtain ⟨p, c, rfl, _⟩ := hv
  clear hz hs hf hT
  go_enter Tryz.func21, Tryz.ntmps21
  go_wp2_with fail
  refine HH.out.mono ?_
  rintro e w1 ⟨rfl, b1⟩
  go_wp2_with fail
  refine (HM.out _ b1).mono ?_
  rintro e w2 ⟨rfl, b2⟩
  go_wp2_with fail
  go_ret
  exact ⟨rfl, chain b1 b2⟩
set_option maxHeartbeats 8000000 in
theorem clCount_y (k : Int) (s : ByteArray) (w : World) (hs : s.size ≤ 100000) (hb : (numK k s.data.toList).isSome = true) (hT : StTabs w) :
    Calls Tryz.prog 22 #[.int .i64 k, .string s] w fun e w' => e = .returned (.string s) ∧ Below w.heap.size w w' := by
  have HV := hide (stValue_any k s w hs hT)
  have HC := hide (fun W => clone_any s W (by omega))
  unfold optV at HV
  rw [hb] at HV
  generalize optI (numK k s.data.toList) = vn at *
  clear hs hb hT
  go_enter Tryz.func22, Tryz.ntmps22
  go_wp2_with fail
  refine HV.out.mono ?_
  rintro e w1 ⟨rfl, b1⟩
  go_wp2_with fail
  refine (HC.out _).mono ?_
  rintro e w2 ⟨rfl, b2⟩
  go_wp2_with fail
  go_ret
  exact ⟨rfl, chain b1 b2⟩
set_option maxHeartbeats 8000000 in
theorem clCount_n (k : Int) (s : ByteArray) (w : World) (hs : s.size ≤ 100000) (hb : (numK k s.data.toList).isSome = false) (hT : StTabs w) :
    Calls Tryz.prog 22 #[.int .i64 k, .string s] w fun e w' => e = .returned (.string ⟨#[]⟩) ∧ Below w.heap.size w w' := by
  have HV := hide (stValue_any k s w hs hT)
  unfold optV at HV
  rw [hb] at HV
  generalize optI (numK k s.data.toList) = vn at *
  clear hs hb hT
  go_enter Tryz.func22, Tryz.ntmps22
  go_wp2_with fail
  refine HV.out.mono ?_
  rintro e w1 ⟨rfl, b1⟩
  go_wp2_with fail
  go_ret
  exact ⟨rfl, b1⟩
set_option maxHeartbeats 8000000 in
theorem clLocal_n (s : ByteArray) (w : World) (hs : s.size ≤ 100000) (hb : numK 12 s.data.toList = none) (hT : StTabs w) :
    Calls Tryz.prog 23 #[.string s] w fun e w' => e = .returned (.string ⟨#[]⟩) ∧ Below w.heap.size w w' := by
  have HV := hide (stValue_any 12 s w hs hT)
  rw [hb, show optV none = .tuple #[.int .i64 0, .bool false] from rfl] at HV
  clear hs hb hT
  go_enter Tryz.func23, Tryz.ntmps23
  go_wp2_with fail
  refine HV.out.mono ?_
  rintro e w1 ⟨rfl, b1⟩
  go_wp2_with fail
  go_ret
  exact ⟨rfl, b1⟩
set_option maxHeartbeats 8000000 in
theorem clLocal_y (s : ByteArray) (w : World) (hs : s.size ≤ 100000) (n : Int) (t : List UInt8) (hb : numK 12 s.data.toList = some n) (ho : ShK 12 n (some t)) (hT : StTabs w) :
    Calls Tryz.prog 23 #[.string s] w fun e w' => e = .returned (.string (txt t)) ∧ Below w.heap.size w w' := by
  have HV := hide (stValue_any 12 s w hs hT)
  have HN := hide (fun W (q : Below w.heap.size w W) => stShow_any ho W (by have := num_range hb; omega) (by have := num_range hb; omega) (hT.below q))
  rw [hb, show optV (some n) = .tuple #[.int .i64 n, .bool true] from rfl] at HV
  rw [show txtV (some t) = .tuple #[.string (txt t), .bool true] from rfl] at HN
  generalize txt t = ox at *
  clear hs ho hb hT
  go_enter Tryz.func23, Tryz.ntmps23
  go_wp2_with fail
  refine HV.out.mono ?_
  rintro e w1 ⟨rfl, b1⟩
  go_wp2_with fail
  refine (HN.out _ b1).mono ?_
  rintro e w2 ⟨rfl, b2⟩
  go_wp2_with fail
  go_ret
  exact ⟨rfl, chain b1 b2⟩

end Go.Proofs.YtpkpkpiphgjbaaaGreatDoor
