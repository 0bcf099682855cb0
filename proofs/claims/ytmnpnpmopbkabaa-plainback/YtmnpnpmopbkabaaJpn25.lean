/- Entries told as plain lines, and a text's lines, as functions of lists. Stage 21's law PlainBack, walked. -/
import Derived.Test.YtmnpnpmopbkabaaJpn11
import Derived.Test.YtmnpnpmopbkabaaJpn13
import Derived.Test.YtmnpnpmopbkabaaJpn17
import Derived.Test.YtmnpnpmopbkabaaJpn20

namespace Go.Proofs.Ytmnpnpmopbkabaa
open Go.RowKit
theorem ln_line : ∀ {x cur : List UInt8} (r : List UInt8), (∀ c ∈ x, c ≠ 10 ∧ c ≠ 13) → lnA cur (x ++ 13 :: 10 :: r) = (cur ++ x) :: lnA [] r
  | [], cur, r, _ => by rw [List.append_nil]; exact ln_1310 cur r
  | c :: x, cur, r, h => by
    have hc := h c List.mem_cons_self
    show lnA cur (c :: (x ++ 13 :: 10 :: r)) = _
    rw [ln_byte hc.1 hc.2, ln_line r (fun d hd => h d (List.mem_cons_of_mem _ hd))]
    simp
theorem back_n : ∀ (l : List En), (∀ e ∈ l, ∀ c ∈ plnL e, c ≠ 10 ∧ c ≠ 13) → lnA [] (l.flatMap fun e => plnL e ++ [13, 10]) = l.map plnL
  | [], _ => rfl
  | e :: l, h => by
    have ih := back_n l (fun x hx => h x (List.mem_cons_of_mem _ hx))
    show lnA [] ((plnL e ++ [13, 10]) ++ l.flatMap fun e => plnL e ++ [13, 10]) = _
    rw [List.append_assoc]
    show lnA [] (plnL e ++ 13 :: 10 :: (l.flatMap fun e => plnL e ++ [13, 10])) = _
    rw [ln_line _ (h e List.mem_cons_self), ih]
    rfl
end Go.Proofs.Ytmnpnpmopbkabaa

namespace Go.Proofs.Ytmnpnpmopbkabaa
open Go.RowKit
set_option maxRecDepth 100000
def ClrB (c : UInt8) : Prop := c ≠ 10 ∧ c ≠ 13
theorem txt_pln (e : En) : e.name ++ ⟨#[61]⟩ ++ e.val = txt (plnL e) := by
  apply ByteArray.ext
  apply Array.ext'
  unfold plnL
  show _ = bL e.name ++ 61 :: bL e.val
  simp [bL, ByteArray.data_append]
theorem clr_at {s : ByteArray} {x : List UInt8} (e : s = txt x) (h : ∀ i (hi : i < s.size), ClrB s[i]) : ∀ c ∈ x, c ≠ 10 ∧ c ≠ 13 := by
  subst e
  intro c hc
  obtain ⟨i, hi, rfl⟩ := List.getElem_of_mem hc
  exact h i hi
theorem back_all {l : List En} (h : ∀ e ∈ plainU l, ∀ c ∈ plnL e, c ≠ 10 ∧ c ≠ 13) : (linN (bL (txt (encN l)))).map txt = ((plainU l).map plnL).map txt := by
  show (lnA [] (encN l)).map txt = _
  unfold encN
  rw [back_n _ h]
set_option maxHeartbeats 8000000 in
theorem plainBack_walk (v : Value) (l : List En) (w : World) (hv : FilesV w v l) (hf : l.length ≤ 4398046511104) (hT : PlTabs w) :
    Calls Try.prog 5 #[v] w fun e w' => e = .returned (.bool true) ∧ Below w.heap.size w w' := by
  have FV := hide hv
  have HW := hide (plWakes_any w hT)
  have HLg := hide (fun W (hb : Below w.heap.size w W) => refLong_any v l W (FV.out.below hb) hf)
  cases lg : longU l with
  | true =>
    rw [lg] at HLg
    obtain ⟨p, c, rfl⟩ := files_formP hv
    clear hv hf hT lg FV
    go_enter Try.func5, Try.ntmps5
    go_wp2_with fail
    refine HW.out.mono ?_
    rintro e w1 ⟨rfl, b1⟩
    go_wp2_with fail
    refine (HLg.out _ b1).mono ?_
    rintro e w2 ⟨rfl, hu⟩
    obtain rfl : w1 = w2 := hu.symm
    go_wp2_with fail
    go_ret
    exact ⟨rfl, b1⟩
  | false =>
    obtain ⟨l60, hok⟩ := long_ok lg
    rw [lg] at HLg
    have PS := hide (plain_sizesN hok)
    have PN : Hid ((plainU l).length ≤ 200) := by show _ ≤ _; unfold plainU; rw [List.length_map]; exact hok.len
    have EZ : Hid ((txt (encN l)).size ≤ 2000000) := by
      have h1 := enN_len PS.out PN.out (plainU l).length
      have h2 : enN (plainU l) (plainU l).length = encN l := by unfold enN; rw [List.take_length]; rfl
      rw [h2] at h1
      have h3 : (plainU l).length ≤ 60 := by unfold plainU; rw [List.length_map]; exact l60
      show (encN l).length ≤ _
      omega
    have HP := hide (fun W (hb' : Below w.heap.size w W) => refPlain19_any 2000 v l W (FV.out.below hb') (by omega) hok)
    have HEn := hide (fun W (hb' : Below w.heap.size w W) => plEncode_any 2000 v l W (FV.out.below hb') (by omega) hok (hT.below hb'))
    have HSp := hide (fun W (hb' : Below w.heap.size w W) => plSplit_any (txt (encN l)) W (by have := EZ.out; omega) (hT.below hb'))
    have LD : Hid (((linN (bL (txt (encN l)))).map txt).length ≤ 4398046511104) := lin_count (by have := EZ.out; omega)
    have BK := hide (@back_all l)
    have p200 := PN.out
    obtain ⟨p0, c0, rfl⟩ := files_formP hv
    clear hv hf hT lg hok FV PN EZ
    generalize plainU l = p at *
    generalize (linN (bL (txt (encN l)))).map txt = ds at *
    generalize txt (encN l) = et at *
    go_enter Try.func5, Try.ntmps5
    go_wp2_with fail
    refine HW.out.mono ?_
    rintro e w1 ⟨rfl, b1⟩
    go_wp2_with fail
    refine (HLg.out _ b1).mono ?_
    rintro e w2 ⟨rfl, hu⟩
    obtain rfl : w1 = w2 := hu.symm
    go_wp2_with fail
    refine (HP.out _ b1).mono ?_
    rintro e wp ⟨vp, rfl, op, bp⟩
    have PF := hide op.files
    obtain ⟨q, cq, rfl⟩ := op.form
    have BP := hide (chain b1 bp)
    clear op bp HP b1 HW HLg
    go_wp2_with fail
    go_loopw [3, 15] (fun ov iv wr => ∃ k : Nat, k ≤ p.length ∧ iv = .int .i64 k ∧ OwnsT 9 wp.heap.size wr ov ((p.take k).map plnL) ∧ Hid (∀ e ∈ p.take k, ∀ c ∈ plnL e, c ≠ 10 ∧ c ≠ 13) ∧ Hid (Below wp.heap.size wp wr)) (fun _ iv _ => p.length - (intOf iv).toNat)
    case atStart => exact ⟨0, Nat.zero_le _, rfl, OwnsT.nil _ _ _, (fun e h => by simp at h), Below.refl _ _⟩
    case round =>
      rename World => wr
      obtain ⟨k, hk, rfl, OW, CL, BW⟩ := hrel
      by_cases g : k < p.length
      · have k1 : (k : Int) < (p.length : Int) := by omega
        have k0 : (0 : Int) ≤ (k : Int) := by omega
        obtain ⟨q', c', eq, hq⟩ := PF.out
        cases eq
        obtain ⟨b, o, rfl, hc⟩ : ∃ b o, q = some ⟨b, o, none⟩ ∧ ∀ i (h : i < p.length), EnAt wp b (o + i * 5) p[i] := by
          rcases hq with t | t
          · rw [t] at g; simp at g
          · exact t
        have EA := hide ((hc k g).below BW.out)
        have sz := PS.out _ (List.getElem_mem g)
        have TK : Hid (p.take (k + 1) = p.take k ++ [p[k]]) := List.take_succ_eq_append_getElem g
        have DN : Hid ((p.take (k + 1)).map plnL = (p.take k).map plnL ++ [plnL p[k]]) := by
          show _ = _
          rw [TK.out, List.map_append]
          rfl
        have CN : Hid ((∀ c ∈ plnL p[k], c ≠ 10 ∧ c ≠ 13) → ∀ e ∈ p.take (k + 1), ∀ c ∈ plnL e, c ≠ 10 ∧ c ≠ 13) := by
          show _ → _
          intro h e he
          rw [TK.out, List.mem_append] at he
          rcases he with he | he
          · exact CL.out e he
          · rw [List.mem_singleton.1 he]; exact h
        have lk : ((p.take k).map plnL).length ≤ 200 := by rw [List.length_map, List.length_take]; omega
        have sw := BW.out.size
        obtain ⟨sz0, sz1⟩ := sz
        clear hc hq PS PF HEn HSp BK TK CL
        generalize (p.take k).map plnL = dn at *
        generalize p[k] = ek at *
        obtain ⟨x0, x1, x2, x3, x4⟩ := EA.out
        have KR := hide (Bk.new wr [.string ek.name, .string ek.val, .bool ek.file, .string ek.fname, .string ek.typ] 32)
        have B3 : Hid (Below wr.heap.size wr (wr.alloc (.cells #[.string ek.name, .string ek.val, .bool ek.file, .string ek.fname, .string ek.typ] 32))) := (Below.refl _ wr).alloc (Nat.le_refl _) _
        have r0 := KR.out.cell 0 rfl
        have r1 := KR.out.cell 1 rfl
        go_wp2_with fail
        have SE : ((ek.name.size : Int) + 1 + (ek.val.size : Int)) = ((ek.name ++ ⟨#[61]⟩ ++ ek.val).size : Int) := by
          rw [ByteArray.size_append, ByteArray.size_append]
          show _ = ((ek.name.size + 1 + ek.val.size : Nat) : Int)
          omega
        rw [SE]
        have TX := hide (txt_pln ek)
        have sS : (ek.name ++ ⟨#[61]⟩ ++ ek.val).size ≤ 8001 := by omega
        have OWa := ownsRow_below OW B3.out
        have BWa := hide (BW.out.trans (B3.out.mono sw))
        have CC := hide (fun h => CN.out (clr_at TX.out h))
        clear SE r0 r1 x0 x1 x2 x3 x4 KR OW BW B3 EA CN sz0 sz1 sw
        generalize ek.name ++ ⟨#[61]⟩ ++ ek.val = S at *
        generalize wr.alloc (.cells #[.string ek.name, .string ek.val, .bool ek.file, .string ek.fname, .string ek.typ] 32) = wa at *
        have swa := BWa.out.size
        go_loopw [27] (fun jv w' => ∃ j : Nat, j ≤ S.size ∧ jv = .int .i64 j ∧ w' = wa ∧ Hid (∀ i (hi : i < S.size), i < j → ClrB S[i])) (fun jv _ => S.size - (intOf jv).toNat)
        case atStart => exact ⟨0, Nat.zero_le _, rfl, rfl, fun i hi h => absurd h (by omega)⟩
        case round =>
          rename World => wx
          obtain ⟨j, hj, rfl, rfl, CJ⟩ := hrel
          by_cases gj : j < S.size
          · have j1 : (j : Int) < (S.size : Int) := by omega
            have j0 : (0 : Int) ≤ (j : Int) := by omega
            by_cases e10 : (S[j].toNat : Int) = 10
            · have e1 : ((S[j].toNat : Int) == 10) = true := by rw [e10]; rfl
              clear e10 CJ CC OWa
              go_wp2_with fail
              go_ret
              exact ⟨rfl, chain BP.out BWa.out⟩
            · have e1 : ((S[j].toNat : Int) == 10) = false := beq_eq_false_iff_ne.2 e10
              by_cases e13 : (S[j].toNat : Int) = 13
              · have e2 : ((S[j].toNat : Int) == 13) = true := by rw [e13]; rfl
                clear e10 e13 CJ CC OWa
                go_wp2_with fail
                go_ret
                exact ⟨rfl, chain BP.out BWa.out⟩
              · have e2 : ((S[j].toNat : Int) == 13) = false := beq_eq_false_iff_ne.2 e13
                have CK : Hid (∀ i (hi : i < S.size), i < j + 1 → ClrB S[i]) := by
                  intro i hi h
                  by_cases hij : i < j
                  · exact CJ.out i hi hij
                  · obtain rfl : i = j := by omega
                    exact ⟨fun t => e10 (by rw [t]; rfl), fun t => e13 (by rw [t]; rfl)⟩
                clear e10 e13 CJ
                go_wp2_with fail
                go_roundw
                case rel => exact ⟨j + 1, by omega, by go_num, by trivial, CK⟩
                case measure => simp [intOf]; omega
          · obtain rfl : j = S.size := by omega
            have CZ := hide (CC.out (fun i hi => CJ.out i hi hi))
            clear CJ CC
            go_wp2_with (at_builtin; refine wpList_append_item textTypesN _ _ rfl _ _ rfl wp.heap.size _ _ (plnL ek) TX.out rfl OWa rfl (by omega) (by omega) ?_; intro v' w' o' b')
            rw [← DN.out] at o'
            go_roundw
            case rel => exact ⟨k + 1, by omega, by go_num, o', CZ, BWa.out.trans b'⟩
            case measure => simp [intOf]; omega
      · obtain rfl : k = p.length := by omega
        rw [List.take_length] at OW CL
        have DW := hide (draws_ownN OW)
        rw [← BK.out CL.out] at DW
        have DF := DW.out
        obtain ⟨pw, cw, rfl⟩ := draws_formN DF
        have B4 := hide (chain BP.out BW.out)
        clear OW CL DF PF PS BK BW BP
        go_wp2_with fail
        refine (HEn.out _ B4.out).mono ?_
        rintro e w5 ⟨rfl, b5⟩
        have D5 := hide (DW.out.below b5)
        have B5 := hide (chain B4.out b5)
        clear b5 B4 DW
        go_wp2_with fail
        refine (HSp.out _ B5.out).mono ?_
        rintro e w6 ⟨v6, rfl, d6, b6⟩
        have D6 := hide (D5.out.below b6)
        have B6 := hide (chain B5.out b6)
        have HQ := hide (plSame_yes _ _ _ w6 d6 D6.out LD.out)
        obtain ⟨p6, c6, rfl⟩ := draws_formN d6
        clear b6 B5 D5 d6
        go_wp2_with fail
        refine HQ.out.mono ?_
        rintro e w7 ⟨rfl, b7⟩
        have B7 := hide (chain B6.out b7)
        go_wp2_with fail
        go_ret
        exact ⟨rfl, B7.out⟩

end Go.Proofs.Ytmnpnpmopbkabaa
