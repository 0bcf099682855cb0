/- Facts of no program. The document's NoBreaks. The document's Pairs of layer 1. The document's Pairs of layer 1, Long and Plain of layer 19. -/
import Derived.Test.YtfedeiipinamjaaDoorJur13
import Derived.Test.YtfedeiipinamjaaDoorJur19

namespace Go.Proofs.YtfedeiipinamjaaDoor
open Go.RowKit
/-- 'out = append(out, s...)', s a text. -/
theorem wpList_append_text {P : Program} {t e st : TypeId} (bt : ByteTypes P t e st) {ops : Array Oper} {rest : List Oper} {o : Oper} {a : Act} {Q : Exit → Act → World → Prop} (w : World)
    (hgd : o.guard = none) (sl x : Operand) (ho : o.op = .call { callee := .builtin .append, args := #[sl, x], argTypes := #[t, st] })
    (base : Nat) (v : Value) (l : List UInt8) (s : ByteArray) (hs : a.eval sl = v) (hown : OwnsB e base w v l)
    (hx : a.eval x = .string s) (hlen : l.length + s.size ≤ 70368744177664) (hbase : base ≤ w.heap.size)
    (h : ∀ v' w', OwnsB e base w' v' (l ++ s.data.toList) → Below base w w' → wpList P ops Q rest (a.put o.dst v') w') : wpList P ops Q (o :: rest) a w := by
  obtain ⟨i, hi, hz0, hz1, hz2⟩ := info_parts bt.info
  refine Lib.wpList_append_own_string (P := P) w hgd sl x t st ho base e i bt.sl bt.str hi hz0 hz1 hz2 v l.length (l.map cellB) hs hown s hx (by unfold maxLen; omega) (by omega) hbase ?_
  intro v' w' h1 h2 _
  refine h v' w' ?_ (grown_below hown h2 hbase)
  have e1 : Lib.strCells s = s.data.toList.map cellB := by simp [Lib.strCells, cellB]
  have e2 : s.size = s.data.toList.length := by simp
  rw [e1, e2, ← List.map_append, ← List.length_append] at h1
  exact h1
end Go.Proofs.YtfedeiipinamjaaDoor

namespace Go.Proofs.YtfedeiipinamjaaDoor
open Go.RowKit
set_option maxRecDepth 100000
theorem byteTypesE : ByteTypes Tryd.prog 34 5 9 := ⟨Tryd.underlying34, Tryd.underlying5, Tryd.underlying9, by kernel_rfl⟩
set_option maxHeartbeats 400000 in
theorem refEnds_any (s e : ByteArray) (w : World) (hs : s.size ≤ 1099511627776) (he : e.size ≤ 2) :
    Calls Tryd.prog 29 #[.string s, .string e] w fun r w' => r = .returned (.string (endsS e s)) ∧ Below w.heap.size w w' := by
  go_enter Tryd.func29, Tryd.ntmps29
  go_wp2
  go_loopw [5, 6] (fun v i wr => ∃ k : Nat, k ≤ s.size ∧ i = .int .i64 k ∧ OwnsB 5 w.heap.size wr v (endsP e.data.toList 0 (s.data.toList.take k)) ∧ (k < s.size → ¬ (byteAt s k = 10 ∧ prevAt s k = 13)) ∧ Below w.heap.size w wr) (fun _ i _ => s.size - (intOf i).toNat)
  case atStart => exact ⟨0, Nat.zero_le _, rfl, OwnsB.nil _ _ _, fun _ h => absurd h.2 (prevAt_zero s), Below.refl _ _⟩
  case round =>
    obtain ⟨k, hk, rfl, hown, hn, hb⟩ := hrel
    by_cases hlt : k < s.size
    · have hle := endsP_take_le e s k he
      have HT := hide (endsP_take e.data.toList s k hlt)
      have hsz := hb.size
      have HN := hide (hn hlt)
      clear hn
      have HE := hide (byteAt_eq s k hlt)
      have HB : Hid ((s[k].toNat : Int) = ((byteAt s k).toNat : Int)) := by rw [byteAt_eq s k hlt]; rfl
      by_cases h10 : (s[k].toNat : Int) = 10
      · have q1 : ((s[k].toNat : Int) != 10) = false := by simp [h10]
        have q2 : ((s[k].toNat : Int) == 13) = false := by simp [h10]
        have hc := (b10 (byteAt s k)).2 (by rw [← HB.out]; exact h10)
        have HP := hide (piece_end (e := e.data.toList) (p := prevAt s k) (c := byteAt s k) HN.out (.inl hc))
        have HX := hide (fun h : k + 1 < s.size => next_free s k (fun h13 => absurd (hc.symm.trans h13) (by decide)) h)
        clear h10 hc HE
        go_wp2_with (at_builtin; refine wpList_append_text byteTypesE wr rfl _ _ rfl w.heap.size _ _ e rfl hown rfl (by omega) (by omega) ?_; intro v' w' hown' hb')
        go_roundw
        case rel => exact ⟨k + 1, by omega, by go_num, by rw [HT.out, HP.out]; exact hown', fun h => HX.out h, hb.trans hb'⟩
        case measure => simp [intOf]; omega
      · by_cases h13 : (s[k].toNat : Int) = 13
        · have q1 : ((s[k].toNat : Int) != 10) = true := by simp [h13]
          have q2 : ((s[k].toNat : Int) != 13) = false := by simp [h13]
          have q3 : ((s[k].toNat : Int) == 13) = true := by simp [h13]
          have hc := (b13 (byteAt s k)).2 (by rw [← HB.out]; exact h13)
          have HP := hide (piece_end (e := e.data.toList) (p := prevAt s k) (c := byteAt s k) HN.out (.inr hc))
          by_cases hn1 : k + 1 < s.size
          · have hi1 : (k : Int) + 1 < (s.size : Int) := by omega
            by_cases hx : ((s[k + 1]'hn1).toNat : Int) = 10
            · have q4 : (((s[k + 1]'hn1).toNat : Int) == 10) = true := by simp [hx]
              have hc1 := (b10 (byteAt s (k + 1))).2 (by rw [← byteAt_eq s (k + 1) hn1]; exact hx)
              have hp1 : prevAt s (k + 1) = 13 := by unfold prevAt; rw [if_neg (by omega)]; exact hc
              have HT2 : Hid (endsP e.data.toList 0 (s.data.toList.take (k + 1 + 1)) = endsP e.data.toList 0 (s.data.toList.take k) ++ e.data.toList) := by
                show _ = _
                rw [endsP_take _ _ _ hn1, piece_none hc1 hp1, List.append_nil, HT.out, HP.out]
              have HX := hide (fun h : k + 1 + 1 < s.size => next_free s (k + 1) (fun h13 => absurd (hc1.symm.trans h13) (by decide)) h)
              clear h10 h13 hc HE hx hc1 hp1
              go_wp2_with (at_builtin; refine wpList_append_text byteTypesE wr rfl _ _ rfl w.heap.size _ _ e rfl hown rfl (by omega) (by omega) ?_; intro v' w' hown' hb')
              go_roundw
              case rel => exact ⟨k + 1 + 1, by omega, by go_num, by rw [HT2.out]; exact hown', fun h => HX.out h, hb.trans hb'⟩
              case measure => simp [intOf]; omega
            · have q4 : (((s[k + 1]'hn1).toNat : Int) == 10) = false := by simp [hx]
              have HX := hide (fun _ : k + 1 < s.size => fun h : byteAt s (k + 1) = 10 ∧ prevAt s (k + 1) = 13 => hx (by rw [byteAt_eq s (k + 1) hn1]; exact (b10 _).1 h.1))
              clear h10 h13 hc HE hx
              go_wp2_with (at_builtin; refine wpList_append_text byteTypesE wr rfl _ _ rfl w.heap.size _ _ e rfl hown rfl (by omega) (by omega) ?_; intro v' w' hown' hb')
              go_roundw
              case rel => exact ⟨k + 1, by omega, by go_num, by rw [HT.out, HP.out]; exact hown', fun h => HX.out h, hb.trans hb'⟩
              case measure => simp [intOf]; omega
          · have hi1 : ¬ (k : Int) + 1 < (s.size : Int) := by omega
            clear h10 h13 hc HE
            go_wp2_with (at_builtin; refine wpList_append_text byteTypesE wr rfl _ _ rfl w.heap.size _ _ e rfl hown rfl (by omega) (by omega) ?_; intro v' w' hown' hb')
            go_roundw
            case rel => exact ⟨k + 1, by omega, by go_num, by rw [HT.out, HP.out]; exact hown', fun h => absurd h hn1, hb.trans hb'⟩
            case measure => simp [intOf]; omega
        · have q1 : ((s[k].toNat : Int) != 10) = true := by simp [h10]
          have q2 : ((s[k].toNat : Int) != 13) = true := by simp [h13]
          have g10 := fun h => h10 (HB.out.trans ((b10 (byteAt s k)).1 h))
          have g13 := fun h => h13 (HB.out.trans ((b13 (byteAt s k)).1 h))
          have HP := hide (piece_byte (e := e.data.toList) (p := prevAt s k) (c := byteAt s k) g10 g13)
          have HX := hide (fun h : k + 1 < s.size => next_free s k g13 h)
          clear h10 h13 HE g10 g13
          go_wp2_with (at_builtin; refine wpList_append_byte byteTypesE wr _ rfl _ _ rfl w.heap.size _ _ (byteAt s k) HB.out rfl hown rfl (by omega) (by omega) ?_; intro v' w' hown' hb')
          go_roundw
          case rel => exact ⟨k + 1, by omega, by go_num, by rw [HT.out, HP.out]; exact hown', fun h => HX.out h, hb.trans hb'⟩
          case measure => simp [intOf]; omega
    · have e : k = s.size := by omega
      subst e
      rw [take_all] at hown
      have hend := hown.text byteTypesE
      go_wp2
      go_ret
      exact ⟨rfl, hb⟩
end Go.Proofs.YtfedeiipinamjaaDoor

namespace Go.Proofs.YtfedeiipinamjaaDoor
open Go.RowKit
set_option maxRecDepth 100000
set_option maxHeartbeats 4000000 in
theorem refPairs_any (s : ByteArray) (w : World) (hs : s.size ≤ 1099511627776) :
    Calls Tryd.prog 18 #[.string s] w fun r w' => r = .returned (.string (pairsS s)) ∧ Below w.heap.size w w' := by
  go_enter Tryd.func18, Tryd.ntmps18
  go_wp2_with fail
  refine (refEnds_any s ⟨#[13, 10]⟩ _ hs (by decide)).mono ?_
  rintro r w1 ⟨rfl, b1⟩
  go_wp2_with fail
  go_ret
  exact ⟨rfl, b1⟩
end Go.Proofs.YtfedeiipinamjaaDoor

namespace Go.Proofs.YtfedeiipinamjaaDoor
open Go.RowKit
set_option maxRecDepth 100000
set_option maxHeartbeats 4000000 in
theorem refPlain19_any (n : Nat) (v : Value) (l : List En) (w : World) (hv : FilesV w v l) (hn : n ≤ 10000000) (hl : EnsOK n l) :
    Calls Tryd.prog 12 #[v] w fun e w' => ∃ v', e = .returned v' ∧ OwnR w.heap.size w' v' (plainU l) ∧ Below w.heap.size w w' := by
  obtain ⟨p, c, rfl, hv⟩ := hv
  have HV := hide hv
  have h60 := hl.len
  have HL := hide hl
  clear hv hl
  go_enter Tryd.func12, Tryd.ntmps12
  go_wp2_with fail
  go_loopw [3, 4] (fun ov iv wr => ∃ (k : Nat) (q : Option Addr) (cp : Nat), k ≤ l.length ∧ iv = .int .i64 k ∧ ov = .slice q k cp ∧ Hid (OwnR w.heap.size wr (.slice q k cp) (plainU (l.take k))) ∧ Hid (Below w.heap.size w wr)) (fun _ iv _ => l.length - (intOf iv).toNat)
  case atStart => exact ⟨0, none, 0, Nat.zero_le _, rfl, rfl, OwnR.nil _ _, Below.refl _ _⟩
  case round =>
    rename World => wr
    obtain ⟨k, q, cp, hk, rfl, rfl, OW, BW⟩ := hrel
    by_cases g : k < l.length
    · have k1 : (k : Int) < (l.length : Int) := by omega
      have k0 : (0 : Int) ≤ (k : Int) := by omega
      obtain ⟨b, o, rfl, hc⟩ : ∃ b o, p = some ⟨b, o, none⟩ ∧ ∀ i (h : i < l.length), EnAt w b (o + i * 5) l[i] := by
        rcases HV.out with t | t
        · rw [t] at g; simp at g
        · exact t
      have EA := (hc k g).below BW.out
      have a0 := EA.c0
      have a1 := EA.c1
      have a2 := EA.c2
      have a3 := EA.c3
      have sz := HL.out.ent _ (List.getElem_mem g)
      have TK := hide (plain_take l g)
      have PL := hide (plain_len l k hk)
      have s0 := sz.1
      have s1 := sz.2.1
      have s2 := sz.2.2.1
      have EP : Hid (plE l[k] = ⟨pairsS l[k].name, pairsS (if l[k].file = true then l[k].fname else l[k].val), false, ⟨#[]⟩, ⟨#[]⟩⟩) := rfl
      have H0 := hide (fun W => refPairs_any l[k].name W (by omega))
      have H1 := hide (fun W => refPairs_any l[k].val W (by omega))
      have H2 := hide (fun W => refPairs_any l[k].fname W (by omega))
      clear hc EA HV HL sz s0 s1 s2
      generalize plE l[k] = pe at *
      generalize l[k].name = t0 at *
      generalize l[k].val = t1 at *
      generalize l[k].fname = t2 at *
      generalize l[k].file = fb at *
      cases fb with
      | true =>
        rw [if_pos rfl] at EP
        clear H1
        go_wp2_with fail
        refine (H0.out _).mono ?_
        rintro e w1 ⟨rfl, b1⟩
        have B1 := hide (chain BW.out b1)
        have O1 := hide (OW.out.below b1)
        clear b1 a0 a1 a2 a3
        go_wp2_with fail
        refine (H2.out _).mono ?_
        rintro e w2 ⟨rfl, b2⟩
        have B2 := hide (chain B1.out b2)
        have O2 := hide (O1.out.below b2)
        clear b2 B1 O1 H0 H2
        generalize pairsS t0 = u0 at *
        generalize pairsS t2 = u1 at *
        have F1 := hide (files_one w2 ⟨u0, u1, false, ⟨#[]⟩, ⟨#[]⟩⟩)
        have AL : Hid (Below w2.heap.size w2 (w2.alloc (.cells #[.string u0, .string u1, .bool false, .string ⟨#[]⟩, .string ⟨#[]⟩] 31))) := (Below.refl _ w2).alloc (Nat.le_refl _) _
        have B3 := hide (chain B2.out AL.out)
        have O3 := hide (O2.out.below AL.out)
        have SZ := hide (Nat.le_trans B2.out.size AL.out.size)
        clear AL B2 O2
        go_wp2_with (at_builtin; refine wpList_append_en rfl _ _ rfl w.heap.size _ (plainU (l.take k)) rfl O3.out _ [⟨u0, u1, false, ⟨#[]⟩, ⟨#[]⟩⟩] rfl F1.out (by rw [PL.out]; show (k + 1) * 72 ≤ _; omega) SZ.out ?_; intro q8 c8 w8 o8 b8)
        have O8 : Hid (OwnR w.heap.size w8 (.slice q8 (k + 1) c8) (plainU (l.take (k + 1)))) := by
          show OwnR _ _ _ _
          rw [TK.out, EP.out]
          have := o8
          rw [PL.out] at this
          exact this
        have B8 := hide (B3.out.trans b8)
        clear o8 b8 F1 O3 B3 SZ TK EP
        rw [PL.out]
        clear PL
        go_roundw
        case rel => exact ⟨k + 1, q8, c8, by omega, by go_num, rfl, O8, B8⟩
        case measure => simp [intOf]; omega
      | false =>
        rw [if_neg (by decide)] at EP
        clear H2
        go_wp2_with fail
        refine (H0.out _).mono ?_
        rintro e w1 ⟨rfl, b1⟩
        have B1 := hide (chain BW.out b1)
        have O1 := hide (OW.out.below b1)
        clear b1 a0 a1 a2 a3
        go_wp2_with fail
        refine (H1.out _).mono ?_
        rintro e w2 ⟨rfl, b2⟩
        have B2 := hide (chain B1.out b2)
        have O2 := hide (O1.out.below b2)
        clear b2 B1 O1 H0 H1
        generalize pairsS t0 = u0 at *
        generalize pairsS t1 = u1 at *
        have F1 := hide (files_one w2 ⟨u0, u1, false, ⟨#[]⟩, ⟨#[]⟩⟩)
        have AL : Hid (Below w2.heap.size w2 (w2.alloc (.cells #[.string u0, .string u1, .bool false, .string ⟨#[]⟩, .string ⟨#[]⟩] 31))) := (Below.refl _ w2).alloc (Nat.le_refl _) _
        have B3 := hide (chain B2.out AL.out)
        have O3 := hide (O2.out.below AL.out)
        have SZ := hide (Nat.le_trans B2.out.size AL.out.size)
        clear AL B2 O2
        go_wp2_with (at_builtin; refine wpList_append_en rfl _ _ rfl w.heap.size _ (plainU (l.take k)) rfl O3.out _ [⟨u0, u1, false, ⟨#[]⟩, ⟨#[]⟩⟩] rfl F1.out (by rw [PL.out]; show (k + 1) * 72 ≤ _; omega) SZ.out ?_; intro q8 c8 w8 o8 b8)
        have O8 : Hid (OwnR w.heap.size w8 (.slice q8 (k + 1) c8) (plainU (l.take (k + 1)))) := by
          show OwnR _ _ _ _
          rw [TK.out, EP.out]
          have := o8
          rw [PL.out] at this
          exact this
        have B8 := hide (B3.out.trans b8)
        clear o8 b8 F1 O3 B3 SZ TK EP
        rw [PL.out]
        clear PL
        go_roundw
        case rel => exact ⟨k + 1, q8, c8, by omega, by go_num, rfl, O8, B8⟩
        case measure => simp [intOf]; omega
    · obtain rfl : k = l.length := by omega
      rw [List.take_length] at OW
      clear HV HL
      go_wp2_with fail
      go_ret
      exact ⟨_, rfl, OW.out, BW.out⟩

end Go.Proofs.YtfedeiipinamjaaDoor
