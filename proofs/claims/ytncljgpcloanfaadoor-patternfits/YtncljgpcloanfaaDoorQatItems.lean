/- The program's 'member' and 'item' of a class: they answer by 'memberQ' and 'itemQ'. Condition: the reader's. The program's 'item' of a class: it answers by 'itemQ'. Condition: the reader's. (Written by genq4.py.) The program's 'class': it answers by 'clsAt'. Rows of a call's own that are appended to. Condition: the reader's. The program's 'escaped': it answers as the document's atoms that begin with \. Condition: the reader's. The program's 'number' and 'bounds': they answer by 'digsL' and 'bndR'. Condition: the reader's. The program's 'bounds', 'countable' and 'times': they answer by 'bndR' and 'oftenQ'. Condition: the reader's. (Written by genq8.py.) The program's 'countable' and 'times': they answer by 'oftenQ'. Condition: the reader's. (Written by genq9.py.) -/
import Derived.Test.YtncljgpcloanfaaDoorQatQ2
import Derived.Test.YtncljgpcloanfaaDoorQatQL
import Derived.Test.YtncljgpcloanfaaDoorQatAuto
namespace Go.Proofs.YtncljgpcloanfaaDoor
open Go.RowKit

def sTk : ByteArray := ⟨#[92, 91, 93, 94, 45]⟩
def sEs : ByteArray := ⟨#[92, 91, 93, 94, 45, 47, 46]⟩
def sTaken : ByteArray := ⟨#[92, 94, 36, 46, 42, 43, 63, 40, 41, 91, 93, 123, 125, 124]⟩
def sEscs : ByteArray := ⟨#[92, 94, 36, 46, 42, 43, 63, 40, 41, 91, 93, 123, 125, 124, 47, 45]⟩
theorem asc_tk : Asc sTk := ⟨by decide, by decide, by decide⟩
theorem asc_es : Asc sEs := ⟨by decide, by decide, by decide⟩
theorem asc_taken : Asc sTaken := ⟨by decide, by decide, by decide⟩
theorem asc_escs : Asc sEscs := ⟨by decide, by decide, by decide⟩
theorem inZ_nat (s : ByteArray) (c : Nat) : inZ s (c : Int) = inN (s.data.toList.map (·.toNat)) c := by
  unfold inZ inN
  rw [Bool.eq_iff_iff, List.any_eq_true, List.contains_iff_mem, List.mem_map]
  constructor
  · rintro ⟨b, hb, e⟩
    exact ⟨b, hb, by simp at e; omega⟩
  · rintro ⟨b, hb, e⟩
    exact ⟨b, hb, by simp; omega⟩
theorem in_tk (c : Nat) : inZ sTk (c : Int) = inN clsTk c := inZ_nat sTk c
theorem in_es (c : Nat) : inZ sEs (c : Int) = inN clsEs c := inZ_nat sEs c
theorem in_taken (c : Nat) : inZ sTaken (c : Int) = inN takenN c := inZ_nat sTaken c
theorem in_escs (c : Nat) : inZ sEscs (c : Int) = inN escsN c := inZ_nat sEscs c
theorem But.below {R : Nat} {w w1 w2 : World} (h : But R w w1) (b : Below w1.heap.size w1 w2) : But R w w2 := h.own (row := none) ⟨b.os, b.tape, b.output, b.size, fun k hk _ => b.block k hk⟩ (fun _ e => by cases e)
theorem Rdr.below {w w' : World} {R g cap a o : Nat} {l : List Nat} (h : Rdr w R g cap l a o) (b : Below w.heap.size w w') : Rdr w' R g cap l a o := h.pass (row := none) ⟨b.os, b.tape, b.output, b.size, fun k hk _ => b.block k hk⟩ (by simp) (by simp)
theorem member_nil : memberQ [] = none := rfl
theorem member_esc0 {l : List Nat} {a : Nat} (h : a < l.length) (e : l[a] = 92) (h2 : ¬ a + 1 < l.length) : memberQ (l.drop a) = none := by
  rw [List.drop_eq_getElem_cons h, e, List.drop_eq_nil_of_le (by omega)]; rfl
theorem member_esc {l : List Nat} {a : Nat} (h : a < l.length) (e : l[a] = 92) (h2 : a + 1 < l.length) : memberQ (l.drop a) = if inN clsEs l[a + 1] then some (l[a + 1], l.drop (a + 2)) else none := by
  rw [List.drop_eq_getElem_cons h, e, List.drop_eq_getElem_cons h2]; rfl
theorem member_self {l : List Nat} {a : Nat} (h : a < l.length) (e : ¬ l[a] = 92) : memberQ (l.drop a) = if inN clsTk l[a] then none else some (l[a], l.drop (a + 1)) := by
  rw [List.drop_eq_getElem_cons h]
  simp only [memberQ]
  rw [if_neg e]

/-- What 'member' answers. -/
def MemPost (w : World) (R g cap : Nat) (l : List Nat) (a o : Nat) (e : Ending) (w' : World) : Prop :=
  (∃ z b, e = .returned (.tuple #[.int .i32 z, .bool b]) ∧ ((b = false ∧ memberQ (l.drop a) = none) ∨ (b = true ∧ ∃ c r, memberQ (l.drop a) = some (c, r) ∧ z = (c : Int) ∧ c ∈ l)) ∧ ∃ a', a ≤ a' ∧ a' ≤ l.length ∧ (∀ c r, memberQ (l.drop a) = some (c, r) → l.drop a' = r ∧ a < a') ∧ Rdr w' R g cap l a' o) ∧ But R w w'
set_option maxHeartbeats 2000000 in
theorem member_any (w : World) (R g cap : Nat) (l : List Nat) (a o : Nat) (h : Rdr w R g cap l a o) :
    Calls Tryd.prog 72 #[.pointer (some ⟨R, 0, none⟩)] w (MemPost w R g cap l a o) := by
  have hle := h.le
  by_cases hlt : a < l.length
  · have HN := hide (next_at w R g cap l a o h hlt)
    by_cases e92 : l[a] = 92
    · have d92 : ((l[a] : Int) == 92) = true := by rw [e92]; rfl
      by_cases h2 : a + 1 < l.length
      · have HM := hide (member_esc hlt e92 h2)
        have HN2 := hide (fun w1 h1 => next_at w1 R g cap l (a + 1) o h1 h2)
        have HI := hide (fun w1 => isOneOf_any sEs (l[a + 1] : Nat) w1 asc_es)
        have IN := hide (in_es l[a + 1])
        have ML := hide (List.getElem_mem h2)
        clear e92 h
        generalize l[a] = x at *
        generalize l[a + 1] = y at *
        go_enter Tryd.func72, Tryd.ntmps72
        go_wp2_with fail
        refine HN.out.mono ?_
        rintro e w1 ⟨rfl, r1, b1⟩
        go_wp2_with fail
        refine (HN2.out w1 r1).mono ?_
        rintro e w2 ⟨rfl, r2, b2⟩
        go_wp2_with fail
        refine (HI.out w2).mono ?_
        rintro e w3 ⟨rfl, b3⟩
        go_wp2_with fail
        go_ret2
        refine ⟨⟨_, _, rfl, ?_, a + 2, by omega, by omega, ?_, r2.below b3⟩, (b1.trans b2).below b3⟩
        · rw [HM.out, IN.out]
          cases inN clsEs y with
          | false => exact .inl ⟨rfl, rfl⟩
          | true => exact .inr ⟨rfl, y, _, rfl, rfl, ML.out⟩
        · rw [HM.out]
          intro c r e
          split at e
          · cases e; exact ⟨rfl, by omega⟩
          · cases e
      · have HM := hide (member_esc0 hlt e92 h2)
        have HN2 := hide (fun w1 h1 => next_end w1 R g cap l (a + 1) o h1 h2)
        have HI := hide (fun w1 => isOneOf_any sEs (-1) w1 asc_es)
        have IN := hide (inZ_high asc_es (r := -1) (by omega))
        clear e92 h
        generalize l[a] = x at *
        go_enter Tryd.func72, Tryd.ntmps72
        go_wp2_with fail
        refine HN.out.mono ?_
        rintro e w1 ⟨rfl, r1, b1⟩
        go_wp2_with fail
        refine (HN2.out w1 r1).mono ?_
        rintro e w2 ⟨rfl, r2, b2⟩
        go_wp2_with fail
        refine (HI.out w2).mono ?_
        rintro e w3 ⟨rfl, b3⟩
        go_wp2_with fail
        go_ret2
        refine ⟨⟨_, _, rfl, .inl ⟨IN.out, HM.out⟩, a + 1, by omega, by omega, ?_, r2.below b3⟩, (b1.trans b2).below b3⟩
        rw [HM.out]
        intro c r e; cases e
    · have d92 : ((l[a] : Int) == 92) = false := by rw [beq_eq_false_iff_ne]; omega
      have dn : ((l[a] : Int) != -1) = true := by rw [bne_iff_ne]; omega
      have HM := hide (member_self hlt e92)
      have HI := hide (fun w1 => isOneOf_any sTk (l[a] : Nat) w1 asc_tk)
      have IN := hide (in_tk l[a])
      have ML := hide (List.getElem_mem hlt)
      clear e92 h
      generalize l[a] = x at *
      generalize (inZ sTk (x : Int)) = bb at *
      go_enter Tryd.func72, Tryd.ntmps72
      go_wp2_with fail
      refine HN.out.mono ?_
      rintro e w1 ⟨rfl, r1, b1⟩
      go_wp2_with fail
      refine (HI.out w1).mono ?_
      rintro e w3 ⟨rfl, b3⟩
      go_wp2_with fail
      go_ret2
      refine ⟨⟨_, _, rfl, ?_, a + 1, by omega, by omega, ?_, r1.below b3⟩, b1.below b3⟩
      · rw [HM.out, ← IN.out]
        cases bb with
        | false => exact .inr ⟨rfl, x, _, rfl, rfl, ML.out⟩
        | true => exact .inl ⟨rfl, rfl⟩
      · rw [HM.out]
        intro c r e
        split at e
        · cases e
        · cases e; exact ⟨rfl, by omega⟩
  · have HN := hide (next_end w R g cap l a o h hlt)
    have HM : Hid (memberQ (l.drop a) = none) := by show _ = _; rw [List.drop_eq_nil_of_le (by omega)]; rfl
    clear h
    go_enter Tryd.func72, Tryd.ntmps72
    go_wp2_with fail
    refine HN.out.mono ?_
    rintro e w1 ⟨rfl, r1, b1⟩
    go_wp2_with fail
    go_ret2
    refine ⟨⟨_, _, rfl, .inl ⟨rfl, HM.out⟩, a, by omega, by omega, ?_, r1⟩, b1⟩
    rw [HM.out]
    intro c r e; cases e

end Go.Proofs.YtncljgpcloanfaaDoor
namespace Go.Proofs.YtncljgpcloanfaaDoor
open Go.RowKit

/-- What 'item' answers. -/
def ItemPost (w : World) (R g cap : Nat) (l : List Nat) (a o : Nat) (e : Ending) (w' : World) : Prop :=
  (∃ v b, e = .returned (.tuple #[v, .bool b]) ∧ ((b = false ∧ itemQ (l.drop a) = none) ∨ (b = true ∧ ∃ i r hp, itemQ (l.drop a) = some (i, r) ∧ SpansIs hp v (itemSp i) ∧ hp.In w' ∧ hp.From w.heap.size)) ∧ ∃ a', a' ≤ l.length ∧ (∀ i r, itemQ (l.drop a) = some (i, r) → l.drop a' = r ∧ a < a') ∧ Rdr w' R g cap l a' o) ∧ But R w w'
theorem itemQ_two {l : List Nat} (h : NoKind l) : itemQ l = itemQ2 l := by
  unfold itemQ
  split
  · rename_i d v
    have := h d v rfl
    rw [this]; rfl
  · rfl
theorem dws_iff (d : Nat) : inN dwsN d = true ↔ d = 100 ∨ d = 119 ∨ d = 115 := by simp [inN, dwsN]
set_option maxHeartbeats 4000000 in
theorem item_any (w : World) (R g cap : Nat) (l : List Nat) (a o : Nat) (h : Rdr w R g cap l a o) :
    Calls Tryd.prog 68 #[.pointer (some ⟨R, 0, none⟩)] w (ItemPost w R g cap l a o) := by
  have hle := h.le
  have hs := h.small
  have c1 := h.cell1
  have Rl := h.Rlt
  by_cases h92 : ∃ h : a < l.length, l[a] = 92
  · obtain ⟨hlt, e92⟩ := h92
    have HT := hide (take_yes w R g cap l a o 92 h hlt e92)
    by_cases h2 : a + 1 < l.length
    · have HN := hide (fun w1 h1 => next_at w1 R g cap l (a + 1) o h1 h2)
      have DR : l.drop a = 92 :: l[a + 1] :: l.drop (a + 2) := by rw [List.drop_eq_getElem_cons hlt, e92, List.drop_eq_getElem_cons h2]
      by_cases hd : inN dwsN l[a + 1] = true
      · have IQ : Hid (itemQ (l.drop a) = some (.kind l[a + 1], l.drop (a + 2))) := by show _ = _; rw [DR]; exact (item_kind hd).1
        have HD := hide (fun w1 => named_yes l[a + 1] w1 hd)
        clear DR hd e92 h
        generalize l[a + 1] = y at *
        go_enter Tryd.func68, Tryd.ntmps68
        go_wp2_with fail
        refine HT.out.mono ?_
        rintro e w1 ⟨rfl, r1, b1⟩
        go_wp2_with fail
        refine (HN.out w1 r1).mono ?_
        rintro e w2 ⟨rfl, r2, b2⟩
        go_wp2_with fail
        refine (HD.out w2).mono ?_
        rintro e w3 ⟨hp, n, rfl, hsp, hin, hfr, b3⟩
        go_wp2_with fail
        go_ret2
        have BB := b1.trans b2
        refine ⟨⟨_, _, rfl, .inr ⟨rfl, _, _, hp, IQ.out, hsp, hin, hfr.mono BB.size⟩, a + 2, by omega, ?_, r2.below b3⟩, BB.below b3⟩
        rw [IQ.out]; intro i r e; cases e; exact ⟨rfl, by omega⟩
      · have IQ2 : Hid (itemQ (l.drop a) = itemQ2 (l.drop a)) := itemQ_two (fun d v e => by rw [DR] at e; cases e; simpa using hd)
        have hd2 : ((l[a + 1] : Nat) : Int) ≠ 100 ∧ ((l[a + 1] : Nat) : Int) ≠ 119 ∧ ((l[a + 1] : Nat) : Int) ≠ 115 := by
          rw [dws_iff] at hd; omega
        have HD := hide (fun w1 => named_no (l[a + 1] : Nat) w1 hd2)
        clear DR hd e92 h hd2
        generalize l[a + 1] = y at *
        go_enter Tryd.func68, Tryd.ntmps68
        go_wp2_with fail
        refine HT.out.mono ?_
        rintro e w1 ⟨rfl, r1, b1⟩
        go_wp2_with fail
        refine (HN.out w1 r1).mono ?_
        rintro e w2 ⟨rfl, r2, b2⟩
        go_wp2_with fail
        refine (HD.out w2).mono ?_
        rintro e w22 ⟨rfl, hw⟩
        obtain rfl : w2 = w22 := hw.symm
        have f2 := r2.frozen 1
        have d2 := r2.cell1
        have rt := r2.set1 a (by omega)
        have bt := (b1.trans b2).set ⟨R, 1, none⟩ (.int .i64 (a : Int)) (.inr rfl)
        clear hw
        go_wp2_with fail
        refine (member_any _ R g cap l a o rt).mono ?_
        rintro e w3 ⟨⟨z, b, rfl, hz, a3, a3l, a3h, ha3, r3⟩, b3⟩
        have B3 := hide (bt.trans b3)
        clear b3
        rcases hz with ⟨rfl, hm⟩ | ⟨rfl, c, r, hm, rfl, hc⟩
        · have IQ : Hid (itemQ (l.drop a) = none) := by show _ = _; rw [IQ2.out]; unfold itemQ2; rw [hm]
          clear hm ha3
          go_wp2_with fail
          go_ret2
          refine ⟨⟨_, _, rfl, .inl ⟨rfl, IQ.out⟩, a3, a3h, ?_, r3.alloc _⟩, B3.out.alloc _⟩
          rw [IQ.out]; intro i r e; cases e
        · obtain ⟨er, a3lt⟩ := ha3 c r hm
          by_cases h45 : ∃ h : a3 < l.length, l[a3] = 45
          · obtain ⟨hl3, e45⟩ := h45
            have IQ3 : Hid (itemQ (l.drop a) = spanQ c (memberQ (l.drop (a3 + 1)))) := by
              show _ = _
              rw [IQ2.out]; unfold itemQ2; rw [hm, ← er, List.drop_eq_getElem_cons hl3, e45]; rfl
            have HT := hide (take_yes w3 R g cap l a3 o 45 r3 hl3 e45)
            clear hm ha3 er e45
            go_wp2_with fail
            refine HT.out.mono ?_
            rintro e w4 ⟨rfl, r4, b4⟩
            have B4 := hide (B3.out.trans b4)
            clear b4
            go_wp2_with fail
            refine (member_any _ R g cap l (a3 + 1) o r4).mono ?_
            rintro e w5 ⟨⟨z5, b5, rfl, hz5, a5, a5l, a5h, ha5, r5⟩, bb5⟩
            have B5 := hide (B4.out.trans bb5)
            clear bb5
            rcases hz5 with ⟨rfl, hm5⟩ | ⟨rfl, c5, rr5, hm5, rfl, hc5⟩
            · have IQ : Hid (itemQ (l.drop a) = none) := by show _ = _; rw [IQ3.out, hm5]; rfl
              clear hm5 ha5
              go_wp2_with fail
              go_ret2
              refine ⟨⟨_, _, rfl, .inl ⟨rfl, IQ.out⟩, a5, a5h, ?_, r5.alloc _⟩, B5.out.alloc _⟩
              rw [IQ.out]; intro i r e; cases e
            · obtain ⟨er5, a5lt⟩ := ha5 c5 rr5 hm5
              by_cases hcc : c5 < c
              · have IQ : Hid (itemQ (l.drop a) = none) := by show _ = _; rw [IQ3.out, hm5, spanQ, if_pos hcc]
                have icc : ¬ (c : Int) ≤ (c5 : Int) := by omega
                have NCC := hide (show ¬ c ≤ c5 by omega)
                clear hm5 ha5 er5 hcc
                go_wp2_with fail
                go_ret2
                refine ⟨⟨_, _, rfl, .inl ⟨by first | rfl | exact decide_eq_false NCC.out, IQ.out⟩, a5, a5h, ?_, r5.alloc _⟩, B5.out.alloc _⟩
                rw [IQ.out]; intro i r e; cases e
              · have IQ : Hid (itemQ (l.drop a) = some (.span c c5, rr5)) := by show _ = _; rw [IQ3.out, hm5, spanQ, if_neg hcc]
                have icc : (c : Int) ≤ (c5 : Int) := by omega
                have ER := hide er5
                have szz := B5.out.size
                clear hm5 ha5 er5 hcc
                go_wp2_with fail
                go_ret2
                refine ⟨⟨_, _, rfl, .inr ⟨rfl, _, _, _, IQ.out, lit_row _ 1 2 _ _ (by unfold maxLen; omega) rfl, lit_in _ _ _, (lit_from _ _ _).mono (by omega)⟩, a5, a5h, ?_, r5.alloc _⟩, B5.out.alloc _⟩
                rw [IQ.out]; intro i r e; cases e; exact ⟨ER.out, by omega⟩
          · have hne : headZ (l.drop a3) ≠ 45 := by
              intro e
              by_cases hl3 : a3 < l.length
              · rw [head_at hl3] at e; exact h45 ⟨hl3, by omega⟩
              · rw [head_end hl3] at e; omega
            have IQ : Hid (itemQ (l.drop a) = some (.span c c, r)) := by
              show _ = _
              rw [IQ2.out]; unfold itemQ2; rw [hm, ← er]
              cases hd : l.drop a3 with
              | nil => rfl
              | cons x t =>
                rw [hd] at hne
                split
                · rename_i heq; cases heq
                · rename_i heq; cases heq; exact absurd rfl hne
                · rename_i heq; cases heq; rfl
            have HT := hide (take_no w3 R g cap l a3 o 45 r3 hne)
            have ER := hide er
            clear hm ha3 er h45 hne
            go_wp2_with fail
            refine HT.out.mono ?_
            rintro e w4 ⟨rfl, r4, b4⟩
            have B4 := hide (B3.out.trans b4)
            have szz := B4.out.size
            clear b4
            go_wp2_with fail
            go_ret2
            refine ⟨⟨_, _, rfl, .inr ⟨rfl, _, _, _, IQ.out, lit_row _ 1 2 _ _ (by unfold maxLen; omega) rfl, lit_in _ _ _, (lit_from _ _ _).mono (by omega)⟩, a3, a3h, ?_, r4.alloc _⟩, B4.out.alloc _⟩
            rw [IQ.out]; intro i r e; cases e; exact ⟨ER.out, by omega⟩
    · have HN := hide (fun w1 h1 => next_end w1 R g cap l (a + 1) o h1 h2)
      have DR : l.drop a = [92] := by rw [List.drop_eq_getElem_cons hlt, e92, List.drop_eq_nil_of_le (by omega)]
      have IQ2 : Hid (itemQ (l.drop a) = itemQ2 (l.drop a)) := itemQ_two (fun d v e => by rw [DR] at e; cases e)
      have HD := hide (fun w1 => named_no (-1) w1 (by omega))
      have MN : Hid (memberQ (l.drop a) = none) := by show _ = _; rw [DR]; rfl
      clear DR e92 h
      go_enter Tryd.func68, Tryd.ntmps68
      go_wp2_with fail
      refine HT.out.mono ?_
      rintro e w1 ⟨rfl, r1, b1⟩
      go_wp2_with fail
      refine (HN.out w1 r1).mono ?_
      rintro e w2 ⟨rfl, r2, b2⟩
      go_wp2_with fail
      refine (HD.out w2).mono ?_
      rintro e w22 ⟨rfl, hw⟩
      obtain rfl : w2 = w22 := hw.symm
      have f2 := r2.frozen 1
      have d2 := r2.cell1
      have rt := r2.set1 a (by omega)
      have bt := (b1.trans b2).set ⟨R, 1, none⟩ (.int .i64 (a : Int)) (.inr rfl)
      clear hw
      go_wp2_with fail
      refine (member_any _ R g cap l a o rt).mono ?_
      rintro e w3 ⟨⟨z, b, rfl, hz, a3, a3l, a3h, ha3, r3⟩, b3⟩
      have B3 := hide (bt.trans b3)
      clear b3
      rcases hz with ⟨rfl, hm⟩ | ⟨rfl, c, r, hm, rfl, hc⟩
      · have IQ : Hid (itemQ (l.drop a) = none) := by show _ = _; rw [IQ2.out]; unfold itemQ2; rw [hm]
        clear hm ha3
        go_wp2_with fail
        go_ret2
        refine ⟨⟨_, _, rfl, .inl ⟨rfl, IQ.out⟩, a3, a3h, ?_, r3.alloc _⟩, B3.out.alloc _⟩
        rw [IQ.out]; intro i r e; cases e
      · rw [MN.out] at hm; cases hm
  · have hne : headZ (l.drop a) ≠ 92 := by
      intro e
      by_cases hlt : a < l.length
      · rw [head_at hlt] at e; exact h92 ⟨hlt, by omega⟩
      · rw [head_end hlt] at e; omega
    have IQ2 : Hid (itemQ (l.drop a) = itemQ2 (l.drop a)) := itemQ_two (fun d v e => by rw [e] at hne; exact absurd rfl hne)
    have HT := hide (take_no w R g cap l a o 92 h hne)
    clear hne h92 h
    go_enter Tryd.func68, Tryd.ntmps68
    go_wp2_with fail
    refine HT.out.mono ?_
    rintro e w2 ⟨rfl, r2, b2⟩
    have f2 := r2.frozen 1
    have d2 := r2.cell1
    have rt := r2.set1 a (by omega)
    have bt := b2.set ⟨R, 1, none⟩ (.int .i64 (a : Int)) (.inr rfl)
    go_wp2_with fail
    refine (member_any _ R g cap l a o rt).mono ?_
    rintro e w3 ⟨⟨z, b, rfl, hz, a3, a3l, a3h, ha3, r3⟩, b3⟩
    have B3 := hide (bt.trans b3)
    clear b3
    rcases hz with ⟨rfl, hm⟩ | ⟨rfl, c, r, hm, rfl, hc⟩
    · have IQ : Hid (itemQ (l.drop a) = none) := by show _ = _; rw [IQ2.out]; unfold itemQ2; rw [hm]
      clear hm ha3
      go_wp2_with fail
      go_ret2
      refine ⟨⟨_, _, rfl, .inl ⟨rfl, IQ.out⟩, a3, a3h, ?_, r3.alloc _⟩, B3.out.alloc _⟩
      rw [IQ.out]; intro i r e; cases e
    · obtain ⟨er, a3lt⟩ := ha3 c r hm
      by_cases h45 : ∃ h : a3 < l.length, l[a3] = 45
      · obtain ⟨hl3, e45⟩ := h45
        have IQ3 : Hid (itemQ (l.drop a) = spanQ c (memberQ (l.drop (a3 + 1)))) := by
          show _ = _
          rw [IQ2.out]; unfold itemQ2; rw [hm, ← er, List.drop_eq_getElem_cons hl3, e45]; rfl
        have HT := hide (take_yes w3 R g cap l a3 o 45 r3 hl3 e45)
        clear hm ha3 er e45
        go_wp2_with fail
        refine HT.out.mono ?_
        rintro e w4 ⟨rfl, r4, b4⟩
        have B4 := hide (B3.out.trans b4)
        clear b4
        go_wp2_with fail
        refine (member_any _ R g cap l (a3 + 1) o r4).mono ?_
        rintro e w5 ⟨⟨z5, b5, rfl, hz5, a5, a5l, a5h, ha5, r5⟩, bb5⟩
        have B5 := hide (B4.out.trans bb5)
        clear bb5
        rcases hz5 with ⟨rfl, hm5⟩ | ⟨rfl, c5, rr5, hm5, rfl, hc5⟩
        · have IQ : Hid (itemQ (l.drop a) = none) := by show _ = _; rw [IQ3.out, hm5]; rfl
          clear hm5 ha5
          go_wp2_with fail
          go_ret2
          refine ⟨⟨_, _, rfl, .inl ⟨rfl, IQ.out⟩, a5, a5h, ?_, r5.alloc _⟩, B5.out.alloc _⟩
          rw [IQ.out]; intro i r e; cases e
        · obtain ⟨er5, a5lt⟩ := ha5 c5 rr5 hm5
          by_cases hcc : c5 < c
          · have IQ : Hid (itemQ (l.drop a) = none) := by show _ = _; rw [IQ3.out, hm5, spanQ, if_pos hcc]
            have icc : ¬ (c : Int) ≤ (c5 : Int) := by omega
            have NCC := hide (show ¬ c ≤ c5 by omega)
            clear hm5 ha5 er5 hcc
            go_wp2_with fail
            go_ret2
            refine ⟨⟨_, _, rfl, .inl ⟨by first | rfl | exact decide_eq_false NCC.out, IQ.out⟩, a5, a5h, ?_, r5.alloc _⟩, B5.out.alloc _⟩
            rw [IQ.out]; intro i r e; cases e
          · have IQ : Hid (itemQ (l.drop a) = some (.span c c5, rr5)) := by show _ = _; rw [IQ3.out, hm5, spanQ, if_neg hcc]
            have icc : (c : Int) ≤ (c5 : Int) := by omega
            have ER := hide er5
            have szz := B5.out.size
            clear hm5 ha5 er5 hcc
            go_wp2_with fail
            go_ret2
            refine ⟨⟨_, _, rfl, .inr ⟨rfl, _, _, _, IQ.out, lit_row _ 1 2 _ _ (by unfold maxLen; omega) rfl, lit_in _ _ _, (lit_from _ _ _).mono (by omega)⟩, a5, a5h, ?_, r5.alloc _⟩, B5.out.alloc _⟩
            rw [IQ.out]; intro i r e; cases e; exact ⟨ER.out, by omega⟩
      · have hne : headZ (l.drop a3) ≠ 45 := by
          intro e
          by_cases hl3 : a3 < l.length
          · rw [head_at hl3] at e; exact h45 ⟨hl3, by omega⟩
          · rw [head_end hl3] at e; omega
        have IQ : Hid (itemQ (l.drop a) = some (.span c c, r)) := by
          show _ = _
          rw [IQ2.out]; unfold itemQ2; rw [hm, ← er]
          cases hd : l.drop a3 with
          | nil => rfl
          | cons x t =>
            rw [hd] at hne
            split
            · rename_i heq; cases heq
            · rename_i heq; cases heq; exact absurd rfl hne
            · rename_i heq; cases heq; rfl
        have HT := hide (take_no w3 R g cap l a3 o 45 r3 hne)
        have ER := hide er
        clear hm ha3 er h45 hne
        go_wp2_with fail
        refine HT.out.mono ?_
        rintro e w4 ⟨rfl, r4, b4⟩
        have B4 := hide (B3.out.trans b4)
        have szz := B4.out.size
        clear b4
        go_wp2_with fail
        go_ret2
        refine ⟨⟨_, _, rfl, .inr ⟨rfl, _, _, _, IQ.out, lit_row _ 1 2 _ _ (by unfold maxLen; omega) rfl, lit_in _ _ _, (lit_from _ _ _).mono (by omega)⟩, a3, a3h, ?_, r4.alloc _⟩, B4.out.alloc _⟩
        rw [IQ.out]; intro i r e; cases e; exact ⟨ER.out, by omega⟩

end Go.Proofs.YtncljgpcloanfaaDoor
namespace Go.Proofs.YtncljgpcloanfaaDoor
open Go.RowKit

structure RowTypes (P : Program) (t e : TypeId) (z : Value) (size bytes : Nat) : Prop where
  sl : P.underlying t = some (.slice e)
  info : (P.info? e).map (fun i => (i.zero, i.size, i.bytes)) = some (some z, size, bytes)
  cells : z.cells.size = size
  pos : 0 < size
/-- 'out = append(out, ..)', onto a row of the call's own: where the new one lies. -/
theorem wpList_append_row {P : Program} {t e : TypeId} {z : Value} {size bytes : Nat} (rt : RowTypes P t e z size bytes) {ops : Array Oper} {rest : List Oper} {o : Oper} {a : Act} {Q : Exit → Act → World → Prop} (w : World)
    (hgd : o.guard = none) (s x : Operand) (ho : o.op = .call { callee := .builtin .append, args := #[s, x], argTypes := #[t, t] })
    (base : Nat) (v : Value) (n : Nat) (xs : List Value) (hs : a.eval s = v) (hown : w.ownsRow base e size v n xs)
    (g m c : Nat) (news : List Value) (hx : a.eval x = .slice (some ⟨g, 0, none⟩) m c) (hl : news.length = m * size) (hnews : ∀ j, j < m * size → w.cell? ⟨g, j, none⟩ = news[j]?) (h1 : ∀ u ∈ news, u.oneCell' = true)
    (hm : 0 < m) (h63 : n + m ≤ 1000000) (hb : bytes ≤ 1000) (hbase : base ≤ w.heap.size)
    (h : ∀ g' cap' w', w'.ownsRow base e size (.slice (some ⟨g', 0, none⟩) (n + m) cap') (n + m) (xs ++ news) → w.grownBy w' v.ownBlock → (v.ownBlock = some g' ∨ g' = w.heap.size) → g' < w'.heap.size → wpList P ops Q rest (a.put o.dst (.slice (some ⟨g', 0, none⟩) (n + m) cap')) w') : wpList P ops Q (o :: rest) a w := by
  obtain ⟨i, i1, i2, i3, i4⟩ := info_parts rt.info
  refine wpList_append_lies (P := P) w hgd s x t ho base e i z size bytes rt.sl i1 i2 i3 i4 rt.cells rt.pos v n xs hs hown ⟨g, 0, none⟩ m c news hx hl (fun j u hu => ?_) h1 hm (by unfold maxLen; omega) ?_ hbase _ rfl h
  · have hadd : (⟨g, 0, none⟩ : Addr).add j = ⟨g, j, none⟩ := by unfold Addr.add; split <;> simp_all
    rw [hadd, hnews j (by have := (List.getElem?_eq_some_iff.1 hu).1; omega)]
    exact hu
  · exact Nat.le_trans (Nat.mul_le_mul h63 hb) (Nat.le_of_ble_eq_true rfl)
theorem rt_span : RowTypes Tryd.prog 53 99 (.agg #[.int .i32 0, .int .i32 0]) 2 8 := ⟨Tryd.underlying53, by kernel_rfl, rfl, by decide⟩
def atOf (w : World) (R : Nat) : Nat := match w.cell? ⟨R, 1, none⟩ with
  | some (.int _ z) => z.toNat
  | _ => 0
theorem Rdr.atOf {w : World} {R g cap a o : Nat} {l : List Nat} (h : Rdr w R g cap l a o) : atOf w R = a := by
  unfold Proofs.YtncljgpcloanfaaDoor.atOf; rw [h.cell1]; simp
theorem own_pass {w w' : World} {base : Nat} {e : TypeId} {size : Nat} {v : Value} {n : Nat} {xs : List Value} (h : w.ownsRow base e size v n xs) {R : Nat} (hb : But R w w') (hR : R < base) : w'.ownsRow base e size v n xs := by
  refine h.kept hb ?_
  cases hv : v.ownBlock with
  | none => exact .inl rfl
  | some k =>
    right
    have := (h.lt k hv).1
    intro e; cases e; omega
theorem But.heap {R : Nat} {w w' : World} (h : But R w w') {k : Nat} {x : Obj} (hx : w.heap[k]? = some x) (hn : k ≠ R) : w'.heap[k]? = some x := by
  rw [h.block k (Array.getElem?_eq_some_iff.1 hx).1 (by simpa using hn)]; exact hx
theorem grown_heap {w w' : World} {row : Option Nat} (h : w.grownBy w' row) {k : Nat} {x : Obj} (hx : w.heap[k]? = some x) (hn : row ≠ some k) : w'.heap[k]? = some x := by
  rw [h.block k (Array.getElem?_eq_some_iff.1 hx).1 (fun e => hn e.symm)]; exact hx
theorem own_ne {w : World} {base : Nat} {e : TypeId} {size : Nat} {v : Value} {n : Nat} {xs : List Value} (h : w.ownsRow base e size v n xs) {k : Nat} (hk : k < base) : v.ownBlock ≠ some k := by
  intro e
  have := (h.lt k e).1
  omega
theorem itemSp_len (i : Item) : 0 < (itemSp i).length ∧ (itemSp i).length ≤ 4 := by
  match i with
  | ⟨true, k, _⟩ =>
    show 0 < (namedSp k).length ∧ (namedSp k).length ≤ 4
    unfold namedSp
    split
    · decide
    · split <;> decide
  | ⟨false, a, b⟩ => exact ⟨by show 0 < 1; omega, by show 1 ≤ 4; omega⟩

/-- What 'class' and 'escaped' answer: a set, or none. -/
def SetPost (w : World) (R g cap : Nat) (l : List Nat) (o : Nat) (res : Rd) (e : Ending) (w' : World) : Prop :=
  (∃ v b, e = .returned (.tuple #[v, .bool b]) ∧ ((b = false ∧ res = none) ∨ (b = true ∧ ∃ x r hp, res = some (.one x, r) ∧ SetIs hp v x ∧ hp.In w' ∧ hp.From w.heap.size)) ∧ ∃ a', a' ≤ l.length ∧ (∀ x r, res = some (x, r) → l.drop a' = r) ∧ Rdr w' R g cap l a' o) ∧ But R w w'
/-- A class under way: its set in block C, the answer's block D. -/
structure ClsAt (w wr : World) (R g cap : Nat) (l : List Nat) (a0 a o C : Nat) (neg : Bool) (ds : List Item) (sv : Value) : Prop where
  rd : Rdr wr R g cap l a o
  but : But R w wr
  cLow : w.heap.size < C
  cLies : wr.heap[C]? = some (.cells #[sv, .bool neg] 55 (0, 0))
  dLies : wr.heap[w.heap.size]? = some (.cells #[.slice none 0 0, .bool false] 55 (0, 0))
  own : wr.ownsRow (C + 1) 99 2 sv (ds.flatMap itemSp).length (cellsSp (ds.flatMap itemSp))
  few : (ds.flatMap itemSp).length ≤ 4 * a
  Rl : R < w.heap.size
  is : itemsP (l.drop a0) = preI ds (itemsP (l.drop a))
theorem cells2_at {w : World} {k : Nat} {x y : Value} {t : TypeId} (h : w.heap[k]? = some (.cells #[x, y] t (0, 0))) : w.cell? ⟨k, 0, none⟩ = some x ∧ w.cell? ⟨k, 1, none⟩ = some y ∧ ∀ j, w.frozen? ⟨k, j, none⟩ = false := by
  refine ⟨by simp [World.cell?, h], by simp [World.cell?, h], fun j => by simp [World.frozen?, h]⟩

set_option maxHeartbeats 4000000 in
theorem class_any (w : World) (R g cap : Nat) (l : List Nat) (a o : Nat) (h : Rdr w R g cap l a o) :
    Calls Tryd.prog 62 #[.pointer (some ⟨R, 0, none⟩)] w (SetPost w R g cap l o (clsAt (l.drop a))) := by
  have Rl := h.Rlt
  have START : ∃ (neg : Bool) (a0 : Nat), Hid (clsAt (l.drop a) = (itemsP (l.drop a0)).map fun x => (.one (.cls neg x.1), x.2)) ∧ Hid (∀ w1 (_ : Rdr w1 R g cap l a o), Calls Tryd.prog 35 #[.pointer (some ⟨R, 0, none⟩), .int .i32 94] w1 fun e w' => e = .returned (.bool neg) ∧ Rdr w' R g cap l a0 o ∧ But R w1 w') := by
    by_cases h94 : ∃ h : a < l.length, l[a] = 94
    · obtain ⟨hlt, e94⟩ := h94
      refine ⟨true, a + 1, ?_, fun w1 h1 => take_yes w1 R g cap l a o 94 h1 hlt e94⟩
      show _ = _
      rw [List.drop_eq_getElem_cons hlt, e94, ← clsL_items]; rfl
    · have hne : headZ (l.drop a) ≠ 94 := by
        intro e
        by_cases hlt : a < l.length
        · rw [head_at hlt] at e; exact h94 ⟨hlt, by omega⟩
        · rw [head_end hlt] at e; omega
      refine ⟨false, a, ?_, fun w1 h1 => take_no w1 R g cap l a o 94 h1 hne⟩
      show _ = _
      rw [← clsL_items]
      cases hd : l.drop a with
      | nil => rfl
      | cons c t =>
        rw [hd] at hne
        have : ¬ c = 94 := fun e => hne (by rw [e]; rfl)
        show (if c = 94 then _ else _) = _
        rw [if_neg this]
  obtain ⟨neg, a0, HQ, HT⟩ := START
  have h0 := h.alloc (.cells #[.slice none 0 0, .bool false] 55)
  have HR := hide h
  clear h
  go_enter Tryd.func62, Tryd.ntmps62
  go_wp2_with fail
  refine (HT.out _ h0).mono ?_
  rintro e w1 ⟨rfl, r1, b1⟩
  go_wp2_with fail
  have b0 := (But.refl R w).alloc (.cells #[.slice none 0 0, .bool false] 55)
  have D0 : (w.alloc (.cells #[.slice none 0 0, .bool false] 55)).heap[w.heap.size]? = some (.cells #[.slice none 0 0, .bool false] 55 (0, 0)) := heap_alloc_new w _
  have D1 := b1.heap D0 (by omega)
  have sz1 := b1.size
  have START : ClsAt w (w1.alloc (.cells #[.slice none 0 0, .bool neg] 55)) R g cap l a0 a0 o w1.heap.size neg [] (.slice none 0 0) :=
    ⟨r1.alloc _, (b0.trans b1).alloc _, by simp at sz1; omega, heap_alloc_new w1 _, grown_heap (World.grownBy_alloc w1 _ none) D1 (by simp), World.ownsRow_nil _ _ _ _, Nat.zero_le _, Rl, (preI_nil _).symm⟩
  have HS := hide START
  have sz2 : w.heap.size < w1.heap.size := START.cLow
  clear START D0 D1 sz1 b0 b1 h0
  generalize w1.heap.size = C at *
  go_loopw [] (fun wr => ∃ a ds sv, ClsAt w wr R g cap l a0 a o C neg ds sv) (fun wr => l.length - atOf wr R)
  case atStart => exact ⟨a0, [], _, HS.out⟩
  case round =>
    obtain ⟨p, ds, sv, hc⟩ := hrel
    rename World => wr
    have HI := hide (item_any wr R g cap l p o hc.rd)
    have HC := hide hc
    have ale := hc.rd.le
    have asm := hc.rd.small
    have mea := hc.rd.atOf
    have gl := HR.out.lt
    clear hc HS
    go_wp2_with fail
    refine HI.out.mono ?_
    rintro e w2 ⟨⟨v, b, rfl, hv, a2, a2h, ha2, r2⟩, b2⟩
    have C2 := b2.heap HC.out.cLies (by omega)
    have D2 := b2.heap HC.out.dLies (by omega)
    obtain ⟨cc0, cc1, ccf⟩ := cells2_at C2
    obtain ⟨dc0, dc1, dcf⟩ := cells2_at D2
    have BB := hide (HC.out.but.trans b2)
    rcases hv with ⟨rfl, hn⟩ | ⟨rfl, i, r, hp, hi, hsp, hin, hfr⟩
    · have RES : Hid (clsAt (l.drop a) = none) := by
        show _ = _
        rw [HQ.out, HC.out.is, itemsP_bad hn]; rfl
      clear hn ha2 HQ HI HT C2 D2 HC
      go_wp2_with fail
      refine bodyPost_ret (v := .tuple #[.agg #[.slice none 0 0, .bool false], .bool false]) (by simp [results, go_sem, *]) rfl ?_
      refine ⟨⟨_, _, rfl, .inl ⟨rfl, RES.out⟩, a2, a2h, ?_, ?_⟩, ?_⟩
      · rw [RES.out]; intro x r e; cases e
      · exact (r2.pass (grown_set _ _ _) (by simp; omega) (by simp; omega)).pass (grown_set _ _ _) (by simp; omega) (by simp; omega)
      · exact (BB.out.set _ _ (.inl (Nat.le_refl _))).set _ _ (.inl (Nat.le_refl _))
    · obtain ⟨hr2, lt2⟩ := ha2 i r hi
      obtain ⟨m0, m4⟩ := itemSp_len i
      obtain ⟨gg, cap2, rfl, hgn, _, _, hcell⟩ := hsp.form m0 hin
      have own2 := own_pass HC.out.own b2 (by omega)
      have few := HC.out.few
      have few2 : ((ds ++ [i]).flatMap itemSp).length ≤ 4 * a2 := by simp at few ⊢; omega
      have FEQ : Hid (cellsSp ((ds ++ [i]).flatMap itemSp) = cellsSp (ds.flatMap itemSp) ++ cellsSp (itemSp i) ∧ ((ds ++ [i]).flatMap itemSp).length = (ds.flatMap itemSp).length + (itemSp i).length) := by
        refine ⟨?_, ?_⟩
        · rw [← cellsSp_app]; simp
        · simp
      have ne2 := own_ne own2 (k := C) (by omega)
      have neD := own_ne own2 (k := w.heap.size) (by omega)
      have neR := own_ne own2 (k := R) (by omega)
      have neg2 := own_ne own2 (k := g) (by omega)
      have sz := BB.out.size
      have szC : C < w2.heap.size := (Array.getElem?_eq_some_iff.1 C2).1
      have OWN := hide own2
      have HIN := hide hi
      clear hi ha2 HI HT hsp own2
      generalize hF : ds.flatMap itemSp = F at *
      generalize hG : itemSp i = G at *
      clear hF hG
      go_wp2_with (at_builtin; refine wpList_append_row rt_span w2 rfl _ _ rfl (C + 1) sv F.length (cellsSp F) rfl OWN.out gg G.length cap2 (cellsSp G) rfl (cellsSp_len _) hcell (cellsSp_one _) m0 (by omega) (by omega) (by omega) ?_; intro g3 cap3 w3 hown3 hgrow3 hat3 hlt3; have C3 := grown_heap hgrow3 C2 ne2; have D3 := grown_heap hgrow3 D2 neD; obtain ⟨c30, c31, c3f⟩ := cells2_at C3; have R3 := hide (r2.pass hgrow3 neR neg2); have OWN3 := hide hown3; have GR3 := hide hgrow3; clear hown3 hgrow3)
      have R4 := R3.out.pass (grown_set w3 ⟨C, 0, none⟩ (.slice (some ⟨g3, 0, none⟩) (F.length + G.length) cap3)) (by simp; omega) (by simp; omega)
      have OWN4 := hide (ownsRow_setCell_below OWN3.out (a := ⟨C, 0, none⟩) (by simp) (.slice (some ⟨g3, 0, none⟩) (F.length + G.length) cap3))
      have C4 : (w3.setCell ⟨C, 0, none⟩ (.slice (some ⟨g3, 0, none⟩) (F.length + G.length) cap3)).heap[C]? = some (.cells #[.slice (some ⟨g3, 0, none⟩) (F.length + G.length) cap3, .bool neg] 55 (0, 0)) := by
        simp [World.setCell, Array.getElem?_modify, C3]
      have D4 := grown_heap (grown_set w3 ⟨C, 0, none⟩ (.slice (some ⟨g3, 0, none⟩) (F.length + G.length) cap3)) D3 (by simp; omega)
      have BB4 := hide ((BB.out.own GR3.out (fun k e => .inl (by have := (OWN.out.lt k e).1; omega))).set ⟨C, 0, none⟩ (.slice (some ⟨g3, 0, none⟩) (F.length + G.length) cap3) (.inl (by show w.heap.size ≤ C; omega)))
      clear C2 D2 cc0 cc1 ccf dc0 dc1 dcf b2 BB R3 C3 D3 OWN OWN3 GR3 c30 c31 c3f hcell hgn ne2 neD neR neg2 sz hat3
      generalize w3.setCell ⟨C, 0, none⟩ (.slice (some ⟨g3, 0, none⟩) (F.length + G.length) cap3) = w4 at *
      by_cases h93 : ∃ h : a2 < l.length, l[a2] = 93
      · obtain ⟨hl2, e93⟩ := h93
        have HT := hide (take_yes w4 R g cap l a2 o 93 R4 hl2 e93)
        have RES : Hid (clsAt (l.drop a) = some (.one (.cls neg (ds ++ [i])), l.drop (a2 + 1))) := by
          show _ = _
          rw [HQ.out, HC.out.is, itemsP_last (i := i) (t := l.drop (a2 + 1)) (by rw [HIN.out, ← hr2, List.drop_eq_getElem_cons hl2, e93])]; rfl
        clear e93 HQ HIN hr2 mea HC
        refine HT.out.mono ?_
        rintro e w5 ⟨rfl, r5, b5⟩
        have C5 := b5.heap C4 (by omega)
        have D5 := b5.heap D4 (by omega)
        have OWN5 := hide (own_pass OWN4.out b5 (by omega))
        have BB5 := hide (BB4.out.trans b5)
        obtain ⟨c50, c51, c5f⟩ := cells2_at C5
        obtain ⟨d50, d51, d5f⟩ := cells2_at D5
        clear C4 D4 b5
        go_wp2_with fail
        refine bodyPost_ret (v := .tuple #[.agg #[.slice (some ⟨g3, 0, none⟩) (F.length + G.length) cap3, .bool neg], .bool true]) (by simp [results, go_sem, *]) rfl ?_
        have OWN6 := ownsRow_setCell_below (ownsRow_setCell_below OWN5.out (a := ⟨w.heap.size, 0, none⟩) (by show w.heap.size < C + 1; omega) (.slice (some ⟨g3, 0, none⟩) (F.length + G.length) cap3)) (a := ⟨w.heap.size, 1, none⟩) (by show w.heap.size < C + 1; omega) (.bool neg)
        obtain ⟨hp1, hp1i, hp1r, hp1o⟩ := RowIn.of OWN6
        refine ⟨⟨_, _, rfl, .inr ⟨rfl, _, _, hp1, RES.out, ⟨_, _, (ds ++ [i]).flatMap itemSp, rfl, ?_, by omega, cls_fit neg _⟩, hp1i, ?_⟩, a2 + 1, by omega, ?_, ?_⟩, ?_⟩
        · unfold SpansIs
          rw [FEQ.out.1, FEQ.out.2]; exact hp1r
        · intro k x hk
          have := (OWN6.lt k (hp1o k x hk)).1
          omega
        · rw [RES.out]; intro x r e; cases e; rfl
        · exact (r5.pass (grown_set _ _ _) (by simp; omega) (by simp; omega)).pass (grown_set _ _ _) (by simp; omega) (by simp; omega)
        · exact (BB5.out.set _ _ (.inl (Nat.le_refl _))).set _ _ (.inl (Nat.le_refl _))
      · have hne : headZ (l.drop a2) ≠ 93 := by
          intro e
          by_cases hl3 : a2 < l.length
          · rw [head_at hl3] at e; exact h93 ⟨hl3, by omega⟩
          · rw [head_end hl3] at e; omega
        have HT := hide (take_no w4 R g cap l a2 o 93 R4 hne)
        have NX : Hid (itemsP (l.drop a0) = preI (ds ++ [i]) (itemsP (l.drop a2))) := by
          show _ = _
          rw [HC.out.is, itemsP_more HIN.out (by
            rw [← hr2]
            intro e
            cases hd : l.drop a2 with
            | nil => rw [hd] at e; cases e
            | cons x t => rw [hd] at e hne; simp at e; exact hne (by rw [e]; rfl)), preI_snoc, hr2]
        clear HQ HIN hr2 HC h93 hne
        refine HT.out.mono ?_
        rintro e w5 ⟨rfl, r5, b5⟩
        have C5 := b5.heap C4 (by omega)
        have D5 := b5.heap D4 (by omega)
        have OWN5 := hide (own_pass OWN4.out b5 (by omega))
        have BB5 := hide (BB4.out.trans b5)
        clear C4 D4 b5
        go_wp2_with fail
        go_roundw
        case rel =>
          refine ⟨a2, ds ++ [i], _, r5, BB5.out, sz2, C5, D5, ?_, few2, Rl, NX.out⟩
          rw [FEQ.out.1, FEQ.out.2]; exact OWN5.out
        case measure => rw [mea, r5.atOf]; omega

end Go.Proofs.YtncljgpcloanfaaDoor
namespace Go.Proofs.YtncljgpcloanfaaDoor
open Go.RowKit

def escR : List Nat → Rd
  | [] => none
  | d :: v => if inN escN d then some (.one (escP d), v) else none
theorem escN_is (d : Nat) : inN escN d = (inN dwsN d || (inN dwsN (d + 32) || inN escsN d)) := by
  rw [Bool.eq_iff_iff]
  simp only [inN, escN, dwsN, escsN, Bool.or_eq_true, List.contains_iff_mem, List.mem_cons, List.not_mem_nil, or_false]
  omega
theorem dws_no {d : Nat} (h : inN dwsN d = false) : (d : Int) ≠ 100 ∧ (d : Int) ≠ 119 ∧ (d : Int) ≠ 115 := by
  have : ¬ inN dwsN d = true := by rw [h]; simp
  rw [dws_iff] at this; omega
theorem only_set {hp : Hp} {sv : Value} {d : Nat} (h : RowIn hp 99 2 sv 1 [.int .i32 (d : Int), .int .i32 (d : Int)]) : SetIs hp (.agg #[sv, .bool false]) (.sign d) :=
  ⟨sv, false, [(d, d)], rfl, h, by show 1 ≤ 1000; omega, sign_fit d⟩

set_option maxHeartbeats 4000000 in
theorem escaped_any (w : World) (R g cap : Nat) (l : List Nat) (a o : Nat) (h : Rdr w R g cap l a o) :
    Calls Tryd.prog 63 #[.pointer (some ⟨R, 0, none⟩)] w (SetPost w R g cap l o (escR (l.drop a))) := by
  have Rl := h.Rlt
  have gl := h.lt
  have h0 := h.alloc (.cells #[.slice none 0 0, .bool false] 55)
  have b0 := (But.refl R w).alloc (.cells #[.slice none 0 0, .bool false] 55)
  have D0 : (w.alloc (.cells #[.slice none 0 0, .bool false] 55)).heap[w.heap.size]? = some (.cells #[.slice none 0 0, .bool false] 55 (0, 0)) := heap_alloc_new w _
  have hle := h.le
  by_cases hlt : a < l.length
  · have HN := hide (next_at _ R g cap l a o h0 hlt)
    have DR : l.drop a = l[a] :: l.drop (a + 1) := List.drop_eq_getElem_cons hlt
    have nm := h.num l[a] (List.getElem_mem hlt)
    cases hd : inN dwsN l[a] with
    | true =>
      have RES : Hid (escR (l.drop a) = some (.one (.kind l[a] false), l.drop (a + 1))) := by
        show _ = _
        rw [DR]; unfold escR; simp only
        rw [escN_is, hd, Bool.true_or, if_pos rfl]; unfold escP; rw [hd, if_pos rfl]
      have HD := hide (fun w1 => named_yes l[a] w1 hd)
      clear DR hd h
      generalize l[a] = x at *
      go_enter Tryd.func63, Tryd.ntmps63
      go_wp2_with fail
      refine HN.out.mono ?_
      rintro e w1 ⟨rfl, r1, b1⟩
      have D1 := b1.heap D0 (by omega)
      have BB1 := b0.trans b1
      have sz1 := BB1.size
      go_wp2_with fail
      refine (HD.out w1).mono ?_
      rintro e w2 ⟨hp, n, rfl, hsp, hin, hfr, b2⟩
      have D2 : w2.heap[w.heap.size]? = _ := (b2.block _ (Array.getElem?_eq_some_iff.1 D1).1).trans D1
      obtain ⟨d0, d1, df⟩ := cells2_at D2
      have lD := (Array.getElem?_eq_some_iff.1 D1).1
      have Dn : hp w.heap.size = none := hfr.none lD
      go_wp2_with fail
      refine bodyPost_ret (v := .tuple #[.agg #[.slice (some ⟨w1.heap.size, 0, none⟩) n n, .bool false], .bool true]) (by simp [results, go_sem, *]) rfl ?_
      refine ⟨⟨_, _, rfl, .inr ⟨rfl, _, _, hp, RES.out, ⟨_, _, namedSp x, rfl, hsp, by have := (itemSp_len (.kind x)).2; have : (namedSp x).length ≤ 4 := this; omega, kind_fit x false⟩, ?_, hfr.mono sz1⟩, a + 1, by omega, ?_, ?_⟩, ?_⟩
      · exact (hin.grown (grown_set _ _ _) (fun k e => by cases e; exact Dn)).grown (grown_set _ _ _) (fun k e => by cases e; exact Dn)
      · rw [RES.out]; intro y r e; cases e; rfl
      · exact ((r1.below b2).pass (grown_set _ _ _) (by simp; omega) (by simp; omega)).pass (grown_set _ _ _) (by simp; omega) (by simp; omega)
      · exact ((BB1.below b2).set _ _ (.inl (Nat.le_refl _))).set _ _ (.inl (Nat.le_refl _))
    | false =>
      have HD := hide (fun w1 => named_no (l[a] : Nat) w1 (dws_no hd))
      cases hd2 : inN dwsN (l[a] + 32) with
      | true =>
        have RES : Hid (escR (l.drop a) = some (.one (.kind (l[a] + 32) true), l.drop (a + 1))) := by
          show _ = _
          rw [DR]; unfold escR; simp only
          rw [escN_is, hd2, Bool.true_or, Bool.or_true, if_pos rfl]; unfold escP; rw [hd, hd2, if_neg (by simp), if_pos rfl]
        have HD2 := hide (fun w1 => named_yes (l[a] + 32) w1 hd2)
        rw [show ((l[a] + 32 : Nat) : Int) = (l[a] : Int) - 65 + 97 by omega] at HD2
        clear DR hd hd2 h
        generalize l[a] = x at *
        have xb : (x : Int) ≤ 1114111 := by omega
        go_enter Tryd.func63, Tryd.ntmps63
        go_wp2_with fail
        refine HN.out.mono ?_
        rintro e w1 ⟨rfl, r1, b1⟩
        have D1 := b1.heap D0 (by omega)
        have BB1 := b0.trans b1
        have sz1 := BB1.size
        go_wp2_with fail
        refine (HD.out w1).mono ?_
        rintro e w11 ⟨rfl, hw⟩
        obtain rfl : w1 = w11 := hw.symm
        clear hw
        go_wp2_with fail
        refine (HD2.out w1).mono ?_
        rintro e w2 ⟨hp, n, rfl, hsp, hin, hfr, b2⟩
        have D2 : w2.heap[w.heap.size]? = _ := (b2.block _ (Array.getElem?_eq_some_iff.1 D1).1).trans D1
        obtain ⟨d0, d1, df⟩ := cells2_at D2
        have lD := (Array.getElem?_eq_some_iff.1 D1).1
        have Dn : hp w.heap.size = none := hfr.none lD
        go_wp2_with fail
        refine bodyPost_ret (v := .tuple #[.agg #[.slice (some ⟨w1.heap.size, 0, none⟩) n n, .bool true], .bool true]) (by simp [results, go_sem, *]) rfl ?_
        refine ⟨⟨_, _, rfl, .inr ⟨rfl, _, _, hp, RES.out, ⟨_, _, namedSp (x + 32), rfl, hsp, by have := (itemSp_len (.kind (x + 32))).2; have : (namedSp (x + 32)).length ≤ 4 := this; omega, kind_fit (x + 32) true⟩, ?_, hfr.mono sz1⟩, a + 1, by omega, ?_, ?_⟩, ?_⟩
        · exact (hin.grown (grown_set _ _ _) (fun k e => by cases e; exact Dn)).grown (grown_set _ _ _) (fun k e => by cases e; exact Dn)
        · rw [RES.out]; intro y r e; cases e; rfl
        · exact ((r1.below b2).pass (grown_set _ _ _) (by simp; omega) (by simp; omega)).pass (grown_set _ _ _) (by simp; omega) (by simp; omega)
        · exact ((BB1.below b2).set _ _ (.inl (Nat.le_refl _))).set _ _ (.inl (Nat.le_refl _))
      | false =>
        have HD2 := hide (fun w1 => named_no ((l[a] + 32 : Nat) : Int) w1 (dws_no hd2))
        rw [show ((l[a] + 32 : Nat) : Int) = (l[a] : Int) - 65 + 97 by omega] at HD2
        have RES : Hid (escR (l.drop a) = if inN escsN l[a] then some (.one (.sign l[a]), l.drop (a + 1)) else none) := by
          show _ = _
          rw [DR]; unfold escR escP; simp only [escN_is, hd, hd2, Bool.false_or, Bool.false_eq_true, if_false]
        have HO := hide (fun w1 => only_any (l[a] : Nat) w1)
        have HI := hide (fun w1 => isOneOf_any sEscs (l[a] : Nat) w1 asc_escs)
        have IN := hide (in_escs l[a])
        clear DR hd hd2 h
        generalize l[a] = x at *
        have xb : (x : Int) ≤ 1114111 := by omega
        generalize inZ sEscs (x : Int) = bb at *
        go_enter Tryd.func63, Tryd.ntmps63
        go_wp2_with fail
        refine HN.out.mono ?_
        rintro e w1 ⟨rfl, r1, b1⟩
        have D1 := b1.heap D0 (by omega)
        have BB1 := b0.trans b1
        have sz1 := BB1.size
        go_wp2_with fail
        refine (HD.out w1).mono ?_
        rintro e w11 ⟨rfl, hw⟩
        obtain rfl : w1 = w11 := hw.symm
        clear hw
        go_wp2_with fail
        refine (HD2.out w1).mono ?_
        rintro e w11 ⟨rfl, hw⟩
        obtain rfl : w1 = w11 := hw.symm
        clear hw
        go_wp2_with fail
        refine (HO.out w1).mono ?_
        rintro e w2 ⟨hp, rfl, hsp, hin, hfr, b2⟩
        go_wp2_with fail
        refine (HI.out w2).mono ?_
        rintro e w3 ⟨rfl, b3⟩
        have D2 : w2.heap[w.heap.size]? = _ := (b2.block _ (Array.getElem?_eq_some_iff.1 D1).1).trans D1
        have D3 : w3.heap[w.heap.size]? = _ := (b3.block _ (Array.getElem?_eq_some_iff.1 D2).1).trans D2
        obtain ⟨d0, d1, df⟩ := cells2_at D3
        have lD := (Array.getElem?_eq_some_iff.1 D1).1
        have Dn : hp w.heap.size = none := hfr.none lD
        go_wp2_with fail
        refine bodyPost_ret (v := .tuple #[.agg #[.slice (some ⟨w1.heap.size + 1, 0, none⟩) 1 1, .bool false], .bool bb]) (by simp [results, go_sem, *]) rfl ?_
        refine ⟨⟨_, _, rfl, ?_, a + 1, by omega, ?_, ?_⟩, ?_⟩
        · rw [RES.out, ← IN.out]
          cases bb with
          | false => exact .inl ⟨rfl, rfl⟩
          | true => exact .inr ⟨rfl, _, _, hp, rfl, only_set hsp, ((hin.below b3).grown (grown_set _ _ _) (fun k e => by cases e; exact Dn)).grown (grown_set _ _ _) (fun k e => by cases e; exact Dn), hfr.mono sz1⟩
        · rw [RES.out]; intro y r e
          split at e
          · cases e; rfl
          · cases e
        · exact (((r1.below b2).below b3).pass (grown_set _ _ _) (by simp; omega) (by simp; omega)).pass (grown_set _ _ _) (by simp; omega) (by simp; omega)
        · exact (((BB1.below b2).below b3).set _ _ (.inl (Nat.le_refl _))).set _ _ (.inl (Nat.le_refl _))
  · have HN := hide (next_end _ R g cap l a o h0 hlt)
    have RES : Hid (escR (l.drop a) = none) := by show _ = _; rw [List.drop_eq_nil_of_le (by omega)]; rfl
    have HD := hide (fun w1 => named_no (-1) w1 (by omega))
    have HD2 := hide (fun z w1 hz => named_no z w1 hz)
    have HO := hide (fun w1 => only_any (-1) w1)
    have HI := hide (fun w1 => isOneOf_any sEscs (-1) w1 asc_escs)
    have IN := hide (inZ_high asc_escs (r := -1) (by omega))
    rw [IN.out] at HI
    clear h
    go_enter Tryd.func63, Tryd.ntmps63
    go_wp2_with fail
    refine HN.out.mono ?_
    rintro e w1 ⟨rfl, r1, b1⟩
    have D1 := b1.heap D0 (by omega)
    have BB1 := b0.trans b1
    have sz1 := BB1.size
    go_wp2_with fail
    refine (HD.out w1).mono ?_
    rintro e w11 ⟨rfl, hw⟩
    obtain rfl : w1 = w11 := hw.symm
    clear hw
    go_wp2_with fail
    refine (HD2.out _ w1 (by omega)).mono ?_
    rintro e w11 ⟨rfl, hw⟩
    obtain rfl : w1 = w11 := hw.symm
    clear hw
    go_wp2_with fail
    refine (HO.out w1).mono ?_
    rintro e w2 ⟨hp, rfl, hsp, hin, hfr, b2⟩
    go_wp2_with fail
    refine (HI.out w2).mono ?_
    rintro e w3 ⟨rfl, b3⟩
    have D2 : w2.heap[w.heap.size]? = _ := (b2.block _ (Array.getElem?_eq_some_iff.1 D1).1).trans D1
    have D3 : w3.heap[w.heap.size]? = _ := (b3.block _ (Array.getElem?_eq_some_iff.1 D2).1).trans D2
    obtain ⟨d0, d1, df⟩ := cells2_at D3
    have lD := (Array.getElem?_eq_some_iff.1 D1).1
    go_wp2_with fail
    refine bodyPost_ret (v := .tuple #[.agg #[.slice (some ⟨w1.heap.size + 1, 0, none⟩) 1 1, .bool false], .bool false]) (by simp [results, go_sem, *]) rfl ?_
    refine ⟨⟨_, _, rfl, .inl ⟨rfl, RES.out⟩, a, by omega, ?_, ?_⟩, ?_⟩
    · rw [RES.out]; intro y r e; cases e
    · exact (((r1.below b2).below b3).pass (grown_set _ _ _) (by simp; omega) (by simp; omega)).pass (grown_set _ _ _) (by simp; omega) (by simp; omega)
    · exact (((BB1.below b2).below b3).set _ _ (.inl (Nat.le_refl _))).set _ _ (.inl (Nat.le_refl _))

end Go.Proofs.YtncljgpcloanfaaDoor
namespace Go.Proofs.YtncljgpcloanfaaDoor
open Go.RowKit

theorem take_next {l : List Nat} {a k : Nat} (h : a + k < l.length) : (l.drop a).take (k + 1) = (l.drop a).take k ++ [l[a + k]] := by
  rw [List.take_succ_eq_append_getElem (by simp; omega)]
  simp

set_option maxHeartbeats 4000000 in
theorem number_any (w : World) (R g cap : Nat) (l : List Nat) (a o : Nat) (h : Rdr w R g cap l a o) :
    Calls Tryd.prog 71 #[.pointer (some ⟨R, 0, none⟩)] w fun e w' =>
      (e = .returned (.tuple #[.int .i64 ((digsL (l.drop a)).1 : Nat), .bool (decide (0 < (digsL (l.drop a)).2.1))]) ∧ ∃ a', a ≤ a' ∧ l.drop a' = (digsL (l.drop a)).2.2 ∧ Rdr w' R g cap l a' o) ∧ But R w w' := by
  have c1 := h.cell1
  have hs := h.small
  have hle := h.le
  have HR := hide h
  clear h
  go_enter Tryd.func71, Tryd.ntmps71
  go_wp2_with fail
  go_quiet (fail)
  go_wp2_with fail
  have HS := hide (HR.out.drewN nq)
  have HB := hide ((But.refl R w).drewN nq)
  generalize w.drewN nq = w0 at *
  clear c1
  go_loopw [4] (fun v wr => ∃ k : Nat, k ≤ 2 ∧ v = .int .i64 (numD ((l.drop a).take k) : Nat) ∧ Rdr wr R g cap l (a + k) o ∧ But R w wr ∧ ∀ c ∈ (l.drop a).take k, isDN c = true) (fun _ wr => 2 - (atOf wr R - a))
  case atStart => exact ⟨0, by omega, rfl, HS.out, HB.out, by simp⟩
  case round =>
    obtain ⟨k, k2, rfl, rk, bk, hd⟩ := hrel
    rename World => wr
    have HE := hide (fun he => digs_stop (l := l.drop a) k2 (by have := rk.le; simp; omega) hd he)
    have hkl := rk.le
    have c1 := rk.cell1
    have RK := hide rk
    have BK := hide bk
    have mea := rk.atOf
    have NL := numD_le k2 hd
    have HD := hide hd
    rw [show ((a + k : Nat) : Int) = (a : Int) + (k : Int) by omega] at c1
    have i0 : (a : Int) ≤ 200 := by omega
    have FIN : (k = 2 ∨ k = (l.drop a).length ∨ ∃ h : k < (l.drop a).length, isDN (l.drop a)[k] = false) → ∀ n, Hid (((Ending.returned (.tuple #[.int .i64 (numD ((l.drop a).take k) : Nat), .bool (decide ((a : Int) < (a : Int) + (k : Int)))]) = .returned (.tuple #[.int .i64 ((digsL (l.drop a)).1 : Nat), .bool (decide (0 < (digsL (l.drop a)).2.1))])) ∧ ∃ a', a ≤ a' ∧ l.drop a' = (digsL (l.drop a)).2.2 ∧ Rdr (wr.drewN n) R g cap l a' o) ∧ But R w (wr.drewN n)) := by
      intro he n
      have E := HE.out he
      refine ⟨⟨?_, a + k, by omega, ?_, RK.out.drewN n⟩, BK.out.drewN n⟩
      · rw [E]
        congr 3
        simp
        omega
      · rw [E]; simp
    clear hd rk bk
    by_cases hk : k < 2
    · have i1 : (a : Int) + (k : Int) < (a : Int) + 2 := by omega
      have HP := hide (fun w1 h1 => peek_any w1 R g cap l (a + k) o h1)
      by_cases hlt : a + k < l.length
      · rw [head_at hlt] at HP
        have EG : Hid ((l.drop a)[k]? = some l[a + k]) := by show _ = _; simp [hlt]
        by_cases hdig : 48 ≤ l[a + k] ∧ l[a + k] ≤ 57
        · obtain ⟨d1, d2⟩ := hdig
          have HN := hide (fun w1 h1 => next_at w1 R g cap l (a + k) o h1 hlt)
          have NX : Hid (numD ((l.drop a).take (k + 1)) = numD ((l.drop a).take k) * 10 + (l[a + k] - 48) ∧ ∀ c ∈ (l.drop a).take (k + 1), isDN c = true) := by
            rw [take_next hlt]
            refine ⟨numD_snoc _ _, fun c hc => ?_⟩
            rcases List.mem_append.1 hc with hc | hc
            · exact HD.out c hc
            · simp at hc; subst hc; exact (isDN_iff _).2 ⟨d1, d2⟩
          have nl := NL.2 (by omega)
          clear FIN HE EG NL
          generalize l[a + k] = x at *
          generalize numD ((l.drop a).take k) = n at *
          have z1 : (48 : Int) ≤ (x : Int) := by omega
          have z2 : (x : Int) ≤ 57 := by omega
          have z3 : (n : Int) ≤ 9 := by omega
          have z4 : 0 ≤ (n : Int) := by omega
          go_wp2_with fail
          refine (HP.out wr RK.out).mono ?_
          rintro e w1 ⟨rfl, n1, rfl⟩
          go_wp2_with fail
          refine (HP.out _ (RK.out.drewN n1)).mono ?_
          rintro e w1 ⟨rfl, n2, rfl⟩
          go_wp2_with fail
          refine (HN.out _ (RK.out.drewN _)).mono ?_
          rintro e w3 ⟨rfl, r3, b3⟩
          go_wp2_with fail
          go_roundw
          case rel => exact ⟨k + 1, by omega, by rw [NX.out.1]; congr 1; omega, r3, (BK.out.drewN _).trans b3, NX.out.2⟩
          case measure => rw [r3.atOf, mea]; omega
        · have EX : isDN l[a + k] = false := by
            cases hx : isDN l[a + k] with
            | false => rfl
            | true => exact absurd ((isDN_iff _).1 hx) hdig
          have F := FIN (.inr (.inr ⟨by simp; omega, by simpa using EX⟩))
          clear FIN HE EG EX
          generalize l[a + k] = x at *
          by_cases d1 : 48 ≤ x
          · have z1 : (48 : Int) ≤ (x : Int) := by omega
            have z2 : ¬ (x : Int) ≤ 57 := by omega
            clear hdig
            go_wp2_with fail
            refine (HP.out wr RK.out).mono ?_
            rintro e w1 ⟨rfl, n1, rfl⟩
            go_wp2_with fail
            refine (HP.out _ (RK.out.drewN n1)).mono ?_
            rintro e w1 ⟨rfl, n2, rfl⟩
            go_wp2_with fail
            go_quiet (fail)
            go_wp2_with fail
            go_ret2
            simp only [World.drewN_drewN]
            exact (F _).out
          · have z1 : ¬ (48 : Int) ≤ (x : Int) := by omega
            clear hdig d1
            go_wp2_with fail
            refine (HP.out wr RK.out).mono ?_
            rintro e w1 ⟨rfl, n1, rfl⟩
            go_wp2_with fail
            go_quiet (fail)
            go_wp2_with fail
            go_ret2
            simp only [World.drewN_drewN]
            exact (F _).out
      · rw [head_end hlt] at HP
        have F := FIN (.inr (.inl (by simp; omega)))
        clear FIN HE
        go_wp2_with fail
        refine (HP.out wr RK.out).mono ?_
        rintro e w1 ⟨rfl, n1, rfl⟩
        go_wp2_with fail
        go_quiet (fail)
        go_wp2_with fail
        go_ret2
        simp only [World.drewN_drewN]
        exact (F _).out
    · have i1 : ¬ (a : Int) + (k : Int) < (a : Int) + 2 := by omega
      have F := FIN (.inl (by omega))
      clear FIN HE
      go_wp2_with fail
      go_quiet (fail)
      go_wp2_with fail
      go_ret2
      exact (F _).out

end Go.Proofs.YtncljgpcloanfaaDoor
namespace Go.Proofs.YtncljgpcloanfaaDoor
open Go.RowKit

/-- What 'bounds' and 'times' answer. -/
def OftPost (w : World) (R g cap : Nat) (l : List Nat) (o : Nat) (res : Option (Nat × Option Nat × List Nat)) (e : Ending) (w' : World) : Prop :=
  (∃ x y b, e = .returned (.tuple #[.int .i64 x, .int .i64 y, .bool b]) ∧ ((b = false ∧ res = none) ∨ (b = true ∧ ∃ lo hi r, res = some (lo, hi, r) ∧ x = (lo : Int) ∧ y = hiZ hi)) ∧ ∃ a', a' ≤ l.length ∧ (∀ lo hi r, res = some (lo, hi, r) → l.drop a' = r) ∧ Rdr w' R g cap l a' o) ∧ But R w w'
theorem head_not {l : List Nat} {c : Nat} (h : headZ l ≠ (c : Int)) : l.head? ≠ some c := by
  intro e
  cases l with
  | nil => cases e
  | cons x t => simp at e; exact h (by rw [e]; rfl)
set_option maxHeartbeats 4000000 in
theorem bounds_any (w : World) (R g cap : Nat) (l : List Nat) (a o : Nat) (h : Rdr w R g cap l a o) :
    Calls Tryd.prog 66 #[.pointer (some ⟨R, 0, none⟩)] w (OftPost w R g cap l o (bndR (l.drop a))) := by
  have HN := hide (number_any w R g cap l a o h)
  have nb := digs_fst_le (l.drop a)
  clear h
  by_cases h0 : (digsL (l.drop a)).2.1 = 0
  · have RES := hide (bnd_no h0)
    rw [h0, show decide (0 < 0) = false from rfl] at HN
    clear h0
    generalize digsL (l.drop a) = D at *
    go_enter Tryd.func66, Tryd.ntmps66
    go_wp2_with fail
    refine HN.out.mono ?_
    rintro e w1 ⟨⟨rfl, a1, a1l, ha1, r1⟩, b1⟩
    go_wp2_with fail
    go_ret3
    refine ⟨⟨_, _, _, rfl, .inl ⟨rfl, RES.out⟩, a1, r1.le, ?_, r1⟩, b1⟩
    rw [RES.out]; intro x y z e; cases e
  · rw [show decide (0 < (digsL (l.drop a)).2.1) = true from decide_eq_true (by omega)] at HN
    have H0 := hide h0
    clear h0
    obtain ⟨n1, hn1⟩ : ∃ n, n = (digsL (l.drop a)).1 := ⟨_, rfl⟩
    rw [← hn1] at HN nb
    have N1 := hide hn1
    clear hn1
    have x0 : 0 ≤ (n1 : Int) := by omega
    have x1 : (n1 : Int) ≤ 99 := by omega
    have x2 : ((n1 : Int) == -1) = false := by rw [beq_eq_false_iff_ne]; omega
    go_enter Tryd.func66, Tryd.ntmps66
    go_wp2_with fail
    refine HN.out.mono ?_
    rintro e w1 ⟨⟨rfl, a1, a1l, ha1, r1⟩, b1⟩
    have E1 := hide ha1
    clear ha1
    by_cases h44 : ∃ h : a1 < l.length, l[a1] = 44
    · obtain ⟨hl1, e44⟩ := h44
      have HT := hide (take_yes w1 R g cap l a1 o 44 r1 hl1 e44)
      have E44 : Hid ((digsL (l.drop a)).2.2 = 44 :: l.drop (a1 + 1)) := by
        show _ = _
        rw [← E1.out, List.drop_eq_getElem_cons hl1, e44]
      clear e44
      go_wp2_with fail
      refine HT.out.mono ?_
      rintro e w2 ⟨rfl, r2, b2⟩
      have HN2 := hide (number_any w2 R g cap l (a1 + 1) o r2)
      have nb2 := digs_fst_le (l.drop (a1 + 1))
      have BB2 := hide (b1.trans b2)
      clear HT HN E1 b1 b2 r1
      by_cases h02 : (digsL (l.drop (a1 + 1))).2.1 = 0
      · rw [show decide (0 < (digsL (l.drop (a1 + 1))).2.1) = false from decide_eq_false (by omega)] at HN2
        obtain ⟨n2, hn2⟩ : ∃ n, n = (digsL (l.drop (a1 + 1))).1 := ⟨_, rfl⟩
        rw [← hn2] at HN2
        have H02 := hide h02
        clear h02 hn2 nb2
        go_wp2_with fail
        refine HN2.out.mono ?_
        rintro e w3 ⟨⟨rfl, a3, a3l, ha3, r3⟩, b3⟩
        have E3 := hide ha3
        have BB3 := hide (BB2.out.trans b3)
        clear ha3 b3 HN2
        go_wp2_with fail
        by_cases h125 : ∃ h : a3 < l.length, l[a3] = 125
        · obtain ⟨hl, e125⟩ := h125
          have HT := hide (take_yes _ R g cap l a3 o 125 r3 hl e125)
          have RES : Hid (bndR (l.drop a) = some (n1, none, l.drop (a3 + 1))) := by
            have e := List.drop_eq_getElem_cons hl
            rw [e125] at e
            exact by rw [N1.out]; exact bnd_open H0.out E44.out H02.out (by rw [← E3.out]; exact e)
          clear e125
          go_wp2_with fail
          refine HT.out.mono ?_
          rintro e w9 ⟨rfl, r9, b9⟩
          go_wp2_with fail
          go_ret3
          refine ⟨⟨_, _, _, rfl, .inr ⟨rfl, _, _, _, RES.out, rfl, rfl⟩, a3 + 1, by omega, ?_, r9⟩, BB3.out.trans b9⟩
          rw [RES.out]; intro x y z e; cases e; rfl
        · have hne : headZ (l.drop (a3)) ≠ 125 := by
            intro e
            by_cases hl : a3 < l.length
            · rw [head_at hl] at e; exact h125 ⟨hl, by omega⟩
            · rw [head_end hl] at e; omega
          have HT := hide (take_no _ R g cap l a3 o 125 r3 hne)
          have RES : Hid (bndR (l.drop a) = none) := by
            have e : (l.drop (a3)).head? ≠ some 125 := by
              intro e
              cases hd : l.drop (a3) with
              | nil => rw [hd] at e; cases e
              | cons x t => rw [hd] at e hne; simp at e; exact hne (by rw [e]; rfl)
            exact bnd_shut H0.out E44.out (by rw [← E3.out]; exact e)
          have pl := r3.le
          clear hne h125
          go_wp2_with fail
          refine HT.out.mono ?_
          rintro e w9 ⟨rfl, r9, b9⟩
          go_wp2_with fail
          go_ret3
          refine ⟨⟨_, _, _, rfl, .inl ⟨rfl, RES.out⟩, a3, pl, ?_, r9⟩, BB3.out.trans b9⟩
          rw [RES.out]; intro x y z e; cases e
      · rw [show decide (0 < (digsL (l.drop (a1 + 1))).2.1) = true from decide_eq_true (by omega)] at HN2
        obtain ⟨n2, hn2⟩ : ∃ n, n = (digsL (l.drop (a1 + 1))).1 := ⟨_, rfl⟩
        rw [← hn2] at HN2 nb2
        have H02 := hide h02
        have N2 := hide hn2
        clear h02 hn2
        have y0 : 0 ≤ (n2 : Int) := by omega
        have y1 : (n2 : Int) ≤ 99 := by omega
        have y2 : ((n2 : Int) == -1) = false := by rw [beq_eq_false_iff_ne]; omega
        go_wp2_with fail
        refine HN2.out.mono ?_
        rintro e w3 ⟨⟨rfl, a3, a3l, ha3, r3⟩, b3⟩
        have E3 := hide ha3
        have BB3 := hide (BB2.out.trans b3)
        clear ha3 b3 HN2
        by_cases hcmp : n1 ≤ n2
        · have z0 : (n1 : Int) ≤ (n2 : Int) := by omega
          go_wp2_with fail
          by_cases h125 : ∃ h : a3 < l.length, l[a3] = 125
          · obtain ⟨hl, e125⟩ := h125
            have HT := hide (take_yes _ R g cap l a3 o 125 r3 hl e125)
            have RES : Hid (bndR (l.drop a) = some (n1, some n2, l.drop (a3 + 1))) := by
              have e := List.drop_eq_getElem_cons hl
              rw [e125] at e
              exact by rw [N1.out, N2.out]; exact bnd_two H0.out E44.out H02.out (by rw [← E3.out]; exact e) (by rw [← N1.out, ← N2.out]; exact hcmp)
            clear e125
            go_wp2_with fail
            refine HT.out.mono ?_
            rintro e w9 ⟨rfl, r9, b9⟩
            go_wp2_with fail
            go_ret3
            refine ⟨⟨_, _, _, rfl, .inr ⟨rfl, _, _, _, RES.out, rfl, rfl⟩, a3 + 1, by omega, ?_, r9⟩, BB3.out.trans b9⟩
            rw [RES.out]; intro x y z e; cases e; rfl
          · have hne : headZ (l.drop (a3)) ≠ 125 := by
              intro e
              by_cases hl : a3 < l.length
              · rw [head_at hl] at e; exact h125 ⟨hl, by omega⟩
              · rw [head_end hl] at e; omega
            have HT := hide (take_no _ R g cap l a3 o 125 r3 hne)
            have RES : Hid (bndR (l.drop a) = none) := by
              have e : (l.drop (a3)).head? ≠ some 125 := by
                intro e
                cases hd : l.drop (a3) with
                | nil => rw [hd] at e; cases e
                | cons x t => rw [hd] at e hne; simp at e; exact hne (by rw [e]; rfl)
              exact bnd_shut H0.out E44.out (by rw [← E3.out]; exact e)
            have pl := r3.le
            clear hne h125
            go_wp2_with fail
            refine HT.out.mono ?_
            rintro e w9 ⟨rfl, r9, b9⟩
            go_wp2_with fail
            go_ret3
            refine ⟨⟨_, _, _, rfl, .inl ⟨rfl, RES.out⟩, a3, pl, ?_, r9⟩, BB3.out.trans b9⟩
            rw [RES.out]; intro x y z e; cases e
        · have z0 : ¬ (n1 : Int) ≤ (n2 : Int) := by omega
          have RES : Hid (bndR (l.drop a) = none) := bnd_less H0.out E44.out H02.out (by rw [← N1.out, ← N2.out]; omega)
          clear hcmp
          go_wp2_with fail
          go_ret3
          refine ⟨⟨_, _, _, rfl, .inl ⟨rfl, RES.out⟩, a3, r3.le, ?_, r3⟩, BB3.out⟩
          rw [RES.out]; intro x y z e; cases e
    · have hne44 : headZ (l.drop a1) ≠ 44 := by
        intro e
        by_cases hl1 : a1 < l.length
        · rw [head_at hl1] at e; exact h44 ⟨hl1, by omega⟩
        · rw [head_end hl1] at e; omega
      have HT0 := hide (take_no w1 R g cap l a1 o 44 r1 hne44)
      have N44 := hide (head_not hne44)
      clear hne44 h44
      have zz : (n1 : Int) ≤ (n1 : Int) := by omega
      go_wp2_with fail
      refine HT0.out.mono ?_
      rintro e w3 ⟨rfl, r3, b3⟩
      have BB3 := hide (b1.trans b3)
      clear HT0 b1 b3 HN r1
      go_wp2_with fail
      by_cases h125 : ∃ h : a1 < l.length, l[a1] = 125
      · obtain ⟨hl, e125⟩ := h125
        have HT := hide (take_yes _ R g cap l a1 o 125 r3 hl e125)
        have RES : Hid (bndR (l.drop a) = some (n1, some n1, l.drop (a1 + 1))) := by
          have e := List.drop_eq_getElem_cons hl
          rw [e125] at e
          exact by rw [N1.out]; exact bnd_one H0.out (by rw [← E1.out]; exact e)
        clear e125
        go_wp2_with fail
        refine HT.out.mono ?_
        rintro e w9 ⟨rfl, r9, b9⟩
        go_wp2_with fail
        go_ret3
        refine ⟨⟨_, _, _, rfl, .inr ⟨rfl, _, _, _, RES.out, rfl, rfl⟩, a1 + 1, by omega, ?_, r9⟩, BB3.out.trans b9⟩
        rw [RES.out]; intro x y z e; cases e; rfl
      · have hne : headZ (l.drop (a1)) ≠ 125 := by
          intro e
          by_cases hl : a1 < l.length
          · rw [head_at hl] at e; exact h125 ⟨hl, by omega⟩
          · rw [head_end hl] at e; omega
        have HT := hide (take_no _ R g cap l a1 o 125 r3 hne)
        have RES : Hid (bndR (l.drop a) = none) := by
          have e : (l.drop (a1)).head? ≠ some 125 := by
            intro e
            cases hd : l.drop (a1) with
            | nil => rw [hd] at e; cases e
            | cons x t => rw [hd] at e hne; simp at e; exact hne (by rw [e]; rfl)
          exact bnd_bad H0.out (by rw [← E1.out]; exact e) (by rw [← E1.out]; exact N44.out)
        have pl := r3.le
        clear hne h125
        go_wp2_with fail
        refine HT.out.mono ?_
        rintro e w9 ⟨rfl, r9, b9⟩
        go_wp2_with fail
        go_ret3
        refine ⟨⟨_, _, _, rfl, .inl ⟨rfl, RES.out⟩, a1, pl, ?_, r9⟩, BB3.out.trans b9⟩
        rw [RES.out]; intro x y z e; cases e


end Go.Proofs.YtncljgpcloanfaaDoor
namespace Go.Proofs.YtncljgpcloanfaaDoor
open Go.RowKit

set_option maxHeartbeats 1000000 in
theorem countable_grp (cs : Array Value) (w : World) : Calls Tryd.prog 96 #[.agg cs] w fun e w' => e = .returned (.bool false) ∧ Below w.heap.size w w' := by
  go_enter Tryd.func96, Tryd.ntmps96
  go_wp2_with fail
  go_ret
  exact ⟨rfl, (Below.refl _ _).alloc (Nat.le_refl _) _⟩
set_option maxHeartbeats 1000000 in
theorem countable_set (cs : Array Value) (w : World) : Calls Tryd.prog 97 #[.agg cs] w fun e w' => e = .returned (.bool true) ∧ Below w.heap.size w w' := by
  go_enter Tryd.func97, Tryd.ntmps97
  go_wp2_with fail
  go_ret
  exact ⟨rfl, (Below.refl _ _).alloc (Nat.le_refl _) _⟩
theorem often_sign (g : Bool) {c : Nat} {t : List Nat} (h1 : ¬ c = 42) (h2 : ¬ c = 43) (h3 : ¬ c = 63) : oftenQ g (c :: t) = if c = 123 ∧ g = false then bndR t else some (1, some 1, c :: t) := by
  unfold oftenQ; simp [h1, h2, h3]
set_option maxHeartbeats 4000000 in
set_option maxRecDepth 100000 in
theorem times_grp (rv : Value) (w : World) (R g cap : Nat) (l : List Nat) (a o : Nat) (r0 : Rdr w R g cap l a o) :
    Calls Tryd.prog 53 #[.pointer (some ⟨R, 0, none⟩), .iface 37 (.agg #[rv])] w (OftPost w R g cap l o (oftenQ true (l.drop a))) := by
  have hle := r0.le
  have HNo := hide (fun w1 (h1 : Rdr w1 R g cap l a o) c hc => take_no w1 R g cap l a o c h1 hc)
  have HC := hide (countable_grp #[rv])
  have B0 := hide (But.refl R w)
  by_cases h42 : ∃ h : a < l.length, l[a] = 42
  · obtain ⟨hlt, e42⟩ := h42
    have RES : Hid (oftenQ true (l.drop a) = some (0, none, l.drop (a + 1))) := by show _ = _; rw [List.drop_eq_getElem_cons hlt, e42]; rfl
    have HY := hide (fun w1 (h1 : Rdr w1 R g cap l a o) => take_yes w1 R g cap l a o 42 h1 hlt e42)
    have hx : headZ (l.drop a) = 42 := by rw [head_at hlt, e42]; rfl
    clear e42
    go_enter Tryd.func53, Tryd.ntmps53
    go_wp2_with fail
    refine (HY.out _ r0).mono ?_
    rintro e w9 ⟨rfl, r9, b9⟩
    go_wp2_with fail
    go_ret3
    refine ⟨⟨_, _, _, rfl, .inr ⟨rfl, 0, none, l.drop (a + 1), RES.out, rfl, rfl⟩, a + 1, by omega, ?_, r9⟩, B0.out.trans b9⟩
    rw [RES.out]; intro x y z e; cases e; rfl
  by_cases h43 : ∃ h : a < l.length, l[a] = 43
  · obtain ⟨hlt, e43⟩ := h43
    have RES : Hid (oftenQ true (l.drop a) = some (1, none, l.drop (a + 1))) := by show _ = _; rw [List.drop_eq_getElem_cons hlt, e43]; rfl
    have HY := hide (fun w1 (h1 : Rdr w1 R g cap l a o) => take_yes w1 R g cap l a o 43 h1 hlt e43)
    have hx : headZ (l.drop a) = 43 := by rw [head_at hlt, e43]; rfl
    clear e43
    go_enter Tryd.func53, Tryd.ntmps53
    go_wp2_with fail
    refine (HNo.out _ r0 42 (by rw [hx]; omega)).mono ?_
    rintro e w1 ⟨rfl, r1, b1⟩
    have B1 := hide (B0.out.trans b1)
    clear b1
    go_wp2_with fail
    refine (HY.out _ r1).mono ?_
    rintro e w9 ⟨rfl, r9, b9⟩
    go_wp2_with fail
    go_ret3
    refine ⟨⟨_, _, _, rfl, .inr ⟨rfl, 1, none, l.drop (a + 1), RES.out, rfl, rfl⟩, a + 1, by omega, ?_, r9⟩, B1.out.trans b9⟩
    rw [RES.out]; intro x y z e; cases e; rfl
  by_cases h63 : ∃ h : a < l.length, l[a] = 63
  · obtain ⟨hlt, e63⟩ := h63
    have RES : Hid (oftenQ true (l.drop a) = some (0, some 1, l.drop (a + 1))) := by show _ = _; rw [List.drop_eq_getElem_cons hlt, e63]; rfl
    have HY := hide (fun w1 (h1 : Rdr w1 R g cap l a o) => take_yes w1 R g cap l a o 63 h1 hlt e63)
    have hx : headZ (l.drop a) = 63 := by rw [head_at hlt, e63]; rfl
    clear e63
    go_enter Tryd.func53, Tryd.ntmps53
    go_wp2_with fail
    refine (HNo.out _ r0 42 (by rw [hx]; omega)).mono ?_
    rintro e w1 ⟨rfl, r1, b1⟩
    have B1 := hide (B0.out.trans b1)
    clear b1
    go_wp2_with fail
    refine (HNo.out _ r1 43 (by rw [hx]; omega)).mono ?_
    rintro e w2 ⟨rfl, r2, b2⟩
    have B2 := hide (B1.out.trans b2)
    clear b2
    go_wp2_with fail
    refine (HY.out _ r2).mono ?_
    rintro e w9 ⟨rfl, r9, b9⟩
    go_wp2_with fail
    go_ret3
    refine ⟨⟨_, _, _, rfl, .inr ⟨rfl, 0, some 1, l.drop (a + 1), RES.out, rfl, rfl⟩, a + 1, by omega, ?_, r9⟩, B2.out.trans b9⟩
    rw [RES.out]; intro x y z e; cases e; rfl
  have n1 : headZ (l.drop a) ≠ 42 := by
    intro e
    by_cases hl : a < l.length
    · rw [head_at hl] at e; exact h42 ⟨hl, by omega⟩
    · rw [head_end hl] at e; omega
  have n2 : headZ (l.drop a) ≠ 43 := by
    intro e
    by_cases hl : a < l.length
    · rw [head_at hl] at e; exact h43 ⟨hl, by omega⟩
    · rw [head_end hl] at e; omega
  have n3 : headZ (l.drop a) ≠ 63 := by
    intro e
    by_cases hl : a < l.length
    · rw [head_at hl] at e; exact h63 ⟨hl, by omega⟩
    · rw [head_end hl] at e; omega
  clear h42 h43 h63
  have RES : Hid (oftenQ true (l.drop a) = some (1, some 1, l.drop a)) := by
    show _ = _
    cases hd : l.drop a with
    | nil => rfl
    | cons c t =>
      rw [hd] at n1 n2 n3
      rw [often_sign true (fun e => n1 (by rw [e]; rfl)) (fun e => n2 (by rw [e]; rfl)) (fun e => n3 (by rw [e]; rfl)), if_neg (by simp)]
  go_enter Tryd.func53, Tryd.ntmps53
  go_wp2_with fail
  refine (HNo.out _ r0 42 (by exact n1)).mono ?_
  rintro e w1 ⟨rfl, r1, b1⟩
  have B1 := hide (B0.out.trans b1)
  clear b1
  go_wp2_with fail
  refine (HNo.out _ r1 43 (by exact n2)).mono ?_
  rintro e w2 ⟨rfl, r2, b2⟩
  have B2 := hide (B1.out.trans b2)
  clear b2
  go_wp2_with fail
  refine (HNo.out _ r2 63 (by exact n3)).mono ?_
  rintro e w3 ⟨rfl, r3, b3⟩
  have B3 := hide (B2.out.trans b3)
  clear b3
  go_wp2_with fail
  refine (HC.out _).mono ?_
  rintro e w5 ⟨rfl, b5⟩
  go_wp2_with fail
  go_ret3
  refine ⟨⟨_, _, _, rfl, .inr ⟨rfl, 1, some 1, l.drop a, RES.out, rfl, rfl⟩, a, hle, ?_, r3.below b5⟩, B3.out.below b5⟩
  rw [RES.out]; intro x y z e; cases e; rfl
set_option maxHeartbeats 4000000 in
set_option maxRecDepth 100000 in
theorem times_set (rv : Value) (ob : Bool) (w : World) (R g cap : Nat) (l : List Nat) (a o : Nat) (r0 : Rdr w R g cap l a o) :
    Calls Tryd.prog 53 #[.pointer (some ⟨R, 0, none⟩), .iface 55 (.agg #[rv, .bool ob])] w (OftPost w R g cap l o (oftenQ false (l.drop a))) := by
  have hle := r0.le
  have HNo := hide (fun w1 (h1 : Rdr w1 R g cap l a o) c hc => take_no w1 R g cap l a o c h1 hc)
  have HC := hide (countable_set #[rv, .bool ob])
  have B0 := hide (But.refl R w)
  by_cases h42 : ∃ h : a < l.length, l[a] = 42
  · obtain ⟨hlt, e42⟩ := h42
    have RES : Hid (oftenQ false (l.drop a) = some (0, none, l.drop (a + 1))) := by show _ = _; rw [List.drop_eq_getElem_cons hlt, e42]; rfl
    have HY := hide (fun w1 (h1 : Rdr w1 R g cap l a o) => take_yes w1 R g cap l a o 42 h1 hlt e42)
    have hx : headZ (l.drop a) = 42 := by rw [head_at hlt, e42]; rfl
    clear e42
    go_enter Tryd.func53, Tryd.ntmps53
    go_wp2_with fail
    refine (HY.out _ r0).mono ?_
    rintro e w9 ⟨rfl, r9, b9⟩
    go_wp2_with fail
    go_ret3
    refine ⟨⟨_, _, _, rfl, .inr ⟨rfl, 0, none, l.drop (a + 1), RES.out, rfl, rfl⟩, a + 1, by omega, ?_, r9⟩, B0.out.trans b9⟩
    rw [RES.out]; intro x y z e; cases e; rfl
  by_cases h43 : ∃ h : a < l.length, l[a] = 43
  · obtain ⟨hlt, e43⟩ := h43
    have RES : Hid (oftenQ false (l.drop a) = some (1, none, l.drop (a + 1))) := by show _ = _; rw [List.drop_eq_getElem_cons hlt, e43]; rfl
    have HY := hide (fun w1 (h1 : Rdr w1 R g cap l a o) => take_yes w1 R g cap l a o 43 h1 hlt e43)
    have hx : headZ (l.drop a) = 43 := by rw [head_at hlt, e43]; rfl
    clear e43
    go_enter Tryd.func53, Tryd.ntmps53
    go_wp2_with fail
    refine (HNo.out _ r0 42 (by rw [hx]; omega)).mono ?_
    rintro e w1 ⟨rfl, r1, b1⟩
    have B1 := hide (B0.out.trans b1)
    clear b1
    go_wp2_with fail
    refine (HY.out _ r1).mono ?_
    rintro e w9 ⟨rfl, r9, b9⟩
    go_wp2_with fail
    go_ret3
    refine ⟨⟨_, _, _, rfl, .inr ⟨rfl, 1, none, l.drop (a + 1), RES.out, rfl, rfl⟩, a + 1, by omega, ?_, r9⟩, B1.out.trans b9⟩
    rw [RES.out]; intro x y z e; cases e; rfl
  by_cases h63 : ∃ h : a < l.length, l[a] = 63
  · obtain ⟨hlt, e63⟩ := h63
    have RES : Hid (oftenQ false (l.drop a) = some (0, some 1, l.drop (a + 1))) := by show _ = _; rw [List.drop_eq_getElem_cons hlt, e63]; rfl
    have HY := hide (fun w1 (h1 : Rdr w1 R g cap l a o) => take_yes w1 R g cap l a o 63 h1 hlt e63)
    have hx : headZ (l.drop a) = 63 := by rw [head_at hlt, e63]; rfl
    clear e63
    go_enter Tryd.func53, Tryd.ntmps53
    go_wp2_with fail
    refine (HNo.out _ r0 42 (by rw [hx]; omega)).mono ?_
    rintro e w1 ⟨rfl, r1, b1⟩
    have B1 := hide (B0.out.trans b1)
    clear b1
    go_wp2_with fail
    refine (HNo.out _ r1 43 (by rw [hx]; omega)).mono ?_
    rintro e w2 ⟨rfl, r2, b2⟩
    have B2 := hide (B1.out.trans b2)
    clear b2
    go_wp2_with fail
    refine (HY.out _ r2).mono ?_
    rintro e w9 ⟨rfl, r9, b9⟩
    go_wp2_with fail
    go_ret3
    refine ⟨⟨_, _, _, rfl, .inr ⟨rfl, 0, some 1, l.drop (a + 1), RES.out, rfl, rfl⟩, a + 1, by omega, ?_, r9⟩, B2.out.trans b9⟩
    rw [RES.out]; intro x y z e; cases e; rfl
  have n1 : headZ (l.drop a) ≠ 42 := by
    intro e
    by_cases hl : a < l.length
    · rw [head_at hl] at e; exact h42 ⟨hl, by omega⟩
    · rw [head_end hl] at e; omega
  have n2 : headZ (l.drop a) ≠ 43 := by
    intro e
    by_cases hl : a < l.length
    · rw [head_at hl] at e; exact h43 ⟨hl, by omega⟩
    · rw [head_end hl] at e; omega
  have n3 : headZ (l.drop a) ≠ 63 := by
    intro e
    by_cases hl : a < l.length
    · rw [head_at hl] at e; exact h63 ⟨hl, by omega⟩
    · rw [head_end hl] at e; omega
  clear h42 h43 h63
  by_cases h123 : ∃ h : a < l.length, l[a] = 123
  · obtain ⟨hlt, e123⟩ := h123
    have RES : Hid (oftenQ false (l.drop a) = bndR (l.drop (a + 1))) := by
      show _ = _
      rw [List.drop_eq_getElem_cons hlt, e123]; rfl
    have HY := hide (fun w1 (h1 : Rdr w1 R g cap l a o) => take_yes w1 R g cap l a o 123 h1 hlt e123)
    have HB := hide (fun w1 (h1 : Rdr w1 R g cap l (a + 1) o) => bounds_any w1 R g cap l (a + 1) o h1)
    clear e123
    go_enter Tryd.func53, Tryd.ntmps53
    go_wp2_with fail
    refine (HNo.out _ r0 42 (by exact n1)).mono ?_
    rintro e w1 ⟨rfl, r1, b1⟩
    have B1 := hide (B0.out.trans b1)
    clear b1
    go_wp2_with fail
    refine (HNo.out _ r1 43 (by exact n2)).mono ?_
    rintro e w2 ⟨rfl, r2, b2⟩
    have B2 := hide (B1.out.trans b2)
    clear b2
    go_wp2_with fail
    refine (HNo.out _ r2 63 (by exact n3)).mono ?_
    rintro e w3 ⟨rfl, r3, b3⟩
    have B3 := hide (B2.out.trans b3)
    clear b3
    go_wp2_with fail
    refine (HC.out _).mono ?_
    rintro e w5 ⟨rfl, b5⟩
    have r5 := r3.below b5
    have B5 := hide (B3.out.below b5)
    clear b5
    go_wp2_with fail
    refine (HY.out _ r5).mono ?_
    rintro e w6 ⟨rfl, r6, b6⟩
    go_wp2_with fail
    refine (HB.out _ r6).mono ?_
    rintro e w7 ⟨⟨x, y, b, rfl, hr, a7, a7l, ha7, r7⟩, b7⟩
    go_wp2_with fail
    go_ret3
    rw [RES.out]
    exact ⟨⟨_, _, _, rfl, hr, a7, a7l, ha7, r7⟩, (B5.out.trans b6).trans b7⟩
  · have n4 : headZ (l.drop a) ≠ 123 := by
      intro e
      by_cases hl : a < l.length
      · rw [head_at hl] at e; exact h123 ⟨hl, by omega⟩
      · rw [head_end hl] at e; omega
    have RES : Hid (oftenQ false (l.drop a) = some (1, some 1, l.drop a)) := by
      show _ = _
      cases hd : l.drop a with
      | nil => rfl
      | cons c t =>
        rw [hd] at n1 n2 n3 n4
        rw [often_sign false (fun e => n1 (by rw [e]; rfl)) (fun e => n2 (by rw [e]; rfl)) (fun e => n3 (by rw [e]; rfl)), if_neg (fun e => n4 (by rw [e.1]; rfl))]
    clear h123
    go_enter Tryd.func53, Tryd.ntmps53
    go_wp2_with fail
    refine (HNo.out _ r0 42 (by exact n1)).mono ?_
    rintro e w1 ⟨rfl, r1, b1⟩
    have B1 := hide (B0.out.trans b1)
    clear b1
    go_wp2_with fail
    refine (HNo.out _ r1 43 (by exact n2)).mono ?_
    rintro e w2 ⟨rfl, r2, b2⟩
    have B2 := hide (B1.out.trans b2)
    clear b2
    go_wp2_with fail
    refine (HNo.out _ r2 63 (by exact n3)).mono ?_
    rintro e w3 ⟨rfl, r3, b3⟩
    have B3 := hide (B2.out.trans b3)
    clear b3
    go_wp2_with fail
    refine (HC.out _).mono ?_
    rintro e w5 ⟨rfl, b5⟩
    have r5 := r3.below b5
    have B5 := hide (B3.out.below b5)
    clear b5
    go_wp2_with fail
    refine (HNo.out _ r5 123 n4).mono ?_
    rintro e w6 ⟨rfl, r6, b6⟩
    go_wp2_with fail
    go_ret3
    refine ⟨⟨_, _, _, rfl, .inr ⟨rfl, 1, some 1, l.drop a, RES.out, rfl, rfl⟩, a, hle, ?_, r6⟩, B5.out.trans b6⟩
    rw [RES.out]; intro x y z e; cases e; rfl

end Go.Proofs.YtncljgpcloanfaaDoor
