/- The program's 'inner', 'atom' and 'piece', by the level of groups. Condition: the reader's. The program's 'atom' and 'piece', by the level of groups. Condition: the reader's. The program's 'piece', by the level of groups. Condition: the reader's. The program's 'row', by the level of groups. Condition: the reader's. The program's 'group', at every level of groups. Condition: the reader's. -/
import Derived.Test.YtncljgpcloanfaaDoorQatQA
import Derived.RegionTactic
import Derived.Deep.RegionWith
namespace Go.Proofs.YtncljgpcloanfaaDoor
open Go.RowKit

theorem shut_cases {res : Rd} : (∃ p v, res = some (p, 41 :: v)) ∨ shutR res = none := by
  cases res with
  | none => exact .inr rfl
  | some y =>
    obtain ⟨p, r⟩ := y
    cases r with
    | nil => exact .inr rfl
    | cons c v =>
      by_cases e : c = 41
      · subst e; exact .inl ⟨p, v, rfl⟩
      · right
        unfold shutR
        split
        · rename_i heq; cases heq; exact absurd rfl e
        · rfl

set_option maxHeartbeats 8000000 in
theorem inner_any (k o : Nat) (hk : o + (k + 1) = 8) (HG : GroupC k (o + 1)) (w : World) (R g cap : Nat) (l : List Nat) (a : Nat) (h : Rdr w R g cap l a o) :
    Calls Tryd.prog 61 #[.pointer (some ⟨R, 0, none⟩)] w (GrpPost w R g cap l k o (shutR (rowsD k (l.drop a)))) := by
  have h0 := h.alloc (.cells #[.slice none 0 0] 37)
  have c2 := h0.cell2
  have f2 := h0.frozen 2
  have Rl := h.Rlt
  have gl := h.lt
  have e8 : ((o : Int) == 8) = false := by rw [beq_eq_false_iff_ne]; omega
  have o8 : (o : Int) ≤ 7 := by omega
  have h1 := (h.set2 (o + 1) (by omega)).alloc (.cells #[.slice none 0 0] 37)
  have b1 := ((But.refl R w).set ⟨R, 2, none⟩ (.int .i64 ((o + 1 : Nat) : Int)) (.inr rfl)).alloc (.cells #[.slice none 0 0] 37)
  have D1 : ((w.setCell ⟨R, 2, none⟩ (.int .i64 ((o + 1 : Nat) : Int))).alloc (.cells #[.slice none 0 0] 37)).heap[w.heap.size]? = some (.cells #[.slice none 0 0] 37 (0, 0)) := by
    have := heap_alloc_new (w.setCell ⟨R, 2, none⟩ (.int .i64 ((o + 1 : Nat) : Int))) (.cells #[.slice none 0 0] 37)
    rw [show (w.setCell ⟨R, 2, none⟩ (.int .i64 ((o + 1 : Nat) : Int))).heap.size = w.heap.size by simp [World.setCell]] at this
    exact this
  rw [show ((o + 1 : Nat) : Int) = (o : Int) + 1 by omega] at h1 b1 D1
  have HC := hide (HG _ R g cap l a h1)
  have D1 := hide D1
  have B1 := hide b1
  clear h h1 b1 HG h0
  go_enter Tryd.func61, Tryd.ntmps61
  go_wp2_with fail
  refine HC.out.mono ?_
  rintro e w2 ⟨⟨rv, b, rfl, ⟨q, n, c3, rfl⟩, hv, a2, a2l, ha2, r2⟩, b2⟩
  have D2 := b2.heap D1.out (by omega)
  have BB2 := hide (B1.out.trans b2)
  have sz2 := BB2.out.size
  have lD : w.heap.size < w2.heap.size := (Array.getElem?_eq_some_iff.1 D2).1
  have r3 := r2.alloc (.cells #[.slice q n c3] 37)
  have d2 := r3.cell2
  have g2 := r3.frozen 2
  rw [show ((o + 1 : Nat) : Int) = (o : Int) + 1 by omega] at d2
  have r4 := (r2.set2 o (by omega)).alloc (.cells #[.slice q n c3] 37)
  have SZ : (w2.setCell ⟨R, 2, none⟩ (.int .i64 (o : Int))).heap.size = w2.heap.size := by simp [World.setCell]
  have D4 := grown_heap (World.grownBy_alloc (w2.setCell ⟨R, 2, none⟩ (.int .i64 (o : Int))) (.cells #[.slice q n c3] 37) none) (grown_heap (grown_set w2 ⟨R, 2, none⟩ (.int .i64 (o : Int))) D2 (by simp; omega)) (by simp)
  have E4 := heap_alloc_new (w2.setCell ⟨R, 2, none⟩ (.int .i64 (o : Int))) (.cells #[.slice q n c3] 37)
  rw [SZ] at E4
  have B4 := hide ((BB2.out.set ⟨R, 2, none⟩ (.int .i64 (o : Int)) (.inr rfl)).alloc (.cells #[.slice q n c3] 37))
  have RL2 : R < w2.heap.size := by omega
  have IN4 : ∀ hp : Hp, hp.In w2 → hp.From (w.heap.size + 1) → hp.In ((w2.setCell ⟨R, 2, none⟩ (.int .i64 (o : Int))).alloc (.cells #[.slice q n c3] 37)) := fun hp i f =>
    (i.grown (grown_set _ _ _) (fun k e => by cases e; exact f.none (by show R < _; omega))).grown (World.grownBy_alloc _ _ none) (fun _ e => by cases e)
  have IN4 := hide IN4
  clear D2 b2 r3 HC D1 B1 SZ
  rcases hv with ⟨rfl, hn⟩ | ⟨rfl, p, r, hp, hres, hgi, hin, hfr⟩
  · have RES : Hid (shutR (rowsD k (l.drop a)) = none) := by show _ = _; rw [hn]; rfl
    clear hn ha2
    go_wp2_with fail
    generalize (w2.setCell ⟨R, 2, none⟩ (.int .i64 (o : Int))).alloc (.cells #[.slice q n c3] 37) = w4 at *
    obtain ⟨dc0, dcf⟩ := cells1_at D4
    obtain ⟨ec0, ecf⟩ := cells1_at E4
    go_region
    all_goals
      go_wp2_with fail
      refine bodyPost_ret (v := .tuple #[.agg #[.slice q n c3], .bool false]) (by simp [results, go_sem, *]) rfl ?_
      refine ⟨⟨_, _, rfl, ⟨_, _, _, rfl⟩, .inl ⟨rfl, RES.out⟩, a2, a2l, ?_, ?_⟩, ?_⟩
      · rw [RES.out]; intro x y e; cases e
      · exact (r4.drewN 1).pass (grown_set _ _ _) (by simp; omega) (by simp; omega)
      · exact (B4.out.drewN 1).set _ _ (.inl (Nat.le_refl _))
  · have hr2 := ha2 p r hres
    have HI4 := hide (IN4.out hp hin)
    have FR4 := hide hfr
    have GI4 := hide hgi
    have SZ1 : Hid (w.heap.size + 1 = ((w.setCell ⟨R, 2, none⟩ (.int .i64 ((o : Int) + 1))).alloc (.cells #[.slice none 0 0] 37)).heap.size) := by show _ = _; simp [World.setCell]
    clear hgi hin hfr IN4
    go_wp2_with fail
    generalize (w2.setCell ⟨R, 2, none⟩ (.int .i64 (o : Int))).alloc (.cells #[.slice q n c3] 37) = w4 at *
    obtain ⟨dc0, dcf⟩ := cells1_at D4
    obtain ⟨ec0, ecf⟩ := cells1_at E4
    have ne1 : w.heap.size ≠ R := by omega
    have ne2 : w2.heap.size ≠ R := by omega
    have ne3 : w2.heap.size ≠ w.heap.size := by omega
    by_cases h41 : ∃ h : a2 < l.length, l[a2] = 41
    · obtain ⟨hl2, e41⟩ := h41
      have RES : Hid (shutR (rowsD k (l.drop a)) = some (p, l.drop (a2 + 1))) := by
        show _ = _
        rw [hres, ← hr2, List.drop_eq_getElem_cons hl2, e41]; rfl
      have HT := hide (fun wx (hx : Rdr wx R g cap l a2 o) => take_yes wx R g cap l a2 o 41 hx hl2 e41)
      clear e41 hres hr2 ha2
      go_region_with (go_at_call 35; refine (HT.out _ (r4.drewN 1)).mono ?_; rintro e w5 ⟨rfl, r5, b5⟩; have D5 := b5.heap (show (w4.drewN 1).heap[w.heap.size]? = _ from D4) ne1; have E5 := b5.heap (show (w4.drewN 1).heap[w2.heap.size]? = _ from E4) ne2; obtain ⟨dd0, ddf⟩ := cells1_at D5; obtain ⟨ee0, eef⟩ := cells1_at E5)
      all_goals
        go_wp2_with fail
        refine bodyPost_ret (v := .tuple #[.agg #[.slice q n c3], .bool true]) (by simp [results, go_sem, *]) rfl ?_
        refine ⟨⟨_, _, rfl, ⟨_, _, _, rfl⟩, .inr ⟨rfl, p, _, hp, RES.out, GI4.out, ?_, ?_⟩, a2 + 1, by omega, ?_, ?_⟩, ?_⟩
        · have f := FR4.out
          rw [← SZ1.out] at f
          have i4 : hp.In (w4.drewN 1) := HI4.out f
          exact ((i4.but b5 (f.none (by omega))).grown (grown_set _ _ _) (fun k e => by cases e; exact f.none (by show w.heap.size < _; omega)))
        · exact FR4.out.mono (by rw [← SZ1.out]; omega)
        · rw [RES.out]; intro x y e; cases e; rfl
        · exact r5.pass (grown_set _ _ _) (by simp; omega) (by simp; omega)
        · exact ((B4.out.drewN 1).trans b5).set _ _ (.inl (Nat.le_refl _))
    · have hne : headZ (l.drop a2) ≠ 41 := by
        intro e
        by_cases hl2 : a2 < l.length
        · rw [head_at hl2] at e; exact h41 ⟨hl2, by omega⟩
        · rw [head_end hl2] at e; omega
      have RES : Hid (shutR (rowsD k (l.drop a)) = none) := by
        show _ = _
        rw [hres, ← hr2]
        exact shut_no p (fun hh e => h41 ⟨hh, e⟩)
      have HT := hide (fun wx (hx : Rdr wx R g cap l a2 o) => take_no wx R g cap l a2 o 41 hx hne)
      clear hne h41 hres hr2 ha2
      go_region_with (go_at_call 35; refine (HT.out _ (r4.drewN 1)).mono ?_; rintro e w5 ⟨rfl, r5, b5⟩; have D5 := b5.heap (show (w4.drewN 1).heap[w.heap.size]? = _ from D4) ne1; have E5 := b5.heap (show (w4.drewN 1).heap[w2.heap.size]? = _ from E4) ne2; obtain ⟨dd0, ddf⟩ := cells1_at D5; obtain ⟨ee0, eef⟩ := cells1_at E5)
      all_goals
        go_wp2_with fail
        refine bodyPost_ret (v := .tuple #[.agg #[.slice q n c3], .bool false]) (by simp [results, go_sem, *]) rfl ?_
        refine ⟨⟨_, _, rfl, ⟨_, _, _, rfl⟩, .inl ⟨rfl, RES.out⟩, a2, a2l, ?_, ?_⟩, ?_⟩
        · rw [RES.out]; intro x y e; cases e
        · exact r5.pass (grown_set _ _ _) (by simp; omega) (by simp; omega)
        · exact ((B4.out.drewN 1).trans b5).set _ _ (.inl (Nat.le_refl _))

end Go.Proofs.YtncljgpcloanfaaDoor
namespace Go.Proofs.YtncljgpcloanfaaDoor
open Go.RowKit

/-- What 'atom' answers. -/
def AtomPost (w : World) (R g cap : Nat) (l : List Nat) (a k o : Nat) (res : Rd) (e : Ending) (w' : World) : Prop :=
  (∃ av b, e = .returned (.tuple #[av, .bool b]) ∧ ((b = false ∧ res = none) ∨ (b = true ∧ ∃ p r hp, res = some (p, r) ∧ AtomIs hp k av p ∧ hp.In w' ∧ hp.From w.heap.size ∧ ((l[a]? = some 40 ∧ ∃ rv, av = .iface 37 (.agg #[rv])) ∨ (l[a]? ≠ some 40 ∧ ∃ sv ob, av = .iface 55 (.agg #[sv, .bool ob]))))) ∧ ∃ a', a' ≤ l.length ∧ (∀ p r, res = some (p, r) → l.drop a' = r) ∧ Rdr w' R g cap l a' o) ∧ But R w w'
theorem at_escR {l : List Nat} {a : Nat} (k : Nat) (h : a < l.length) (e : l[a] = 92) : atomD k (l.drop a) = escR (l.drop (a + 1)) := by
  by_cases h2 : a + 1 < l.length
  · rw [at_esc k h e h2, List.drop_eq_getElem_cons h2]; rfl
  · rw [at_esc0 k h e h2, List.drop_eq_nil_of_le (by omega)]; rfl
theorem taken_bad {c : Nat} (h1 : ¬ c = 91) (h2 : ¬ c = 40) (h3 : ¬ c = 92) (h4 : ¬ c = 46) : inN takenN c = inN badN c := by
  rw [Bool.eq_iff_iff]
  simp only [inN, takenN, badN, List.contains_iff_mem, List.mem_cons, List.not_mem_nil, or_false]
  omega
theorem alts_isOne {rows : List (List Pc)} (h : rows ≠ []) : isOneP (altsP (rows.map rowP)) = false := by
  have hr : ∀ ps : List Pc, isOneP (rowP ps) = false := fun ps => by cases ps <;> rfl
  cases rows with
  | nil => exact absurd rfl h
  | cons r rs =>
    cases rs with
    | nil => exact hr r
    | cons q t => rfl
theorem shut_some {res : Rd} {p : Pat} {r : List Nat} (h : shutR res = some (p, r)) : res = some (p, 41 :: r) := by
  unfold shutR at h
  split at h
  · cases h; rfl
  · cases h

set_option maxHeartbeats 4000000 in
theorem atom_grp (k o : Nat) (hk : o + k = 8) (HG : ∀ j, k = j + 1 → GroupC j (o + 1)) (w : World) (R g cap : Nat) (l : List Nat) (a : Nat) (h : Rdr w R g cap l a o) (hlt : a < l.length) (e40 : l[a] = 40) :
    Calls Tryd.prog 52 #[.pointer (some ⟨R, 0, none⟩)] w (AtomPost w R g cap l a k o (atomD k (l.drop a))) := by
  have HN := hide (next_at w R g cap l a o h hlt)
  have d40 : ((l[a] : Int) == 40) = true := by rw [e40]; rfl
  have GE : Hid (l[a]? = some 40) := by show _ = _; simp [hlt, e40]
  cases k with
  | zero =>
    have RES := hide (at_grp0 hlt e40)
    obtain rfl : o = 8 := by omega
    have HI := hide (fun w1 h1 => inner_full w1 R g cap l (a + 1) h1)
    clear h e40 HG
    generalize l[a] = x at *
    go_enter Tryd.func52, Tryd.ntmps52
    go_wp2_with fail
    refine HN.out.mono ?_
    rintro e w1 ⟨rfl, r1, b1⟩
    go_wp2_with fail
    refine (HI.out w1 r1).mono ?_
    rintro e w2 ⟨rfl, r2, b2⟩
    go_wp2_with fail
    go_ret2
    refine ⟨⟨_, _, rfl, .inl ⟨rfl, RES.out⟩, a + 1, by omega, ?_, r2⟩, b1.trans b2⟩
    rw [RES.out]; intro p r e; cases e
  | succ j =>
    have RES := hide (at_grp j hlt e40)
    have HI := hide (fun w1 h1 => inner_any j o hk (HG j rfl) w1 R g cap l (a + 1) h1)
    clear h e40 HG
    generalize l[a] = x at *
    go_enter Tryd.func52, Tryd.ntmps52
    go_wp2_with fail
    refine HN.out.mono ?_
    rintro e w1 ⟨rfl, r1, b1⟩
    go_wp2_with fail
    refine (HI.out w1 r1).mono ?_
    rintro e w2 ⟨⟨rv, b, rfl, _, hv, a2, a2l, ha2, r2⟩, b2⟩
    go_wp2_with fail
    go_ret2
    rw [RES.out]
    have sz := b1.size
    refine ⟨⟨_, _, rfl, ?_, a2, a2l, ha2, r2⟩, b1.trans b2⟩
    rcases hv with hv | ⟨rfl, p, r, hp, hres, hgi, hin, hfr⟩
    · exact .inl hv
    · refine .inr ⟨rfl, p, r, hp, hres, .inr ⟨rv, rfl, ?_, hgi⟩, hin, hfr.mono sz, .inl ⟨GE.out, rv, rfl⟩⟩
      obtain ⟨rows, q1, q2, _⟩ := hgi
      rw [q2]; exact alts_isOne q1.1
set_option maxHeartbeats 4000000 in
theorem atom_set (k o : Nat) (w : World) (R g cap : Nat) (l : List Nat) (a : Nat) (h : Rdr w R g cap l a o) (hlt : a < l.length) (e40 : ¬ l[a] = 40) :
    Calls Tryd.prog 52 #[.pointer (some ⟨R, 0, none⟩)] w (AtomPost w R g cap l a k o (atomD k (l.drop a))) := by
  have HN := hide (next_at w R g cap l a o h hlt)
  have d40 : ((l[a] : Int) == 40) = false := by rw [beq_eq_false_iff_ne]; omega
  have GE : Hid (l[a]? ≠ some 40) := by
    show _ ≠ _
    rw [List.getElem?_eq_getElem hlt]
    intro e; rw [Option.some.injEq] at e; exact e40 e
  by_cases e91 : l[a] = 91
  · have d91 : ((l[a] : Int) == 91) = true := by rw [e91]; rfl
    have RES := hide (at_cls k hlt e91)
    have HI := hide (fun w1 h1 => class_any w1 R g cap l (a + 1) o h1)
    clear h e40 e91
    generalize l[a] = x at *
    go_enter Tryd.func52, Tryd.ntmps52
    go_wp2_with fail
    refine HN.out.mono ?_
    rintro e w1 ⟨rfl, r1, b1⟩
    go_wp2_with fail
    refine (HI.out w1 r1).mono ?_
    rintro e w2 ⟨⟨v, b, rfl, hv, a2, a2l, ha2, r2⟩, b2⟩
    go_wp2_with fail
    go_ret2
    rw [RES.out]
    have sz := b1.size
    refine ⟨⟨_, _, rfl, ?_, a2, a2l, ha2, r2⟩, b1.trans b2⟩
    rcases hv with hv | ⟨rfl, y, r, hp, hres, hsi, hin, hfr⟩
    · exact .inl hv
    · obtain ⟨sv, ob, sp, q1, _⟩ := id hsi
      exact .inr ⟨rfl, _, r, hp, hres, AtomIs.set k hsi, hin, hfr.mono sz, .inr ⟨GE.out, sv, ob, congrArg _ q1⟩⟩
  have d91 : ((l[a] : Int) == 91) = false := by rw [beq_eq_false_iff_ne]; omega
  by_cases e92 : l[a] = 92
  · have d92 : ((l[a] : Int) == 92) = true := by rw [e92]; rfl
    have RES := hide (at_escR k hlt e92)
    have HI := hide (fun w1 h1 => escaped_any w1 R g cap l (a + 1) o h1)
    clear h e40 e91 e92
    generalize l[a] = x at *
    go_enter Tryd.func52, Tryd.ntmps52
    go_wp2_with fail
    refine HN.out.mono ?_
    rintro e w1 ⟨rfl, r1, b1⟩
    go_wp2_with fail
    refine (HI.out w1 r1).mono ?_
    rintro e w2 ⟨⟨v, b, rfl, hv, a2, a2l, ha2, r2⟩, b2⟩
    go_wp2_with fail
    go_ret2
    rw [RES.out]
    have sz := b1.size
    refine ⟨⟨_, _, rfl, ?_, a2, a2l, ha2, r2⟩, b1.trans b2⟩
    rcases hv with hv | ⟨rfl, y, r, hp, hres, hsi, hin, hfr⟩
    · exact .inl hv
    · obtain ⟨sv, ob, sp, q1, _⟩ := id hsi
      exact .inr ⟨rfl, _, r, hp, hres, AtomIs.set k hsi, hin, hfr.mono sz, .inr ⟨GE.out, sv, ob, congrArg _ q1⟩⟩
  have d92 : ((l[a] : Int) == 92) = false := by rw [beq_eq_false_iff_ne]; omega
  have RES0 := hide (at_else k hlt e91 e40 e92)
  by_cases e46 : l[a] = 46
  · have d46 : ((l[a] : Int) == 46) = true := by rw [e46]; rfl
    have RES : Hid (atomD k (l.drop a) = some (.one .any, l.drop (a + 1))) := by
      show _ = _
      rw [RES0.out, e46]; rfl
    clear h e40 e91 e92 e46 RES0
    generalize l[a] = x at *
    go_enter Tryd.func52, Tryd.ntmps52
    go_wp2_with fail
    refine HN.out.mono ?_
    rintro e w1 ⟨rfl, r1, b1⟩
    go_wp2_with fail
    go_ret2
    have sz := b1.size
    refine ⟨⟨_, _, rfl, .inr ⟨rfl, _, _, _, RES.out, AtomIs.set k ⟨_, _, [(10, 10), (13, 13)], rfl, lit_row w1.heap.size 2 2 _ _ (by unfold maxLen; omega) rfl, by show 2 ≤ 1000; omega, any_fit⟩, lit_in w1 _ _, (lit_from _ _ _).mono sz, .inr ⟨GE.out, _, _, rfl⟩⟩, a + 1, by omega, ?_, r1.alloc _⟩, b1.alloc _⟩
    rw [RES.out]; intro p r e; cases e; rfl
  · have d46 : ((l[a] : Int) == 46) = false := by rw [beq_eq_false_iff_ne]; omega
    have RES : Hid (atomD k (l.drop a) = if inN takenN l[a] then none else some (.one (.sign l[a]), l.drop (a + 1))) := by
      show _ = _
      rw [RES0.out, taken_bad e91 e40 e92 e46, if_neg e46]
    have HO := hide (fun w1 => only_any (l[a] : Nat) w1)
    have HI := hide (fun w1 => isOneOf_any sTaken (l[a] : Nat) w1 asc_taken)
    have IN := hide (in_taken l[a])
    clear h e40 e91 e92 e46 RES0
    generalize l[a] = x at *
    generalize inZ sTaken (x : Int) = bb at *
    go_enter Tryd.func52, Tryd.ntmps52
    go_wp2_with fail
    refine HN.out.mono ?_
    rintro e w1 ⟨rfl, r1, b1⟩
    go_wp2_with fail
    refine (HO.out w1).mono ?_
    rintro e w2 ⟨hp, rfl, hsp, hin, hfr, b2⟩
    go_wp2_with fail
    refine (HI.out w2).mono ?_
    rintro e w3 ⟨rfl, b3⟩
    go_wp2_with fail
    go_ret2
    have sz := b1.size
    refine ⟨⟨_, _, rfl, ?_, a + 1, by omega, ?_, (r1.below b2).below b3⟩, (b1.below b2).below b3⟩
    · rw [RES.out, ← IN.out]
      cases bb with
      | true => exact .inl ⟨rfl, rfl⟩
      | false => exact .inr ⟨rfl, _, _, hp, rfl, AtomIs.set k (only_set hsp), hin.below b3, hfr.mono sz, .inr ⟨GE.out, _, _, rfl⟩⟩
    · rw [RES.out]; intro p r e
      split at e
      · cases e
      · cases e; rfl
theorem atom_any (k o : Nat) (hk : o + k = 8) (HG : ∀ j, k = j + 1 → GroupC j (o + 1)) (w : World) (R g cap : Nat) (l : List Nat) (a : Nat) (h : Rdr w R g cap l a o) (hlt : a < l.length) :
    Calls Tryd.prog 52 #[.pointer (some ⟨R, 0, none⟩)] w (AtomPost w R g cap l a k o (atomD k (l.drop a))) := by
  by_cases e40 : l[a] = 40
  · exact atom_grp k o hk HG w R g cap l a h hlt e40
  · exact atom_set k o w R g cap l a h hlt e40

end Go.Proofs.YtncljgpcloanfaaDoor
namespace Go.Proofs.YtncljgpcloanfaaDoor
open Go.RowKit

theorem AtomIs.grp {h : Hp} {k : Nat} {x : Value} {p : Pat} (a : AtomIs h k (.iface 37 x) p) : isOneP p = false := by
  cases k with
  | zero => obtain ⟨sv, o, e, _⟩ := a; cases e
  | succ k =>
    rcases a with ⟨sv, o, e, _⟩ | ⟨rv, _, e, _⟩
    · cases e
    · exact e
theorem AtomIs.isSet {h : Hp} {k : Nat} {x : Value} {p : Pat} (a : AtomIs h k (.iface 55 x) p) : ∃ o, p = .one o ∧ SetIs h x o := by
  cases k with
  | zero => obtain ⟨sv, o, e, e2, e3⟩ := a; cases e; exact ⟨o, e2, e3⟩
  | succ k =>
    rcases a with ⟨sv, o, e, e2, e3⟩ | ⟨rv, e, _⟩
    · cases e; exact ⟨o, e2, e3⟩
    · cases e
/-- A piece, as the program reads it. -/
def oftR (g : Bool) : Rd → Option (Pc × List Nat)
  | none => none
  | some (p, r1) => match oftenQ g r1 with
    | none => none
    | some (lo, hi, r2) => some ((p, lo, hi), r2)
def pieceR (k : Nat) (l : List Nat) (a : Nat) : Option (Pc × List Nat) := oftR (l[a]? == some 40) (atomD k (l.drop a))
/-- What 'piece' answers. -/
def PiecePost (w : World) (R g cap : Nat) (l : List Nat) (a k o : Nat) (e : Ending) (w' : World) : Prop :=
  (∃ av x y b, e = .returned (.tuple #[.agg #[av, .int .i64 x, .int .i64 y], .bool b]) ∧ (av = .nilIface ∨ ∃ t u, av = .iface t u) ∧ ((b = false ∧ pieceR k l a = none) ∨ (b = true ∧ ∃ p lo hi r hp, pieceR k l a = some ((p, lo, hi), r) ∧ x = (lo : Int) ∧ y = hiZ hi ∧ AtomIs hp k av p ∧ OftOk (!isOneP p) lo hi ∧ hp.In w' ∧ hp.From w.heap.size)) ∧ ∃ a', a' ≤ l.length ∧ (∀ q r, pieceR k l a = some (q, r) → l.drop a' = r) ∧ Rdr w' R g cap l a' o) ∧ But R w w'
theorem cells3_at {w : World} {k : Nat} {x y z : Value} {t : TypeId} (h : w.heap[k]? = some (.cells #[x, y, z] t (0, 0))) : w.cell? ⟨k, 0, none⟩ = some x ∧ w.cell? ⟨k, 1, none⟩ = some y ∧ w.cell? ⟨k, 2, none⟩ = some z ∧ ∀ j, w.frozen? ⟨k, j, none⟩ = false := by
  refine ⟨by simp [World.cell?, h], by simp [World.cell?, h], by simp [World.cell?, h], fun j => by simp [World.frozen?, h]⟩

set_option maxHeartbeats 8000000 in
theorem piece_any (k o : Nat) (hk : o + k = 8) (HG : ∀ j, k = j + 1 → GroupC j (o + 1)) (w : World) (R g cap : Nat) (l : List Nat) (a : Nat) (h : Rdr w R g cap l a o) (hlt : a < l.length) :
    Calls Tryd.prog 46 #[.pointer (some ⟨R, 0, none⟩)] w (PiecePost w R g cap l a k o) := by
  have Rl := h.Rlt
  have gl := h.lt
  have h0 := h.alloc (.cells #[.nilIface, .int .i64 0, .int .i64 0] 91)
  have b0 := (But.refl R w).alloc (.cells #[.nilIface, .int .i64 0, .int .i64 0] 91)
  have D0 : (w.alloc (.cells #[.nilIface, .int .i64 0, .int .i64 0] 91)).heap[w.heap.size]? = some (.cells #[.nilIface, .int .i64 0, .int .i64 0] 91 (0, 0)) := heap_alloc_new w _
  have SZ0 : (w.alloc (.cells #[.nilIface, .int .i64 0, .int .i64 0] 91)).heap.size = w.heap.size + 1 := by simp
  have HA := hide (atom_any k o hk HG _ R g cap l a h0 hlt)
  have PR : Hid (pieceR k l a = oftR (l[a]? == some 40) (atomD k (l.drop a))) := rfl
  have SZ := hide SZ0
  clear h SZ0
  go_enter Tryd.func46, Tryd.ntmps46
  go_wp2_with fail
  refine HA.out.mono ?_
  rintro e w1 ⟨⟨av, b, rfl, hv, a1, a1l, ha1, r1⟩, b1⟩
  have D1 := b1.heap D0 (by omega)
  have B1 := hide (b0.trans b1)
  clear b0 D0 h0
  rcases hv with ⟨rfl, hn⟩ | ⟨rfl, p, r, hp, hres, hat, hin, hfr, hty⟩
  · have RES : Hid (pieceR k l a = none) := by show _ = _; rw [PR.out, hn]; rfl
    obtain ⟨d0, d1, d2, df⟩ := cells3_at D1
    clear hn ha1
    go_wp2_with fail
    refine bodyPost_ret (v := .tuple #[.agg #[.nilIface, .int .i64 0, .int .i64 0], .bool false]) (by simp [results, go_sem, *]) rfl ?_
    refine ⟨⟨_, _, _, _, rfl, .inl rfl, .inl ⟨rfl, RES.out⟩, a1, a1l, ?_, ?_⟩, ?_⟩
    · rw [RES.out]; intro q r e; cases e
    · exact ((r1.pass (grown_set _ _ _) (by simp; omega) (by simp; omega)).pass (grown_set _ _ _) (by simp; omega) (by simp; omega)).pass (grown_set _ _ _) (by simp; omega) (by simp; omega)
    · exact ((B1.out.set _ _ (.inl (Nat.le_refl _))).set _ _ (.inl (Nat.le_refl _))).set _ _ (.inl (Nat.le_refl _))
  · have hd1 := ha1 p r hres
    have fr : hp.From (w.heap.size + 1) := by rw [← SZ.out]; exact hfr
    have TI : ∃ gb : Bool, (l[a]? == some 40) = gb ∧ isOneP p = !gb ∧ (∃ t u, av = .iface t u) ∧ Hid (Calls Tryd.prog 53 #[.pointer (some ⟨R, 0, none⟩), av] w1 (OftPost w1 R g cap l o (oftenQ gb (l.drop a1)))) := by
      rcases hty with ⟨e, rv, rfl⟩ | ⟨e, sv, ob, rfl⟩
      · exact ⟨true, by rw [e]; rfl, hat.grp, ⟨_, _, rfl⟩, times_grp rv w1 R g cap l a1 o r1⟩
      · obtain ⟨y, e2, _⟩ := hat.isSet
        exact ⟨false, by rw [beq_eq_false_iff_ne]; exact e, by rw [e2]; rfl, ⟨_, _, rfl⟩, times_set sv ob w1 R g cap l a1 o r1⟩
    obtain ⟨gb, eg, ei, ⟨t, u, rfl⟩, HT⟩ := TI
    have PR2 : Hid (pieceR k l a = oftR gb (some (p, l.drop a1))) := by show _ = _; rw [PR.out, eg, hres, hd1]
    have HAT := hide hat
    have HIN := hide hin
    have FR := hide fr
    have EI := hide ei
    clear hat hin hfr fr ei eg hty hres hd1 ha1 PR SZ HA
    go_wp2_with fail
    refine HT.out.mono ?_
    rintro e w2 ⟨⟨x, y, b, rfl, hv, a2, a2l, ha2, r2⟩, b2⟩
    have D2 := b2.heap D1 (by omega)
    obtain ⟨d0, d1, d2, df⟩ := cells3_at D2
    have B2 := hide (B1.out.trans b2)
    have I2 := hide (HIN.out.but b2 (FR.out.none (by omega)))
    clear D1 b1 b2 HT
    go_wp2_with fail
    refine bodyPost_ret (v := .tuple #[.agg #[.iface t u, .int .i64 x, .int .i64 y], .bool b]) (by simp [results, go_sem, *]) rfl ?_
    refine ⟨⟨_, _, _, _, rfl, .inr ⟨_, _, rfl⟩, ?_, a2, a2l, ?_, ?_⟩, ?_⟩
    · rw [PR2.out]
      unfold oftR
      rcases hv with ⟨rfl, hn⟩ | ⟨rfl, lo, hi, r, hres, rfl, rfl⟩
      · refine .inl ⟨rfl, ?_⟩
        simp only [hn]
      · refine .inr ⟨rfl, p, lo, hi, r, hp, ?_, rfl, rfl, HAT.out, ?_, ?_, FR.out.mono (by omega)⟩
        · simp only [hres]
        · rw [EI.out, Bool.not_not]; exact oftenQ_ok hres
        · exact ((I2.out.grown (grown_set _ _ _) (fun k e => by cases e; exact FR.out.none (by show w.heap.size < _; omega))).grown (grown_set _ _ _) (fun k e => by cases e; exact FR.out.none (by show w.heap.size < _; omega))).grown (grown_set _ _ _) (fun k e => by cases e; exact FR.out.none (by show w.heap.size < _; omega))
    · rw [PR2.out]
      unfold oftR
      intro q r e
      simp only at e
      cases ho : oftenQ gb (l.drop a1) with
      | none => rw [ho] at e; cases e
      | some z =>
        obtain ⟨lo, hi, r2⟩ := z
        rw [ho] at e
        cases e
        exact ha2 _ _ _ ho
    · exact ((r2.pass (grown_set _ _ _) (by simp; omega) (by simp; omega)).pass (grown_set _ _ _) (by simp; omega) (by simp; omega)).pass (grown_set _ _ _) (by simp; omega) (by simp; omega)
    · exact ((B2.out.set _ _ (.inl (Nat.le_refl _))).set _ _ (.inl (Nat.le_refl _))).set _ _ (.inl (Nat.le_refl _))

end Go.Proofs.YtncljgpcloanfaaDoor
namespace Go.Proofs.YtncljgpcloanfaaDoor
open Go.RowKit

theorem AtomIs.shape {h : Hp} {k : Nat} {v : Value} {p : Pat} (a : AtomIs h k v p) : ∃ t u, v = .iface t u := by
  cases k with
  | zero => obtain ⟨sv, o, e, _⟩ := a; exact ⟨_, _, e⟩
  | succ k =>
    rcases a with ⟨sv, o, e, _⟩ | ⟨rv, e, _⟩
    · exact ⟨_, _, e⟩
    · exact ⟨_, _, e⟩
theorem piece_some {k : Nat} {l : List Nat} {a : Nat} {p : Pat} {lo : Nat} {hi : Option Nat} {r : List Nat} (hlt : a < l.length) (h : pieceR k l a = some ((p, lo, hi), r)) : ∃ r1, atomD k (l[a] :: l.drop (a + 1)) = some (p, r1) ∧ oftenQ (l[a] == 40) r1 = some (lo, hi, r) := by
  unfold pieceR at h
  rw [show (l[a]? == some 40) = (l[a] == 40) by rw [List.getElem?_eq_getElem hlt]; rfl, List.drop_eq_getElem_cons hlt] at h
  cases hat : atomD k (l[a] :: l.drop (a + 1)) with
  | none => rw [hat] at h; cases h
  | some y =>
    obtain ⟨q, r1⟩ := y
    rw [hat] at h
    unfold oftR at h
    simp only at h
    cases ho : oftenQ (l[a] == 40) r1 with
    | none => rw [ho] at h; cases h
    | some z =>
      obtain ⟨lo2, hi2, r2⟩ := z
      rw [ho] at h
      cases h
      exact ⟨r1, rfl, ho⟩
theorem piece_none {k : Nat} {l : List Nat} {a : Nat} (hlt : a < l.length) (hst : stopN l[a] = false) (h : pieceR k l a = none) : rowD k (l.drop a) = none := by
  unfold pieceR at h
  rw [show (l[a]? == some 40) = (l[a] == 40) by rw [List.getElem?_eq_getElem hlt]; rfl, List.drop_eq_getElem_cons hlt] at h
  rw [List.drop_eq_getElem_cons hlt]
  cases hat : atomD k (l[a] :: l.drop (a + 1)) with
  | none => exact row_bad k hst hat
  | some y =>
    obtain ⟨q, r1⟩ := y
    rw [hat] at h
    unfold oftR at h
    simp only at h
    cases ho : oftenQ (l[a] == 40) r1 with
    | none => exact row_bad2 k hst hat ho
    | some z => rw [ho] at h; cases h
theorem piece_step {k : Nat} {l : List Nat} {a : Nat} {p : Pat} {lo : Nat} {hi : Option Nat} {r : List Nat} (hlt : a < l.length) (hst : stopN l[a] = false) (h : pieceR k l a = some ((p, lo, hi), r)) : rowD k (l.drop a) = consP p lo hi (rowD k r) ∧ r.length < (l.drop a).length := by
  obtain ⟨r1, h1, h2⟩ := piece_some hlt h
  rw [List.drop_eq_getElem_cons hlt]
  have := (level_less k).1 _ _ _ h1
  have := oftenQ_le h2
  exact ⟨row_moreQ k hst h1 h2, by omega⟩
/-- What 'row' answers. -/
def RowPost (w : World) (R g cap : Nat) (l : List Nat) (k o : Nat) (res : Rd) (e : Ending) (w' : World) : Prop :=
  (∃ v b, e = .returned (.tuple #[v, .bool b]) ∧ (∃ q n c, v = .slice q n c) ∧ ((b = false ∧ res = none) ∨ (b = true ∧ ∃ ps r hp, res = some (rowP ps, r) ∧ RowIs hp (AtomIs hp k) v ps ∧ hp.In w' ∧ hp.From w.heap.size)) ∧ ∃ a', a' ≤ l.length ∧ (∀ p r, res = some (p, r) → l.drop a' = r) ∧ Rdr w' R g cap l a' o) ∧ But R w w'
/-- A row under way. -/
structure RowU (w wr : World) (R g cap : Nat) (l : List Nat) (a0 a k o : Nat) (v : Value) (ps : List Pc) (hp : Hp) (xs : List Value) : Prop where
  rd : Rdr wr R g cap l a o
  but : But R w wr
  own : wr.ownsRow w.heap.size 91 3 v ps.length xs
  hin : hp.In wr
  hfr : hp.From w.heap.size
  ex : ∀ j, v.ownBlock = some j → hp j = none
  elems : ∀ i p, ps[i]? = some p → ∃ av, xs[3 * i]? = some av ∧ xs[3 * i + 1]? = some (.int .i64 (p.2.1 : Int)) ∧ xs[3 * i + 2]? = some (.int .i64 (hiZ p.2.2)) ∧ AtomIs hp k av p.1 ∧ OftOk (!isOneP p.1) p.2.1 p.2.2
  few : ps.length ≤ a
  Rl : R < w.heap.size
  is : rowD k (l.drop a0) = preP ps (rowD k (l.drop a))
theorem rt_piece : RowTypes Tryd.prog 69 91 (.agg #[.nilIface, .int .i64 0, .int .i64 0]) 3 32 := ⟨Tryd.underlying69, by kernel_rfl, rfl, by decide⟩
theorem own_shape {w : World} {base : Nat} {e : TypeId} {size : Nat} {v : Value} {n : Nat} {xs : List Value} (h : w.ownsRow base e size v n xs) : ∃ q m c, v = .slice q m c := by
  rcases h.2 with ⟨e, _⟩ | ⟨g, cap, cur, e, _⟩
  · exact ⟨_, _, _, e⟩
  · exact ⟨_, _, _, e⟩
theorem elems_snoc {ps : List Pc} {xs : List Value} {hp hp2 : Hp} {k : Nat} (hx : xs.length = ps.length * 3) (s1 : hp.Sub hp2)
    (he : ∀ i p, ps[i]? = some p → ∃ av, xs[3 * i]? = some av ∧ xs[3 * i + 1]? = some (.int .i64 (p.2.1 : Int)) ∧ xs[3 * i + 2]? = some (.int .i64 (hiZ p.2.2)) ∧ AtomIs hp k av p.1 ∧ OftOk (!isOneP p.1) p.2.1 p.2.2)
    (av : Value) (q : Pc) (h1 : AtomIs hp2 k av q.1) (h2 : OftOk (!isOneP q.1) q.2.1 q.2.2) :
    ∀ i p, (ps ++ [q])[i]? = some p → ∃ bv, (xs ++ [av, .int .i64 (q.2.1 : Int), .int .i64 (hiZ q.2.2)])[3 * i]? = some bv ∧ (xs ++ [av, .int .i64 (q.2.1 : Int), .int .i64 (hiZ q.2.2)])[3 * i + 1]? = some (.int .i64 (p.2.1 : Int)) ∧ (xs ++ [av, .int .i64 (q.2.1 : Int), .int .i64 (hiZ q.2.2)])[3 * i + 2]? = some (.int .i64 (hiZ p.2.2)) ∧ AtomIs hp2 k bv p.1 ∧ OftOk (!isOneP p.1) p.2.1 p.2.2 := by
  intro i p hi
  by_cases hlt : i < ps.length
  · rw [List.getElem?_append_left hlt] at hi
    obtain ⟨bv, b1, b2, b3, b4, b5⟩ := he i p hi
    refine ⟨bv, ?_, ?_, ?_, AtomIs.mono s1 k _ _ b4, b5⟩
    · rw [List.getElem?_append_left (by omega)]; exact b1
    · rw [List.getElem?_append_left (by omega)]; exact b2
    · rw [List.getElem?_append_left (by omega)]; exact b3
  · have hl := (List.getElem?_eq_some_iff.1 hi).1
    rw [List.length_append, List.length_singleton] at hl
    obtain rfl : i = ps.length := by omega
    rw [List.getElem?_append_right (Nat.le_refl _), Nat.sub_self] at hi
    cases hi
    refine ⟨av, ?_, ?_, ?_, h1, h2⟩
    · rw [List.getElem?_append_right (by omega), show 3 * ps.length - xs.length = 0 by omega]; rfl
    · rw [List.getElem?_append_right (by omega), show 3 * ps.length + 1 - xs.length = 1 by omega]; rfl
    · rw [List.getElem?_append_right (by omega), show 3 * ps.length + 2 - xs.length = 2 by omega]; rfl
theorem stop_iff (c : Nat) : stopN c = true ↔ c = 124 ∨ c = 41 := by simp [stopN]

set_option maxHeartbeats 8000000 in
theorem row_any (k o : Nat) (hk : o + k = 8) (HG : ∀ j, k = j + 1 → GroupC j (o + 1)) (w : World) (R g cap : Nat) (l : List Nat) (a0 : Nat) (h : Rdr w R g cap l a0 o) :
    Calls Tryd.prog 34 #[.pointer (some ⟨R, 0, none⟩)] w (RowPost w R g cap l k o (rowD k (l.drop a0))) := by
  have HS : Hid (RowU w w R g cap l a0 a0 k o (.slice none 0 0) [] Hp.nil []) := ⟨h, But.refl _ _, World.ownsRow_nil _ _ _ _, Hp.nil_in _, Hp.nil_from _, (fun _ e => by cases e), (fun i p e => by simp at e), Nat.zero_le _, h.Rlt, rfl⟩
  have gl := h.lt
  clear h
  go_enter Tryd.func34, Tryd.ntmps34
  go_wp2_with fail
  go_loopw [4] (fun v wr => ∃ a ps hp xs, RowU w wr R g cap l a0 a k o v ps hp xs) (fun _ wr => l.length - atOf wr R)
  case atStart => exact ⟨a0, [], _, _, HS.out⟩
  case round =>
    obtain ⟨a, ps, hp, xs, hu⟩ := hrel
    rename World => wr
    have HU := hide hu
    have HP := hide (fun n => peek_any (wr.drewN n) R g cap l a o (hu.rd.drewN n))
    have HP0 := hide (peek_any wr R g cap l a o hu.rd)
    have mea := hu.rd.atOf
    have hle := hu.rd.le
    have hsm := hu.rd.small
    have few := hu.few
    clear hu HS
    have STOP : (a < l.length → ∃ h : a < l.length, stopN l[a] = true) → ∀ n, Hid (RowPost w R g cap l k o (rowD k (l.drop a0)) (.returned (.tuple #[u4, .bool true])) (wr.drewN n)) := by
      intro hs n
      have E : rowD k (l.drop a) = some (.eps, l.drop a) := by
        by_cases hlt : a < l.length
        · obtain ⟨_, hst⟩ := hs hlt
          rw [List.drop_eq_getElem_cons hlt]; exact row_stop k hst
        · rw [List.drop_eq_nil_of_le (by omega)]; exact row_nil k
      have E2 : rowD k (l.drop a0) = some (rowP ps, l.drop a) := by rw [HU.out.is, E]; exact preP_eps ps _
      obtain ⟨h1, i1, q1, o1⟩ := RowIn.of HU.out.own
      refine ⟨⟨_, _, rfl, own_shape HU.out.own, .inr ⟨rfl, ps, l.drop a, h1.join hp, E2, ⟨xs, q1.mono (Hp.join_left _ _), fun i p e => ?_⟩, ?_, Hp.join_from ?_ HU.out.hfr⟩, a, hle, ?_, HU.out.rd.drewN n⟩, HU.out.but.drewN n⟩
      · obtain ⟨av, b1, b2, b3, b4, b5⟩ := HU.out.elems i p e
        exact ⟨av, b1, b2, b3, AtomIs.mono (Hp.join_right i1 HU.out.hin) k _ _ b4, b5⟩
      · exact (Hp.join_in i1 HU.out.hin : (h1.join hp).In wr)
      · intro j x hj
        exact (HU.out.own.lt j (o1 j x hj)).1
      · rw [E2]; intro p r e; cases e; rfl
    by_cases hlt : a < l.length
    · rw [head_at hlt] at HP HP0
      have n1 : ((l[a] : Int) != -1) = true := by rw [bne_iff_ne]; omega
      by_cases e124 : l[a] = 124
      · have S := STOP (fun hh => ⟨hh, (stop_iff _).2 (.inl e124)⟩)
        have n2 : ((l[a] : Int) != 124) = false := by rw [e124]; rfl
        clear STOP e124
        generalize l[a] = x at *
        go_wp2_with fail
        refine HP0.out.mono ?_
        rintro e w1 ⟨rfl, m1, rfl⟩
        go_wp2_with fail
        refine (HP.out m1).mono ?_
        rintro e w1 ⟨rfl, m2, rfl⟩
        go_wp2_with fail
        go_ret2
        exact (S _).out
      have n2 : ((l[a] : Int) != 124) = true := by rw [bne_iff_ne]; omega
      by_cases e41 : l[a] = 41
      · have S := STOP (fun hh => ⟨hh, (stop_iff _).2 (.inr e41)⟩)
        have n3 : ((l[a] : Int) != 41) = false := by rw [e41]; rfl
        clear STOP e41 e124
        generalize l[a] = x at *
        go_wp2_with fail
        refine HP0.out.mono ?_
        rintro e w1 ⟨rfl, m1, rfl⟩
        go_wp2_with fail
        refine (HP.out m1).mono ?_
        rintro e w1 ⟨rfl, m2, rfl⟩
        go_wp2_with fail
        refine (HP.out _).mono ?_
        rintro e w1 ⟨rfl, m3, rfl⟩
        go_wp2_with fail
        go_ret2
        exact (S _).out
      have n3 : ((l[a] : Int) != 41) = true := by rw [bne_iff_ne]; omega
      have hst : stopN l[a] = false := by
        cases hs : stopN l[a] with
        | false => rfl
        | true => rw [stop_iff] at hs; omega
      have PS := hide (fun p lo hi r hh => piece_step (k := k) (p := p) (lo := lo) (hi := hi) (r := r) hlt hst hh)
      have PN := hide (fun hh => piece_none (k := k) hlt hst hh)
      have HPC := hide (fun n => piece_any k o hk HG (wr.drewN n) R g cap l a (HU.out.rd.drewN n) hlt)
      clear STOP e41 e124 hst
      generalize l[a] = x at *
      go_wp2_with fail
      refine HP0.out.mono ?_
      rintro e w1 ⟨rfl, m1, rfl⟩
      go_wp2_with fail
      refine (HP.out m1).mono ?_
      rintro e w1 ⟨rfl, m2, rfl⟩
      go_wp2_with fail
      refine (HP.out _).mono ?_
      rintro e w1 ⟨rfl, m3, rfl⟩
      go_wp2_with fail
      refine (HPC.out _).mono ?_
      rintro e w2 ⟨⟨av, zx, zy, b, rfl, hav, hv, a2, a2l, ha2, r2⟩, b2⟩
      generalize hwx : wr.drewN (m1 + m2 + m3) = wx at *
      have HUx : Hid (RowU w wx R g cap l a0 a k o u4 ps hp xs) := by
        subst hwx
        exact ⟨HU.out.rd.drewN _, HU.out.but.drewN _, HU.out.own, HU.out.hin, HU.out.hfr, HU.out.ex, HU.out.elems, HU.out.few, HU.out.Rl, HU.out.is⟩
      have meax : atOf wx R = a := HUx.out.rd.atOf
      clear hwx HP HP0 HPC HU
      have Rl := HUx.out.Rl
      have BB2 := hide (HUx.out.but.trans b2)
      rcases hv with ⟨rfl, hn⟩ | ⟨rfl, p, lo, hi, r, hp2, hres, rfl, rfl, hat, hok, hin2, hfr2⟩
      · have RES : Hid (rowD k (l.drop a0) = none) := by show _ = _; rw [HUx.out.is, PN.out hn]; exact preP_none ps
        clear hn ha2
        rcases hav with rfl | ⟨t, u, rfl⟩
        all_goals
          go_wp2_with fail
          go_ret2
          refine ⟨⟨_, _, rfl, ⟨_, _, _, rfl⟩, .inl ⟨rfl, RES.out⟩, a2, a2l, ?_, r2.alloc _⟩, BB2.out.alloc _⟩
          rw [RES.out]; intro p r e; cases e
      · obtain ⟨t, u, rfl⟩ := hat.shape
        have hd2 := ha2 _ _ hres
        obtain ⟨st1, st2⟩ := PS.out p lo hi r hres
        have lt2 : a < a2 := by
          rw [← hd2, List.length_drop, List.length_drop] at st2; omega
        have NX : Hid (rowD k (l.drop a0) = preP (ps ++ [(p, lo, hi)]) (rowD k (l.drop a2))) := by
          show _ = _
          rw [HUx.out.is, st1, preP_snoc, hd2]
        have sz2 := b2.size
        have szx := HUx.out.but.size
        have own2 := own_pass HUx.out.own b2 Rl
        have own4 := (own2.alloc (.cells #[.iface t u, .int .i64 (lo : Int), .int .i64 (hiZ hi)] 91)).alloc (.cells #[.iface t u, .int .i64 (lo : Int), .int .i64 (hiZ hi)] 91)
        have neR := own_ne own4 (k := R) Rl
        have OWN4 := hide own4
        have HXL := hide own4.1
        have r4 := (r2.alloc (.cells #[.iface t u, .int .i64 (lo : Int), .int .i64 (hiZ hi)] 91)).alloc (.cells #[.iface t u, .int .i64 (lo : Int), .int .i64 (hiZ hi)] 91)
        have SRC : ∀ j, j < 1 * 3 → ((w2.alloc (.cells #[.iface t u, .int .i64 (lo : Int), .int .i64 (hiZ hi)] 91)).alloc (.cells #[.iface t u, .int .i64 (lo : Int), .int .i64 (hiZ hi)] 91)).cell? ⟨w2.heap.size + 1, j, none⟩ = [Value.iface t u, .int .i64 (lo : Int), .int .i64 (hiZ hi)][j]? := by
          intro j hj
          have e := heap_alloc_new (w2.alloc (.cells #[.iface t u, .int .i64 (lo : Int), .int .i64 (hiZ hi)] 91)) (.cells #[.iface t u, .int .i64 (lo : Int), .int .i64 (hiZ hi)] 91)
          rw [show (w2.alloc (.cells #[.iface t u, .int .i64 (lo : Int), .int .i64 (hiZ hi)] 91)).heap.size = w2.heap.size + 1 by simp] at e
          rw [cell_of_row _ _ j _ _ _ e]
          simp
        have SRC := hide SRC
        have HAT := hide hat
        have HOK := hide hok
        have HI2 := hide hin2
        have HF2 := hide hfr2
        clear hat hok hin2 hfr2 own2 own4 hres hd2 ha2 st1 st2 PS PN
        have pl : ps.length ≤ 200 := by omega
        go_wp2_with (at_builtin; refine wpList_append_row rt_piece _ rfl _ _ rfl w.heap.size u4 ps.length xs rfl OWN4.out (w2.heap.size + 1) 1 1 [Value.iface t u, .int .i64 (lo : Int), .int .i64 (hiZ hi)] rfl rfl SRC.out (by intro u hu; simp at hu; rcases hu with rfl | rfl | rfl <;> rfl) (by omega) (by omega) (by omega) (by simp; omega) ?_; intro g3 cap3 w5 hown5 hgrow5 hat5 hlt5)
        have I4 : hp.In ((w2.alloc (.cells #[.iface t u, .int .i64 (lo : Int), .int .i64 (hiZ hi)] 91)).alloc (.cells #[.iface t u, .int .i64 (lo : Int), .int .i64 (hiZ hi)] 91)) :=
          ((HUx.out.hin.but b2 (HUx.out.hfr.none Rl)).grown (World.grownBy_alloc _ _ none) (fun _ e => by cases e)).grown (World.grownBy_alloc _ _ none) (fun _ e => by cases e)
        have J4 : hp2.In ((w2.alloc (.cells #[.iface t u, .int .i64 (lo : Int), .int .i64 (hiZ hi)] 91)).alloc (.cells #[.iface t u, .int .i64 (lo : Int), .int .i64 (hiZ hi)] 91)) :=
          (HI2.out.grown (World.grownBy_alloc _ _ none) (fun _ e => by cases e)).grown (World.grownBy_alloc _ _ none) (fun _ e => by cases e)
        have EX2 : ∀ j, u4.ownBlock = some j → hp2 j = none := fun j e => HF2.out.none (HUx.out.own.lt j e).2
        have I5 := I4.grown hgrow5 HUx.out.ex
        have J5 := J4.grown hgrow5 EX2
        have r5 := r4.pass hgrow5 neR (own_ne OWN4.out (k := g) gl)
        refine ⟨⟨a2, ps ++ [(p, lo, hi)], hp.join hp2, xs ++ [.iface t u, .int .i64 (lo : Int), .int .i64 (hiZ hi)], r5, ?_, ?_, Hp.join_in I5 J5, Hp.join_from HUx.out.hfr (HF2.out.mono szx), ?_, ?_, ?_, Rl, NX.out⟩, ?_⟩
        · exact ((BB2.out.alloc _).alloc _).own hgrow5 (fun j e => .inl (OWN4.out.lt j e).1)
        · rw [List.length_append, List.length_singleton]; exact hown5
        · intro j e
          cases e
          rcases hat5 with e | e
          · exact Hp.join_none (HUx.out.ex _ e) (EX2 _ e)
          · exact Hp.join_none (I4.free (by rw [e]; exact Nat.le_refl _)) (J4.free (by rw [e]; exact Nat.le_refl _))
        · exact elems_snoc HXL.out (Hp.join_left _ _) HUx.out.elems (.iface t u) (p, lo, hi) (AtomIs.mono (Hp.join_right I5 J5) k _ _ HAT.out) HOK.out
        · simp; omega
        · rw [r5.atOf, mea]; omega
    · rw [head_end hlt] at HP0
      have S := STOP (fun hh => absurd hh hlt)
      clear STOP HP
      go_wp2_with fail
      refine HP0.out.mono ?_
      rintro e w1 ⟨rfl, m1, rfl⟩
      go_wp2_with fail
      go_ret2
      exact (S _).out

end Go.Proofs.YtncljgpcloanfaaDoor
namespace Go.Proofs.YtncljgpcloanfaaDoor
open Go.RowKit

theorem rt_rows : RowTypes Tryd.prog 35 69 (.slice none 0 0) 1 24 := ⟨Tryd.underlying35, by kernel_rfl, rfl, by decide⟩
/-- A group under way: its rows in block C, the answer's block D. -/
structure GrpU (w wr : World) (R g cap : Nat) (l : List Nat) (a0 a k o : Nat) (sv : Value) (rows : List (List Pc)) (hp : Hp) (vs : List Value) : Prop where
  rd : Rdr wr R g cap l a o
  but : But R w wr
  cLies : wr.heap[w.heap.size + 1]? = some (.cells #[sv] 37 (0, 0))
  dLies : wr.heap[w.heap.size]? = some (.cells #[.slice none 0 0] 37 (0, 0))
  own : wr.ownsRow (w.heap.size + 2) 69 1 sv rows.length vs
  hin : hp.In wr
  hfr : hp.From (w.heap.size + 2)
  ex : ∀ j, sv.ownBlock = some j → hp j = none
  elems : ∀ (i : Nat) (r : List Pc), rows[i]? = some r → ∃ v, vs[i]? = some v ∧ RowIs hp (AtomIs hp k) v r
  few : rows.length ≤ a
  Rl : R < w.heap.size
  gl : g < w.heap.size
  is : rowsD k (l.drop a0) = preR (rows.map rowP) (rowsD k (l.drop a))
theorem rows_snoc {rows : List (List Pc)} {vs : List Value} {hp hp2 : Hp} {k : Nat} (hx : vs.length = rows.length * 1) (s1 : hp.Sub hp2)
    (he : ∀ (i : Nat) (r : List Pc), rows[i]? = some r → ∃ v, vs[i]? = some v ∧ RowIs hp (AtomIs hp k) v r) (v : Value) (q : List Pc) (h1 : RowIs hp2 (AtomIs hp2 k) v q) :
    ∀ (i : Nat) (r : List Pc), (rows ++ [q])[i]? = some r → ∃ u, (vs ++ [v])[i]? = some u ∧ RowIs hp2 (AtomIs hp2 k) u r := by
  intro i r hi
  by_cases hlt : i < rows.length
  · rw [List.getElem?_append_left hlt] at hi
    obtain ⟨u, b1, b2⟩ := he i r hi
    exact ⟨u, by rw [List.getElem?_append_left (by omega)]; exact b1, b2.mono s1 (AtomIs.mono s1 k)⟩
  · have hl := (List.getElem?_eq_some_iff.1 hi).1
    rw [List.length_append, List.length_singleton] at hl
    obtain rfl : i = rows.length := by omega
    rw [List.getElem?_append_right (Nat.le_refl _), Nat.sub_self] at hi
    cases hi
    exact ⟨v, by rw [List.getElem?_append_right (by omega), show rows.length - vs.length = 0 by omega]; rfl, h1⟩

set_option maxHeartbeats 8000000 in
theorem grpC_of (k o : Nat) (hk : o + k = 8) (HG : ∀ j, k = j + 1 → GroupC j (o + 1)) : GroupC k o := by
  intro w R g cap l a0 h
  have D0 : ((w.alloc (.cells #[.slice none 0 0] 37)).alloc (.cells #[.slice none 0 0] 37)).heap[w.heap.size]? = some (.cells #[.slice none 0 0] 37 (0, 0)) := by
    exact (heap_alloc_old _ _ (by simp)).trans (heap_alloc_new w _)
  have C0 : ((w.alloc (.cells #[.slice none 0 0] 37)).alloc (.cells #[.slice none 0 0] 37)).heap[w.heap.size + 1]? = some (.cells #[.slice none 0 0] 37 (0, 0)) := by
    have e := heap_alloc_new (w.alloc (.cells #[.slice none 0 0] 37)) (.cells #[.slice none 0 0] 37)
    rw [show (w.alloc (.cells #[.slice none 0 0] 37)).heap.size = w.heap.size + 1 by simp] at e
    exact e
  have HS : Hid (GrpU w ((w.alloc (.cells #[.slice none 0 0] 37)).alloc (.cells #[.slice none 0 0] 37)) R g cap l a0 a0 k o (.slice none 0 0) [] Hp.nil []) :=
    ⟨(h.alloc _).alloc _, ((But.refl _ _).alloc _).alloc _, C0, D0, World.ownsRow_nil _ _ _ _, Hp.nil_in _, Hp.nil_from _, (fun _ e => by cases e), (fun i p e => by simp at e), Nat.zero_le _, h.Rlt, h.lt, rfl⟩
  clear h C0 D0
  go_enter Tryd.func24, Tryd.ntmps24
  go_wp2_with fail
  go_loopw [] (fun wr => ∃ a sv rows hp vs, GrpU w wr R g cap l a0 a k o sv rows hp vs) (fun wr => l.length - atOf wr R)
  case atStart => exact ⟨a0, _, [], _, _, HS.out⟩
  case round =>
    obtain ⟨a, sv, rows, hp, vs, hu⟩ := hrel
    rename World => wr
    have HR := hide (row_any k o hk HG wr R g cap l a hu.rd)
    have HU := hide hu
    have mea := hu.rd.atOf
    have hle := hu.rd.le
    have hsm := hu.rd.small
    have few := hu.few
    have Rl := hu.Rl
    have gl := hu.gl
    clear hu HS
    go_wp2_with fail
    refine HR.out.mono ?_
    rintro e w2 ⟨⟨v, b, rfl, ⟨vq, vn, vc, rfl⟩, hv, a2, a2l, ha2, r2⟩, b2⟩
    have C2 := b2.heap HU.out.cLies (by omega)
    have D2 := b2.heap HU.out.dLies (by omega)
    obtain ⟨cc0, ccf⟩ := cells1_at C2
    obtain ⟨dc0, dcf⟩ := cells1_at D2
    have BB2 := hide (HU.out.but.trans b2)
    have szC : w.heap.size + 1 < w2.heap.size := (Array.getElem?_eq_some_iff.1 C2).1
    rcases hv with ⟨rfl, hn⟩ | ⟨rfl, ps, r, hp2, hres, hri, hin2, hfr2⟩
    · have RES : Hid (rowsD k (l.drop a0) = none) := by show _ = _; rw [HU.out.is, rows_none k hn]; exact preR_none _
      clear hn ha2 HR C2 D2 HU
      go_wp2_with fail
      refine bodyPost_ret (v := .tuple #[.agg #[.slice none 0 0], .bool false]) (by simp [results, go_sem, *]) rfl ?_
      refine ⟨⟨_, _, rfl, ⟨_, _, _, rfl⟩, .inl ⟨rfl, RES.out⟩, a2, a2l, ?_, ?_⟩, ?_⟩
      · rw [RES.out]; intro x y e; cases e
      · exact r2.pass (grown_set _ _ _) (by simp; omega) (by simp; omega)
      · exact BB2.out.set _ _ (.inl (Nat.le_refl _))
    · have hd2 := ha2 _ _ hres
      have szr : w.heap.size + 2 ≤ wr.heap.size := by
        have := (Array.getElem?_eq_some_iff.1 HU.out.cLies).1
        omega
      have own2 := own_pass HU.out.own b2 (by omega)
      have own3 := own2.alloc (.cells #[.slice vq vn vc] 69)
      have r3 := r2.alloc (.cells #[.slice vq vn vc] 69)
      have I3 := (HU.out.hin.but b2 (HU.out.hfr.none (by omega))).grown (World.grownBy_alloc w2 (.cells #[.slice vq vn vc] 69) none) (fun _ e => by cases e)
      have J3 := hin2.grown (World.grownBy_alloc w2 (.cells #[.slice vq vn vc] 69) none) (fun _ e => by cases e)
      have EX2 : ∀ j, sv.ownBlock = some j → hp2 j = none := fun j e => hfr2.none (HU.out.own.lt j e).2
      have C3 := grown_heap (World.grownBy_alloc w2 (.cells #[.slice vq vn vc] 69) none) C2 (by simp)
      have D3 := grown_heap (World.grownBy_alloc w2 (.cells #[.slice vq vn vc] 69) none) D2 (by simp)
      have SRC : Hid (∀ j, j < 1 * 1 → (w2.alloc (.cells #[.slice vq vn vc] 69)).cell? ⟨w2.heap.size, j, none⟩ = [Value.slice vq vn vc][j]?) := by
        intro j hj
        rw [cell_of_row _ _ j _ _ _ (heap_alloc_new w2 _)]
        simp
      have B3 := hide (BB2.out.alloc (.cells #[.slice vq vn vc] 69))
      have OWN3 := hide own3
      have HXL := hide own3.1
      have neC := own_ne own3 (k := w.heap.size + 1) (by omega)
      have neD := own_ne own3 (k := w.heap.size) (by omega)
      have neR := own_ne own3 (k := R) (by omega)
      have neg2 := own_ne own3 (k := g) (by omega)
      have HRI := hide hri
      have HF2 := hide (hfr2.mono szr)
      have HRES := hide hres
      have I3 := hide I3
      have J3 := hide J3
      have EX2 := hide EX2
      have C3 := hide C3
      have D3 := hide D3
      have R3 := hide r3
      clear hri hin2 hfr2 own2 own3 ha2 HR r2 r3 hres
      have pl : rows.length ≤ 200 := by omega
      go_wp2_with (at_builtin; refine wpList_append_row rt_rows _ rfl _ _ rfl (w.heap.size + 2) sv rows.length vs rfl OWN3.out w2.heap.size 1 1 [Value.slice vq vn vc] rfl rfl SRC.out (by intro u hu; simp at hu; rcases hu with rfl; rfl) (by omega) (by omega) (by omega) (by simp; omega) ?_; intro g3 cap3 w5 hown5 hgrow5 hat5 hlt5; have C5 := grown_heap hgrow5 C3.out neC; have D5 := grown_heap hgrow5 D3.out neD; obtain ⟨c50, c5f⟩ := cells1_at C5)
      have I5 := I3.out.grown hgrow5 HU.out.ex
      have J5 := J3.out.grown hgrow5 EX2.out
      have r5 := R3.out.pass hgrow5 neR neg2
      have B5 := B3.out.own hgrow5 (fun j e => .inl (by have := (OWN3.out.lt j e).1; omega))
      have EX5 : ∀ j, Value.ownBlock (.slice (some ⟨g3, 0, none⟩) (rows.length + 1) cap3) = some j → hp.join hp2 j = none := by
        intro j e
        cases e
        rcases hat5 with e | e
        · exact Hp.join_none (HU.out.ex _ e) (EX2.out _ e)
        · exact Hp.join_none (I3.out.free (by rw [e]; exact Nat.le_refl _)) (J3.out.free (by rw [e]; exact Nat.le_refl _))
      have FR5 : (hp.join hp2).From (w.heap.size + 2) := Hp.join_from HU.out.hfr HF2.out
      have EL5 := rows_snoc HXL.out (Hp.join_left hp hp2) HU.out.elems (.slice vq vn vc) ps (HRI.out.mono (Hp.join_right I5 J5) (AtomIs.mono (Hp.join_right I5 J5) k))
      have IN6 : (hp.join hp2).In (w5.setCell ⟨w.heap.size + 1, 0, none⟩ (.slice (some ⟨g3, 0, none⟩) (rows.length + 1) cap3)) := (Hp.join_in I5 J5).grown (grown_set _ _ _) (fun j e => by cases e; exact FR5.none (by show w.heap.size + 1 < _; omega))
      have r6 := r5.pass (grown_set w5 ⟨w.heap.size + 1, 0, none⟩ (.slice (some ⟨g3, 0, none⟩) (rows.length + 1) cap3)) (by simp; omega) (by simp; omega)
      have OWN6 := ownsRow_setCell_below hown5 (a := ⟨w.heap.size + 1, 0, none⟩) (by show w.heap.size + 1 < _; omega) (.slice (some ⟨g3, 0, none⟩) (rows.length + 1) cap3)
      have C6 : (w5.setCell ⟨w.heap.size + 1, 0, none⟩ (.slice (some ⟨g3, 0, none⟩) (rows.length + 1) cap3)).heap[w.heap.size + 1]? = some (.cells #[.slice (some ⟨g3, 0, none⟩) (rows.length + 1) cap3] 37 (0, 0)) := by
        simp [World.setCell, Array.getElem?_modify, C5]
      have D6 := grown_heap (grown_set w5 ⟨w.heap.size + 1, 0, none⟩ (.slice (some ⟨g3, 0, none⟩) (rows.length + 1) cap3)) D5 (by simp)
      have B6 := B5.set ⟨w.heap.size + 1, 0, none⟩ (.slice (some ⟨g3, 0, none⟩) (rows.length + 1) cap3) (.inl (by show w.heap.size ≤ w.heap.size + 1; omega))
      have EX5 := hide EX5
      have FR5 := hide FR5
      have EL5 := hide EL5
      have IN6 := hide IN6
      have OWN6 := hide OWN6
      have B6 := hide B6
      clear I5 J5 r5 B5 C5 D5 c50 c5f hown5 hgrow5 hat5 C3 D3 R3 I3 J3 EX2 OWN3 SRC B3 C2 D2 cc0 ccf dc0 dcf HF2 HRI HXL neC neD neR neg2 b2
      generalize w5.setCell ⟨w.heap.size + 1, 0, none⟩ (.slice (some ⟨g3, 0, none⟩) (rows.length + 1) cap3) = w6 at *
      by_cases h124 : ∃ h : a2 < l.length, l[a2] = 124
      · obtain ⟨hl2, e124⟩ := h124
        have HT := hide (take_yes w6 R g cap l a2 o 124 r6 hl2 e124)
        have E2 : rowD k (l.drop a) = some (rowP ps, 124 :: l.drop (a2 + 1)) := by rw [HRES.out, ← hd2, List.drop_eq_getElem_cons hl2, e124]
        have NX : Hid (rowsD k (l.drop a0) = preR ((rows ++ [ps]).map rowP) (rowsD k (l.drop (a2 + 1)))) := by
          show _ = _
          rw [HU.out.is, rows_bar k E2, List.map_append, List.map_cons, List.map_nil, preR_snoc]
        have AL : a ≤ a2 := by
          have := (level_less k).2.1 _ _ _ HRES.out
          rw [← hd2, List.length_drop, List.length_drop] at this
          omega
        clear e124 HRES hd2 E2 HU
        refine HT.out.mono ?_
        rintro e w7 ⟨rfl, r7, b7⟩
        go_wp2_with fail
        refine ⟨⟨a2 + 1, _, rows ++ [ps], hp.join hp2, vs ++ [.slice vq vn vc], r7, B6.out.trans b7, b7.heap C6 (by omega), b7.heap D6 (by omega), ?_, IN6.out.but b7 (FR5.out.none (by omega)), FR5.out, EX5.out, EL5.out, ?_, Rl, gl, NX.out⟩, ?_⟩
        · rw [List.length_append, List.length_singleton]; exact own_pass OWN6.out b7 (by omega)
        · simp; omega
        · rw [r7.atOf, mea]; omega
      · have hne : headZ (l.drop a2) ≠ 124 := by
          intro e
          by_cases hl2 : a2 < l.length
          · rw [head_at hl2] at e; exact h124 ⟨hl2, by omega⟩
          · rw [head_end hl2] at e; omega
        have HT := hide (take_no w6 R g cap l a2 o 124 r6 hne)
        have RES : Hid (rowsD k (l.drop a0) = some (altsP ((rows ++ [ps]).map rowP), l.drop a2)) := by
          show _ = _
          rw [HU.out.is, rows_one k (by rw [HRES.out, ← hd2]) (head_not hne), preR_last, List.map_append, List.map_cons, List.map_nil]
        clear hne h124 HRES hd2 HU
        refine HT.out.mono ?_
        rintro e w7 ⟨rfl, r7, b7⟩
        have C7 := b7.heap C6 (by omega)
        have D7 := b7.heap D6 (by omega)
        obtain ⟨c70, c7f⟩ := cells1_at C7
        obtain ⟨d70, d7f⟩ := cells1_at D7
        have OWN7 := hide (own_pass OWN6.out b7 (by omega))
        have IN7 := hide (IN6.out.but b7 (FR5.out.none (by omega)))
        have B7 := hide (B6.out.trans b7)
        clear C6 D6 b7
        go_wp2_with fail
        refine bodyPost_ret (v := .tuple #[.agg #[.slice (some ⟨g3, 0, none⟩) (rows.length + 1) cap3], .bool true]) (by simp [results, go_sem, *]) rfl ?_
        have OWN8 := ownsRow_setCell_below OWN7.out (a := ⟨w.heap.size, 0, none⟩) (by show w.heap.size < _; omega) (.slice (some ⟨g3, 0, none⟩) (rows.length + 1) cap3)
        obtain ⟨h1, i1, q1, o1⟩ := RowIn.of OWN8
        have IN8 := IN7.out.grown (grown_set w7 ⟨w.heap.size, 0, none⟩ (.slice (some ⟨g3, 0, none⟩) (rows.length + 1) cap3)) (fun j e => by cases e; exact FR5.out.none (by show w.heap.size < _; omega))
        refine ⟨⟨_, _, rfl, ⟨_, _, _, rfl⟩, .inr ⟨rfl, _, _, h1.join (hp.join hp2), RES.out, ⟨rows ++ [ps], ⟨by simp, by simp; omega⟩, rfl, vs ++ [.slice vq vn vc], ?_, fun i r hr => ?_⟩, Hp.join_in i1 IN8, Hp.join_from ?_ (FR5.out.mono (by omega))⟩, a2, a2l, ?_, ?_⟩, ?_⟩
        · rw [List.length_append, List.length_singleton]; exact q1.mono (Hp.join_left _ _)
        · obtain ⟨u, u1, u2⟩ := EL5.out i r hr
          exact ⟨u, u1, u2.mono (Hp.join_right i1 IN8) (AtomIs.mono (Hp.join_right i1 IN8) k)⟩
        · intro j x hj
          have := (OWN8.lt j (o1 j x hj)).1
          omega
        · rw [RES.out]; intro x y e; cases e; rfl
        · exact r7.pass (grown_set _ _ _) (by simp; omega) (by simp; omega)
        · exact B7.out.set _ _ (.inl (Nat.le_refl _))
/-- A group, at every level. -/
theorem group_any : ∀ (k o : Nat), o + k = 8 → GroupC k o
  | 0, o, h => grpC_of 0 o h (fun j e => by omega)
  | k + 1, o, h => grpC_of (k + 1) o h (fun j e => by
    obtain rfl : k = j := by omega
    exact group_any k (o + 1) (by omega))

end Go.Proofs.YtncljgpcloanfaaDoor
