/- The document's all and Fits of layer 9, for every pattern and text: they answer by the functions of 'PatS'; what lay in the world lies there still. Condition: texts of at most 2^16 bytes. -/
import Derived.Test.YtncljgpcloanfaaDoorQatRH
namespace Go.Proofs.YtncljgpcloanfaaDoor
open Go.RowKit

/-- Each place of a pattern, from its end on. -/
theorem level_all (g cap : Nat) (l : List Nat) (sv : Value) (ls : List Nat) : ∀ (n a : Nat), l.length ≤ a + n → a ≤ l.length →
    (∀ b, a ≤ b → b < l.length → OnceAt g cap l sv ls b) ∧ (∀ b, a ≤ b → b ≤ l.length → RowAt g cap l sv ls b) ∧ AllAt g cap l sv ls a
  | 0, a, h, ha => by
    have h1 : ∀ b, a ≤ b → b < l.length → OnceAt g cap l sv ls b := fun b q1 q2 => by omega
    have h2 : ∀ b, a ≤ b → b ≤ l.length → RowAt g cap l sv ls b := fun b q1 q2 => row_of2 g cap l sv ls b (fun c c1 c2 => by omega)
    exact ⟨h1, h2, all_of g cap l sv ls a h2⟩
  | n + 1, a, h, ha => by
    by_cases e : a = l.length
    · have h1 : ∀ b, a ≤ b → b < l.length → OnceAt g cap l sv ls b := fun b q1 q2 => by omega
      have h2 : ∀ b, a ≤ b → b ≤ l.length → RowAt g cap l sv ls b := fun b q1 q2 => row_of2 g cap l sv ls b (fun c c1 c2 => by omega)
      exact ⟨h1, h2, all_of g cap l sv ls a h2⟩
    · obtain ⟨i1, i2, i3⟩ := level_all g cap l sv ls n (a + 1) (by omega) (by omega)
      have h1 : ∀ b, a ≤ b → b < l.length → OnceAt g cap l sv ls b := fun b q1 q2 => by
        rcases Nat.eq_or_lt_of_le q1 with q | q
        · subst q; exact once_of g cap l sv ls a i3
        · exact i1 b q q2
      have h2 : ∀ b, a ≤ b → b ≤ l.length → RowAt g cap l sv ls b := fun b q1 q2 => row_of2 g cap l sv ls b (fun c c1 c2 => h1 c (by omega) c2)
      exact ⟨h1, h2, all_of g cap l sv ls a h2⟩
theorem refAll_any (g cap : Nat) (l : List Nat) (sv : Value) (ls : List Nat) : AllAt g cap l sv ls 0 := (level_all g cap l sv ls l.length 0 (by omega) (Nat.zero_le _)).2.2

set_option maxHeartbeats 1000000 in
theorem oneRow_empty (p : Option Addr) (c : Nat) (sv v : Value) (w : World) :
    Calls Tryd.prog 31 #[.slice p 0 c, .int .i64 0, sv, v] w fun e w' => e = .returned v ∧ w' = w := by
  go_enter Tryd.func31, Tryd.ntmps31
  go_wp2_with fail
  go_loop [1, 3] (fun i f => i = .int .i64 0 ∧ f = v) (fun _ _ => 0)
  case atStart => exact ⟨rfl, rfl⟩
  case round =>
    obtain ⟨rfl, rfl⟩ := hrel
    go_wp2_with fail
    go_ret
    exact ⟨rfl, rfl⟩
set_option maxHeartbeats 1000000 in
theorem all_empty (p : Option Addr) (c : Nat) (sv v : Value) (w : World) :
    Calls Tryd.prog 21 #[.slice p 0 c, .int .i64 0, sv, v] w fun e w' => e = .returned v ∧ Below w.heap.size w w' := by
  have H1 := hide (oneRow_empty p c sv v w)
  have H2 := hide (fun w => row_empty p c 0 w)
  go_enter Tryd.func21, Tryd.ntmps21
  go_wp2_with fail
  refine H1.out.mono ?_
  rintro e u ⟨rfl, rfl⟩
  go_wp2_with fail
  refine (H2.out _).mono ?_
  rintro e w1 ⟨rfl, b1⟩
  go_wp2_with fail
  go_loop [9, 10] (fun o i => o = v ∧ i = .int .i64 0) (fun _ _ => 0)
  case atStart => exact ⟨rfl, rfl⟩
  case round =>
    obtain ⟨rfl, rfl⟩ := hrel
    go_wp2_with fail
    go_ret
    exact ⟨rfl, b1⟩

theorem start_len (n : Nat) : (startB n).length = n + 1 := by unfold startB; simp
def startC (n : Nat) : Array Value := (Array.replicate (n + 1) (Value.bool false)).setIfInBounds 0 (Value.bool true)
theorem start_row (w : World) (n : Nat) (T : TypeId) : Bools (w.alloc (.cells ((Array.replicate (n + 1) (Value.bool false)).setIfInBounds 0 (Value.bool true)) T)) w.heap.size (startB n) := by
  refine ⟨by simp, fun i hi => ?_⟩
  rw [start_len] at hi
  rw [World.cell?_alloc_new, Array.getElem?_setIfInBounds]
  by_cases e : i = 0
  · subst e
    rw [if_pos rfl, if_pos (by simp)]; rfl
  · rw [if_neg (fun q => e q.symm), Array.getElem?_replicate, if_pos hi]
    obtain ⟨j, rfl⟩ : ∃ j, i = j + 1 := ⟨i - 1, by omega⟩
    show some (Value.bool false) = some (Value.bool ((true :: List.replicate n false)[j + 1]'(by rw [List.length_cons, List.length_replicate]; omega)))
    rw [List.getElem_cons_succ, List.getElem_replicate]
theorem start_below (w : World) (o : Obj) : Below w.heap.size w (w.alloc o) := (Below.refl _ w).alloc (Nat.le_refl _) _
theorem rows_nil_eps {k : Nat} {x : Pat} {r : List Nat} (h : rowsD k [] = some (x, r)) : x = .eps := by
  rw [rows_one k (row_nil k) (by simp)] at h
  have h4 := Prod.mk.inj (Option.some.inj h)
  exact h4.1.symm

/-- What Fits answers. -/
def fitV (p s : ByteArray) : Value := .tuple #[.bool (fitsV p.data.toList s.data.toList).1, .int .i64 (fitsV p.data.toList s.data.toList).2]
theorem fitV_form {p s : ByteArray} (h : rightL p.data.toList = false) : fitV p s = .tuple #[.bool false, .int .i64 1] := by unfold fitV fitsV; rw [h]; rfl
theorem fitV_range {p s : ByteArray} (h : rightL p.data.toList = true) (h2 : 4000 < s.size) : fitV p s = .tuple #[.bool false, .int .i64 2] := by
  unfold fitV fitsV
  rw [h, if_pos rfl, if_pos (by simpa using h2)]
theorem fitV_ok {p s : ByteArray} {x : Pat} (h : rightL p.data.toList = true) (h2 : ¬ 4000 < s.size) (hx : patOf p.data.toList = some x) : fitV p s = .tuple #[.bool (fitB x (signsL s.data.toList)), .int .i64 0] := by
  unfold fitV fitsV
  rw [h, if_pos rfl, if_neg (by simpa using h2), patD_of hx]
theorem fitB_at {x : Pat} {ls : List Nat} (h : ls.length < (ends ls x (startB ls.length)).length) : (ends ls x (startB ls.length))[ls.length] = fitB x ls := by
  unfold fitB
  simp [List.getD, h]
theorem owns_sgn {base : Nat} {w : World} {v : Value} {l : List Nat} (h : OwnsI base w v l) (hs : ∀ c ∈ l, c ≤ 1114111) (hl : l.length ≤ 65536) : SgnV w v l ∧ ∃ p c, v = .slice p l.length c := by
  rcases h.form with ⟨rfl, p, c, rfl⟩ | ⟨g, cap, rfl, _, hg, hc⟩
  · exact ⟨.inl ⟨rfl, p, c, rfl⟩, p, c, rfl⟩
  · exact ⟨.inr ⟨g, cap, rfl, hg, hc, hs, hl⟩, some ⟨g, 0, none⟩, cap, rfl⟩
theorem make_start (n : Nat) (hn : n ≤ 1048575) (w : World) : (Instr.makeSlice 43 (.int .i64 ((n : Int) + 1)) (.int .i64 ((n : Int) + 1))).run Tryd.prog w = .ok (.slice (some ⟨w.heap.size, 0, none⟩) (n + 1) (n + 1)) (w.alloc (.cells (List.replicate (n + 1) (Value.bool false)).toArray 4)) := by
  have := make_bools (n + 1) (by omega) w
  rw [show ((n + 1 : Nat) : Int) = (n : Int) + 1 by omega] at this
  exact this

set_option maxHeartbeats 4000000 in
set_option maxRecDepth 100000 in
theorem refFits_any (p s : ByteArray) (w : World) (hp : p.size ≤ 65536) :
    Calls Tryd.prog 14 #[.string p, .string s] w fun e w' => e = .returned (fitV p s) ∧ Below w.heap.size w w' := by
  have HR := hide (refRight_any p w hp)
  cases hr : rightL p.data.toList with
  | false =>
    rw [hr] at HR
    have E := hide (fitV_form (s := s) hr)
    clear hr
    generalize fitV p s = F at *
    go_enter Tryd.func14, Tryd.ntmps14
    go_wp2_with fail
    refine HR.out.mono ?_
    rintro e w1 ⟨rfl, b1⟩
    go_wp2_with fail
    go_ret2
    exact ⟨by rw [E.out]; rfl, b1⟩
  | true =>
    rw [hr] at HR
    by_cases h2 : 4000 < s.size
    · have E := hide (fitV_range hr h2)
      have i2 : (4000 : Int) < (s.size : Int) := by omega
      clear hr h2
      generalize fitV p s = F at *
      go_enter Tryd.func14, Tryd.ntmps14
      go_wp2_with fail
      refine HR.out.mono ?_
      rintro e w1 ⟨rfl, b1⟩
      go_wp2_with fail
      go_ret2
      exact ⟨by rw [E.out]; rfl, b1⟩
    · obtain ⟨p1, _, x, hx⟩ := right_iff.1 hr
      have E := fitV_ok hr h2 hx
      have i2 : ¬ (4000 : Int) < (s.size : Int) := by omega
      have hrow := patOf_some.1 hx
      have HS := hide (fun w => refSigns_any s w (by omega))
      have HP := hide (fun w => refSigns_any p w hp)
      have sm := hide (signs_small _ s.data.toList (Nat.le_refl _))
      have pm := hide (signs_small _ p.data.toList (Nat.le_refl _))
      have sl := signs_len _ s.data.toList (Nat.le_refl _)
      have pl := signs_len _ p.data.toList (Nat.le_refl _)
      have z1 : s.data.toList.length = s.size := by simp
      have z2 : p.data.toList.length = p.size := by simp
      have s1 : (signsL s.data.toList).length ≤ 4000 := by omega
      have s2 : (signsL p.data.toList).length ≤ 65536 := by omega
      clear hr hx p1 z1 z2 sl pl h2
      generalize fitV p s = F at *
      generalize signsL s.data.toList = ls at *
      generalize signsL p.data.toList = lp at *
      have MK := fun w => make_start ls.length (by omega) w
      have L1 : (ends ls x (startB ls.length)).length = ls.length + 1 := ends_len (start_len _)
      have L2 : ls.length < (ends ls x (startB ls.length)).length := by omega
      rw [← fitB_at L2] at E
      have SR := hide (fun w => start_row w ls.length 4)
      have ES := hide (start_len ls.length)
      replace E := hide E
      go_enter Tryd.func14, Tryd.ntmps14
      go_wp2_with fail
      refine HR.out.mono ?_
      rintro e w1 ⟨rfl, b1⟩
      go_wp2_with fail
      refine (HS.out _).mono ?_
      rintro e w2 ⟨vs, rfl, hvs, b2⟩
      obtain ⟨hsg, ps, cs, rfl⟩ := owns_sgn hvs sm.out (by omega)
      have b3 := chain b1 b2
      clear HR HS hvs b1 b2
      go_wp2_with fail
      have b4 := start_below w2 (.cells ((Array.replicate (ls.length + 1) (Value.bool false)).setIfInBounds 0 (Value.bool true)) 4)
      have R4 := SR.out w2
      refine (HP.out _).mono ?_
      rintro e w5 ⟨vp, rfl, hvp, b5⟩
      have b6 := chain b4 b5
      have hsg5 := hsg.below b6
      have R5 := R4.below b5
      have b7 := chain b3 b6
      clear HP b3 b4 b5 b6 R4 hsg
      generalize w2.heap.size = gf at *
      rcases hvp.form with ⟨hl0, q, c, rfl⟩ | ⟨g, cap, rfl, _, hg, hc⟩
      · subst hl0
        obtain rfl := rows_nil_eps hrow
        have H := hide (fun w => all_empty q c (.slice ps ls.length cs) (.slice (some ⟨gf, 0, none⟩) (ls.length + 1) (ls.length + 1)) w)
        have L3 : ls.length < (startB ls.length).length := by rw [start_len]; omega
        replace E : Hid (F = .tuple #[.bool (startB ls.length)[ls.length], .int .i64 0]) := E
        have RC := hide (fun w6 (b : Below w5.heap.size w5 w6) => (R5.below b).cells ls.length L3)
        clear hvp hrow L1 L2 MK SR ES sm pm
        generalize (startB ls.length)[ls.length] = fb at *
        go_wp2_with fail
        refine (H.out _).mono ?_
        rintro e w6 ⟨rfl, b8⟩
        have rc := RC.out _ b8
        go_wp2_with fail
        go_ret2
        exact ⟨by rw [E.out]; rfl, chain b7 b8⟩
      · have H := hide (refAll_any g cap lp (.slice ps ls.length cs) ls 8 x [] (startB ls.length) gf (ls.length + 1) w5 (Nat.le_refl _) (by rw [List.drop_zero]; exact hrow) (Nat.zero_le _) ⟨⟨hg, hc, pm.out, s2⟩, hsg5, R5, start_len _, by omega⟩)
        unfold Tells at H
        unfold bolV at H
        unfold rowV at H ⊢
        rw [start_len, L1] at H
        have RC := hide (fun w6 g6 (h : Bools w6 g6 (ends ls x (startB ls.length))) => h.cells ls.length L2)
        clear hvp hrow L1 MK SR ES sm pm hc R5 hsg5
        generalize (ends ls x (startB ls.length))[ls.length] = fb at *
        clear L2
        generalize ends ls x (startB ls.length) = en at *
        go_wp2_with fail
        refine H.out.mono ?_
        rintro e w6 ⟨g6, c6, rfl, hB6, b8⟩
        have rc := RC.out _ _ hB6
        clear H RC hB6
        go_wp2_with fail
        go_ret2
        exact ⟨by rw [E.out]; rfl, chain b7 b8⟩

end Go.Proofs.YtncljgpcloanfaaDoor
