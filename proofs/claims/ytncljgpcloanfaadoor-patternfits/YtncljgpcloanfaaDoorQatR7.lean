/- The document's atom, row and rows of layer 9: they answer by the functions of 'PatP'; what lay in the world lies there still. Condition: the pattern's signs lie in a row of numbers. -/
import Derived.Test.YtncljgpcloanfaaDoorQatR6
import Derived.Test.YtncljgpcloanfaaDoorQatY
namespace Go.Proofs.YtncljgpcloanfaaDoor
open Go.RowKit

def AtomC (g cap : Nat) (l : List Nat) (k d : Nat) : Prop := ∀ (a : Nat) (w : World), Ints w g l → a < l.length →
    Calls Tryd.prog 36 #[rowV g cap l, .int .i64 (a : Int), .int .i64 (d : Int)] w fun e w' => e = .returned (.int .i64 (endP l (atomD k (l.drop a)))) ∧ Below w.heap.size w w'
def RowC (g cap : Nat) (l : List Nat) (k d : Nat) : Prop := ∀ (a : Nat) (w : World), Ints w g l → a ≤ l.length →
    Calls Tryd.prog 26 #[rowV g cap l, .int .i64 (a : Int), .int .i64 (d : Int)] w fun e w' => e = .returned (.int .i64 (endP l (rowD k (l.drop a)))) ∧ Below w.heap.size w w'
def RowsC (g cap : Nat) (l : List Nat) (k d : Nat) : Prop := ∀ (a : Nat) (w : World), Ints w g l → a ≤ l.length →
    Calls Tryd.prog 18 #[rowV g cap l, .int .i64 (a : Int), .int .i64 (d : Int)] w fun e w' => e = .returned (.int .i64 (endP l (rowsD k (l.drop a)))) ∧ Below w.heap.size w w'
theorem chain_alloc {w w1 : World} (h : Below w.heap.size w w1) {o : Obj} : Below w.heap.size w (w1.alloc o) := h.trans ((Below.refl _ _).alloc (h.size) _)
theorem atomD_is (k : Nat) : ∃ f, atomD k = atomL f := by
  cases k with
  | zero => exact ⟨none, rfl⟩
  | succ k => exact ⟨some (rowsD k), rfl⟩
theorem at_cls {l : List Nat} {a : Nat} (k : Nat) (h : a < l.length) (e : l[a] = 91) : atomD k (l.drop a) = clsAt (l.drop (a + 1)) := by
  obtain ⟨f, hf⟩ := atomD_is k
  rw [hf, dropN h]; unfold atomL; simp only; rw [if_pos e]
theorem at_grp0 {l : List Nat} {a : Nat} (h : a < l.length) (e : l[a] = 40) : atomD 0 (l.drop a) = none := by
  rw [dropN h, show atomD 0 = atomL none from rfl]
  unfold atomL; simp only; rw [if_neg (by omega), if_pos e]
def shutR : Rd → Rd
  | some (p, 41 :: v) => some (p, v)
  | _ => none
theorem at_grp {l : List Nat} {a : Nat} (k : Nat) (h : a < l.length) (e : l[a] = 40) : atomD (k + 1) (l.drop a) = shutR (rowsD k (l.drop (a + 1))) := by
  rw [dropN h, show atomD (k + 1) = atomL (some (rowsD k)) from rfl]
  unfold atomL; simp only; rw [if_neg (by omega), if_pos e]
  unfold shutR
  first | rfl | (cases rowsD k (l.drop (a + 1)) <;> rfl)
theorem at_esc0 {l : List Nat} {a : Nat} (k : Nat) (h : a < l.length) (e : l[a] = 92) (h2 : ¬ a + 1 < l.length) : atomD k (l.drop a) = none := by
  obtain ⟨f, hf⟩ := atomD_is k
  rw [hf, dropN h]; unfold atomL; simp only; rw [if_neg (by omega), if_neg (by omega), if_pos e, List.drop_eq_nil_of_le (by omega)]
theorem at_esc {l : List Nat} {a : Nat} (k : Nat) (h : a < l.length) (e : l[a] = 92) (h2 : a + 1 < l.length) : atomD k (l.drop a) = if inN escN l[a + 1] then some (.one (escP l[a + 1]), l.drop (a + 2)) else none := by
  obtain ⟨f, hf⟩ := atomD_is k
  rw [hf, dropN h]; unfold atomL; simp only; rw [if_neg (by omega), if_neg (by omega), if_pos e, dropN h2]
theorem at_else {l : List Nat} {a : Nat} (k : Nat) (h : a < l.length) (e1 : ¬ l[a] = 91) (e2 : ¬ l[a] = 40) (e3 : ¬ l[a] = 92) : atomD k (l.drop a) = if inN badN l[a] then none else if l[a] = 46 then some (.one .any, l.drop (a + 1)) else some (.one (.sign l[a]), l.drop (a + 1)) := by
  obtain ⟨f, hf⟩ := atomD_is k
  rw [hf, dropN h]; unfold atomL; simp only; rw [if_neg e1, if_neg e2, if_neg e3]
theorem endP_at {l : List Nat} {n : Nat} (p : Pat) (h : n ≤ l.length) : endP l (some (p, l.drop n)) = (n : Int) := end_drop h rfl
theorem shut_no {l : List Nat} {n : Nat} (p : Pat) (h : ∀ h : n < l.length, ¬ l[n] = 41) : shutR (some (p, l.drop n)) = none := by
  by_cases hn : n < l.length
  · rw [dropN hn]
    have := h hn
    unfold shutR
    split
    · rename_i e
      simp only [Option.some.injEq, Prod.mk.injEq, List.cons.injEq] at e
      exact absurd e.2.1 this
    · rfl
  · rw [List.drop_eq_nil_of_le (by omega)]; rfl
theorem shut_yes {l : List Nat} {n : Nat} (p : Pat) (hn : n < l.length) (h : l[n] = 41) : shutR (some (p, l.drop n)) = some (p, l.drop (n + 1)) := by
  rw [dropN hn, h]; rfl

set_option maxHeartbeats 2000000 in
set_option maxRecDepth 100000 in
theorem atom_of (g cap : Nat) (l : List Nat) (k d : Nat) (hd : d + k = 8) (hr : ∀ j, k = j + 1 → RowsC g cap l j (d + 1)) : AtomC g cap l k d := by
  intro a w hI h
  have hlen := hI.len
  have ca := hI.cells a h
  have sa := hI.small l[a] (List.getElem_mem _)
  have i1 : (a : Int) < (l.length : Int) := by omega
  unfold rowV
  by_cases e91 : l[a] = 91
  · have d91 : ((l[a] : Int) == 91) = true := by rw [e91]; rfl
    rw [at_cls k h e91]
    have HC := hide (refClass_any g cap l a w hI h)
    unfold rowV at HC
    clear hI hr e91
    generalize l[a] = xa at *
    generalize endP l (clsAt (l.drop (a + 1))) = z at *
    go_enter Tryd.func36, Tryd.ntmps36
    go_wp2_with fail
    refine HC.out.mono ?_
    rintro e w1 ⟨rfl, b1⟩
    go_wp2_with fail
    go_ret
    exact ⟨rfl, b1⟩
  have d91 : ((l[a] : Int) == 91) = false := by rw [beq_eq_false_iff_ne]; omega
  by_cases e40 : l[a] = 40
  · have d40 : ((l[a] : Int) == 40) = true := by rw [e40]; rfl
    cases k with
    | zero =>
      rw [at_grp0 h e40]
      have dd : ¬ (d : Int) < 8 := by omega
      have dd2 : (8 : Int) ≤ (d : Int) := by omega
      clear hI hr e40 e91
      generalize l[a] = xa at *
      go_enter Tryd.func36, Tryd.ntmps36
      go_wp2_with fail
      go_ret
      exact ⟨rfl, Below.refl _ _⟩
    | succ j =>
      rw [at_grp j h e40]
      have dd : (d : Int) < 8 := by omega
      have HR := hide (hr j rfl (a + 1) w hI (by omega))
      unfold rowV at HR
      rw [show ((a + 1 : Nat) : Int) = (a : Int) + 1 by omega, show ((d + 1 : Nat) : Int) = (d : Int) + 1 by omega] at HR
      have HC := hide hI
      clear hI hr e40 e91
      generalize l[a] = xa at *
      cases hz : rowsD j (l.drop (a + 1)) with
      | none =>
        rw [hz] at HR
        replace HR : Hid (Calls Tryd.prog 18 #[.slice (some ⟨g, 0, none⟩) l.length cap, .int .i64 ((a : Int) + 1), .int .i64 ((d : Int) + 1)] w fun e w' => e = .returned (.int .i64 (-1)) ∧ Below w.heap.size w w') := HR
        show Calls _ _ _ _ fun e w' => e = .returned (.int .i64 (-1)) ∧ Below w.heap.size w w'
        clear hz HC
        go_enter Tryd.func36, Tryd.ntmps36
        go_wp2_with fail
        refine HR.out.mono ?_
        rintro e w1 ⟨rfl, b1⟩
        go_wp2_with fail
        go_ret
        exact ⟨rfl, b1⟩
      | some y =>
        obtain ⟨p, r⟩ := y
        obtain ⟨n, n1, n2, rfl⟩ := suf_drop (by omega) ((level_suf j).2.2 _ _ _ hz)
        rw [hz, endP_at p n2] at HR
        have n0 : ¬ (n : Int) < 0 := by omega
        clear hz
        by_cases hn : n < l.length
        · have i2 : (n : Int) < (l.length : Int) := by omega
          have sn := HC.out.small l[n] (List.getElem_mem _)
          have HN := hide (fun w' (b : Below w.heap.size w w') => (HC.out.below b).cells n hn)
          by_cases e41 : l[n] = 41
          · have d41 : ((l[n] : Int) != 41) = false := by rw [e41]; rfl
            rw [shut_yes p hn e41, endP_at p (by omega)]
            clear HC e41
            generalize l[n] = xn at *
            go_enter Tryd.func36, Tryd.ntmps36
            go_wp2_with fail
            refine HR.out.mono ?_
            rintro e w1 ⟨rfl, b1⟩
            have cn := HN.out w1 b1
            go_wp2_with fail
            go_ret
            exact ⟨rfl, b1⟩
          · have d41 : ((l[n] : Int) != 41) = true := by rw [bne_iff_ne]; omega
            rw [shut_no p (fun _ => e41)]
            show Calls _ _ _ _ fun e w' => e = .returned (.int .i64 (-1)) ∧ Below w.heap.size w w'
            clear HC e41
            generalize l[n] = xn at *
            go_enter Tryd.func36, Tryd.ntmps36
            go_wp2_with fail
            refine HR.out.mono ?_
            rintro e w1 ⟨rfl, b1⟩
            have cn := HN.out w1 b1
            go_wp2_with fail
            go_ret
            exact ⟨rfl, b1⟩
        · have i2 : ¬ (n : Int) < (l.length : Int) := by omega
          rw [shut_no p (fun h => absurd h hn)]
          show Calls _ _ _ _ fun e w' => e = .returned (.int .i64 (-1)) ∧ Below w.heap.size w w'
          clear HC
          go_enter Tryd.func36, Tryd.ntmps36
          go_wp2_with fail
          refine HR.out.mono ?_
          rintro e w1 ⟨rfl, b1⟩
          go_wp2_with fail
          go_ret
          exact ⟨rfl, b1⟩
  have d40 : ((l[a] : Int) == 40) = false := by rw [beq_eq_false_iff_ne]; omega
  clear hr
  by_cases e92 : l[a] = 92
  · have d92 : ((l[a] : Int) == 92) = true := by rw [e92]; rfl
    by_cases h2 : a + 1 < l.length
    · have i2 : (a : Int) + 1 < (l.length : Int) := by omega
      have c2 := hI.cells (a + 1) h2
      have s2 := hI.small l[a + 1] (List.getElem_mem _)
      have H2 := hide (fun w => refInN_any l[a + 1] ⟨#[100, 68, 119, 87, 115, 83, 92, 94, 36, 46, 42, 43, 63, 40, 41, 91, 93, 123, 125, 124, 47, 45]⟩ w (by decide))
      rw [show nums ⟨#[100, 68, 119, 87, 115, 83, 92, 94, 36, 46, 42, 43, 63, 40, 41, 91, 93, 123, 125, 124, 47, 45]⟩ = escN from rfl] at H2
      rw [at_esc k h e92 h2]
      cases he : inN escN l[a + 1] with
      | true =>
        rw [he] at H2
        rw [if_pos rfl, endP_at _ (by omega)]
        clear hI e91 e40 e92 he
        generalize l[a] = xa at *
        generalize l[a + 1] = xb at *
        go_enter Tryd.func36, Tryd.ntmps36
        go_wp2_with fail
        refine (H2.out _).mono ?_
        rintro e uu ⟨rfl, rfl⟩
        go_wp2_with fail
        go_ret
        exact ⟨rfl, Below.refl _ _⟩
      | false =>
        rw [he] at H2
        rw [if_neg (by simp)]
        clear hI e91 e40 e92 he
        generalize l[a] = xa at *
        generalize l[a + 1] = xb at *
        go_enter Tryd.func36, Tryd.ntmps36
        go_wp2_with fail
        refine (H2.out _).mono ?_
        rintro e uu ⟨rfl, rfl⟩
        go_wp2_with fail
        go_ret
        exact ⟨rfl, Below.refl _ _⟩
    · have i2 : ¬ (a : Int) + 1 < (l.length : Int) := by omega
      rw [at_esc0 k h e92 h2]
      clear hI e91 e40 e92
      generalize l[a] = xa at *
      go_enter Tryd.func36, Tryd.ntmps36
      go_wp2_with fail
      go_ret
      exact ⟨rfl, Below.refl _ _⟩
  have d92 : ((l[a] : Int) == 92) = false := by rw [beq_eq_false_iff_ne]; omega
  rw [at_else k h e91 e40 e92]
  have H2 := hide (fun w => refInN_any l[a] ⟨#[94, 36, 42, 43, 63, 41, 93, 123, 125, 124]⟩ w (by decide))
  rw [show nums ⟨#[94, 36, 42, 43, 63, 41, 93, 123, 125, 124]⟩ = badN from rfl] at H2
  by_cases e46 : l[a] = 46
  · have d46 : ((l[a] : Int) != 46) = false := by rw [e46]; rfl
    rw [if_neg (by rw [e46]; decide), if_pos e46, endP_at _ (by omega)]
    clear hI e91 e40 e92 e46 H2
    generalize l[a] = xa at *
    go_enter Tryd.func36, Tryd.ntmps36
    go_wp2_with fail
    go_ret
    exact ⟨rfl, Below.refl _ _⟩
  have d46 : ((l[a] : Int) != 46) = true := by rw [bne_iff_ne]; omega
  rw [if_neg e46]
  cases hb : inN badN l[a] with
  | true =>
    rw [hb] at H2
    rw [if_pos rfl]
    clear hI e91 e40 e92 e46 hb
    generalize l[a] = xa at *
    go_enter Tryd.func36, Tryd.ntmps36
    go_wp2_with fail
    refine (H2.out _).mono ?_
    rintro e uu ⟨rfl, rfl⟩
    go_wp2_with fail
    go_ret
    exact ⟨rfl, Below.refl _ _⟩
  | false =>
    rw [hb] at H2
    rw [if_neg (by simp), endP_at _ (by omega)]
    clear hI e91 e40 e92 e46 hb
    generalize l[a] = xa at *
    go_enter Tryd.func36, Tryd.ntmps36
    go_wp2_with fail
    refine (H2.out _).mono ?_
    rintro e uu ⟨rfl, rfl⟩
    go_wp2_with fail
    go_ret
    exact ⟨rfl, Below.refl _ _⟩

/-- A row, from a place on: it ends, is wrong, or goes on. -/
theorem row_cases {l : List Nat} {a : Nat} (k : Nat) (h : a < l.length) (hs : stopN l[a] = false) : (atomD k (l.drop a) = none ∧ rowD k (l.drop a) = none) ∨ ∃ x n, a < n ∧ n ≤ l.length ∧ atomD k (l.drop a) = some (x, l.drop n) ∧ ((oftenL (l[a] == 40) (l.drop n) = none ∧ rowD k (l.drop a) = none) ∨ ∃ lo hi m, n ≤ m ∧ m ≤ l.length ∧ oftenL (l[a] == 40) (l.drop n) = some (lo, hi, l.drop m) ∧ endP l (rowD k (l.drop a)) = endP l (rowD k (l.drop m))) := by
  have hd := dropN h
  cases ha : atomD k (l.drop a) with
  | none =>
    rw [hd] at ha
    exact .inl ⟨rfl, by rw [hd]; exact row_bad k hs ha⟩
  | some y =>
    obtain ⟨x, r⟩ := y
    have hsu := (level_suf k).1 _ _ _ ha
    have hle := (level_less k).1 _ _ _ ha
    obtain ⟨n, n1, n2, rfl⟩ := suf_drop (by omega) hsu
    have hn : a < n := by rw [List.length_drop, List.length_drop] at hle; omega
    refine .inr ⟨x, n, hn, n2, rfl, ?_⟩
    have ha2 := ha
    rw [hd] at ha2
    cases ho : oftenL (l[a] == 40) (l.drop n) with
    | none => exact .inl ⟨rfl, by rw [hd]; exact row_often k hs ha2 ho⟩
    | some z =>
      obtain ⟨lo, hi, r2⟩ := z
      obtain ⟨m, m1, m2, rfl⟩ := suf_drop n2 (often_suf ho)
      refine .inr ⟨lo, hi, m, m1, m2, rfl, ?_⟩
      have := (row_next k hs ha2 ho).1
      rw [hd, this]
      cases rowD k (l.drop m) with
      | none => rfl
      | some q => rfl
theorem row_end {l : List Nat} {a : Nat} (k : Nat) (ha : a ≤ l.length) (h : ¬ a < l.length ∨ ∃ h : a < l.length, stopN l[a] = true) : rowD k (l.drop a) = some (.eps, l.drop a) := by
  rcases h with h | ⟨h, hs⟩
  · rw [List.drop_eq_nil_of_le (by omega)]; exact row_nil k
  · rw [dropN h]; exact row_stop k hs
theorem stop_not {c : Nat} (h1 : ¬ c = 124) (h2 : ¬ c = 41) : stopN c = false := by unfold stopN; rw [Bool.or_eq_false_iff, beq_eq_false_iff_ne, beq_eq_false_iff_ne]; exact ⟨h1, h2⟩

set_option maxHeartbeats 2000000 in
set_option maxRecDepth 100000 in
theorem row_of (g cap : Nat) (l : List Nat) (k d : Nat) (hA : AtomC g cap l k d) : RowC g cap l k d := by
  intro a0 w hI ha0
  have hlen := hI.len
  have HA := hide (fun a w' (b : Below w.heap.size w w') (h : a < l.length) => hA a w' (hI.below b) h)
  have HO := hide (fun f k' w' (b : Below w.heap.size w w') (h1 : k' ≤ l.length) (h2 : f < l.length) => refOften_any g cap l f k' w' (hI.below b) h1 h2)
  have HC := hide hI
  unfold rowV at HA HO
  unfold rowV
  generalize hR : endP l (rowD k (l.drop a0)) = R
  have HR := hide hR
  clear hR hA hI
  go_enter Tryd.func26, Tryd.ntmps26
  go_wp2_with fail
  go_loopw [1] (fun i wr => ∃ a : Nat, a ≤ l.length ∧ i = .int .i64 a ∧ Hid (endP l (rowD k (l.drop a)) = R) ∧ Below w.heap.size w wr) (fun i _ => l.length - (intOf i).toNat)
  case atStart => exact ⟨a0, ha0, rfl, HR.out, Below.refl _ _⟩
  case round =>
    obtain ⟨a, ha, rfl, hd, hb⟩ := hrel
    rename World => wr
    clear HR
    by_cases h : a < l.length
    · have i1 : (a : Int) < (l.length : Int) := by omega
      have ca := (HC.out.below hb).cells a h
      have sa := HC.out.small l[a] (List.getElem_mem _)
      by_cases e124 : l[a] = 124
      · have d124 : ((l[a] : Int) != 124) = false := by rw [e124]; rfl
        have E := hd.out
        rw [row_end k ha (.inr ⟨h, by rw [e124]; rfl⟩), endP_at _ ha] at E
        replace E := hide E
        clear hd HA HO HC e124
        generalize l[a] = xa at *
        go_wp2_with fail
        go_ret
        exact ⟨ret_int E.out, hb⟩
      · have d124 : ((l[a] : Int) != 124) = true := by rw [bne_iff_ne]; omega
        by_cases e41 : l[a] = 41
        · have d41 : ((l[a] : Int) != 41) = false := by rw [e41]; rfl
          have E := hd.out
          rw [row_end k ha (.inr ⟨h, by rw [e41]; rfl⟩), endP_at _ ha] at E
          replace E := hide E
          clear hd HA HO HC e124 e41
          generalize l[a] = xa at *
          go_wp2_with fail
          go_ret
          exact ⟨ret_int E.out, hb⟩
        · have d41 : ((l[a] : Int) != 41) = true := by rw [bne_iff_ne]; omega
          have HAa := hide (HA.out a wr hb h)
          rcases row_cases k h (stop_not e124 e41) with ⟨r1, r2⟩ | ⟨x, n, n1, n2, r1, r3⟩
          · have E := hd.out
            rw [r2] at E
            replace E : Hid (-1 = R) := E
            rw [r1] at HAa
            replace HAa : Hid (Calls Tryd.prog 36 #[.slice (some ⟨g, 0, none⟩) l.length cap, .int .i64 (a : Int), .int .i64 (d : Int)] wr fun e w' => e = .returned (.int .i64 (-1)) ∧ Below wr.heap.size wr w') := HAa
            clear hd HA HO HC e124 e41 r1 r2
            generalize l[a] = xa at *
            go_wp2_with fail
            refine HAa.out.mono ?_
            rintro e w1 ⟨rfl, b1⟩
            go_wp2_with fail
            go_ret
            exact ⟨ret_int E.out, chain hb b1⟩
          · rw [r1, endP_at x n2] at HAa
            have n0 : ¬ (n : Int) < 0 := by omega
            have HOn := hide (fun w' (b : Below w.heap.size w w') => HO.out a n w' b n2 h)
            rcases r3 with ⟨r3, r4⟩ | ⟨lo, hi, m, m1, m2, r3, r4⟩
            · have E := hd.out
              rw [r4] at E
              replace E : Hid (-1 = R) := E
              rw [r3] at HOn
              clear hd HA HO HC e124 e41 r1 r3 r4
              generalize l[a] = xa at *
              go_wp2_with fail
              refine HAa.out.mono ?_
              rintro e w1 ⟨rfl, b1⟩
              go_wp2_with fail
              refine (HOn.out _ (chain hb b1)).mono ?_
              rintro e w2 ⟨rfl, b2⟩
              unfold oftV
              go_wp2_with fail
              go_ret
              exact ⟨ret_int E.out, chain (chain hb b1) (chain_alloc b2)⟩
            · have E := hide (r4.symm.trans hd.out)
              rw [r3, oft_at lo hi m2] at HOn
              have m0 : ¬ (m : Int) < 0 := by omega
              clear hd HA HO HC e124 e41 r1 r3 r4
              generalize l[a] = xa at *
              go_wp2_with fail
              refine HAa.out.mono ?_
              rintro e w1 ⟨rfl, b1⟩
              go_wp2_with fail
              refine (HOn.out _ (chain hb b1)).mono ?_
              rintro e w2 ⟨rfl, b2⟩
              go_wp2_with fail
              go_roundw
              case rel => exact ⟨m, m2, rfl, E.out, chain (chain hb b1) (chain_alloc b2)⟩
              case measure => simp [intOf]; omega
    · have i1 : ¬ (a : Int) < (l.length : Int) := by omega
      have E := hd.out
      rw [row_end k ha (.inl h), endP_at _ ha] at E
      replace E := hide E
      clear hd HA HO HC h
      go_wp2_with fail
      go_ret
      exact ⟨ret_int E.out, hb⟩

def mesR (L : Nat) (z : Int) : Nat := if z < 0 then 0 else L + 1 - z.toNat
theorem mesR_nat (L n : Nat) : mesR L (n : Int) = L + 1 - n := by unfold mesR; rw [if_neg (by omega), Int.toNat_natCast]
set_option maxHeartbeats 2000000 in
set_option maxRecDepth 100000 in
theorem rows_of (g cap : Nat) (l : List Nat) (k d : Nat) (hA : RowC g cap l k d) : RowsC g cap l k d := by
  intro a0 w hI ha0
  have hlen := hI.len
  have HA := hide (fun a w' (b : Below w.heap.size w w') (h : a ≤ l.length) => hA a w' (hI.below b) h)
  have HC := hide hI
  unfold rowV at HA
  unfold rowV
  generalize hR : endP l (rowsD k (l.drop a0)) = R
  have HR := hide hR
  have H0 := hide (HA.out a0 w (Below.refl _ _) ha0)
  have SU := hide (fun a x r (h : rowD k (l.drop a) = some (x, r)) (h2 : a ≤ l.length) => suf_drop h2 ((level_suf k).2.1 _ _ _ h))
  clear hR hA hI
  go_enter Tryd.func18, Tryd.ntmps18
  go_wp2_with fail
  refine H0.out.mono ?_
  rintro e w1 ⟨rfl, b0⟩
  go_wp2_with fail
  go_loopw [7] (fun i wr => ∃ a : Nat, a ≤ l.length ∧ i = .int .i64 (endP l (rowD k (l.drop a))) ∧ Hid (endP l (rowsD k (l.drop a)) = R) ∧ Below w.heap.size w wr) (fun i _ => mesR l.length (intOf i))
  case atStart => exact ⟨a0, ha0, rfl, HR.out, b0⟩
  case round =>
    obtain ⟨a, ha, rfl, hd, hb⟩ := hrel
    rename World => wr
    clear HR H0
    cases hr : rowD k (l.drop a) with
    | none =>
      have E := hd.out
      rw [rows_none k hr] at E
      replace E : Hid (-1 = R) := E
      have E2 : endP l none = -1 := rfl
      rw [E2]
      clear hd HA HC hr SU E2
      go_wp2_with fail
      go_ret
      exact ⟨ret_int E.out, hb⟩
    | some y =>
      obtain ⟨x, r⟩ := y
      obtain ⟨n, n1, n2, rfl⟩ := SU.out a x r hr ha
      rw [endP_at x n2]
      have n0 : 0 ≤ (n : Int) := by omega
      have n00 : ¬ (n : Int) < 0 := by omega
      by_cases h : n < l.length
      · have i1 : (n : Int) < (l.length : Int) := by omega
        have cn := (HC.out.below hb).cells n h
        have sn := HC.out.small l[n] (List.getElem_mem _)
        by_cases e : l[n] = 124
        · have d1 : ((l[n] : Int) == 124) = true := by rw [e]; rfl
          have hr2 := hr
          rw [dropN h, e] at hr2
          have E := hd.out
          rw [rows_bar k hr2] at E
          have E2 : Hid (endP l (rowsD k (l.drop (n + 1))) = R) := by
            show _ = _
            rw [← E]
            cases rowsD k (l.drop (n + 1)) with
            | none => rfl
            | some q => rfl
          have HN := hide (HA.out (n + 1) wr hb (by omega))
          rw [show ((n + 1 : Nat) : Int) = (n : Int) + 1 by omega] at HN
          have MS : mesR l.length (endP l (rowD k (l.drop (n + 1)))) < mesR l.length (n : Int) := by
            rw [mesR_nat]
            cases hr3 : rowD k (l.drop (n + 1)) with
            | none => show 0 < _; omega
            | some q =>
              obtain ⟨y, r3⟩ := q
              obtain ⟨m, m1, m2, rfl⟩ := SU.out (n + 1) y r3 hr3 (by omega)
              rw [endP_at y m2, mesR_nat]; omega
          have MH := hide MS
          clear hd HA HC hr hr2 SU E e MS
          generalize l[n] = xn at *
          go_wp2_with fail
          refine HN.out.mono ?_
          rintro e w1 ⟨rfl, b1⟩
          go_wp2_with fail
          go_roundw
          case rel => exact ⟨n + 1, by omega, rfl, E2.out, chain hb b1⟩
          case measure => exact MH.out
        · have d1 : ((l[n] : Int) == 124) = false := by rw [beq_eq_false_iff_ne]; omega
          have E := hd.out
          rw [rows_one k hr (by rw [dropN h, List.head?_cons]; exact fun q => e (Option.some.inj q)), endP_at x n2] at E
          replace E := hide E
          clear hd HA HC hr SU e
          generalize l[n] = xn at *
          go_wp2_with fail
          go_ret
          exact ⟨ret_int E.out, hb⟩
      · have i1 : ¬ (n : Int) < (l.length : Int) := by omega
        have E := hd.out
        rw [rows_one k hr (by rw [List.drop_eq_nil_of_le (by omega)]; simp), endP_at x n2] at E
        replace E := hide E
        clear hd HA HC hr SU h
        go_wp2_with fail
        go_ret
        exact ⟨ret_int E.out, hb⟩
/-- The document's readers at every depth. -/
theorem level_any (g cap : Nat) (l : List Nat) : ∀ k d, d + k = 8 → AtomC g cap l k d ∧ RowC g cap l k d ∧ RowsC g cap l k d
  | 0, d, h => by
    have h1 := atom_of g cap l 0 d h (fun j e => by cases e)
    have h2 := row_of g cap l 0 d h1
    exact ⟨h1, h2, rows_of g cap l 0 d h2⟩
  | k + 1, d, h => by
    have ih := level_any g cap l k (d + 1) (by omega)
    have h1 := atom_of g cap l (k + 1) d h (fun j e => by cases e; exact ih.2.2)
    have h2 := row_of g cap l (k + 1) d h1
    exact ⟨h1, h2, rows_of g cap l (k + 1) d h2⟩

end Go.Proofs.YtncljgpcloanfaaDoor
