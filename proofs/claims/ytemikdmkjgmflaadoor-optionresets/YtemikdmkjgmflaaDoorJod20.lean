/- One to four digits as a number. The program's find, has, isMultiple, digits, rows, isA of layer 15. The program's isOff, selectOf, Right, Off, Size of layer 15. What a call of layer 15's document has about it. -/
import Derived.Test.YtemikdmkjgmflaaDoorJod17
import Derived.Test.YtemikdmkjgmflaaDoorJod23
import Derived.Deep.RegionLaw

namespace Go.Proofs.YtemikdmkjgmflaaDoor
open Go.RowKit
def szF (l : List UInt8) : Int := l.foldl (fun n c => 10 * n + ((c.toNat : Int) - 48)) 0
theorem szF_app (l : List UInt8) (c : UInt8) : szF (l ++ [c]) = 10 * szF l + ((c.toNat : Int) - 48) := by unfold szF; rw [List.foldl_append]; rfl
theorem szF_bound : ∀ (n : Nat) (l : List UInt8), l.length = n → l.all digB = true → 0 ≤ szF l ∧ szF l < 10 ^ n
  | 0, [], _, _ => ⟨by decide, by decide⟩
  | 0, c :: l, h, _ => by cases h
  | n + 1, l, h, hd => by
    have hne : l ≠ [] := by intro e; rw [e] at h; cases h
    rw [← List.dropLast_concat_getLast hne] at hd ⊢
    rw [List.all_append, Bool.and_eq_true] at hd
    have ih := szF_bound n l.dropLast (by rw [List.length_dropLast]; omega) hd.1
    have hl : digB (l.getLast hne) = true := by have := hd.2; simpa using this
    unfold digB at hl
    have hl := of_decide_eq_true hl
    rw [szF_app, Int.pow_succ]
    omega
theorem szN_is {l : List UInt8} (h : l.length ≤ 4) (hd : l.all digB = true) : szN l = szF l := if_pos ⟨h, hd⟩
theorem szN_no {l : List UInt8} (h : ¬ (l.length ≤ 4 ∧ l.all digB = true)) : szN l = 0 := if_neg h
end Go.Proofs.YtemikdmkjgmflaaDoor

namespace Go.Proofs.YtemikdmkjgmflaaDoor
open Go.RowKit
set_option maxRecDepth 100000
theorem ret_fndO {a b : ByteArray} {c d : Bool} (h : a = b) (g : c = d) : Ending.returned (.tuple #[.string a, .bool c]) = .returned (.tuple #[.string b, .bool d]) := by rw [h, g]
set_option maxHeartbeats 4000000 in
theorem opFind1_any (s : ByteArray) (B : Nat) (x : ByteArray × ByteArray) (W : World) (hc : W.cell? ⟨B, 0, none⟩ = some (.string s)) :
    Calls Tryd.prog 65 #[.agg #[.string x.1, .string x.2], .pointer (some ⟨B, 0, none⟩)] W fun e w' => e = .returned (.bool (isN s x)) ∧ Below W.heap.size W w' := by
  have hB := World.block_lt_of_cell? _ _ hc
  have hne : B ≠ W.heap.size := by have : B < W.heap.size := hB; omega
  have E := hide (txt_beq x.1 s)
  unfold isN
  generalize x.1 = a at *
  generalize x.2 = b at *
  generalize hR : decide (a = s) = R at *
  clear hR
  go_enter Tryd.func65, Tryd.ntmps65
  go_wp2_with fail
  go_ret
  exact ⟨ret_bool E.out, (Below.refl _ W).alloc (Nat.le_refl _) _⟩
theorem entersOpFind : ∀ args w, (callFunc 65 args).run Tryd.prog w = .ok (.enter 65 args) w := Go.Proofs.enters_of Tryd.func65 (by kernel_rfl) rfl
set_option maxHeartbeats 4000000 in
theorem opFind_any (n : Nd) (va : Value) (pk : Option Addr) (nk ck : Nat) (s : ByteArray) (w : World) (hv : AttrsV w va n.attrs) (hl : n.attrs.length ≤ 4398046511104) :
    Calls Tryd.prog 50 #[.agg #[.string n.name, .string n.text, va, .int .i64 n.parent, .slice pk nk ck], .string s] w fun e w' => e = .returned (.tuple #[.string (fndS n.attrs s), .bool (hasA n s)]) ∧ Below w.heap.size w w' := by
  have B0 : Hid (Below w.heap.size w ((w.alloc (.cells #[.string n.name, .string n.text, va, .int .i64 n.parent, .slice pk nk ck] 43)).alloc (.cells #[.string s] 9))) := ((Below.refl _ w).alloc (Nat.le_refl _) _).alloc (by simp) _
  have PR : PredA 65 #[.pointer (some ⟨w.heap.size + 1, 0, none⟩)] (isN s) ((w.alloc (.cells #[.string n.name, .string n.text, va, .int .i64 n.parent, .slice pk nk ck] 43)).alloc (.cells #[.string s] 9)) := fun W x hb =>
    opFind1_any s (w.heap.size + 1) x W ((hb.cell (by simp)).trans (by simp))
  have HC := hide (indexFuncA_any va n.attrs (isN s) 65 #[.pointer (some ⟨w.heap.size + 1, 0, none⟩)] entersOpFind ((w.alloc (.cells #[.string n.name, .string n.text, va, .int .i64 n.parent, .slice pk nk ck] 43)).alloc (.cells #[.string s] 9)) (hv.below B0.out) PR hl)
  have HIT := hide (fun k hk (h : n.attrs.findIdx? (isN s) = some k) => fnd_hit (ax := n.attrs) (n := s) (k := k) hk h)
  have MISS := hide (fun (h : n.attrs.findIdx? (isN s) = none) => fnd_miss (ax := n.attrs) (n := s) h)
  clear PR
  unfold hasA
  obtain ⟨p, c, rfl, hk⟩ := hv
  generalize fndS n.attrs s = R1 at *
  generalize (findA n.attrs s).isSome = R2 at *
  generalize n.name = n0 at *
  generalize n.text = n1 at *
  generalize n.parent = n3 at *
  generalize n.attrs = ax at *
  cases h : ax.findIdx? (isN s) with
  | none =>
    have E := hide (MISS.out h)
    rw [h, show findV none = -1 from rfl] at HC
    clear hk HIT MISS h
    go_enter Tryd.func50, Tryd.ntmps50
    go_wp2_with fail
    refine HC.out.mono ?_
    rintro e w1 ⟨rfl, b1⟩
    go_wp2_with fail
    go_ret2
    exact ⟨ret_fndO E.out.1.symm E.out.2.symm, chain B0.out b1⟩
  | some i =>
    obtain ⟨hi, _, _⟩ := List.findIdx?_eq_some_iff_getElem.1 h
    have E := hide (HIT.out i hi h)
    rw [h, show findV (some i) = (i : Int) from rfl] at HC
    have i0 : (0 : Int) ≤ (i : Int) := by omega
    have i1 : (i : Int) < (ax.length : Int) := by omega
    have i2 : ¬ (i : Int) < 0 := by omega
    obtain ⟨b, o, rfl, hc⟩ : ∃ b o, p = some ⟨b, o, none⟩ ∧ ∀ i (h : i < ax.length), w.cell? ⟨b, o + i * 2, none⟩ = some (.string ax[i].1) ∧ w.cell? ⟨b, o + i * 2 + 1, none⟩ = some (.string ax[i].2) := by
      rcases hk with t | t
      · rw [t] at hi; simp at hi
      · exact t
    have c1 := hide (hc i hi).2
    have CN := hide (show ((w.alloc (.cells #[.string n0, .string n1, .slice (some ⟨b, o, none⟩) ax.length c, .int .i64 n3, .slice pk nk ck] 43)).alloc (.cells #[.string s] 9)).cell? ⟨w.heap.size, 2, none⟩ = some (.slice (some ⟨b, o, none⟩) ax.length c) by simp)
    clear hc HIT MISS h
    generalize ax[i].2 = t at *
    go_enter Tryd.func50, Tryd.ntmps50
    go_wp2_with fail
    refine HC.out.mono ?_
    rintro e w1 ⟨rfl, b1⟩
    have y1 := cell_below (cell_below c1.out B0.out) b1
    have y2 := cell_below CN.out b1
    go_wp2_with fail
    go_ret2
    exact ⟨ret_fndO E.out.1.symm E.out.2.symm, chain B0.out b1⟩
set_option maxHeartbeats 4000000 in
theorem opHas_any (n : Nd) (va : Value) (pk : Option Addr) (nk ck : Nat) (s : ByteArray) (w : World) (hv : AttrsV w va n.attrs) (hl : n.attrs.length ≤ 4398046511104) :
    Calls Tryd.prog 36 #[.agg #[.string n.name, .string n.text, va, .int .i64 n.parent, .slice pk nk ck], .string s] w fun e w' => e = .returned (.bool (hasA n s)) ∧ Below w.heap.size w w' := by
  have B0 : Hid (Below w.heap.size w (w.alloc (.cells #[.string n.name, .string n.text, va, .int .i64 n.parent, .slice pk nk ck] 43))) := (Below.refl _ w).alloc (Nat.le_refl _) _
  have HC := hide (opFind_any n va pk nk ck s (w.alloc (.cells #[.string n.name, .string n.text, va, .int .i64 n.parent, .slice pk nk ck] 43)) (hv.below B0.out) hl)
  clear hl
  generalize fndS n.attrs s = R1 at *
  generalize hasA n s = R2 at *
  obtain ⟨p, c, rfl, hxx⟩ := hv
  clear hxx
  generalize n.name = n0 at *
  generalize n.text = n1 at *
  generalize n.parent = n3 at *
  generalize n.attrs.length = n5 at *
  go_enter Tryd.func36, Tryd.ntmps36
  go_wp2_with fail
  refine HC.out.mono ?_
  rintro e w1 ⟨rfl, b1⟩
  go_wp2_with fail
  go_ret
  exact ⟨rfl, chain B0.out b1⟩
set_option maxHeartbeats 4000000 in
theorem opMul_any (n : Nd) (va : Value) (pk : Option Addr) (nk ck : Nat) (w : World) (hv : AttrsV w va n.attrs) (hl : n.attrs.length ≤ 4398046511104) :
    Calls Tryd.prog 28 #[.agg #[.string n.name, .string n.text, va, .int .i64 n.parent, .slice pk nk ck]] w fun e w' => e = .returned (.bool (hasA n oMul)) ∧ Below w.heap.size w w' := by
  have B0 : Hid (Below w.heap.size w (w.alloc (.cells #[.string n.name, .string n.text, va, .int .i64 n.parent, .slice pk nk ck] 43))) := (Below.refl _ w).alloc (Nat.le_refl _) _
  have HC := hide (opHas_any n va pk nk ck oMul (w.alloc (.cells #[.string n.name, .string n.text, va, .int .i64 n.parent, .slice pk nk ck] 43)) (hv.below B0.out) hl)
  clear hl
  generalize hasA n oMul = R2 at *
  rw [show oMul = ⟨#[109, 117, 108, 116, 105, 112, 108, 101]⟩ from rfl] at HC
  obtain ⟨p, c, rfl, hxx⟩ := hv
  clear hxx
  generalize n.name = n0 at *
  generalize n.text = n1 at *
  generalize n.parent = n3 at *
  generalize n.attrs.length = n5 at *
  go_enter Tryd.func28, Tryd.ntmps28
  go_wp2_with fail
  refine HC.out.mono ?_
  rintro e w1 ⟨rfl, b1⟩
  go_wp2_with fail
  go_ret
  exact ⟨rfl, chain B0.out b1⟩
set_option maxHeartbeats 4000000 in
theorem opDigits_any (s : ByteArray) (w : World) :
    Calls Tryd.prog 66 #[.string s] w fun e w' => e = .returned (.int .i64 (szN s.data.toList)) ∧ w' = w := by
  have ZL : Hid (¬ s.size ≤ 4 → szN s.data.toList = 0) := fun q => szN_no (fun t => q (by have := t.1; simpa using this))
  have ZB : Hid (∀ k (g : k < s.size), ¬ digB s[k] = true → szN s.data.toList = 0) := fun k g q => szN_no (fun t => q (by
    have := List.all_eq_true.1 t.2 (s.data.toList[k]'(by simpa using g)) (List.getElem_mem _)
    rwa [byte_at s k g] at this))
  have ZN : Hid (s.size ≤ 4 → s.data.toList.all digB = true → szN s.data.toList = szF s.data.toList) := fun q t => szN_is (by simpa using q) t
  by_cases h4 : s.size ≤ 4
  · have l4 : ¬ 4 < (s.size : Int) := by omega
    have d4 : decide (4 < (s.size : Int)) = false := decide_eq_false l4
    clear ZL
    go_enter Tryd.func66, Tryd.ntmps66
    go_wp2_with fail
    go_loop [3, 10] (fun nv iv => ∃ k : Nat, k ≤ s.size ∧ iv = .int .i64 k ∧ nv = .int .i64 (szF (s.data.toList.take k)) ∧ Hid ((s.data.toList.take k).all digB = true)) (fun _ iv => s.size - (intOf iv).toNat)
    case atStart => exact ⟨0, Nat.zero_le _, rfl, rfl, rfl⟩
    case round =>
      obtain ⟨k, hk, rfl, rfl, hd⟩ := hrel
      by_cases g : k < s.size
      · have tk : s.data.toList.take (k + 1) = s.data.toList.take k ++ [s[k]] := by rw [List.take_succ_eq_append_getElem (by simpa using g), byte_at]
        have bd := szF_bound k (s.data.toList.take k) (by rw [List.length_take, Nat.min_eq_left (by simpa using hk)]) hd.out
        have b8 : s[k].toNat < 256 := s[k].toNat_lt
        have bd3 : szF (s.data.toList.take k) ≤ 9999 := by
          have bd := bd.2
          have hk3 : k = 0 ∨ k = 1 ∨ k = 2 ∨ k = 3 := by omega
          have : (10 : Int) ^ k ≤ 1000 := by rcases hk3 with e | e | e | e <;> rw [e] <;> decide
          omega
        have bd0 := bd.1
        rcases (show (s[k].toNat : Int) < 48 ∨ (48 ≤ (s[k].toNat : Int) ∧ 57 < (s[k].toNat : Int)) ∨ (48 ≤ (s[k].toNat : Int) ∧ (s[k].toNat : Int) ≤ 57) by omega) with h1 | ⟨h1, h2⟩ | ⟨h1, h2⟩
        · have ZZ := hide (ZB.out k g (fun q => by unfold digB at q; have := of_decide_eq_true q; omega))
          clear ZB ZN hd tk bd
          generalize szF (s.data.toList.take k) = z at *
          go_wp2_with fail
          go_ret
          exact ⟨ret_int ZZ.out.symm, rfl⟩
        · have ZZ := hide (ZB.out k g (fun q => by unfold digB at q; have := of_decide_eq_true q; omega))
          have d1 : decide ((s[k].toNat : Int) < 48) = false := decide_eq_false (by omega)
          clear ZB ZN hd tk bd
          generalize szF (s.data.toList.take k) = z at *
          go_wp2_with fail
          go_ret
          exact ⟨ret_int ZZ.out.symm, rfl⟩
        · have d1 : decide ((s[k].toNat : Int) < 48) = false := decide_eq_false (by omega)
          have d2 : decide (57 < (s[k].toNat : Int)) = false := decide_eq_false (by omega)
          have hd' : Hid ((s.data.toList.take (k + 1)).all digB = true) := by
            show _ = _
            rw [tk, List.all_append, hd.out]
            show (digB s[k] && true) = true
            rw [show digB s[k] = true from decide_eq_true (by omega)]; rfl
          have EN : Hid (szF (s.data.toList.take (k + 1)) = szF (s.data.toList.take k) * 10 + ((s[k].toNat : Int) - 48)) := by show _ = _; rw [tk, szF_app]; omega
          clear ZB ZN hd tk bd
          generalize szF (s.data.toList.take k) = z at *
          go_wp2_with fail
          go_round
          case rel => exact ⟨k + 1, by omega, by go_num, by rw [EN.out], hd'⟩
          case measure => simp [intOf]; omega
      · obtain rfl : k = s.size := by omega
        have et : s.data.toList.take s.size = s.data.toList := List.take_of_length_le (by simp)
        rw [et] at hd
        rw [et]
        have ZE := hide (ZN.out h4 hd.out)
        clear ZB ZN hd et
        generalize szF s.data.toList = z at *
        go_wp2_with fail
        go_ret
        exact ⟨ret_int ZE.out.symm, rfl⟩
  · have l4 : 4 < (s.size : Int) := by omega
    have ZZ := hide (ZL.out h4)
    clear ZL ZB ZN
    go_enter Tryd.func66, Tryd.ntmps66
    go_wp2_with fail
    go_ret
    exact ⟨ret_int ZZ.out.symm, rfl⟩
/-- How many rows a select has. -/
def rowsN (n : Nd) : Int := if 0 < szN (fndS n.attrs oSiz).data.toList then szN (fndS n.attrs oSiz).data.toList else if hasA n oMul = true then 4 else 1
theorem size_rows {l : List Nd} {sel : Int} (h : isK l sel 23 = true) : sizeP l sel = rowsN (nd l sel.toNat) := if_pos h
set_option maxHeartbeats 4000000 in
theorem opRows_any (n : Nd) (va : Value) (pk : Option Addr) (nk ck : Nat) (w : World) (hv : AttrsV w va n.attrs) (hl : n.attrs.length ≤ 4398046511104) :
    Calls Tryd.prog 51 #[.agg #[.string n.name, .string n.text, va, .int .i64 n.parent, .slice pk nk ck]] w fun e w' => e = .returned (.int .i64 (rowsN n)) ∧ Below w.heap.size w w' := by
  have B0 : Hid (Below w.heap.size w (w.alloc (.cells #[.string n.name, .string n.text, va, .int .i64 n.parent, .slice pk nk ck] 43))) := (Below.refl _ w).alloc (Nat.le_refl _) _
  have HF := hide (opFind_any n va pk nk ck oSiz (w.alloc (.cells #[.string n.name, .string n.text, va, .int .i64 n.parent, .slice pk nk ck] 43)) (hv.below B0.out) hl)
  have HD := hide (opDigits_any (fndS n.attrs oSiz))
  have HM := hide (fun W (hb : Below w.heap.size w W) => opMul_any n va pk nk ck W (hv.below hb) hl)
  have EQ : Hid (rowsN n = if 0 < szN (fndS n.attrs oSiz).data.toList then szN (fndS n.attrs oSiz).data.toList else if hasA n oMul = true then 4 else 1) := rfl
  have N0 := hide (show (w.alloc (.cells #[.string n.name, .string n.text, va, .int .i64 n.parent, .slice pk nk ck] 43)).cell? ⟨w.heap.size, 0, none⟩ = some (.string n.name) by simp)
  have N1 := hide (show (w.alloc (.cells #[.string n.name, .string n.text, va, .int .i64 n.parent, .slice pk nk ck] 43)).cell? ⟨w.heap.size, 1, none⟩ = some (.string n.text) by simp)
  have N2 := hide (show (w.alloc (.cells #[.string n.name, .string n.text, va, .int .i64 n.parent, .slice pk nk ck] 43)).cell? ⟨w.heap.size, 2, none⟩ = some va by simp)
  have N3 := hide (show (w.alloc (.cells #[.string n.name, .string n.text, va, .int .i64 n.parent, .slice pk nk ck] 43)).cell? ⟨w.heap.size, 3, none⟩ = some (.int .i64 n.parent) by simp)
  have N4 := hide (show (w.alloc (.cells #[.string n.name, .string n.text, va, .int .i64 n.parent, .slice pk nk ck] 43)).cell? ⟨w.heap.size, 4, none⟩ = some (.slice pk nk ck) by simp)
  clear hl
  rw [show oSiz = ⟨#[115, 105, 122, 101]⟩ from rfl] at HF HD EQ
  generalize rowsN n = R3 at *
  generalize szN (fndS n.attrs ⟨#[115, 105, 122, 101]⟩).data.toList = z at *
  generalize fndS n.attrs ⟨#[115, 105, 122, 101]⟩ = fs at *
  generalize hasA n ⟨#[115, 105, 122, 101]⟩ = fb at *
  generalize hasA n oMul = R2 at *
  obtain ⟨p, c, rfl, hxx⟩ := hv
  clear hxx
  generalize n.name = n0 at *
  generalize n.text = n1 at *
  generalize n.parent = n3 at *
  generalize n.attrs.length = n5 at *
  by_cases hp : 0 < z
  · rw [if_pos hp] at EQ
    have z1 : 1 ≤ z := by omega
    clear HM
    go_enter Tryd.func51, Tryd.ntmps51
    go_wp2_with fail
    refine HF.out.mono ?_
    rintro e w1 ⟨rfl, b1⟩
    have Y0 := hide (cell_below N0.out b1)
    have Y1 := hide (cell_below N1.out b1)
    have Y2 := hide (cell_below N2.out b1)
    have Y3 := hide (cell_below N3.out b1)
    have Y4 := hide (cell_below N4.out b1)
    go_wp2_with fail
    refine (HD.out _).mono ?_
    rintro e u ⟨rfl, hu⟩
    obtain rfl : w1 = u := hu.symm
    go_wp2_with fail
    go_ret
    exact ⟨ret_int EQ.out.symm, chain B0.out b1⟩
  · rw [if_neg hp] at EQ
    have z1 : ¬ 1 ≤ z := by omega
    have d1 : decide (1 ≤ z) = false := decide_eq_false z1
    cases R2 with
    | true =>
      rw [if_pos rfl] at EQ
      go_enter Tryd.func51, Tryd.ntmps51
      go_wp2_with fail
      refine HF.out.mono ?_
      rintro e w1 ⟨rfl, b1⟩
      have Y0 := hide (cell_below N0.out b1)
      have Y1 := hide (cell_below N1.out b1)
      have Y2 := hide (cell_below N2.out b1)
      have Y3 := hide (cell_below N3.out b1)
      have Y4 := hide (cell_below N4.out b1)
      go_wp2_with fail
      refine (HD.out _).mono ?_
      rintro e u ⟨rfl, hu⟩
      obtain rfl : w1 = u := hu.symm
      have t0 := Y0.out
      have t1 := Y1.out
      have t2 := Y2.out
      have t3 := Y3.out
      have t4 := Y4.out
      go_wp2_with fail
      refine (HM.out _ (chain B0.out b1)).mono ?_
      rintro e w2 ⟨rfl, b2⟩
      go_wp2_with fail
      go_ret
      exact ⟨ret_int EQ.out.symm, chain (chain B0.out b1) b2⟩
    | false =>
      rw [if_neg (by decide)] at EQ
      go_enter Tryd.func51, Tryd.ntmps51
      go_wp2_with fail
      refine HF.out.mono ?_
      rintro e w1 ⟨rfl, b1⟩
      have Y0 := hide (cell_below N0.out b1)
      have Y1 := hide (cell_below N1.out b1)
      have Y2 := hide (cell_below N2.out b1)
      have Y3 := hide (cell_below N3.out b1)
      have Y4 := hide (cell_below N4.out b1)
      go_wp2_with fail
      refine (HD.out _).mono ?_
      rintro e u ⟨rfl, hu⟩
      obtain rfl : w1 = u := hu.symm
      have t0 := Y0.out
      have t1 := Y1.out
      have t2 := Y2.out
      have t3 := Y3.out
      have t4 := Y4.out
      go_wp2_with fail
      refine (HM.out _ (chain B0.out b1)).mono ?_
      rintro e w2 ⟨rfl, b2⟩
      go_wp2_with fail
      go_ret
      exact ⟨ret_int EQ.out.symm, chain (chain B0.out b1) b2⟩
/-- Is there a node of that number, and of that kind? -/
def isAB (l : List Nd) (id k : Int) : Bool := decide (0 ≤ id ∧ id < (l.length : Int)) && decide (kN (nd l id.toNat) = k)
theorem isA_out {l : List Nd} {id k : Int} (h : ¬ (0 ≤ id ∧ id < (l.length : Int))) : isAB l id k = false := by unfold isAB; rw [decide_eq_false h]; rfl
theorem isA_at {l : List Nd} {m : Nat} {k : Int} (h : m < l.length) : isAB l (m : Int) k = decide (kN l[m] = k) := by
  unfold isAB; rw [decide_eq_true (by omega), Int.toNat_natCast, nd_at h, Bool.true_and]
theorem isA_K {l : List Nd} {id k : Int} : (isAB l id k && rightB l) = isK l id k := by
  unfold isAB isK hasN
  cases decide (0 ≤ id ∧ id < (l.length : Int)) <;> cases rightB l <;> cases decide (kN (nd l id.toNat) = k) <;> rfl
set_option maxHeartbeats 4000000 in
theorem opIsA_any (v : Value) (l : List Nd) (id k : Int) (w : World) (hv : NodesV w v l) (hz : DocSz l) (hT : KTabs w) :
    Calls Tryd.prog 24 #[v, .int .i64 id, .int .i64 k] w fun e w' => e = .returned (.bool (isAB l id k)) ∧ Below w.heap.size w w' := by
  obtain ⟨p, c, rfl, hv⟩ := hv
  by_cases h0 : 0 ≤ id
  · by_cases h1 : id < (l.length : Int)
    · obtain ⟨m, rfl⟩ : ∃ m : Nat, id = (m : Int) := ⟨id.toNat, by omega⟩
      have hm : m < l.length := by omega
      rcases hv with hv | ⟨b, o, rfl, hv⟩
      · rw [hv] at hm; simp at hm
      obtain ⟨va, vk, N⟩ := hv m hm
      have nz := hz.nds _ (List.getElem_mem hm)
      have HO := hide (of_any l[m] va vk w hT N.at_ nz.attrs nz.tx)
      have E : Hid (isAB l (m : Int) k = (kOf l[m].name (tyOf l[m].attrs) == k)) := by
        show _ = _
        rw [isA_at hm]
        unfold kN
        cases q : (kOf l[m].name (tyOf l[m].attrs) == k) with
        | true => exact decide_eq_true (by simpa using q)
        | false => exact decide_eq_false (by simpa using q)
      obtain ⟨pa, ca, rfl, hxx⟩ := N.at_
      clear hxx
      obtain ⟨pk, ck, rfl, hxx⟩ := N.ks
      clear hxx
      have c0 := N.name
      have c1 := N.text
      have c2 := N.attrs
      have c3 := N.parent
      have c4 := N.kids
      clear N hv hz hT nz
      generalize kOf l[m].name (tyOf l[m].attrs) = kk at *
      generalize l[m].name = n0 at *
      generalize l[m].text = n1 at *
      generalize l[m].parent = n3 at *
      generalize l[m].attrs.length = n5 at *
      generalize l[m].kids.length = n6 at *
      go_enter Tryd.func24, Tryd.ntmps24
      go_wp2_with fail
      refine HO.out.mono ?_
      rintro e w1 ⟨rfl, b1⟩
      go_wp2_with fail
      go_ret
      exact ⟨ret_bool E.out.symm, b1⟩
    · have E := hide (isA_out (l := l) (id := id) (k := k) (fun t => h1 t.2))
      have d1 : decide (id < (l.length : Int)) = false := decide_eq_false h1
      clear hv hz hT
      go_enter Tryd.func24, Tryd.ntmps24
      go_wp2_with fail
      go_ret
      exact ⟨ret_bool E.out.symm, Below.refl _ _⟩
  · have E := hide (isA_out (l := l) (id := id) (k := k) (fun t => h0 t.1))
    have d0 : decide (0 ≤ id) = false := decide_eq_false h0
    clear hv hz hT
    go_enter Tryd.func24, Tryd.ntmps24
    go_wp2_with fail
    go_ret
    exact ⟨ret_bool E.out.symm, Below.refl _ _⟩
end Go.Proofs.YtemikdmkjgmflaaDoor

namespace Go.Proofs.YtemikdmkjgmflaaDoor
open Go.RowKit
set_option maxRecDepth 100000
/-- A node that lies in the world, told by its number. -/
theorem node_of {w : World} {p : Option Addr} {c : Nat} {l : List Nd} (hv : NodesV w (.slice p l.length c) l) {m : Nat} (hm : m < l.length) : ∃ b o va pk nk ck, p = some ⟨b, o, none⟩ ∧ NodeAt w b (o + m * 5) l[m] va (.slice pk nk ck) := by
  obtain ⟨p', c', e, h⟩ := hv
  cases e
  rcases h with h | ⟨b, o, rfl, h⟩
  · rw [h] at hm; cases hm
  · obtain ⟨va, vk, N⟩ := h m hm
    obtain ⟨pk, ck, rfl, hxx⟩ := N.ks
    clear hxx
    exact ⟨b, o, va, pk, _, ck, rfl, N⟩
/-- Where an option is off, as the program asks. -/
def offA (l : List Nd) (m : Nat) : Bool := hasA (nd l m) oDis || (isAB l (parI l (m : Int)) 33 && hasA (nd l (parI l (m : Int)).toNat) oDis)
theorem isA_grp {l : List Nd} {p : Int} (hp : p < (l.length : Int)) : isAB l p 33 = grpI l p := by
  unfold isAB grpI nmI kN
  by_cases h0 : 0 ≤ p
  · rw [decide_eq_true (show 0 ≤ p ∧ p < (l.length : Int) from ⟨h0, hp⟩), decide_eq_true h0, Bool.true_and, Bool.true_and, Bool.eq_iff_iff, decide_eq_true_iff, decide_eq_true_iff]
    exact kOf_grp
  · rw [decide_eq_false (show ¬ (0 ≤ p ∧ p < (l.length : Int)) from fun t => h0 t.1), decide_eq_false h0]; rfl
theorem off_is {l : List Nd} (hR : Right l) {m : Nat} (hm : m < l.length) (hk : isK l (m : Int) 32 = true) : offP l (m : Int) = offA l m := by
  have hp : parI l (m : Int) < (l.length : Int) := by rw [parI_at hm]; have := (hR.par m hm).2; rw [nd_at hm] at this; exact this
  unfold offP offA
  rw [hk, Bool.true_and, Int.toNat_natCast, isA_grp hp]
/-- An option's select, as the program asks. -/
def selB (l : List Nd) (m : Nat) : Int := let u := if isAB l (parI l (m : Int)) 33 = true then parI l (parI l (m : Int)) else parI l (m : Int); if isAB l u 23 = true then u else -1
theorem parI_lt {l : List Nd} (hR : Right l) {i : Int} (h0 : 0 ≤ i) (h1 : i < (l.length : Int)) : parI l i < (l.length : Int) := by
  obtain ⟨m, rfl⟩ : ∃ m : Nat, i = (m : Int) := ⟨i.toNat, by omega⟩
  have hm : m < l.length := by omega
  rw [parI_at hm]
  have := (hR.par m hm).2
  rwa [nd_at hm] at this
theorem isA_sel {l : List Nd} {p : Int} (hp : p < (l.length : Int)) : isAB l p 23 = (decide (0 ≤ p) && decide (nmI l p = oSel)) := by
  unfold isAB nmI kN
  by_cases h0 : 0 ≤ p
  · rw [decide_eq_true (show 0 ≤ p ∧ p < (l.length : Int) from ⟨h0, hp⟩), decide_eq_true h0, Bool.true_and, Bool.true_and, Bool.eq_iff_iff, decide_eq_true_iff, decide_eq_true_iff]
    exact kOf_sel
  · rw [decide_eq_false (show ¬ (0 ≤ p ∧ p < (l.length : Int)) from fun t => h0 t.1), decide_eq_false h0]; rfl
theorem sel_is {l : List Nd} (hR : Right l) {m : Nat} (hm : m < l.length) : selB l m = ownP l (m : Int) := by
  have hp : parI l (m : Int) < (l.length : Int) := parI_lt hR (by omega) (by omega)
  have eu : (if isAB l (parI l (m : Int)) 33 = true then parI l (parI l (m : Int)) else parI l (m : Int)) = upI l (m : Int) := by unfold upI; rw [isA_grp hp]
  have hu : upI l (m : Int) < (l.length : Int) := by
    unfold upI
    split
    · rename_i g
      unfold grpI at g
      rw [Bool.and_eq_true, decide_eq_true_eq] at g
      exact parI_lt hR g.1 hp
    · exact hp
  unfold selB ownP
  rw [eu]
  show (if isAB l (upI l (m : Int)) 23 = true then _ else _) = _
  rw [isA_sel hu]
  by_cases h0 : 0 ≤ upI l (m : Int)
  · by_cases h1 : nmI l (upI l (m : Int)) = oSel
    · rw [decide_eq_true h0, decide_eq_true h1, if_pos (show (true && true) = true from rfl), if_neg]
      rintro (t | t)
      · omega
      · exact t h1
    · rw [decide_eq_false h1, Bool.and_false, if_neg (by decide), if_pos (.inr h1)]
  · rw [decide_eq_false h0, Bool.false_and, if_neg (by decide), if_pos (.inl (by omega))]
theorem rd_eq {l : List Nd} {C : List Ct} : rightD l C = (((C.length : Int) == (l.length : Int)) && rightB l) := by
  unfold rightD
  rw [Bool.and_comm]
  congr 1
  rw [Bool.eq_iff_iff, decide_eq_true_iff, beq_iff_eq]
  omega
theorem nds_formG {w : World} {v : Value} {l : List Nd} (h : NodesV w v l) : ∃ p c, v = .slice p l.length c := by
  obtain ⟨p, c, e, _⟩ := h
  exact ⟨p, c, e⟩
theorem cts_formG {w : World} {v : Value} {C : List Ct} (h : CtsV w v C) : ∃ p c, v = .slice p C.length c := by
  obtain ⟨_, _, p, c, e, _⟩ := h
  exact ⟨p, c, e⟩
set_option maxHeartbeats 4000000 in
theorem opIsOff_any (v : Value) (l : List Nd) (m : Nat) (w : World) (hv : NodesV w v l) (hz : DocSz l) (hm : m < l.length) (hp : parI l (m : Int) < (l.length : Int)) (hT : KTabs w) :
    Calls Tryd.prog 26 #[v, .int .i64 (m : Int)] w fun e w' => e = .returned (.bool (offA l m)) ∧ Below w.heap.size w w' := by
  obtain ⟨p, c, rfl⟩ := nds_formG hv
  have HV := hide hv
  obtain ⟨b, o, va, pk, nk, ck, rfl, N⟩ := node_of hv hm
  have nz := hz.nds _ (List.getElem_mem hm)
  have HD := hide (opHas_any l[m] va pk nk ck oDis w N.at_ nz.attrs)
  have HA := hide (fun W (hb : Below w.heap.size w W) => opIsA_any (.slice (some ⟨b, o, none⟩) l.length c) l l[m].parent 33 W (HV.out.below hb) hz (hT.below hb))
  have EQ : Hid (offA l m = (hasA l[m] oDis || (isAB l l[m].parent 33 && hasA (nd l l[m].parent.toNat) oDis))) := by show _ = _; unfold offA; rw [parI_at hm, nd_at hm]
  rw [parI_at hm] at hp
  obtain ⟨pa, ca, rfl, hxx⟩ := N.at_
  clear hxx
  have c0 := N.name
  have c1 := N.text
  have c2 := N.attrs
  have c3 := N.parent
  have c4 := N.kids
  have m0 : (0 : Int) ≤ (m : Int) := by omega
  have m1 : (m : Int) < (l.length : Int) := by omega
  have HZ := hide hz
  clear N nz hv hz hT
  rw [show oDis = ⟨#[100, 105, 115, 97, 98, 108, 101, 100]⟩ from rfl] at HD EQ
  generalize hasA l[m] ⟨#[100, 105, 115, 97, 98, 108, 101, 100]⟩ = d1 at *
  generalize offA l m = R at *
  generalize l[m].name = n0 at *
  generalize l[m].text = n1 at *
  generalize l[m].parent = n3 at *
  generalize l[m].attrs.length = n5 at *
  cases d1 with
  | true =>
    clear HA
    go_enter Tryd.func26, Tryd.ntmps26
    go_wp2_with fail
    refine HD.out.mono ?_
    rintro e w1 ⟨rfl, b1⟩
    go_wp2_with fail
    go_ret
    exact ⟨ret_bool (by rw [EQ.out]; rfl), b1⟩
  | false =>
    cases g : isAB l n3 33 with
    | false =>
      rw [g] at HA
      go_enter Tryd.func26, Tryd.ntmps26
      go_wp2_with fail
      refine HD.out.mono ?_
      rintro e w1 ⟨rfl, b1⟩
      go_wp2_with fail
      refine (HA.out _ b1).mono ?_
      rintro e w2 ⟨rfl, b2⟩
      go_wp2_with fail
      go_ret
      exact ⟨ret_bool (by rw [EQ.out, g]; rfl), chain b1 b2⟩
    | true =>
      have g0 : 0 ≤ n3 := by
        apply Classical.byContradiction
        intro q
        rw [isA_out (fun t => q t.1)] at g
        cases g
      obtain ⟨q, rfl⟩ : ∃ q : Nat, n3 = (q : Int) := ⟨n3.toNat, by omega⟩
      have hq : q < l.length := by omega
      obtain ⟨b', o', vb, pl, nl, cl, e, N0⟩ := node_of HV.out hq
      cases e
      have nz := HZ.out.nds _ (List.getElem_mem hq)
      have N0 := hide N0
      have HE := hide (fun W (hb : Below w.heap.size w W) => opHas_any l[q] vb pl nl cl oDis W (N0.out.at_.below hb) nz.attrs)
      rw [g, Int.toNat_natCast, nd_at hq] at EQ
      rw [g] at HA
      rw [show oDis = ⟨#[100, 105, 115, 97, 98, 108, 101, 100]⟩ from rfl] at HE
      obtain ⟨pb, cb, rfl, hxx⟩ := N0.out.at_
      clear hxx
      have q0 : (0 : Int) ≤ (q : Int) := by omega
      have q1 : (q : Int) < (l.length : Int) := by omega
      clear nz HZ g HV
      generalize hasA l[q] ⟨#[100, 105, 115, 97, 98, 108, 101, 100]⟩ = d2 at *
      go_enter Tryd.func26, Tryd.ntmps26
      go_wp2_with fail
      refine HD.out.mono ?_
      rintro e w1 ⟨rfl, b1⟩
      go_wp2_with fail
      refine (HA.out _ b1).mono ?_
      rintro e w2 ⟨rfl, b2⟩
      have bb := chain b1 b2
      have u0 := cell_below N0.out.name bb
      have u1 := cell_below N0.out.text bb
      have u2 := cell_below N0.out.attrs bb
      have u3 := cell_below N0.out.parent bb
      have u4 := cell_below N0.out.kids bb
      go_wp2_with fail
      refine (HE.out _ bb).mono ?_
      rintro e w3 ⟨rfl, b3⟩
      go_wp2_with fail
      go_ret
      exact ⟨ret_bool (by rw [EQ.out]; cases d2 <;> rfl), chain bb b3⟩
set_option maxHeartbeats 4000000 in
theorem opSelectOf_any (v : Value) (l : List Nd) (m : Nat) (w : World) (hv : NodesV w v l) (hz : DocSz l) (hm : m < l.length) (hp : parI l (m : Int) < (l.length : Int)) (hT : KTabs w) :
    Calls Tryd.prog 25 #[v, .int .i64 (m : Int)] w fun e w' => e = .returned (.int .i64 (selB l m)) ∧ Below w.heap.size w w' := by
  obtain ⟨p, c, rfl⟩ := nds_formG hv
  have HV := hide hv
  obtain ⟨b, o, va, pk, nk, ck, rfl, N⟩ := node_of hv hm
  have HA := hide (fun z W (hb : Below w.heap.size w W) => opIsA_any (.slice (some ⟨b, o, none⟩) l.length c) l z 33 W (HV.out.below hb) hz (hT.below hb))
  have HS := hide (fun z W (hb : Below w.heap.size w W) => opIsA_any (.slice (some ⟨b, o, none⟩) l.length c) l z 23 W (HV.out.below hb) hz (hT.below hb))
  have EQ : Hid (selB l m = if isAB l (if isAB l l[m].parent 33 = true then parI l l[m].parent else l[m].parent) 23 = true then (if isAB l l[m].parent 33 = true then parI l l[m].parent else l[m].parent) else -1) := by show _ = _; unfold selB; rw [parI_at hm]
  rw [parI_at hm] at hp
  have c3 := N.parent
  have m0 : (0 : Int) ≤ (m : Int) := by omega
  have m1 : (m : Int) < (l.length : Int) := by omega
  clear N hv hz hT
  generalize selB l m = R at *
  generalize l[m].parent = n3 at *
  cases g : isAB l n3 33 with
  | false =>
    have HG := hide (fun W (hb : Below w.heap.size w W) => HA.out n3 W hb)
    have HS1 := hide (fun W (hb : Below w.heap.size w W) => HS.out n3 W hb)
    rw [g] at HG EQ
    rw [if_neg (by decide : ¬ false = true)] at EQ
    clear HA HS
    cases s : isAB l n3 23 with
    | false =>
      rw [s] at HS1 EQ
      rw [if_neg (by decide)] at EQ
      go_enter Tryd.func25, Tryd.ntmps25
      go_wp2_with fail
      refine (HG.out _ (Below.refl _ _)).mono ?_
      rintro e w1 ⟨rfl, b1⟩
      go_wp2_with fail
      refine (HS1.out _ b1).mono ?_
      rintro e w2 ⟨rfl, b2⟩
      go_wp2_with fail
      go_ret
      exact ⟨ret_int EQ.out.symm, chain b1 b2⟩
    | true =>
      rw [s] at HS1 EQ
      rw [if_pos rfl] at EQ
      go_enter Tryd.func25, Tryd.ntmps25
      go_wp2_with fail
      refine (HG.out _ (Below.refl _ _)).mono ?_
      rintro e w1 ⟨rfl, b1⟩
      go_wp2_with fail
      refine (HS1.out _ b1).mono ?_
      rintro e w2 ⟨rfl, b2⟩
      go_wp2_with fail
      go_ret
      exact ⟨ret_int EQ.out.symm, chain b1 b2⟩
  | true =>
    have g0 : 0 ≤ n3 := by
      apply Classical.byContradiction
      intro q
      rw [isA_out (fun t => q t.1)] at g
      cases g
    obtain ⟨q, rfl⟩ : ∃ q : Nat, n3 = (q : Int) := ⟨n3.toNat, by omega⟩
    have hq : q < l.length := by omega
    obtain ⟨b', o', vb, pl, nl, cl, e, N0⟩ := node_of HV.out hq
    cases e
    have N0 := hide N0
    have HG := hide (fun W (hb : Below w.heap.size w W) => HA.out (q : Int) W hb)
    rw [g] at HG EQ
    rw [if_pos rfl, parI_at hq] at EQ
    have HS1 := hide (fun W (hb : Below w.heap.size w W) => HS.out l[q].parent W hb)
    have q0 : (0 : Int) ≤ (q : Int) := by omega
    have q1 : (q : Int) < (l.length : Int) := by omega
    clear HA HS HV g
    have P3 := hide (fun W (hb : Below w.heap.size w W) => cell_below N0.out.parent hb)
    clear N0
    generalize l[q].parent = z at *
    cases s : isAB l z 23 with
    | false =>
      rw [s] at HS1 EQ
      rw [if_neg (by decide)] at EQ
      go_enter Tryd.func25, Tryd.ntmps25
      go_wp2_with fail
      refine (HG.out _ (Below.refl _ _)).mono ?_
      rintro e w1 ⟨rfl, b1⟩
      have p3 := P3.out _ b1
      go_wp2_with fail
      refine (HS1.out _ b1).mono ?_
      rintro e w2 ⟨rfl, b2⟩
      go_wp2_with fail
      go_ret
      exact ⟨ret_int EQ.out.symm, chain b1 b2⟩
    | true =>
      rw [s] at HS1 EQ
      rw [if_pos rfl] at EQ
      go_enter Tryd.func25, Tryd.ntmps25
      go_wp2_with fail
      refine (HG.out _ (Below.refl _ _)).mono ?_
      rintro e w1 ⟨rfl, b1⟩
      have p3 := P3.out _ b1
      go_wp2_with fail
      refine (HS1.out _ b1).mono ?_
      rintro e w2 ⟨rfl, b2⟩
      go_wp2_with fail
      go_ret
      exact ⟨ret_int EQ.out.symm, chain b1 b2⟩
set_option maxHeartbeats 4000000 in
theorem opRightG_any (nv cv : Value) (l : List Nd) (C : List Ct) (w : World) (hD : DocV w nv cv l C) (hz : DocSz l) :
    Calls Tryd.prog 21 #[.agg #[nv, cv]] w fun e w' => e = .returned (.bool (rightD l C)) ∧ Below w.heap.size w w' := by
  have B0 : Hid (Below w.heap.size w (w.alloc (.cells #[nv, cv] 25))) := (Below.refl _ w).alloc (Nat.le_refl _) _
  have HR := hide (right_any nv l (w.alloc (.cells #[nv, cv] 25)) (hD.nds.below B0.out) hz)
  obtain ⟨p, c, rfl⟩ := nds_formG hD.nds
  obtain ⟨pc, cc, rfl⟩ := cts_formG hD.cts
  have EQ := hide (rd_eq (l := l) (C := C))
  clear hD hz
  generalize rightD l C = R at *
  generalize rightB l = rb at *
  cases q : ((C.length : Int) == (l.length : Int)) with
  | true =>
    have q' : (C.length : Int) = (l.length : Int) := by simpa using q
    rw [q] at EQ
    go_enter Tryd.func21, Tryd.ntmps21
    go_wp2_with fail
    refine HR.out.mono ?_
    rintro e w1 ⟨rfl, b1⟩
    go_wp2_with fail
    go_ret
    exact ⟨ret_bool (by rw [EQ.out]; rfl), chain B0.out b1⟩
  | false =>
    rw [q] at EQ
    clear HR
    go_enter Tryd.func21, Tryd.ntmps21
    go_wp2_with fail
    go_ret
    exact ⟨ret_bool (by rw [EQ.out]; rfl), B0.out⟩
end Go.Proofs.YtemikdmkjgmflaaDoor

namespace Go.Proofs.YtemikdmkjgmflaaDoor
open Go.RowKit
set_option maxRecDepth 100000
structure OEnv (w W : World) (nv cv ov : Value) (C : List Ct) (F : List Value) (av : Value) (all : List Int) : Prop where
  bel : Below w.heap.size w W
  doc : Bk W w.heap.size [nv, cv] 25
  row : CtsO (w.heap.size + 1) W ov C F
  kid : KidsO (w.heap.size + 1) W av all
  sep : ∀ k, av.ownBlock = some k → ov.ownBlock ≠ some k
theorem OEnv.step {w W W' : World} {nv cv ov av : Value} {C : List Ct} {F : List Value} {all : List Int} (h : OEnv w W nv cv ov C F av all) (b : Below W.heap.size W W') : OEnv w W' nv cv ov C F av all :=
  ⟨chain h.bel b, h.doc.below b, h.row.kept b, owns_kept h.kid (Chg.of_below b) (fun _ _ q => by cases q), h.sep⟩
theorem OEnv.drew {w W : World} {nv cv ov av : Value} {C : List Ct} {F : List Value} {all : List Int} (h : OEnv w W nv cv ov C F av all) (n : Nat) : OEnv w (W.drewN n) nv cv ov C F av all :=
  h.step ⟨rfl, rfl, rfl, Nat.le_refl _, fun _ _ => rfl⟩
/-- At the begin: the document alone. -/
theorem OEnv.new (w : World) (nv cv : Value) : OEnv w (w.alloc (.cells #[nv, cv] 25)) nv cv (.slice none 0 0) [] [] (.slice none 0 0) [] :=
  ⟨(Below.refl _ w).alloc (Nat.le_refl _) _, Bk.new w [nv, cv] _, ⟨rfl, World.ownsRow_nil _ _ _ _⟩, World.ownsRow_nil _ _ _ _, fun _ q => by cases q⟩
theorem OEnv.big {w W : World} {nv cv ov av : Value} {C : List Ct} {F : List Value} {all : List Int} (h : OEnv w W nv cv ov C F av all) : w.heap.size + 1 ≤ W.heap.size := h.doc.lt
/-- The states are others now, in their own place. -/
theorem OEnv.other {w W W' : World} {nv cv ov av : Value} {C C' : List Ct} {F : List Value} {all : List Int} (h : OEnv w W nv cv ov C F av all) (c : Chg ov.ownBlock.toList W W') (hr : CtsO (w.heap.size + 1) W' ov C' F) : OEnv w W' nv cv ov C' F av all := by
  have ge : ∀ k ∈ ov.ownBlock.toList, w.heap.size + 1 ≤ k := fun k q => (World.ownsRow.lt h.row.row k (opt_mem.1 q)).1
  refine ⟨h.bel.trans (c.below (by have := h.big; omega) (fun k q => by have := ge k q; omega)), ⟨?_⟩, hr, owns_kept h.kid c (fun k hk q => h.sep k hk (opt_mem.1 q)), h.sep⟩
  have := h.doc.lies
  rw [← this]
  exact c.block _ h.doc.lt (fun q => by have := ge _ q; omega)
theorem last_ge (C : List Ct) (all : List Int) (h : ∀ i ∈ all, 0 ≤ i) : 0 ≤ lastP C all ∨ lastP C all = -1 := by
  by_cases q : 0 ≤ lastP C all
  · exact .inl q
  · exact .inr (lastP_none (last_none h q))
theorem st_nat {C : List Ct} {q : Nat} (h : q < C.length) : st C (q : Int) = C[q] := by unfold st; rw [Int.toNat_natCast, List.getD_eq_getElem?_getD, List.getElem?_eq_getElem h]; rfl

end Go.Proofs.YtemikdmkjgmflaaDoor
