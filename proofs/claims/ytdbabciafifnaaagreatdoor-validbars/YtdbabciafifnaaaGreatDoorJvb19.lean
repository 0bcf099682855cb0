/- The questions of kinds, of the document. The document's Of of layer 11. -/
import Derived.Test.YtdbabciafifnaaaGreatDoorJvb20
import Derived.Deep.DeepCutAuto

namespace Go.Proofs.YtdbabciafifnaaaGreatDoor
open Go.RowKit
set_option maxHeartbeats 4000000 in
set_option maxRecDepth 100000 in
theorem refIs_2 (k : Int) (w : World) :
    Calls Tryz.prog 16 #[.int .i64 2, .int .i64 k] w fun e w' => e = .returned (.bool (subB k)) ∧ w' = w := by
  rcases (show (k ≤ 0) ∨ (1 ≤ k ∧ k ≤ 22) ∨ (k = 23) ∨ (k = 24) ∨ (k = 25) ∨ (k = 26) ∨ (k = 27) ∨ (28 ≤ k) by omega) with q | q | q | q | q | q | q | q
  all_goals
    first | (have e1 : ¬ (1 ≤ k) := by omega) | (have e1 : 1 ≤ k := by omega)
    first | (have d1 : decide (1 ≤ k) = false := decide_eq_false e1) | (have d1 : decide (1 ≤ k) = true := decide_eq_true e1)
    first | (have e2 : k ≤ 22 := by omega) | (have e2 : ¬ (k ≤ 22) := by omega)
    first | (have d2 : decide (k ≤ 22) = true := decide_eq_true e2) | (have d2 : decide (k ≤ 22) = false := decide_eq_false e2)
    first | (have e3 : (k == 23) = false := by rw [beq_eq_false_iff_ne]; omega) | (have e3 : (k == 23) = true := by rw [beq_iff_eq]; omega)
    first | (have n3 : ¬ k = 23 := by omega) | (have n3 : (k != 23) = false := by unfold bne; rw [e3]; rfl)
    first | (have e4 : (k == 24) = false := by rw [beq_eq_false_iff_ne]; omega) | (have e4 : (k == 24) = true := by rw [beq_iff_eq]; omega)
    first | (have n4 : ¬ k = 24 := by omega) | (have n4 : (k != 24) = false := by unfold bne; rw [e4]; rfl)
    first | (have e5 : (k == 25) = false := by rw [beq_eq_false_iff_ne]; omega) | (have e5 : (k == 25) = true := by rw [beq_iff_eq]; omega)
    first | (have n5 : ¬ k = 25 := by omega) | (have n5 : (k != 25) = false := by unfold bne; rw [e5]; rfl)
    first | (have e6 : (k == 26) = false := by rw [beq_eq_false_iff_ne]; omega) | (have e6 : (k == 26) = true := by rw [beq_iff_eq]; omega)
    first | (have n6 : ¬ k = 26 := by omega) | (have n6 : (k != 26) = false := by unfold bne; rw [e6]; rfl)
    first | (have e7 : (k == 27) = false := by rw [beq_eq_false_iff_ne]; omega) | (have e7 : (k == 27) = true := by rw [beq_iff_eq]; omega)
    first | (have n7 : ¬ k = 27 := by omega) | (have n7 : (k != 27) = false := by unfold bne; rw [e7]; rfl)
    first | (have E := hide (show subB k = false from decide_eq_false (by omega))) | (have E := hide (show subB k = true from decide_eq_true (by omega)))
    clear q
    go_enter Tryz.func16, Tryz.ntmps16
    go_wp2_with fail
    go_ret
    exact ⟨ret_bool E.out.symm, rfl⟩
end Go.Proofs.YtdbabciafifnaaaGreatDoor

namespace Go.Proofs.YtdbabciafifnaaaGreatDoor
open Go.RowKit
set_option maxRecDepth 100000
/-- The text that the document looks at. -/
def tyT (o : Option ByteArray) : ByteArray := match o with
  | none => ⟨#[]⟩
  | some t => t
theorem byT_input (o : Option ByteArray) : byT o 1 22 2 = kInt (seekR (tyT o) 1 22 30 0) 2 := by
  cases o with
  | none =>
    show (2 : Int) = kInt (seekR ⟨#[]⟩ 1 22 30 0) 2
    rw [seek_empty]; rfl
  | some t => rfl
theorem byT_button (o : Option ByteArray) : byT o 25 27 25 = if tyT o = ⟨#[114, 101, 115, 101, 116]⟩ then 26 else if tyT o = ⟨#[98, 117, 116, 116, 111, 110]⟩ then 27 else 25 := by
  cases o with
  | none =>
    show (25 : Int) = if (⟨#[]⟩ : ByteArray) = ⟨#[114, 101, 115, 101, 116]⟩ then 26 else if (⟨#[]⟩ : ByteArray) = ⟨#[98, 117, 116, 116, 111, 110]⟩ then 27 else 25
    rw [if_neg (by decide), if_neg (by decide)]
  | some t => exact seek_button t
set_option maxHeartbeats 4000000 in
set_option maxRecDepth 100000 in
theorem refOf_input (n : Nd) (va vk : Value) (w : World) (ha : AttrsV w va n.attrs) (hl : n.attrs.length ≤ 4398046511104) (hs : ∀ a ∈ n.attrs, a.2.size ≤ 140737488351232) (h : n.name = ⟨#[105, 110, 112, 117, 116]⟩) :
    Calls Tryz.prog 15 #[.agg #[.string n.name, .string n.text, va, .int .i64 n.parent, vk]] w fun e w' => e = .returned (.int .i64 (byT (tyOf n.attrs) 1 22 2)) ∧ Below w.heap.size w w' := by
  have t0 : (n.name.toList == [105, 110, 112, 117, 116]) = true := lit_yes h
  have t1 : (n.name.toList == [98, 117, 116, 116, 111, 110]) = false := by rw [h, ByteArray.toList_eq]; rfl
  have t2 : (n.name.toList == [115, 101, 108, 101, 99, 116]) = false := by rw [h, ByteArray.toList_eq]; rfl
  have t3 : (n.name.toList == [116, 101, 120, 116, 97, 114, 101, 97]) = false := by rw [h, ByteArray.toList_eq]; rfl
  have t4 : (n.name.toList == [111, 117, 116, 112, 117, 116]) = false := by rw [h, ByteArray.toList_eq]; rfl
  have t5 : (n.name.toList == [102, 105, 101, 108, 100, 115, 101, 116]) = false := by rw [h, ByteArray.toList_eq]; rfl
  have t6 : (n.name.toList == [102, 111, 114, 109]) = false := by rw [h, ByteArray.toList_eq]; rfl
  have t7 : (n.name.toList == [108, 97, 98, 101, 108]) = false := by rw [h, ByteArray.toList_eq]; rfl
  have t8 : (n.name.toList == [111, 112, 116, 105, 111, 110]) = false := by rw [h, ByteArray.toList_eq]; rfl
  have t9 : (n.name.toList == [111, 112, 116, 103, 114, 111, 117, 112]) = false := by rw [h, ByteArray.toList_eq]; rfl
  have t10 : (n.name.toList == [108, 101, 103, 101, 110, 100]) = false := by rw [h, ByteArray.toList_eq]; rfl
  have t11 : (n.name.toList == [100, 97, 116, 97, 108, 105, 115, 116]) = false := by rw [h, ByteArray.toList_eq]; rfl
  clear h
  have B0 : Hid (Below w.heap.size w (w.alloc (.cells #[.string n.name, .string n.text, va, .int .i64 n.parent, vk] 38))) := (Below.refl _ w).alloc (Nat.le_refl _) _
  have HF := hide (refFind_any va n.attrs tyS (w.alloc (.cells #[.string n.name, .string n.text, va, .int .i64 n.parent, vk] 38)) (ha.below B0.out) hl)
  have ef : tyS = ⟨#[116, 121, 112, 101]⟩ := rfl
  rw [ef] at HF
  obtain ⟨p, c, rfl, hv⟩ := ha
  obtain ⟨s, hS⟩ : ∃ s, Hid (tyT (tyOf n.attrs) = s) := ⟨_, show _ = _ from rfl⟩
  cases hf : findA n.attrs tyS with
  | none =>
    have hE : s = ⟨#[]⟩ := by rw [← hS.out]; unfold tyOf; rw [hf]; rfl
    rw [show findA n.attrs ⟨#[116, 121, 112, 101]⟩ = none from hf, show findV none = -1 from rfl] at HF
    have es : s = ⟨#[]⟩ := hE
    have k0 : (w.alloc (.cells #[.string n.name, .string n.text, .slice p n.attrs.length c, .int .i64 n.parent, vk] 38)).cell? ⟨w.heap.size, 0, none⟩ = some (.string n.name) := by simp
    have k2 : (w.alloc (.cells #[.string n.name, .string n.text, .slice p n.attrs.length c, .int .i64 n.parent, vk] 38)).cell? ⟨w.heap.size, 2, none⟩ = some (.slice p n.attrs.length c) := by simp
    clear hv hs hf ef
    go_enter Tryz.func15, Tryz.ntmps15
    generalize n.name = nm at *
    go_wp2_with fail
    generalize w.alloc (.cells #[.string nm, .string n.text, .slice p n.attrs.length c, .int .i64 n.parent, vk] 38) = w0 at *
    refine HF.out.mono ?_
    rintro e u ⟨rfl, hu⟩
    obtain rfl : w0 = u := hu.symm
    go_upto_region 5 with fail
    rw [← es]
    clear es hE
    obtain ⟨A, hA⟩ : ∃ A, Hid (seekR s 1 22 30 0 = A) := ⟨_, show _ = _ from rfl⟩
    have E : Hid (byT (tyOf n.attrs) 1 22 2 = kInt A 2) := by show _ = _; rw [byT_input, hS.out, hA.out]
    go_wp2_with fail
    go_loop [5] (fun iv => ∃ k : Nat, 1 ≤ k ∧ k ≤ 23 ∧ iv = .int .i64 k ∧ Hid (seekR s 1 22 (30 - k) k = A)) (fun iv => 30 - (intOf iv).toNat)
    case atStart => exact ⟨1, by omega, by omega, rfl, (seek_from s).trans hA.out⟩
    case round =>
      obtain ⟨k, hk1, hk, rfl, hn⟩ := hrel
      clear hA
      by_cases hlt : k < 23
      · have HT := hide (refType_any (k : Int))
        rw [typeS_nat (show k < 30 by omega)] at HT
        have kk : (k : Int) ≤ 22 := by omega
        have TB := hide (txt_beq (typeN k) s)
        have hb : btwB (k : Int) ((1 : Nat) : Int) ((22 : Nat) : Int) = true := decide_eq_true (by omega)
        by_cases he : typeN k = s
        · have q : ((typeN k).toList == s.toList) = true := by rw [TB.out]; exact decide_eq_true he
          have N := hide (seek_hit (show k < 30 by omega) hn.out hb he)
          clear hb hn he
          generalize typeN k = x at *
          go_wp2_with fail
          refine (HT.out _).mono ?_
          rintro e u ⟨rfl, hu⟩
          obtain rfl : w0 = u := hu.symm
          go_wp2_with fail
          go_ret
          exact ⟨by rw [E.out, N.out]; rfl, B0.out⟩
        · have q : ((typeN k).toList == s.toList) = false := by rw [TB.out]; exact decide_eq_false he
          have N := hide (seek_miss (show k < 30 by omega) hn.out (.inr he))
          clear hb hn he
          generalize typeN k = x at *
          go_wp2_with fail
          refine (HT.out _).mono ?_
          rintro e u ⟨rfl, hu⟩
          obtain rfl : w0 = u := hu.symm
          go_wp2_with fail
          go_round
          case rel => exact ⟨k + 1, by omega, by omega, by go_num, N⟩
          case measure => simp [intOf]; omega
      · obtain rfl : k = 23 := by omega
        have N : Hid (A = none) := hn.out.symm.trans (seek_to s)
        clear hn hlt
        go_wp2_with fail
        go_ret
        exact ⟨by rw [E.out, N.out]; rfl, B0.out⟩
  | some i =>
    obtain ⟨hi, _, _⟩ := List.findIdx?_eq_some_iff_getElem.1 (show n.attrs.findIdx? (isN tyS) = some i from hf)
    obtain ⟨t, ht⟩ : ∃ t, Hid (n.attrs[i].2 = t) := ⟨_, show _ = _ from rfl⟩
    have hE : Hid (lowS t = s) := by
      show _ = _
      rw [← hS.out]
      unfold tyOf
      rw [hf, ← ht.out]
      show lowS n.attrs[i].2 = lowS (n.attrs.getD i at0).2
      rw [show n.attrs.getD i at0 = n.attrs[i] by simp [List.getD, hi]]
    rw [show findA n.attrs ⟨#[116, 121, 112, 101]⟩ = some i from hf, show findV (some i) = (i : Int) from rfl] at HF
    have i0 : (0 : Int) ≤ (i : Int) := by omega
    have i1 : (i : Int) < (n.attrs.length : Int) := by omega
    have ts := hs _ (List.getElem_mem hi)
    rw [ht.out] at ts
    have HL := hide (fun W => refLower_reach t W ts)
    rw [hE.out] at HL
    obtain ⟨b, o, rfl, hv2⟩ : ∃ b o, p = some ⟨b, o, none⟩ ∧ ∀ i (h : i < n.attrs.length), w.cell? ⟨b, o + i * 2, none⟩ = some (.string n.attrs[i].1) ∧ w.cell? ⟨b, o + i * 2 + 1, none⟩ = some (.string n.attrs[i].2) := by
      rcases hv with t | t
      · rw [t] at hi; simp at hi
      · exact t
    have c1 := cell_below (hv2 i hi).2 B0.out
    rw [ht.out] at c1
    have k0 : (w.alloc (.cells #[.string n.name, .string n.text, .slice (some ⟨b, o, none⟩) n.attrs.length c, .int .i64 n.parent, vk] 38)).cell? ⟨w.heap.size, 0, none⟩ = some (.string n.name) := by simp
    have k2 : (w.alloc (.cells #[.string n.name, .string n.text, .slice (some ⟨b, o, none⟩) n.attrs.length c, .int .i64 n.parent, vk] 38)).cell? ⟨w.heap.size, 2, none⟩ = some (.slice (some ⟨b, o, none⟩) n.attrs.length c) := by simp
    clear hf hv hv2 hs ef
    go_enter Tryz.func15, Tryz.ntmps15
    generalize n.name = nm at *
    go_wp2_with fail
    generalize w.alloc (.cells #[.string nm, .string n.text, .slice (some ⟨b, o, none⟩) n.attrs.length c, .int .i64 n.parent, vk] 38) = w0 at *
    refine HF.out.mono ?_
    rintro e u ⟨rfl, hu⟩
    obtain rfl : w0 = u := hu.symm
    go_wp2_with fail
    refine (HL.out _).mono ?_
    rintro e w2 ⟨rfl, b2⟩
    have B2 := hide (chain B0.out b2)
    have m0 := cell_below k0 b2
    clear k0 k2 c1 b2
    obtain ⟨A, hA⟩ : ∃ A, Hid (seekR s 1 22 30 0 = A) := ⟨_, show _ = _ from rfl⟩
    have E : Hid (byT (tyOf n.attrs) 1 22 2 = kInt A 2) := by show _ = _; rw [byT_input, hS.out, hA.out]
    go_wp2_with fail
    go_loop [5] (fun iv => ∃ k : Nat, 1 ≤ k ∧ k ≤ 23 ∧ iv = .int .i64 k ∧ Hid (seekR s 1 22 (30 - k) k = A)) (fun iv => 30 - (intOf iv).toNat)
    case atStart => exact ⟨1, by omega, by omega, rfl, (seek_from s).trans hA.out⟩
    case round =>
      obtain ⟨k, hk1, hk, rfl, hn⟩ := hrel
      clear hA
      by_cases hlt : k < 23
      · have HT := hide (refType_any (k : Int))
        rw [typeS_nat (show k < 30 by omega)] at HT
        have kk : (k : Int) ≤ 22 := by omega
        have TB := hide (txt_beq (typeN k) s)
        have hb : btwB (k : Int) ((1 : Nat) : Int) ((22 : Nat) : Int) = true := decide_eq_true (by omega)
        by_cases he : typeN k = s
        · have q : ((typeN k).toList == s.toList) = true := by rw [TB.out]; exact decide_eq_true he
          have N := hide (seek_hit (show k < 30 by omega) hn.out hb he)
          clear hb hn he
          generalize typeN k = x at *
          go_wp2_with fail
          refine (HT.out _).mono ?_
          rintro e u ⟨rfl, hu⟩
          obtain rfl : w2 = u := hu.symm
          go_wp2_with fail
          go_ret
          exact ⟨by rw [E.out, N.out]; rfl, B2.out⟩
        · have q : ((typeN k).toList == s.toList) = false := by rw [TB.out]; exact decide_eq_false he
          have N := hide (seek_miss (show k < 30 by omega) hn.out (.inr he))
          clear hb hn he
          generalize typeN k = x at *
          go_wp2_with fail
          refine (HT.out _).mono ?_
          rintro e u ⟨rfl, hu⟩
          obtain rfl : w2 = u := hu.symm
          go_wp2_with fail
          go_round
          case rel => exact ⟨k + 1, by omega, by omega, by go_num, N⟩
          case measure => simp [intOf]; omega
      · obtain rfl : k = 23 := by omega
        have N : Hid (A = none) := hn.out.symm.trans (seek_to s)
        clear hn hlt
        go_wp2_with fail
        go_ret
        exact ⟨by rw [E.out, N.out]; rfl, B2.out⟩
set_option maxHeartbeats 4000000 in
set_option maxRecDepth 100000 in
theorem refOf_button (n : Nd) (va vk : Value) (w : World) (ha : AttrsV w va n.attrs) (hl : n.attrs.length ≤ 4398046511104) (hs : ∀ a ∈ n.attrs, a.2.size ≤ 140737488351232) (h : n.name = ⟨#[98, 117, 116, 116, 111, 110]⟩) :
    Calls Tryz.prog 15 #[.agg #[.string n.name, .string n.text, va, .int .i64 n.parent, vk]] w fun e w' => e = .returned (.int .i64 (byT (tyOf n.attrs) 25 27 25)) ∧ Below w.heap.size w w' := by
  have t0 : (n.name.toList == [105, 110, 112, 117, 116]) = false := by rw [h, ByteArray.toList_eq]; rfl
  have t1 : (n.name.toList == [98, 117, 116, 116, 111, 110]) = true := lit_yes h
  have t2 : (n.name.toList == [115, 101, 108, 101, 99, 116]) = false := by rw [h, ByteArray.toList_eq]; rfl
  have t3 : (n.name.toList == [116, 101, 120, 116, 97, 114, 101, 97]) = false := by rw [h, ByteArray.toList_eq]; rfl
  have t4 : (n.name.toList == [111, 117, 116, 112, 117, 116]) = false := by rw [h, ByteArray.toList_eq]; rfl
  have t5 : (n.name.toList == [102, 105, 101, 108, 100, 115, 101, 116]) = false := by rw [h, ByteArray.toList_eq]; rfl
  have t6 : (n.name.toList == [102, 111, 114, 109]) = false := by rw [h, ByteArray.toList_eq]; rfl
  have t7 : (n.name.toList == [108, 97, 98, 101, 108]) = false := by rw [h, ByteArray.toList_eq]; rfl
  have t8 : (n.name.toList == [111, 112, 116, 105, 111, 110]) = false := by rw [h, ByteArray.toList_eq]; rfl
  have t9 : (n.name.toList == [111, 112, 116, 103, 114, 111, 117, 112]) = false := by rw [h, ByteArray.toList_eq]; rfl
  have t10 : (n.name.toList == [108, 101, 103, 101, 110, 100]) = false := by rw [h, ByteArray.toList_eq]; rfl
  have t11 : (n.name.toList == [100, 97, 116, 97, 108, 105, 115, 116]) = false := by rw [h, ByteArray.toList_eq]; rfl
  clear h
  have B0 : Hid (Below w.heap.size w (w.alloc (.cells #[.string n.name, .string n.text, va, .int .i64 n.parent, vk] 38))) := (Below.refl _ w).alloc (Nat.le_refl _) _
  have HF := hide (refFind_any va n.attrs tyS (w.alloc (.cells #[.string n.name, .string n.text, va, .int .i64 n.parent, vk] 38)) (ha.below B0.out) hl)
  have ef : tyS = ⟨#[116, 121, 112, 101]⟩ := rfl
  rw [ef] at HF
  obtain ⟨p, c, rfl, hv⟩ := ha
  obtain ⟨s, hS⟩ : ∃ s, Hid (tyT (tyOf n.attrs) = s) := ⟨_, show _ = _ from rfl⟩
  cases hf : findA n.attrs tyS with
  | none =>
    have hE : s = ⟨#[]⟩ := by rw [← hS.out]; unfold tyOf; rw [hf]; rfl
    rw [show findA n.attrs ⟨#[116, 121, 112, 101]⟩ = none from hf, show findV none = -1 from rfl] at HF
    have es : s = ⟨#[]⟩ := hE
    have k0 : (w.alloc (.cells #[.string n.name, .string n.text, .slice p n.attrs.length c, .int .i64 n.parent, vk] 38)).cell? ⟨w.heap.size, 0, none⟩ = some (.string n.name) := by simp
    have k2 : (w.alloc (.cells #[.string n.name, .string n.text, .slice p n.attrs.length c, .int .i64 n.parent, vk] 38)).cell? ⟨w.heap.size, 2, none⟩ = some (.slice p n.attrs.length c) := by simp
    clear hv hs hf ef
    go_enter Tryz.func15, Tryz.ntmps15
    generalize n.name = nm at *
    go_wp2_with fail
    generalize w.alloc (.cells #[.string nm, .string n.text, .slice p n.attrs.length c, .int .i64 n.parent, vk] 38) = w0 at *
    refine HF.out.mono ?_
    rintro e u ⟨rfl, hu⟩
    obtain rfl : w0 = u := hu.symm
    go_upto_region 5 with fail
    rw [← es]
    clear es hE
    have E := hide (byT_button (tyOf n.attrs))
    rw [hS.out] at E
    by_cases q1 : s = ⟨#[114, 101, 115, 101, 116]⟩
    · have f1 : (s.toList == [114, 101, 115, 101, 116]) = true := lit_yes q1
      rw [if_pos q1] at E
      clear q1
      go_wp2_with fail
      go_ret
      exact ⟨ret_int E.out.symm, B0.out⟩
    · have f1 : (s.toList == [114, 101, 115, 101, 116]) = false := lit_no q1
      rw [if_neg q1] at E
      by_cases q2 : s = ⟨#[98, 117, 116, 116, 111, 110]⟩
      · have f2 : (s.toList == [98, 117, 116, 116, 111, 110]) = true := lit_yes q2
        rw [if_pos q2] at E
        clear q1 q2
        go_wp2_with fail
        go_ret
        exact ⟨ret_int E.out.symm, B0.out⟩
      · have f2 : (s.toList == [98, 117, 116, 116, 111, 110]) = false := lit_no q2
        rw [if_neg q2] at E
        clear q1 q2
        go_wp2_with fail
        go_ret
        exact ⟨ret_int E.out.symm, B0.out⟩
  | some i =>
    obtain ⟨hi, _, _⟩ := List.findIdx?_eq_some_iff_getElem.1 (show n.attrs.findIdx? (isN tyS) = some i from hf)
    obtain ⟨t, ht⟩ : ∃ t, Hid (n.attrs[i].2 = t) := ⟨_, show _ = _ from rfl⟩
    have hE : Hid (lowS t = s) := by
      show _ = _
      rw [← hS.out]
      unfold tyOf
      rw [hf, ← ht.out]
      show lowS n.attrs[i].2 = lowS (n.attrs.getD i at0).2
      rw [show n.attrs.getD i at0 = n.attrs[i] by simp [List.getD, hi]]
    rw [show findA n.attrs ⟨#[116, 121, 112, 101]⟩ = some i from hf, show findV (some i) = (i : Int) from rfl] at HF
    have i0 : (0 : Int) ≤ (i : Int) := by omega
    have i1 : (i : Int) < (n.attrs.length : Int) := by omega
    have ts := hs _ (List.getElem_mem hi)
    rw [ht.out] at ts
    have HL := hide (fun W => refLower_reach t W ts)
    rw [hE.out] at HL
    obtain ⟨b, o, rfl, hv2⟩ : ∃ b o, p = some ⟨b, o, none⟩ ∧ ∀ i (h : i < n.attrs.length), w.cell? ⟨b, o + i * 2, none⟩ = some (.string n.attrs[i].1) ∧ w.cell? ⟨b, o + i * 2 + 1, none⟩ = some (.string n.attrs[i].2) := by
      rcases hv with t | t
      · rw [t] at hi; simp at hi
      · exact t
    have c1 := cell_below (hv2 i hi).2 B0.out
    rw [ht.out] at c1
    have k0 : (w.alloc (.cells #[.string n.name, .string n.text, .slice (some ⟨b, o, none⟩) n.attrs.length c, .int .i64 n.parent, vk] 38)).cell? ⟨w.heap.size, 0, none⟩ = some (.string n.name) := by simp
    have k2 : (w.alloc (.cells #[.string n.name, .string n.text, .slice (some ⟨b, o, none⟩) n.attrs.length c, .int .i64 n.parent, vk] 38)).cell? ⟨w.heap.size, 2, none⟩ = some (.slice (some ⟨b, o, none⟩) n.attrs.length c) := by simp
    clear hf hv hv2 hs ef
    go_enter Tryz.func15, Tryz.ntmps15
    generalize n.name = nm at *
    go_wp2_with fail
    generalize w.alloc (.cells #[.string nm, .string n.text, .slice (some ⟨b, o, none⟩) n.attrs.length c, .int .i64 n.parent, vk] 38) = w0 at *
    refine HF.out.mono ?_
    rintro e u ⟨rfl, hu⟩
    obtain rfl : w0 = u := hu.symm
    go_wp2_with fail
    refine (HL.out _).mono ?_
    rintro e w2 ⟨rfl, b2⟩
    have B2 := hide (chain B0.out b2)
    have m0 := cell_below k0 b2
    clear k0 k2 c1 b2
    have E := hide (byT_button (tyOf n.attrs))
    rw [hS.out] at E
    by_cases q1 : s = ⟨#[114, 101, 115, 101, 116]⟩
    · have f1 : (s.toList == [114, 101, 115, 101, 116]) = true := lit_yes q1
      rw [if_pos q1] at E
      clear q1
      go_wp2_with fail
      go_ret
      exact ⟨ret_int E.out.symm, B2.out⟩
    · have f1 : (s.toList == [114, 101, 115, 101, 116]) = false := lit_no q1
      rw [if_neg q1] at E
      by_cases q2 : s = ⟨#[98, 117, 116, 116, 111, 110]⟩
      · have f2 : (s.toList == [98, 117, 116, 116, 111, 110]) = true := lit_yes q2
        rw [if_pos q2] at E
        clear q1 q2
        go_wp2_with fail
        go_ret
        exact ⟨ret_int E.out.symm, B2.out⟩
      · have f2 : (s.toList == [98, 117, 116, 116, 111, 110]) = false := lit_no q2
        rw [if_neg q2] at E
        clear q1 q2
        go_wp2_with fail
        go_ret
        exact ⟨ret_int E.out.symm, B2.out⟩
set_option maxHeartbeats 4000000 in
set_option maxRecDepth 100000 in
theorem refOf_select (n : Nd) (va vk : Value) (w : World) (ha : AttrsV w va n.attrs) (hl : n.attrs.length ≤ 4398046511104) (hs : ∀ a ∈ n.attrs, a.2.size ≤ 140737488351232) (h : n.name = ⟨#[115, 101, 108, 101, 99, 116]⟩) :
    Calls Tryz.prog 15 #[.agg #[.string n.name, .string n.text, va, .int .i64 n.parent, vk]] w fun e w' => e = .returned (.int .i64 (23)) ∧ Below w.heap.size w w' := by
  have t0 : (n.name.toList == [105, 110, 112, 117, 116]) = false := by rw [h, ByteArray.toList_eq]; rfl
  have t1 : (n.name.toList == [98, 117, 116, 116, 111, 110]) = false := by rw [h, ByteArray.toList_eq]; rfl
  have t2 : (n.name.toList == [115, 101, 108, 101, 99, 116]) = true := lit_yes h
  have t3 : (n.name.toList == [116, 101, 120, 116, 97, 114, 101, 97]) = false := by rw [h, ByteArray.toList_eq]; rfl
  have t4 : (n.name.toList == [111, 117, 116, 112, 117, 116]) = false := by rw [h, ByteArray.toList_eq]; rfl
  have t5 : (n.name.toList == [102, 105, 101, 108, 100, 115, 101, 116]) = false := by rw [h, ByteArray.toList_eq]; rfl
  have t6 : (n.name.toList == [102, 111, 114, 109]) = false := by rw [h, ByteArray.toList_eq]; rfl
  have t7 : (n.name.toList == [108, 97, 98, 101, 108]) = false := by rw [h, ByteArray.toList_eq]; rfl
  have t8 : (n.name.toList == [111, 112, 116, 105, 111, 110]) = false := by rw [h, ByteArray.toList_eq]; rfl
  have t9 : (n.name.toList == [111, 112, 116, 103, 114, 111, 117, 112]) = false := by rw [h, ByteArray.toList_eq]; rfl
  have t10 : (n.name.toList == [108, 101, 103, 101, 110, 100]) = false := by rw [h, ByteArray.toList_eq]; rfl
  have t11 : (n.name.toList == [100, 97, 116, 97, 108, 105, 115, 116]) = false := by rw [h, ByteArray.toList_eq]; rfl
  clear h
  have B0 : Hid (Below w.heap.size w (w.alloc (.cells #[.string n.name, .string n.text, va, .int .i64 n.parent, vk] 38))) := (Below.refl _ w).alloc (Nat.le_refl _) _
  have HF := hide (refFind_any va n.attrs tyS (w.alloc (.cells #[.string n.name, .string n.text, va, .int .i64 n.parent, vk] 38)) (ha.below B0.out) hl)
  have ef : tyS = ⟨#[116, 121, 112, 101]⟩ := rfl
  rw [ef] at HF
  obtain ⟨p, c, rfl, hv⟩ := ha
  obtain ⟨s, hS⟩ : ∃ s, Hid (tyT (tyOf n.attrs) = s) := ⟨_, show _ = _ from rfl⟩
  cases hf : findA n.attrs tyS with
  | none =>
    have hE : s = ⟨#[]⟩ := by rw [← hS.out]; unfold tyOf; rw [hf]; rfl
    rw [show findA n.attrs ⟨#[116, 121, 112, 101]⟩ = none from hf, show findV none = -1 from rfl] at HF
    have es : s = ⟨#[]⟩ := hE
    have k0 : (w.alloc (.cells #[.string n.name, .string n.text, .slice p n.attrs.length c, .int .i64 n.parent, vk] 38)).cell? ⟨w.heap.size, 0, none⟩ = some (.string n.name) := by simp
    have k2 : (w.alloc (.cells #[.string n.name, .string n.text, .slice p n.attrs.length c, .int .i64 n.parent, vk] 38)).cell? ⟨w.heap.size, 2, none⟩ = some (.slice p n.attrs.length c) := by simp
    clear hv hs hf ef
    go_enter Tryz.func15, Tryz.ntmps15
    generalize n.name = nm at *
    go_wp2_with fail
    generalize w.alloc (.cells #[.string nm, .string n.text, .slice p n.attrs.length c, .int .i64 n.parent, vk] 38) = w0 at *
    refine HF.out.mono ?_
    rintro e u ⟨rfl, hu⟩
    obtain rfl : w0 = u := hu.symm
    go_upto_region 5 with fail
    rw [← es]
    clear es hE
    go_wp2_with fail
    go_ret
    exact ⟨rfl, B0.out⟩
  | some i =>
    obtain ⟨hi, _, _⟩ := List.findIdx?_eq_some_iff_getElem.1 (show n.attrs.findIdx? (isN tyS) = some i from hf)
    obtain ⟨t, ht⟩ : ∃ t, Hid (n.attrs[i].2 = t) := ⟨_, show _ = _ from rfl⟩
    have hE : Hid (lowS t = s) := by
      show _ = _
      rw [← hS.out]
      unfold tyOf
      rw [hf, ← ht.out]
      show lowS n.attrs[i].2 = lowS (n.attrs.getD i at0).2
      rw [show n.attrs.getD i at0 = n.attrs[i] by simp [List.getD, hi]]
    rw [show findA n.attrs ⟨#[116, 121, 112, 101]⟩ = some i from hf, show findV (some i) = (i : Int) from rfl] at HF
    have i0 : (0 : Int) ≤ (i : Int) := by omega
    have i1 : (i : Int) < (n.attrs.length : Int) := by omega
    have ts := hs _ (List.getElem_mem hi)
    rw [ht.out] at ts
    have HL := hide (fun W => refLower_reach t W ts)
    rw [hE.out] at HL
    obtain ⟨b, o, rfl, hv2⟩ : ∃ b o, p = some ⟨b, o, none⟩ ∧ ∀ i (h : i < n.attrs.length), w.cell? ⟨b, o + i * 2, none⟩ = some (.string n.attrs[i].1) ∧ w.cell? ⟨b, o + i * 2 + 1, none⟩ = some (.string n.attrs[i].2) := by
      rcases hv with t | t
      · rw [t] at hi; simp at hi
      · exact t
    have c1 := cell_below (hv2 i hi).2 B0.out
    rw [ht.out] at c1
    have k0 : (w.alloc (.cells #[.string n.name, .string n.text, .slice (some ⟨b, o, none⟩) n.attrs.length c, .int .i64 n.parent, vk] 38)).cell? ⟨w.heap.size, 0, none⟩ = some (.string n.name) := by simp
    have k2 : (w.alloc (.cells #[.string n.name, .string n.text, .slice (some ⟨b, o, none⟩) n.attrs.length c, .int .i64 n.parent, vk] 38)).cell? ⟨w.heap.size, 2, none⟩ = some (.slice (some ⟨b, o, none⟩) n.attrs.length c) := by simp
    clear hf hv hv2 hs ef
    go_enter Tryz.func15, Tryz.ntmps15
    generalize n.name = nm at *
    go_wp2_with fail
    generalize w.alloc (.cells #[.string nm, .string n.text, .slice (some ⟨b, o, none⟩) n.attrs.length c, .int .i64 n.parent, vk] 38) = w0 at *
    refine HF.out.mono ?_
    rintro e u ⟨rfl, hu⟩
    obtain rfl : w0 = u := hu.symm
    go_wp2_with fail
    refine (HL.out _).mono ?_
    rintro e w2 ⟨rfl, b2⟩
    have B2 := hide (chain B0.out b2)
    have m0 := cell_below k0 b2
    clear k0 k2 c1 b2
    go_wp2_with fail
    go_ret
    exact ⟨rfl, B2.out⟩
set_option maxHeartbeats 4000000 in
set_option maxRecDepth 100000 in
theorem refOf_textarea (n : Nd) (va vk : Value) (w : World) (ha : AttrsV w va n.attrs) (hl : n.attrs.length ≤ 4398046511104) (hs : ∀ a ∈ n.attrs, a.2.size ≤ 140737488351232) (h : n.name = ⟨#[116, 101, 120, 116, 97, 114, 101, 97]⟩) :
    Calls Tryz.prog 15 #[.agg #[.string n.name, .string n.text, va, .int .i64 n.parent, vk]] w fun e w' => e = .returned (.int .i64 (24)) ∧ Below w.heap.size w w' := by
  have t0 : (n.name.toList == [105, 110, 112, 117, 116]) = false := by rw [h, ByteArray.toList_eq]; rfl
  have t1 : (n.name.toList == [98, 117, 116, 116, 111, 110]) = false := by rw [h, ByteArray.toList_eq]; rfl
  have t2 : (n.name.toList == [115, 101, 108, 101, 99, 116]) = false := by rw [h, ByteArray.toList_eq]; rfl
  have t3 : (n.name.toList == [116, 101, 120, 116, 97, 114, 101, 97]) = true := lit_yes h
  have t4 : (n.name.toList == [111, 117, 116, 112, 117, 116]) = false := by rw [h, ByteArray.toList_eq]; rfl
  have t5 : (n.name.toList == [102, 105, 101, 108, 100, 115, 101, 116]) = false := by rw [h, ByteArray.toList_eq]; rfl
  have t6 : (n.name.toList == [102, 111, 114, 109]) = false := by rw [h, ByteArray.toList_eq]; rfl
  have t7 : (n.name.toList == [108, 97, 98, 101, 108]) = false := by rw [h, ByteArray.toList_eq]; rfl
  have t8 : (n.name.toList == [111, 112, 116, 105, 111, 110]) = false := by rw [h, ByteArray.toList_eq]; rfl
  have t9 : (n.name.toList == [111, 112, 116, 103, 114, 111, 117, 112]) = false := by rw [h, ByteArray.toList_eq]; rfl
  have t10 : (n.name.toList == [108, 101, 103, 101, 110, 100]) = false := by rw [h, ByteArray.toList_eq]; rfl
  have t11 : (n.name.toList == [100, 97, 116, 97, 108, 105, 115, 116]) = false := by rw [h, ByteArray.toList_eq]; rfl
  clear h
  have B0 : Hid (Below w.heap.size w (w.alloc (.cells #[.string n.name, .string n.text, va, .int .i64 n.parent, vk] 38))) := (Below.refl _ w).alloc (Nat.le_refl _) _
  have HF := hide (refFind_any va n.attrs tyS (w.alloc (.cells #[.string n.name, .string n.text, va, .int .i64 n.parent, vk] 38)) (ha.below B0.out) hl)
  have ef : tyS = ⟨#[116, 121, 112, 101]⟩ := rfl
  rw [ef] at HF
  obtain ⟨p, c, rfl, hv⟩ := ha
  obtain ⟨s, hS⟩ : ∃ s, Hid (tyT (tyOf n.attrs) = s) := ⟨_, show _ = _ from rfl⟩
  cases hf : findA n.attrs tyS with
  | none =>
    have hE : s = ⟨#[]⟩ := by rw [← hS.out]; unfold tyOf; rw [hf]; rfl
    rw [show findA n.attrs ⟨#[116, 121, 112, 101]⟩ = none from hf, show findV none = -1 from rfl] at HF
    have es : s = ⟨#[]⟩ := hE
    have k0 : (w.alloc (.cells #[.string n.name, .string n.text, .slice p n.attrs.length c, .int .i64 n.parent, vk] 38)).cell? ⟨w.heap.size, 0, none⟩ = some (.string n.name) := by simp
    have k2 : (w.alloc (.cells #[.string n.name, .string n.text, .slice p n.attrs.length c, .int .i64 n.parent, vk] 38)).cell? ⟨w.heap.size, 2, none⟩ = some (.slice p n.attrs.length c) := by simp
    clear hv hs hf ef
    go_enter Tryz.func15, Tryz.ntmps15
    generalize n.name = nm at *
    go_wp2_with fail
    generalize w.alloc (.cells #[.string nm, .string n.text, .slice p n.attrs.length c, .int .i64 n.parent, vk] 38) = w0 at *
    refine HF.out.mono ?_
    rintro e u ⟨rfl, hu⟩
    obtain rfl : w0 = u := hu.symm
    go_upto_region 5 with fail
    rw [← es]
    clear es hE
    go_wp2_with fail
    go_ret
    exact ⟨rfl, B0.out⟩
  | some i =>
    obtain ⟨hi, _, _⟩ := List.findIdx?_eq_some_iff_getElem.1 (show n.attrs.findIdx? (isN tyS) = some i from hf)
    obtain ⟨t, ht⟩ : ∃ t, Hid (n.attrs[i].2 = t) := ⟨_, show _ = _ from rfl⟩
    have hE : Hid (lowS t = s) := by
      show _ = _
      rw [← hS.out]
      unfold tyOf
      rw [hf, ← ht.out]
      show lowS n.attrs[i].2 = lowS (n.attrs.getD i at0).2
      rw [show n.attrs.getD i at0 = n.attrs[i] by simp [List.getD, hi]]
    rw [show findA n.attrs ⟨#[116, 121, 112, 101]⟩ = some i from hf, show findV (some i) = (i : Int) from rfl] at HF
    have i0 : (0 : Int) ≤ (i : Int) := by omega
    have i1 : (i : Int) < (n.attrs.length : Int) := by omega
    have ts := hs _ (List.getElem_mem hi)
    rw [ht.out] at ts
    have HL := hide (fun W => refLower_reach t W ts)
    rw [hE.out] at HL
    obtain ⟨b, o, rfl, hv2⟩ : ∃ b o, p = some ⟨b, o, none⟩ ∧ ∀ i (h : i < n.attrs.length), w.cell? ⟨b, o + i * 2, none⟩ = some (.string n.attrs[i].1) ∧ w.cell? ⟨b, o + i * 2 + 1, none⟩ = some (.string n.attrs[i].2) := by
      rcases hv with t | t
      · rw [t] at hi; simp at hi
      · exact t
    have c1 := cell_below (hv2 i hi).2 B0.out
    rw [ht.out] at c1
    have k0 : (w.alloc (.cells #[.string n.name, .string n.text, .slice (some ⟨b, o, none⟩) n.attrs.length c, .int .i64 n.parent, vk] 38)).cell? ⟨w.heap.size, 0, none⟩ = some (.string n.name) := by simp
    have k2 : (w.alloc (.cells #[.string n.name, .string n.text, .slice (some ⟨b, o, none⟩) n.attrs.length c, .int .i64 n.parent, vk] 38)).cell? ⟨w.heap.size, 2, none⟩ = some (.slice (some ⟨b, o, none⟩) n.attrs.length c) := by simp
    clear hf hv hv2 hs ef
    go_enter Tryz.func15, Tryz.ntmps15
    generalize n.name = nm at *
    go_wp2_with fail
    generalize w.alloc (.cells #[.string nm, .string n.text, .slice (some ⟨b, o, none⟩) n.attrs.length c, .int .i64 n.parent, vk] 38) = w0 at *
    refine HF.out.mono ?_
    rintro e u ⟨rfl, hu⟩
    obtain rfl : w0 = u := hu.symm
    go_wp2_with fail
    refine (HL.out _).mono ?_
    rintro e w2 ⟨rfl, b2⟩
    have B2 := hide (chain B0.out b2)
    have m0 := cell_below k0 b2
    clear k0 k2 c1 b2
    go_wp2_with fail
    go_ret
    exact ⟨rfl, B2.out⟩
set_option maxHeartbeats 4000000 in
set_option maxRecDepth 100000 in
theorem refOf_output (n : Nd) (va vk : Value) (w : World) (ha : AttrsV w va n.attrs) (hl : n.attrs.length ≤ 4398046511104) (hs : ∀ a ∈ n.attrs, a.2.size ≤ 140737488351232) (h : n.name = ⟨#[111, 117, 116, 112, 117, 116]⟩) :
    Calls Tryz.prog 15 #[.agg #[.string n.name, .string n.text, va, .int .i64 n.parent, vk]] w fun e w' => e = .returned (.int .i64 (28)) ∧ Below w.heap.size w w' := by
  have t0 : (n.name.toList == [105, 110, 112, 117, 116]) = false := by rw [h, ByteArray.toList_eq]; rfl
  have t1 : (n.name.toList == [98, 117, 116, 116, 111, 110]) = false := by rw [h, ByteArray.toList_eq]; rfl
  have t2 : (n.name.toList == [115, 101, 108, 101, 99, 116]) = false := by rw [h, ByteArray.toList_eq]; rfl
  have t3 : (n.name.toList == [116, 101, 120, 116, 97, 114, 101, 97]) = false := by rw [h, ByteArray.toList_eq]; rfl
  have t4 : (n.name.toList == [111, 117, 116, 112, 117, 116]) = true := lit_yes h
  have t5 : (n.name.toList == [102, 105, 101, 108, 100, 115, 101, 116]) = false := by rw [h, ByteArray.toList_eq]; rfl
  have t6 : (n.name.toList == [102, 111, 114, 109]) = false := by rw [h, ByteArray.toList_eq]; rfl
  have t7 : (n.name.toList == [108, 97, 98, 101, 108]) = false := by rw [h, ByteArray.toList_eq]; rfl
  have t8 : (n.name.toList == [111, 112, 116, 105, 111, 110]) = false := by rw [h, ByteArray.toList_eq]; rfl
  have t9 : (n.name.toList == [111, 112, 116, 103, 114, 111, 117, 112]) = false := by rw [h, ByteArray.toList_eq]; rfl
  have t10 : (n.name.toList == [108, 101, 103, 101, 110, 100]) = false := by rw [h, ByteArray.toList_eq]; rfl
  have t11 : (n.name.toList == [100, 97, 116, 97, 108, 105, 115, 116]) = false := by rw [h, ByteArray.toList_eq]; rfl
  clear h
  have B0 : Hid (Below w.heap.size w (w.alloc (.cells #[.string n.name, .string n.text, va, .int .i64 n.parent, vk] 38))) := (Below.refl _ w).alloc (Nat.le_refl _) _
  have HF := hide (refFind_any va n.attrs tyS (w.alloc (.cells #[.string n.name, .string n.text, va, .int .i64 n.parent, vk] 38)) (ha.below B0.out) hl)
  have ef : tyS = ⟨#[116, 121, 112, 101]⟩ := rfl
  rw [ef] at HF
  obtain ⟨p, c, rfl, hv⟩ := ha
  obtain ⟨s, hS⟩ : ∃ s, Hid (tyT (tyOf n.attrs) = s) := ⟨_, show _ = _ from rfl⟩
  cases hf : findA n.attrs tyS with
  | none =>
    have hE : s = ⟨#[]⟩ := by rw [← hS.out]; unfold tyOf; rw [hf]; rfl
    rw [show findA n.attrs ⟨#[116, 121, 112, 101]⟩ = none from hf, show findV none = -1 from rfl] at HF
    have es : s = ⟨#[]⟩ := hE
    have k0 : (w.alloc (.cells #[.string n.name, .string n.text, .slice p n.attrs.length c, .int .i64 n.parent, vk] 38)).cell? ⟨w.heap.size, 0, none⟩ = some (.string n.name) := by simp
    have k2 : (w.alloc (.cells #[.string n.name, .string n.text, .slice p n.attrs.length c, .int .i64 n.parent, vk] 38)).cell? ⟨w.heap.size, 2, none⟩ = some (.slice p n.attrs.length c) := by simp
    clear hv hs hf ef
    go_enter Tryz.func15, Tryz.ntmps15
    generalize n.name = nm at *
    go_wp2_with fail
    generalize w.alloc (.cells #[.string nm, .string n.text, .slice p n.attrs.length c, .int .i64 n.parent, vk] 38) = w0 at *
    refine HF.out.mono ?_
    rintro e u ⟨rfl, hu⟩
    obtain rfl : w0 = u := hu.symm
    go_upto_region 5 with fail
    rw [← es]
    clear es hE
    go_wp2_with fail
    go_ret
    exact ⟨rfl, B0.out⟩
  | some i =>
    obtain ⟨hi, _, _⟩ := List.findIdx?_eq_some_iff_getElem.1 (show n.attrs.findIdx? (isN tyS) = some i from hf)
    obtain ⟨t, ht⟩ : ∃ t, Hid (n.attrs[i].2 = t) := ⟨_, show _ = _ from rfl⟩
    have hE : Hid (lowS t = s) := by
      show _ = _
      rw [← hS.out]
      unfold tyOf
      rw [hf, ← ht.out]
      show lowS n.attrs[i].2 = lowS (n.attrs.getD i at0).2
      rw [show n.attrs.getD i at0 = n.attrs[i] by simp [List.getD, hi]]
    rw [show findA n.attrs ⟨#[116, 121, 112, 101]⟩ = some i from hf, show findV (some i) = (i : Int) from rfl] at HF
    have i0 : (0 : Int) ≤ (i : Int) := by omega
    have i1 : (i : Int) < (n.attrs.length : Int) := by omega
    have ts := hs _ (List.getElem_mem hi)
    rw [ht.out] at ts
    have HL := hide (fun W => refLower_reach t W ts)
    rw [hE.out] at HL
    obtain ⟨b, o, rfl, hv2⟩ : ∃ b o, p = some ⟨b, o, none⟩ ∧ ∀ i (h : i < n.attrs.length), w.cell? ⟨b, o + i * 2, none⟩ = some (.string n.attrs[i].1) ∧ w.cell? ⟨b, o + i * 2 + 1, none⟩ = some (.string n.attrs[i].2) := by
      rcases hv with t | t
      · rw [t] at hi; simp at hi
      · exact t
    have c1 := cell_below (hv2 i hi).2 B0.out
    rw [ht.out] at c1
    have k0 : (w.alloc (.cells #[.string n.name, .string n.text, .slice (some ⟨b, o, none⟩) n.attrs.length c, .int .i64 n.parent, vk] 38)).cell? ⟨w.heap.size, 0, none⟩ = some (.string n.name) := by simp
    have k2 : (w.alloc (.cells #[.string n.name, .string n.text, .slice (some ⟨b, o, none⟩) n.attrs.length c, .int .i64 n.parent, vk] 38)).cell? ⟨w.heap.size, 2, none⟩ = some (.slice (some ⟨b, o, none⟩) n.attrs.length c) := by simp
    clear hf hv hv2 hs ef
    go_enter Tryz.func15, Tryz.ntmps15
    generalize n.name = nm at *
    go_wp2_with fail
    generalize w.alloc (.cells #[.string nm, .string n.text, .slice (some ⟨b, o, none⟩) n.attrs.length c, .int .i64 n.parent, vk] 38) = w0 at *
    refine HF.out.mono ?_
    rintro e u ⟨rfl, hu⟩
    obtain rfl : w0 = u := hu.symm
    go_wp2_with fail
    refine (HL.out _).mono ?_
    rintro e w2 ⟨rfl, b2⟩
    have B2 := hide (chain B0.out b2)
    have m0 := cell_below k0 b2
    clear k0 k2 c1 b2
    go_wp2_with fail
    go_ret
    exact ⟨rfl, B2.out⟩
set_option maxHeartbeats 4000000 in
set_option maxRecDepth 100000 in
theorem refOf_fieldset (n : Nd) (va vk : Value) (w : World) (ha : AttrsV w va n.attrs) (hl : n.attrs.length ≤ 4398046511104) (hs : ∀ a ∈ n.attrs, a.2.size ≤ 140737488351232) (h : n.name = ⟨#[102, 105, 101, 108, 100, 115, 101, 116]⟩) :
    Calls Tryz.prog 15 #[.agg #[.string n.name, .string n.text, va, .int .i64 n.parent, vk]] w fun e w' => e = .returned (.int .i64 (29)) ∧ Below w.heap.size w w' := by
  have t0 : (n.name.toList == [105, 110, 112, 117, 116]) = false := by rw [h, ByteArray.toList_eq]; rfl
  have t1 : (n.name.toList == [98, 117, 116, 116, 111, 110]) = false := by rw [h, ByteArray.toList_eq]; rfl
  have t2 : (n.name.toList == [115, 101, 108, 101, 99, 116]) = false := by rw [h, ByteArray.toList_eq]; rfl
  have t3 : (n.name.toList == [116, 101, 120, 116, 97, 114, 101, 97]) = false := by rw [h, ByteArray.toList_eq]; rfl
  have t4 : (n.name.toList == [111, 117, 116, 112, 117, 116]) = false := by rw [h, ByteArray.toList_eq]; rfl
  have t5 : (n.name.toList == [102, 105, 101, 108, 100, 115, 101, 116]) = true := lit_yes h
  have t6 : (n.name.toList == [102, 111, 114, 109]) = false := by rw [h, ByteArray.toList_eq]; rfl
  have t7 : (n.name.toList == [108, 97, 98, 101, 108]) = false := by rw [h, ByteArray.toList_eq]; rfl
  have t8 : (n.name.toList == [111, 112, 116, 105, 111, 110]) = false := by rw [h, ByteArray.toList_eq]; rfl
  have t9 : (n.name.toList == [111, 112, 116, 103, 114, 111, 117, 112]) = false := by rw [h, ByteArray.toList_eq]; rfl
  have t10 : (n.name.toList == [108, 101, 103, 101, 110, 100]) = false := by rw [h, ByteArray.toList_eq]; rfl
  have t11 : (n.name.toList == [100, 97, 116, 97, 108, 105, 115, 116]) = false := by rw [h, ByteArray.toList_eq]; rfl
  clear h
  have B0 : Hid (Below w.heap.size w (w.alloc (.cells #[.string n.name, .string n.text, va, .int .i64 n.parent, vk] 38))) := (Below.refl _ w).alloc (Nat.le_refl _) _
  have HF := hide (refFind_any va n.attrs tyS (w.alloc (.cells #[.string n.name, .string n.text, va, .int .i64 n.parent, vk] 38)) (ha.below B0.out) hl)
  have ef : tyS = ⟨#[116, 121, 112, 101]⟩ := rfl
  rw [ef] at HF
  obtain ⟨p, c, rfl, hv⟩ := ha
  obtain ⟨s, hS⟩ : ∃ s, Hid (tyT (tyOf n.attrs) = s) := ⟨_, show _ = _ from rfl⟩
  cases hf : findA n.attrs tyS with
  | none =>
    have hE : s = ⟨#[]⟩ := by rw [← hS.out]; unfold tyOf; rw [hf]; rfl
    rw [show findA n.attrs ⟨#[116, 121, 112, 101]⟩ = none from hf, show findV none = -1 from rfl] at HF
    have es : s = ⟨#[]⟩ := hE
    have k0 : (w.alloc (.cells #[.string n.name, .string n.text, .slice p n.attrs.length c, .int .i64 n.parent, vk] 38)).cell? ⟨w.heap.size, 0, none⟩ = some (.string n.name) := by simp
    have k2 : (w.alloc (.cells #[.string n.name, .string n.text, .slice p n.attrs.length c, .int .i64 n.parent, vk] 38)).cell? ⟨w.heap.size, 2, none⟩ = some (.slice p n.attrs.length c) := by simp
    clear hv hs hf ef
    go_enter Tryz.func15, Tryz.ntmps15
    generalize n.name = nm at *
    go_wp2_with fail
    generalize w.alloc (.cells #[.string nm, .string n.text, .slice p n.attrs.length c, .int .i64 n.parent, vk] 38) = w0 at *
    refine HF.out.mono ?_
    rintro e u ⟨rfl, hu⟩
    obtain rfl : w0 = u := hu.symm
    go_upto_region 5 with fail
    rw [← es]
    clear es hE
    go_wp2_with fail
    go_ret
    exact ⟨rfl, B0.out⟩
  | some i =>
    obtain ⟨hi, _, _⟩ := List.findIdx?_eq_some_iff_getElem.1 (show n.attrs.findIdx? (isN tyS) = some i from hf)
    obtain ⟨t, ht⟩ : ∃ t, Hid (n.attrs[i].2 = t) := ⟨_, show _ = _ from rfl⟩
    have hE : Hid (lowS t = s) := by
      show _ = _
      rw [← hS.out]
      unfold tyOf
      rw [hf, ← ht.out]
      show lowS n.attrs[i].2 = lowS (n.attrs.getD i at0).2
      rw [show n.attrs.getD i at0 = n.attrs[i] by simp [List.getD, hi]]
    rw [show findA n.attrs ⟨#[116, 121, 112, 101]⟩ = some i from hf, show findV (some i) = (i : Int) from rfl] at HF
    have i0 : (0 : Int) ≤ (i : Int) := by omega
    have i1 : (i : Int) < (n.attrs.length : Int) := by omega
    have ts := hs _ (List.getElem_mem hi)
    rw [ht.out] at ts
    have HL := hide (fun W => refLower_reach t W ts)
    rw [hE.out] at HL
    obtain ⟨b, o, rfl, hv2⟩ : ∃ b o, p = some ⟨b, o, none⟩ ∧ ∀ i (h : i < n.attrs.length), w.cell? ⟨b, o + i * 2, none⟩ = some (.string n.attrs[i].1) ∧ w.cell? ⟨b, o + i * 2 + 1, none⟩ = some (.string n.attrs[i].2) := by
      rcases hv with t | t
      · rw [t] at hi; simp at hi
      · exact t
    have c1 := cell_below (hv2 i hi).2 B0.out
    rw [ht.out] at c1
    have k0 : (w.alloc (.cells #[.string n.name, .string n.text, .slice (some ⟨b, o, none⟩) n.attrs.length c, .int .i64 n.parent, vk] 38)).cell? ⟨w.heap.size, 0, none⟩ = some (.string n.name) := by simp
    have k2 : (w.alloc (.cells #[.string n.name, .string n.text, .slice (some ⟨b, o, none⟩) n.attrs.length c, .int .i64 n.parent, vk] 38)).cell? ⟨w.heap.size, 2, none⟩ = some (.slice (some ⟨b, o, none⟩) n.attrs.length c) := by simp
    clear hf hv hv2 hs ef
    go_enter Tryz.func15, Tryz.ntmps15
    generalize n.name = nm at *
    go_wp2_with fail
    generalize w.alloc (.cells #[.string nm, .string n.text, .slice (some ⟨b, o, none⟩) n.attrs.length c, .int .i64 n.parent, vk] 38) = w0 at *
    refine HF.out.mono ?_
    rintro e u ⟨rfl, hu⟩
    obtain rfl : w0 = u := hu.symm
    go_wp2_with fail
    refine (HL.out _).mono ?_
    rintro e w2 ⟨rfl, b2⟩
    have B2 := hide (chain B0.out b2)
    have m0 := cell_below k0 b2
    clear k0 k2 c1 b2
    go_wp2_with fail
    go_ret
    exact ⟨rfl, B2.out⟩
set_option maxHeartbeats 4000000 in
set_option maxRecDepth 100000 in
theorem refOf_form (n : Nd) (va vk : Value) (w : World) (ha : AttrsV w va n.attrs) (hl : n.attrs.length ≤ 4398046511104) (hs : ∀ a ∈ n.attrs, a.2.size ≤ 140737488351232) (h : n.name = ⟨#[102, 111, 114, 109]⟩) :
    Calls Tryz.prog 15 #[.agg #[.string n.name, .string n.text, va, .int .i64 n.parent, vk]] w fun e w' => e = .returned (.int .i64 (30)) ∧ Below w.heap.size w w' := by
  have t0 : (n.name.toList == [105, 110, 112, 117, 116]) = false := by rw [h, ByteArray.toList_eq]; rfl
  have t1 : (n.name.toList == [98, 117, 116, 116, 111, 110]) = false := by rw [h, ByteArray.toList_eq]; rfl
  have t2 : (n.name.toList == [115, 101, 108, 101, 99, 116]) = false := by rw [h, ByteArray.toList_eq]; rfl
  have t3 : (n.name.toList == [116, 101, 120, 116, 97, 114, 101, 97]) = false := by rw [h, ByteArray.toList_eq]; rfl
  have t4 : (n.name.toList == [111, 117, 116, 112, 117, 116]) = false := by rw [h, ByteArray.toList_eq]; rfl
  have t5 : (n.name.toList == [102, 105, 101, 108, 100, 115, 101, 116]) = false := by rw [h, ByteArray.toList_eq]; rfl
  have t6 : (n.name.toList == [102, 111, 114, 109]) = true := lit_yes h
  have t7 : (n.name.toList == [108, 97, 98, 101, 108]) = false := by rw [h, ByteArray.toList_eq]; rfl
  have t8 : (n.name.toList == [111, 112, 116, 105, 111, 110]) = false := by rw [h, ByteArray.toList_eq]; rfl
  have t9 : (n.name.toList == [111, 112, 116, 103, 114, 111, 117, 112]) = false := by rw [h, ByteArray.toList_eq]; rfl
  have t10 : (n.name.toList == [108, 101, 103, 101, 110, 100]) = false := by rw [h, ByteArray.toList_eq]; rfl
  have t11 : (n.name.toList == [100, 97, 116, 97, 108, 105, 115, 116]) = false := by rw [h, ByteArray.toList_eq]; rfl
  clear h
  have B0 : Hid (Below w.heap.size w (w.alloc (.cells #[.string n.name, .string n.text, va, .int .i64 n.parent, vk] 38))) := (Below.refl _ w).alloc (Nat.le_refl _) _
  have HF := hide (refFind_any va n.attrs tyS (w.alloc (.cells #[.string n.name, .string n.text, va, .int .i64 n.parent, vk] 38)) (ha.below B0.out) hl)
  have ef : tyS = ⟨#[116, 121, 112, 101]⟩ := rfl
  rw [ef] at HF
  obtain ⟨p, c, rfl, hv⟩ := ha
  obtain ⟨s, hS⟩ : ∃ s, Hid (tyT (tyOf n.attrs) = s) := ⟨_, show _ = _ from rfl⟩
  cases hf : findA n.attrs tyS with
  | none =>
    have hE : s = ⟨#[]⟩ := by rw [← hS.out]; unfold tyOf; rw [hf]; rfl
    rw [show findA n.attrs ⟨#[116, 121, 112, 101]⟩ = none from hf, show findV none = -1 from rfl] at HF
    have es : s = ⟨#[]⟩ := hE
    have k0 : (w.alloc (.cells #[.string n.name, .string n.text, .slice p n.attrs.length c, .int .i64 n.parent, vk] 38)).cell? ⟨w.heap.size, 0, none⟩ = some (.string n.name) := by simp
    have k2 : (w.alloc (.cells #[.string n.name, .string n.text, .slice p n.attrs.length c, .int .i64 n.parent, vk] 38)).cell? ⟨w.heap.size, 2, none⟩ = some (.slice p n.attrs.length c) := by simp
    clear hv hs hf ef
    go_enter Tryz.func15, Tryz.ntmps15
    generalize n.name = nm at *
    go_wp2_with fail
    generalize w.alloc (.cells #[.string nm, .string n.text, .slice p n.attrs.length c, .int .i64 n.parent, vk] 38) = w0 at *
    refine HF.out.mono ?_
    rintro e u ⟨rfl, hu⟩
    obtain rfl : w0 = u := hu.symm
    go_upto_region 5 with fail
    rw [← es]
    clear es hE
    go_wp2_with fail
    go_ret
    exact ⟨rfl, B0.out⟩
  | some i =>
    obtain ⟨hi, _, _⟩ := List.findIdx?_eq_some_iff_getElem.1 (show n.attrs.findIdx? (isN tyS) = some i from hf)
    obtain ⟨t, ht⟩ : ∃ t, Hid (n.attrs[i].2 = t) := ⟨_, show _ = _ from rfl⟩
    have hE : Hid (lowS t = s) := by
      show _ = _
      rw [← hS.out]
      unfold tyOf
      rw [hf, ← ht.out]
      show lowS n.attrs[i].2 = lowS (n.attrs.getD i at0).2
      rw [show n.attrs.getD i at0 = n.attrs[i] by simp [List.getD, hi]]
    rw [show findA n.attrs ⟨#[116, 121, 112, 101]⟩ = some i from hf, show findV (some i) = (i : Int) from rfl] at HF
    have i0 : (0 : Int) ≤ (i : Int) := by omega
    have i1 : (i : Int) < (n.attrs.length : Int) := by omega
    have ts := hs _ (List.getElem_mem hi)
    rw [ht.out] at ts
    have HL := hide (fun W => refLower_reach t W ts)
    rw [hE.out] at HL
    obtain ⟨b, o, rfl, hv2⟩ : ∃ b o, p = some ⟨b, o, none⟩ ∧ ∀ i (h : i < n.attrs.length), w.cell? ⟨b, o + i * 2, none⟩ = some (.string n.attrs[i].1) ∧ w.cell? ⟨b, o + i * 2 + 1, none⟩ = some (.string n.attrs[i].2) := by
      rcases hv with t | t
      · rw [t] at hi; simp at hi
      · exact t
    have c1 := cell_below (hv2 i hi).2 B0.out
    rw [ht.out] at c1
    have k0 : (w.alloc (.cells #[.string n.name, .string n.text, .slice (some ⟨b, o, none⟩) n.attrs.length c, .int .i64 n.parent, vk] 38)).cell? ⟨w.heap.size, 0, none⟩ = some (.string n.name) := by simp
    have k2 : (w.alloc (.cells #[.string n.name, .string n.text, .slice (some ⟨b, o, none⟩) n.attrs.length c, .int .i64 n.parent, vk] 38)).cell? ⟨w.heap.size, 2, none⟩ = some (.slice (some ⟨b, o, none⟩) n.attrs.length c) := by simp
    clear hf hv hv2 hs ef
    go_enter Tryz.func15, Tryz.ntmps15
    generalize n.name = nm at *
    go_wp2_with fail
    generalize w.alloc (.cells #[.string nm, .string n.text, .slice (some ⟨b, o, none⟩) n.attrs.length c, .int .i64 n.parent, vk] 38) = w0 at *
    refine HF.out.mono ?_
    rintro e u ⟨rfl, hu⟩
    obtain rfl : w0 = u := hu.symm
    go_wp2_with fail
    refine (HL.out _).mono ?_
    rintro e w2 ⟨rfl, b2⟩
    have B2 := hide (chain B0.out b2)
    have m0 := cell_below k0 b2
    clear k0 k2 c1 b2
    go_wp2_with fail
    go_ret
    exact ⟨rfl, B2.out⟩
set_option maxHeartbeats 4000000 in
set_option maxRecDepth 100000 in
theorem refOf_label (n : Nd) (va vk : Value) (w : World) (ha : AttrsV w va n.attrs) (hl : n.attrs.length ≤ 4398046511104) (hs : ∀ a ∈ n.attrs, a.2.size ≤ 140737488351232) (h : n.name = ⟨#[108, 97, 98, 101, 108]⟩) :
    Calls Tryz.prog 15 #[.agg #[.string n.name, .string n.text, va, .int .i64 n.parent, vk]] w fun e w' => e = .returned (.int .i64 (31)) ∧ Below w.heap.size w w' := by
  have t0 : (n.name.toList == [105, 110, 112, 117, 116]) = false := by rw [h, ByteArray.toList_eq]; rfl
  have t1 : (n.name.toList == [98, 117, 116, 116, 111, 110]) = false := by rw [h, ByteArray.toList_eq]; rfl
  have t2 : (n.name.toList == [115, 101, 108, 101, 99, 116]) = false := by rw [h, ByteArray.toList_eq]; rfl
  have t3 : (n.name.toList == [116, 101, 120, 116, 97, 114, 101, 97]) = false := by rw [h, ByteArray.toList_eq]; rfl
  have t4 : (n.name.toList == [111, 117, 116, 112, 117, 116]) = false := by rw [h, ByteArray.toList_eq]; rfl
  have t5 : (n.name.toList == [102, 105, 101, 108, 100, 115, 101, 116]) = false := by rw [h, ByteArray.toList_eq]; rfl
  have t6 : (n.name.toList == [102, 111, 114, 109]) = false := by rw [h, ByteArray.toList_eq]; rfl
  have t7 : (n.name.toList == [108, 97, 98, 101, 108]) = true := lit_yes h
  have t8 : (n.name.toList == [111, 112, 116, 105, 111, 110]) = false := by rw [h, ByteArray.toList_eq]; rfl
  have t9 : (n.name.toList == [111, 112, 116, 103, 114, 111, 117, 112]) = false := by rw [h, ByteArray.toList_eq]; rfl
  have t10 : (n.name.toList == [108, 101, 103, 101, 110, 100]) = false := by rw [h, ByteArray.toList_eq]; rfl
  have t11 : (n.name.toList == [100, 97, 116, 97, 108, 105, 115, 116]) = false := by rw [h, ByteArray.toList_eq]; rfl
  clear h
  have B0 : Hid (Below w.heap.size w (w.alloc (.cells #[.string n.name, .string n.text, va, .int .i64 n.parent, vk] 38))) := (Below.refl _ w).alloc (Nat.le_refl _) _
  have HF := hide (refFind_any va n.attrs tyS (w.alloc (.cells #[.string n.name, .string n.text, va, .int .i64 n.parent, vk] 38)) (ha.below B0.out) hl)
  have ef : tyS = ⟨#[116, 121, 112, 101]⟩ := rfl
  rw [ef] at HF
  obtain ⟨p, c, rfl, hv⟩ := ha
  obtain ⟨s, hS⟩ : ∃ s, Hid (tyT (tyOf n.attrs) = s) := ⟨_, show _ = _ from rfl⟩
  cases hf : findA n.attrs tyS with
  | none =>
    have hE : s = ⟨#[]⟩ := by rw [← hS.out]; unfold tyOf; rw [hf]; rfl
    rw [show findA n.attrs ⟨#[116, 121, 112, 101]⟩ = none from hf, show findV none = -1 from rfl] at HF
    have es : s = ⟨#[]⟩ := hE
    have k0 : (w.alloc (.cells #[.string n.name, .string n.text, .slice p n.attrs.length c, .int .i64 n.parent, vk] 38)).cell? ⟨w.heap.size, 0, none⟩ = some (.string n.name) := by simp
    have k2 : (w.alloc (.cells #[.string n.name, .string n.text, .slice p n.attrs.length c, .int .i64 n.parent, vk] 38)).cell? ⟨w.heap.size, 2, none⟩ = some (.slice p n.attrs.length c) := by simp
    clear hv hs hf ef
    go_enter Tryz.func15, Tryz.ntmps15
    generalize n.name = nm at *
    go_wp2_with fail
    generalize w.alloc (.cells #[.string nm, .string n.text, .slice p n.attrs.length c, .int .i64 n.parent, vk] 38) = w0 at *
    refine HF.out.mono ?_
    rintro e u ⟨rfl, hu⟩
    obtain rfl : w0 = u := hu.symm
    go_upto_region 5 with fail
    rw [← es]
    clear es hE
    go_wp2_with fail
    go_ret
    exact ⟨rfl, B0.out⟩
  | some i =>
    obtain ⟨hi, _, _⟩ := List.findIdx?_eq_some_iff_getElem.1 (show n.attrs.findIdx? (isN tyS) = some i from hf)
    obtain ⟨t, ht⟩ : ∃ t, Hid (n.attrs[i].2 = t) := ⟨_, show _ = _ from rfl⟩
    have hE : Hid (lowS t = s) := by
      show _ = _
      rw [← hS.out]
      unfold tyOf
      rw [hf, ← ht.out]
      show lowS n.attrs[i].2 = lowS (n.attrs.getD i at0).2
      rw [show n.attrs.getD i at0 = n.attrs[i] by simp [List.getD, hi]]
    rw [show findA n.attrs ⟨#[116, 121, 112, 101]⟩ = some i from hf, show findV (some i) = (i : Int) from rfl] at HF
    have i0 : (0 : Int) ≤ (i : Int) := by omega
    have i1 : (i : Int) < (n.attrs.length : Int) := by omega
    have ts := hs _ (List.getElem_mem hi)
    rw [ht.out] at ts
    have HL := hide (fun W => refLower_reach t W ts)
    rw [hE.out] at HL
    obtain ⟨b, o, rfl, hv2⟩ : ∃ b o, p = some ⟨b, o, none⟩ ∧ ∀ i (h : i < n.attrs.length), w.cell? ⟨b, o + i * 2, none⟩ = some (.string n.attrs[i].1) ∧ w.cell? ⟨b, o + i * 2 + 1, none⟩ = some (.string n.attrs[i].2) := by
      rcases hv with t | t
      · rw [t] at hi; simp at hi
      · exact t
    have c1 := cell_below (hv2 i hi).2 B0.out
    rw [ht.out] at c1
    have k0 : (w.alloc (.cells #[.string n.name, .string n.text, .slice (some ⟨b, o, none⟩) n.attrs.length c, .int .i64 n.parent, vk] 38)).cell? ⟨w.heap.size, 0, none⟩ = some (.string n.name) := by simp
    have k2 : (w.alloc (.cells #[.string n.name, .string n.text, .slice (some ⟨b, o, none⟩) n.attrs.length c, .int .i64 n.parent, vk] 38)).cell? ⟨w.heap.size, 2, none⟩ = some (.slice (some ⟨b, o, none⟩) n.attrs.length c) := by simp
    clear hf hv hv2 hs ef
    go_enter Tryz.func15, Tryz.ntmps15
    generalize n.name = nm at *
    go_wp2_with fail
    generalize w.alloc (.cells #[.string nm, .string n.text, .slice (some ⟨b, o, none⟩) n.attrs.length c, .int .i64 n.parent, vk] 38) = w0 at *
    refine HF.out.mono ?_
    rintro e u ⟨rfl, hu⟩
    obtain rfl : w0 = u := hu.symm
    go_wp2_with fail
    refine (HL.out _).mono ?_
    rintro e w2 ⟨rfl, b2⟩
    have B2 := hide (chain B0.out b2)
    have m0 := cell_below k0 b2
    clear k0 k2 c1 b2
    go_wp2_with fail
    go_ret
    exact ⟨rfl, B2.out⟩

end Go.Proofs.YtdbabciafifnaaaGreatDoor
