/- The document's Of of layer 11. The document's Has, Is, Owner, Off of layer 15. -/
import Derived.Test.YtnojgejcmaajmaaGreatDoorJsb11
import Derived.Deep.DeepCutAuto

namespace Go.Proofs.YtnojgejcmaajmaaGreatDoor
open Go.RowKit
/-- The text that the document looks at. -/
def tyT (o : Option ByteArray) : ByteArray := match o with
  | none => ⟨#[]⟩
  | some t => t
theorem byT_input (o : Option ByteArray) : byT o 1 22 2 = kInt (seekR (tyT o) 1 22 30 0) 2 := by
  cases o with
  | none =>
    show (2 : Int) = kInt (seekR ⟨#[]⟩ 1 22 30 0) 2
    rw [seek_empty]; rfl
  | some t => rfl
theorem byT_button (o : Option ByteArray) : byT o 25 27 25 = if tyT o = ⟨#[114, 101, 115, 101, 116]⟩ then 26 else if tyT o = ⟨#[98, 117, 116, 116, 111, 110]⟩ then 27 else 25 := by
  cases o with
  | none =>
    show (25 : Int) = if (⟨#[]⟩ : ByteArray) = ⟨#[114, 101, 115, 101, 116]⟩ then 26 else if (⟨#[]⟩ : ByteArray) = ⟨#[98, 117, 116, 116, 111, 110]⟩ then 27 else 25
    rw [if_neg (by decide), if_neg (by decide)]
  | some t => exact seek_button t
set_option maxHeartbeats 4000000 in
set_option maxRecDepth 100000 in
theorem refOf_input (n : Nd) (va vk : Value) (w : World) (ha : AttrsV w va n.attrs) (hl : n.attrs.length ≤ 4398046511104) (hs : ∀ a ∈ n.attrs, a.2.size ≤ 140737488351232) (h : n.name = ⟨#[105, 110, 112, 117, 116]⟩) :
    Calls Tryz.prog 66 #[.agg #[.string n.name, .string n.text, va, .int .i64 n.parent, vk]] w fun e w' => e = .returned (.int .i64 (byT (tyOf n.attrs) 1 22 2)) ∧ Below w.heap.size w w' := by
  have t0 : (n.name.toList == [105, 110, 112, 117, 116]) = true := lit_yes h
  have t1 : (n.name.toList == [98, 117, 116, 116, 111, 110]) = false := by rw [h, ByteArray.toList_eq]; rfl
  have t2 : (n.name.toList == [115, 101, 108, 101, 99, 116]) = false := by rw [h, ByteArray.toList_eq]; rfl
  have t3 : (n.name.toList == [116, 101, 120, 116, 97, 114, 101, 97]) = false := by rw [h, ByteArray.toList_eq]; rfl
  have t4 : (n.name.toList == [111, 117, 116, 112, 117, 116]) = false := by rw [h, ByteArray.toList_eq]; rfl
  have t5 : (n.name.toList == [102, 105, 101, 108, 100, 115, 101, 116]) = false := by rw [h, ByteArray.toList_eq]; rfl
  have t6 : (n.name.toList == [102, 111, 114, 109]) = false := by rw [h, ByteArray.toList_eq]; rfl
  have t7 : (n.name.toList == [108, 97, 98, 101, 108]) = false := by rw [h, ByteArray.toList_eq]; rfl
  have t8 : (n.name.toList == [111, 112, 116, 105, 111, 110]) = false := by rw [h, ByteArray.toList_eq]; rfl
  have t9 : (n.name.toList == [111, 112, 116, 103, 114, 111, 117, 112]) = false := by rw [h, ByteArray.toList_eq]; rfl
  have t10 : (n.name.toList == [108, 101, 103, 101, 110, 100]) = false := by rw [h, ByteArray.toList_eq]; rfl
  have t11 : (n.name.toList == [100, 97, 116, 97, 108, 105, 115, 116]) = false := by rw [h, ByteArray.toList_eq]; rfl
  clear h
  have B0 : Hid (Below w.heap.size w (w.alloc (.cells #[.string n.name, .string n.text, va, .int .i64 n.parent, vk] 57))) := (Below.refl _ w).alloc (Nat.le_refl _) _
  have HF := hide (refFind_any va n.attrs tyS (w.alloc (.cells #[.string n.name, .string n.text, va, .int .i64 n.parent, vk] 57)) (ha.below B0.out) hl)
  have ef : tyS = ⟨#[116, 121, 112, 101]⟩ := rfl
  rw [ef] at HF
  obtain ⟨p, c, rfl, hv⟩ := ha
  obtain ⟨s, hS⟩ : ∃ s, Hid (tyT (tyOf n.attrs) = s) := ⟨_, show _ = _ from rfl⟩
  cases hf : findA n.attrs tyS with
  | none =>
    have hE : s = ⟨#[]⟩ := by rw [← hS.out]; unfold tyOf; rw [hf]; rfl
    rw [show findA n.attrs ⟨#[116, 121, 112, 101]⟩ = none from hf, show findV none = -1 from rfl] at HF
    have es : s = ⟨#[]⟩ := hE
    have k0 : (w.alloc (.cells #[.string n.name, .string n.text, .slice p n.attrs.length c, .int .i64 n.parent, vk] 57)).cell? ⟨w.heap.size, 0, none⟩ = some (.string n.name) := by simp
    have k2 : (w.alloc (.cells #[.string n.name, .string n.text, .slice p n.attrs.length c, .int .i64 n.parent, vk] 57)).cell? ⟨w.heap.size, 2, none⟩ = some (.slice p n.attrs.length c) := by simp
    clear hv hs hf ef
    go_enter Tryz.func66, Tryz.ntmps66
    generalize n.name = nm at *
    go_wp2_with fail
    generalize w.alloc (.cells #[.string nm, .string n.text, .slice p n.attrs.length c, .int .i64 n.parent, vk] 57) = w0 at *
    refine HF.out.mono ?_
    rintro e u ⟨rfl, hu⟩
    obtain rfl : w0 = u := hu.symm
    go_upto_region 5 with fail
    rw [← es]
    clear es hE
    obtain ⟨A, hA⟩ : ∃ A, Hid (seekR s 1 22 30 0 = A) := ⟨_, show _ = _ from rfl⟩
    have E : Hid (byT (tyOf n.attrs) 1 22 2 = kInt A 2) := by show _ = _; rw [byT_input, hS.out, hA.out]
    go_wp2_with fail
    go_loop [5] (fun iv => ∃ k : Nat, 1 ≤ k ∧ k ≤ 23 ∧ iv = .int .i64 k ∧ Hid (seekR s 1 22 (30 - k) k = A)) (fun iv => 30 - (intOf iv).toNat)
    case atStart => exact ⟨1, by omega, by omega, rfl, (seek_from s).trans hA.out⟩
    case round =>
      obtain ⟨k, hk1, hk, rfl, hn⟩ := hrel
      clear hA
      by_cases hlt : k < 23
      · have HT := hide (refType_any (k : Int))
        rw [typeS_nat (show k < 30 by omega)] at HT
        have kk : (k : Int) ≤ 22 := by omega
        have TB := hide (txt_beq (typeN k) s)
        have hb : btwB (k : Int) ((1 : Nat) : Int) ((22 : Nat) : Int) = true := decide_eq_true (by omega)
        by_cases he : typeN k = s
        · have q : ((typeN k).toList == s.toList) = true := by rw [TB.out]; exact decide_eq_true he
          have N := hide (seek_hit (show k < 30 by omega) hn.out hb he)
          clear hb hn he
          generalize typeN k = x at *
          go_wp2_with fail
          refine (HT.out _).mono ?_
          rintro e u ⟨rfl, hu⟩
          obtain rfl : w0 = u := hu.symm
          go_wp2_with fail
          go_ret
          exact ⟨by rw [E.out, N.out]; rfl, B0.out⟩
        · have q : ((typeN k).toList == s.toList) = false := by rw [TB.out]; exact decide_eq_false he
          have N := hide (seek_miss (show k < 30 by omega) hn.out (.inr he))
          clear hb hn he
          generalize typeN k = x at *
          go_wp2_with fail
          refine (HT.out _).mono ?_
          rintro e u ⟨rfl, hu⟩
          obtain rfl : w0 = u := hu.symm
          go_wp2_with fail
          go_round
          case rel => exact ⟨k + 1, by omega, by omega, by go_num, N⟩
          case measure => simp [intOf]; omega
      · obtain rfl : k = 23 := by omega
        have N : Hid (A = none) := hn.out.symm.trans (seek_to s)
        clear hn hlt
        go_wp2_with fail
        go_ret
        exact ⟨by rw [E.out, N.out]; rfl, B0.out⟩
  | some i =>
    obtain ⟨hi, _, _⟩ := List.findIdx?_eq_some_iff_getElem.1 (show n.attrs.findIdx? (isN tyS) = some i from hf)
    obtain ⟨t, ht⟩ : ∃ t, Hid (n.attrs[i].2 = t) := ⟨_, show _ = _ from rfl⟩
    have hE : Hid (lowS t = s) := by
      show _ = _
      rw [← hS.out]
      unfold tyOf
      rw [hf, ← ht.out]
      show lowS n.attrs[i].2 = lowS (n.attrs.getD i at0).2
      rw [show n.attrs.getD i at0 = n.attrs[i] by simp [List.getD, hi]]
    rw [show findA n.attrs ⟨#[116, 121, 112, 101]⟩ = some i from hf, show findV (some i) = (i : Int) from rfl] at HF
    have i0 : (0 : Int) ≤ (i : Int) := by omega
    have i1 : (i : Int) < (n.attrs.length : Int) := by omega
    have ts := hs _ (List.getElem_mem hi)
    rw [ht.out] at ts
    have HL := hide (fun W => refLower_reach t W ts)
    rw [hE.out] at HL
    obtain ⟨b, o, rfl, hv2⟩ : ∃ b o, p = some ⟨b, o, none⟩ ∧ ∀ i (h : i < n.attrs.length), w.cell? ⟨b, o + i * 2, none⟩ = some (.string n.attrs[i].1) ∧ w.cell? ⟨b, o + i * 2 + 1, none⟩ = some (.string n.attrs[i].2) := by
      rcases hv with t | t
      · rw [t] at hi; simp at hi
      · exact t
    have c1 := cell_below (hv2 i hi).2 B0.out
    rw [ht.out] at c1
    have k0 : (w.alloc (.cells #[.string n.name, .string n.text, .slice (some ⟨b, o, none⟩) n.attrs.length c, .int .i64 n.parent, vk] 57)).cell? ⟨w.heap.size, 0, none⟩ = some (.string n.name) := by simp
    have k2 : (w.alloc (.cells #[.string n.name, .string n.text, .slice (some ⟨b, o, none⟩) n.attrs.length c, .int .i64 n.parent, vk] 57)).cell? ⟨w.heap.size, 2, none⟩ = some (.slice (some ⟨b, o, none⟩) n.attrs.length c) := by simp
    clear hf hv hv2 hs ef
    go_enter Tryz.func66, Tryz.ntmps66
    generalize n.name = nm at *
    go_wp2_with fail
    generalize w.alloc (.cells #[.string nm, .string n.text, .slice (some ⟨b, o, none⟩) n.attrs.length c, .int .i64 n.parent, vk] 57) = w0 at *
    refine HF.out.mono ?_
    rintro e u ⟨rfl, hu⟩
    obtain rfl : w0 = u := hu.symm
    go_wp2_with fail
    refine (HL.out _).mono ?_
    rintro e w2 ⟨rfl, b2⟩
    have B2 := hide (chain B0.out b2)
    have m0 := cell_below k0 b2
    clear k0 k2 c1 b2
    obtain ⟨A, hA⟩ : ∃ A, Hid (seekR s 1 22 30 0 = A) := ⟨_, show _ = _ from rfl⟩
    have E : Hid (byT (tyOf n.attrs) 1 22 2 = kInt A 2) := by show _ = _; rw [byT_input, hS.out, hA.out]
    go_wp2_with fail
    go_loop [5] (fun iv => ∃ k : Nat, 1 ≤ k ∧ k ≤ 23 ∧ iv = .int .i64 k ∧ Hid (seekR s 1 22 (30 - k) k = A)) (fun iv => 30 - (intOf iv).toNat)
    case atStart => exact ⟨1, by omega, by omega, rfl, (seek_from s).trans hA.out⟩
    case round =>
      obtain ⟨k, hk1, hk, rfl, hn⟩ := hrel
      clear hA
      by_cases hlt : k < 23
      · have HT := hide (refType_any (k : Int))
        rw [typeS_nat (show k < 30 by omega)] at HT
        have kk : (k : Int) ≤ 22 := by omega
        have TB := hide (txt_beq (typeN k) s)
        have hb : btwB (k : Int) ((1 : Nat) : Int) ((22 : Nat) : Int) = true := decide_eq_true (by omega)
        by_cases he : typeN k = s
        · have q : ((typeN k).toList == s.toList) = true := by rw [TB.out]; exact decide_eq_true he
          have N := hide (seek_hit (show k < 30 by omega) hn.out hb he)
          clear hb hn he
          generalize typeN k = x at *
          go_wp2_with fail
          refine (HT.out _).mono ?_
          rintro e u ⟨rfl, hu⟩
          obtain rfl : w2 = u := hu.symm
          go_wp2_with fail
          go_ret
          exact ⟨by rw [E.out, N.out]; rfl, B2.out⟩
        · have q : ((typeN k).toList == s.toList) = false := by rw [TB.out]; exact decide_eq_false he
          have N := hide (seek_miss (show k < 30 by omega) hn.out (.inr he))
          clear hb hn he
          generalize typeN k = x at *
          go_wp2_with fail
          refine (HT.out _).mono ?_
          rintro e u ⟨rfl, hu⟩
          obtain rfl : w2 = u := hu.symm
          go_wp2_with fail
          go_round
          case rel => exact ⟨k + 1, by omega, by omega, by go_num, N⟩
          case measure => simp [intOf]; omega
      · obtain rfl : k = 23 := by omega
        have N : Hid (A = none) := hn.out.symm.trans (seek_to s)
        clear hn hlt
        go_wp2_with fail
        go_ret
        exact ⟨by rw [E.out, N.out]; rfl, B2.out⟩
set_option maxHeartbeats 4000000 in
set_option maxRecDepth 100000 in
theorem refOf_button (n : Nd) (va vk : Value) (w : World) (ha : AttrsV w va n.attrs) (hl : n.attrs.length ≤ 4398046511104) (hs : ∀ a ∈ n.attrs, a.2.size ≤ 140737488351232) (h : n.name = ⟨#[98, 117, 116, 116, 111, 110]⟩) :
    Calls Tryz.prog 66 #[.agg #[.string n.name, .string n.text, va, .int .i64 n.parent, vk]] w fun e w' => e = .returned (.int .i64 (byT (tyOf n.attrs) 25 27 25)) ∧ Below w.heap.size w w' := by
  have t0 : (n.name.toList == [105, 110, 112, 117, 116]) = false := by rw [h, ByteArray.toList_eq]; rfl
  have t1 : (n.name.toList == [98, 117, 116, 116, 111, 110]) = true := lit_yes h
  have t2 : (n.name.toList == [115, 101, 108, 101, 99, 116]) = false := by rw [h, ByteArray.toList_eq]; rfl
  have t3 : (n.name.toList == [116, 101, 120, 116, 97, 114, 101, 97]) = false := by rw [h, ByteArray.toList_eq]; rfl
  have t4 : (n.name.toList == [111, 117, 116, 112, 117, 116]) = false := by rw [h, ByteArray.toList_eq]; rfl
  have t5 : (n.name.toList == [102, 105, 101, 108, 100, 115, 101, 116]) = false := by rw [h, ByteArray.toList_eq]; rfl
  have t6 : (n.name.toList == [102, 111, 114, 109]) = false := by rw [h, ByteArray.toList_eq]; rfl
  have t7 : (n.name.toList == [108, 97, 98, 101, 108]) = false := by rw [h, ByteArray.toList_eq]; rfl
  have t8 : (n.name.toList == [111, 112, 116, 105, 111, 110]) = false := by rw [h, ByteArray.toList_eq]; rfl
  have t9 : (n.name.toList == [111, 112, 116, 103, 114, 111, 117, 112]) = false := by rw [h, ByteArray.toList_eq]; rfl
  have t10 : (n.name.toList == [108, 101, 103, 101, 110, 100]) = false := by rw [h, ByteArray.toList_eq]; rfl
  have t11 : (n.name.toList == [100, 97, 116, 97, 108, 105, 115, 116]) = false := by rw [h, ByteArray.toList_eq]; rfl
  clear h
  have B0 : Hid (Below w.heap.size w (w.alloc (.cells #[.string n.name, .string n.text, va, .int .i64 n.parent, vk] 57))) := (Below.refl _ w).alloc (Nat.le_refl _) _
  have HF := hide (refFind_any va n.attrs tyS (w.alloc (.cells #[.string n.name, .string n.text, va, .int .i64 n.parent, vk] 57)) (ha.below B0.out) hl)
  have ef : tyS = ⟨#[116, 121, 112, 101]⟩ := rfl
  rw [ef] at HF
  obtain ⟨p, c, rfl, hv⟩ := ha
  obtain ⟨s, hS⟩ : ∃ s, Hid (tyT (tyOf n.attrs) = s) := ⟨_, show _ = _ from rfl⟩
  cases hf : findA n.attrs tyS with
  | none =>
    have hE : s = ⟨#[]⟩ := by rw [← hS.out]; unfold tyOf; rw [hf]; rfl
    rw [show findA n.attrs ⟨#[116, 121, 112, 101]⟩ = none from hf, show findV none = -1 from rfl] at HF
    have es : s = ⟨#[]⟩ := hE
    have k0 : (w.alloc (.cells #[.string n.name, .string n.text, .slice p n.attrs.length c, .int .i64 n.parent, vk] 57)).cell? ⟨w.heap.size, 0, none⟩ = some (.string n.name) := by simp
    have k2 : (w.alloc (.cells #[.string n.name, .string n.text, .slice p n.attrs.length c, .int .i64 n.parent, vk] 57)).cell? ⟨w.heap.size, 2, none⟩ = some (.slice p n.attrs.length c) := by simp
    clear hv hs hf ef
    go_enter Tryz.func66, Tryz.ntmps66
    generalize n.name = nm at *
    go_wp2_with fail
    generalize w.alloc (.cells #[.string nm, .string n.text, .slice p n.attrs.length c, .int .i64 n.parent, vk] 57) = w0 at *
    refine HF.out.mono ?_
    rintro e u ⟨rfl, hu⟩
    obtain rfl : w0 = u := hu.symm
    go_upto_region 5 with fail
    rw [← es]
    clear es hE
    have E := hide (byT_button (tyOf n.attrs))
    rw [hS.out] at E
    by_cases q1 : s = ⟨#[114, 101, 115, 101, 116]⟩
    · have f1 : (s.toList == [114, 101, 115, 101, 116]) = true := lit_yes q1
      rw [if_pos q1] at E
      clear q1
      go_wp2_with fail
      go_ret
      exact ⟨ret_int E.out.symm, B0.out⟩
    · have f1 : (s.toList == [114, 101, 115, 101, 116]) = false := lit_no q1
      rw [if_neg q1] at E
      by_cases q2 : s = ⟨#[98, 117, 116, 116, 111, 110]⟩
      · have f2 : (s.toList == [98, 117, 116, 116, 111, 110]) = true := lit_yes q2
        rw [if_pos q2] at E
        clear q1 q2
        go_wp2_with fail
        go_ret
        exact ⟨ret_int E.out.symm, B0.out⟩
      · have f2 : (s.toList == [98, 117, 116, 116, 111, 110]) = false := lit_no q2
        rw [if_neg q2] at E
        clear q1 q2
        go_wp2_with fail
        go_ret
        exact ⟨ret_int E.out.symm, B0.out⟩
  | some i =>
    obtain ⟨hi, _, _⟩ := List.findIdx?_eq_some_iff_getElem.1 (show n.attrs.findIdx? (isN tyS) = some i from hf)
    obtain ⟨t, ht⟩ : ∃ t, Hid (n.attrs[i].2 = t) := ⟨_, show _ = _ from rfl⟩
    have hE : Hid (lowS t = s) := by
      show _ = _
      rw [← hS.out]
      unfold tyOf
      rw [hf, ← ht.out]
      show lowS n.attrs[i].2 = lowS (n.attrs.getD i at0).2
      rw [show n.attrs.getD i at0 = n.attrs[i] by simp [List.getD, hi]]
    rw [show findA n.attrs ⟨#[116, 121, 112, 101]⟩ = some i from hf, show findV (some i) = (i : Int) from rfl] at HF
    have i0 : (0 : Int) ≤ (i : Int) := by omega
    have i1 : (i : Int) < (n.attrs.length : Int) := by omega
    have ts := hs _ (List.getElem_mem hi)
    rw [ht.out] at ts
    have HL := hide (fun W => refLower_reach t W ts)
    rw [hE.out] at HL
    obtain ⟨b, o, rfl, hv2⟩ : ∃ b o, p = some ⟨b, o, none⟩ ∧ ∀ i (h : i < n.attrs.length), w.cell? ⟨b, o + i * 2, none⟩ = some (.string n.attrs[i].1) ∧ w.cell? ⟨b, o + i * 2 + 1, none⟩ = some (.string n.attrs[i].2) := by
      rcases hv with t | t
      · rw [t] at hi; simp at hi
      · exact t
    have c1 := cell_below (hv2 i hi).2 B0.out
    rw [ht.out] at c1
    have k0 : (w.alloc (.cells #[.string n.name, .string n.text, .slice (some ⟨b, o, none⟩) n.attrs.length c, .int .i64 n.parent, vk] 57)).cell? ⟨w.heap.size, 0, none⟩ = some (.string n.name) := by simp
    have k2 : (w.alloc (.cells #[.string n.name, .string n.text, .slice (some ⟨b, o, none⟩) n.attrs.length c, .int .i64 n.parent, vk] 57)).cell? ⟨w.heap.size, 2, none⟩ = some (.slice (some ⟨b, o, none⟩) n.attrs.length c) := by simp
    clear hf hv hv2 hs ef
    go_enter Tryz.func66, Tryz.ntmps66
    generalize n.name = nm at *
    go_wp2_with fail
    generalize w.alloc (.cells #[.string nm, .string n.text, .slice (some ⟨b, o, none⟩) n.attrs.length c, .int .i64 n.parent, vk] 57) = w0 at *
    refine HF.out.mono ?_
    rintro e u ⟨rfl, hu⟩
    obtain rfl : w0 = u := hu.symm
    go_wp2_with fail
    refine (HL.out _).mono ?_
    rintro e w2 ⟨rfl, b2⟩
    have B2 := hide (chain B0.out b2)
    have m0 := cell_below k0 b2
    clear k0 k2 c1 b2
    have E := hide (byT_button (tyOf n.attrs))
    rw [hS.out] at E
    by_cases q1 : s = ⟨#[114, 101, 115, 101, 116]⟩
    · have f1 : (s.toList == [114, 101, 115, 101, 116]) = true := lit_yes q1
      rw [if_pos q1] at E
      clear q1
      go_wp2_with fail
      go_ret
      exact ⟨ret_int E.out.symm, B2.out⟩
    · have f1 : (s.toList == [114, 101, 115, 101, 116]) = false := lit_no q1
      rw [if_neg q1] at E
      by_cases q2 : s = ⟨#[98, 117, 116, 116, 111, 110]⟩
      · have f2 : (s.toList == [98, 117, 116, 116, 111, 110]) = true := lit_yes q2
        rw [if_pos q2] at E
        clear q1 q2
        go_wp2_with fail
        go_ret
        exact ⟨ret_int E.out.symm, B2.out⟩
      · have f2 : (s.toList == [98, 117, 116, 116, 111, 110]) = false := lit_no q2
        rw [if_neg q2] at E
        clear q1 q2
        go_wp2_with fail
        go_ret
        exact ⟨ret_int E.out.symm, B2.out⟩
set_option maxHeartbeats 4000000 in
set_option maxRecDepth 100000 in
theorem refOf_lits (n : Nd) (va vk : Value) (w : World) (ha : AttrsV w va n.attrs) (hl : n.attrs.length ≤ 4398046511104) (hs : ∀ a ∈ n.attrs, a.2.size ≤ 140737488351232) (r : Int) (h : (r = 23 ∧ n.name = ⟨#[115, 101, 108, 101, 99, 116]⟩) ∨ (r = 24 ∧ n.name = ⟨#[116, 101, 120, 116, 97, 114, 101, 97]⟩) ∨ (r = 28 ∧ n.name = ⟨#[111, 117, 116, 112, 117, 116]⟩) ∨ (r = 29 ∧ n.name = ⟨#[102, 105, 101, 108, 100, 115, 101, 116]⟩) ∨ (r = 30 ∧ n.name = ⟨#[102, 111, 114, 109]⟩) ∨ (r = 31 ∧ n.name = ⟨#[108, 97, 98, 101, 108]⟩) ∨ (r = 32 ∧ n.name = ⟨#[111, 112, 116, 105, 111, 110]⟩) ∨ (r = 33 ∧ n.name = ⟨#[111, 112, 116, 103, 114, 111, 117, 112]⟩) ∨ (r = 34 ∧ n.name = ⟨#[108, 101, 103, 101, 110, 100]⟩) ∨ (r = 35 ∧ n.name = ⟨#[100, 97, 116, 97, 108, 105, 115, 116]⟩) ∨ (r = 0 ∧ ¬ n.name = ⟨#[105, 110, 112, 117, 116]⟩ ∧ ¬ n.name = ⟨#[98, 117, 116, 116, 111, 110]⟩ ∧ ¬ n.name = ⟨#[115, 101, 108, 101, 99, 116]⟩ ∧ ¬ n.name = ⟨#[116, 101, 120, 116, 97, 114, 101, 97]⟩ ∧ ¬ n.name = ⟨#[111, 117, 116, 112, 117, 116]⟩ ∧ ¬ n.name = ⟨#[102, 105, 101, 108, 100, 115, 101, 116]⟩ ∧ ¬ n.name = ⟨#[102, 111, 114, 109]⟩ ∧ ¬ n.name = ⟨#[108, 97, 98, 101, 108]⟩ ∧ ¬ n.name = ⟨#[111, 112, 116, 105, 111, 110]⟩ ∧ ¬ n.name = ⟨#[111, 112, 116, 103, 114, 111, 117, 112]⟩ ∧ ¬ n.name = ⟨#[108, 101, 103, 101, 110, 100]⟩ ∧ ¬ n.name = ⟨#[100, 97, 116, 97, 108, 105, 115, 116]⟩)) :
    Calls Tryz.prog 66 #[.agg #[.string n.name, .string n.text, va, .int .i64 n.parent, vk]] w fun e w' => e = .returned (.int .i64 r) ∧ Below w.heap.size w w' := by
  obtain ⟨b0, t0⟩ : ∃ b, (n.name.toList == [105, 110, 112, 117, 116]) = b := ⟨_, rfl⟩
  obtain ⟨b1, t1⟩ : ∃ b, (n.name.toList == [98, 117, 116, 116, 111, 110]) = b := ⟨_, rfl⟩
  obtain ⟨b2, t2⟩ : ∃ b, (n.name.toList == [115, 101, 108, 101, 99, 116]) = b := ⟨_, rfl⟩
  obtain ⟨b3, t3⟩ : ∃ b, (n.name.toList == [116, 101, 120, 116, 97, 114, 101, 97]) = b := ⟨_, rfl⟩
  obtain ⟨b4, t4⟩ : ∃ b, (n.name.toList == [111, 117, 116, 112, 117, 116]) = b := ⟨_, rfl⟩
  obtain ⟨b5, t5⟩ : ∃ b, (n.name.toList == [102, 105, 101, 108, 100, 115, 101, 116]) = b := ⟨_, rfl⟩
  obtain ⟨b6, t6⟩ : ∃ b, (n.name.toList == [102, 111, 114, 109]) = b := ⟨_, rfl⟩
  obtain ⟨b7, t7⟩ : ∃ b, (n.name.toList == [108, 97, 98, 101, 108]) = b := ⟨_, rfl⟩
  obtain ⟨b8, t8⟩ : ∃ b, (n.name.toList == [111, 112, 116, 105, 111, 110]) = b := ⟨_, rfl⟩
  obtain ⟨b9, t9⟩ : ∃ b, (n.name.toList == [111, 112, 116, 103, 114, 111, 117, 112]) = b := ⟨_, rfl⟩
  obtain ⟨b10, t10⟩ : ∃ b, (n.name.toList == [108, 101, 103, 101, 110, 100]) = b := ⟨_, rfl⟩
  obtain ⟨b11, t11⟩ : ∃ b, (n.name.toList == [100, 97, 116, 97, 108, 105, 115, 116]) = b := ⟨_, rfl⟩
  rcases h with ⟨rfl, h⟩ | ⟨rfl, h⟩ | ⟨rfl, h⟩ | ⟨rfl, h⟩ | ⟨rfl, h⟩ | ⟨rfl, h⟩ | ⟨rfl, h⟩ | ⟨rfl, h⟩ | ⟨rfl, h⟩ | ⟨rfl, h⟩ | ⟨rfl, h⟩
  all_goals
    first
    | (have q : b0 = false := (t0.symm.trans (by rw [h, ByteArray.toList_eq]; rfl)); subst q)
    | (have q : b0 = true := (t0.symm.trans (lit_yes h)); subst q)
    | (have q : b0 = false := (t0.symm.trans (lit_no (l := [105, 110, 112, 117, 116]) (h.1))); subst q)
    first
    | (have q : b1 = false := (t1.symm.trans (by rw [h, ByteArray.toList_eq]; rfl)); subst q)
    | (have q : b1 = true := (t1.symm.trans (lit_yes h)); subst q)
    | (have q : b1 = false := (t1.symm.trans (lit_no (l := [98, 117, 116, 116, 111, 110]) (h.2.1))); subst q)
    first
    | (have q : b2 = false := (t2.symm.trans (by rw [h, ByteArray.toList_eq]; rfl)); subst q)
    | (have q : b2 = true := (t2.symm.trans (lit_yes h)); subst q)
    | (have q : b2 = false := (t2.symm.trans (lit_no (l := [115, 101, 108, 101, 99, 116]) (h.2.2.1))); subst q)
    first
    | (have q : b3 = false := (t3.symm.trans (by rw [h, ByteArray.toList_eq]; rfl)); subst q)
    | (have q : b3 = true := (t3.symm.trans (lit_yes h)); subst q)
    | (have q : b3 = false := (t3.symm.trans (lit_no (l := [116, 101, 120, 116, 97, 114, 101, 97]) (h.2.2.2.1))); subst q)
    first
    | (have q : b4 = false := (t4.symm.trans (by rw [h, ByteArray.toList_eq]; rfl)); subst q)
    | (have q : b4 = true := (t4.symm.trans (lit_yes h)); subst q)
    | (have q : b4 = false := (t4.symm.trans (lit_no (l := [111, 117, 116, 112, 117, 116]) (h.2.2.2.2.1))); subst q)
    first
    | (have q : b5 = false := (t5.symm.trans (by rw [h, ByteArray.toList_eq]; rfl)); subst q)
    | (have q : b5 = true := (t5.symm.trans (lit_yes h)); subst q)
    | (have q : b5 = false := (t5.symm.trans (lit_no (l := [102, 105, 101, 108, 100, 115, 101, 116]) (h.2.2.2.2.2.1))); subst q)
    first
    | (have q : b6 = false := (t6.symm.trans (by rw [h, ByteArray.toList_eq]; rfl)); subst q)
    | (have q : b6 = true := (t6.symm.trans (lit_yes h)); subst q)
    | (have q : b6 = false := (t6.symm.trans (lit_no (l := [102, 111, 114, 109]) (h.2.2.2.2.2.2.1))); subst q)
    first
    | (have q : b7 = false := (t7.symm.trans (by rw [h, ByteArray.toList_eq]; rfl)); subst q)
    | (have q : b7 = true := (t7.symm.trans (lit_yes h)); subst q)
    | (have q : b7 = false := (t7.symm.trans (lit_no (l := [108, 97, 98, 101, 108]) (h.2.2.2.2.2.2.2.1))); subst q)
    first
    | (have q : b8 = false := (t8.symm.trans (by rw [h, ByteArray.toList_eq]; rfl)); subst q)
    | (have q : b8 = true := (t8.symm.trans (lit_yes h)); subst q)
    | (have q : b8 = false := (t8.symm.trans (lit_no (l := [111, 112, 116, 105, 111, 110]) (h.2.2.2.2.2.2.2.2.1))); subst q)
    first
    | (have q : b9 = false := (t9.symm.trans (by rw [h, ByteArray.toList_eq]; rfl)); subst q)
    | (have q : b9 = true := (t9.symm.trans (lit_yes h)); subst q)
    | (have q : b9 = false := (t9.symm.trans (lit_no (l := [111, 112, 116, 103, 114, 111, 117, 112]) (h.2.2.2.2.2.2.2.2.2.1))); subst q)
    first
    | (have q : b10 = false := (t10.symm.trans (by rw [h, ByteArray.toList_eq]; rfl)); subst q)
    | (have q : b10 = true := (t10.symm.trans (lit_yes h)); subst q)
    | (have q : b10 = false := (t10.symm.trans (lit_no (l := [108, 101, 103, 101, 110, 100]) (h.2.2.2.2.2.2.2.2.2.2.1))); subst q)
    first
    | (have q : b11 = false := (t11.symm.trans (by rw [h, ByteArray.toList_eq]; rfl)); subst q)
    | (have q : b11 = true := (t11.symm.trans (lit_yes h)); subst q)
    | (have q : b11 = false := (t11.symm.trans (lit_no (l := [100, 97, 116, 97, 108, 105, 115, 116]) (h.2.2.2.2.2.2.2.2.2.2.2))); subst q)
    clear h
    have B0 : Hid (Below w.heap.size w (w.alloc (.cells #[.string n.name, .string n.text, va, .int .i64 n.parent, vk] 57))) := (Below.refl _ w).alloc (Nat.le_refl _) _
    have HF := hide (refFind_any va n.attrs tyS (w.alloc (.cells #[.string n.name, .string n.text, va, .int .i64 n.parent, vk] 57)) (ha.below B0.out) hl)
    have ef : tyS = ⟨#[116, 121, 112, 101]⟩ := rfl
    rw [ef] at HF
    obtain ⟨p, c, rfl, hv⟩ := ha
    obtain ⟨s, hS⟩ : ∃ s, Hid (tyT (tyOf n.attrs) = s) := ⟨_, show _ = _ from rfl⟩
    cases hf : findA n.attrs tyS with
    | none =>
      have hE : s = ⟨#[]⟩ := by rw [← hS.out]; unfold tyOf; rw [hf]; rfl
      rw [show findA n.attrs ⟨#[116, 121, 112, 101]⟩ = none from hf, show findV none = -1 from rfl] at HF
      have es : s = ⟨#[]⟩ := hE
      have k0 : (w.alloc (.cells #[.string n.name, .string n.text, .slice p n.attrs.length c, .int .i64 n.parent, vk] 57)).cell? ⟨w.heap.size, 0, none⟩ = some (.string n.name) := by simp
      have k2 : (w.alloc (.cells #[.string n.name, .string n.text, .slice p n.attrs.length c, .int .i64 n.parent, vk] 57)).cell? ⟨w.heap.size, 2, none⟩ = some (.slice p n.attrs.length c) := by simp
      clear hv hs hf ef
      go_enter Tryz.func66, Tryz.ntmps66
      generalize n.name = nm at *
      go_wp2_with fail
      generalize w.alloc (.cells #[.string nm, .string n.text, .slice p n.attrs.length c, .int .i64 n.parent, vk] 57) = w0 at *
      refine HF.out.mono ?_
      rintro e u ⟨rfl, hu⟩
      obtain rfl : w0 = u := hu.symm
      go_upto_region 5 with fail
      rw [← es]
      clear es hE
      go_wp2_with fail
      go_ret
      exact ⟨rfl, B0.out⟩
    | some i =>
      obtain ⟨hi, _, _⟩ := List.findIdx?_eq_some_iff_getElem.1 (show n.attrs.findIdx? (isN tyS) = some i from hf)
      obtain ⟨t, ht⟩ : ∃ t, Hid (n.attrs[i].2 = t) := ⟨_, show _ = _ from rfl⟩
      have hE : Hid (lowS t = s) := by
        show _ = _
        rw [← hS.out]
        unfold tyOf
        rw [hf, ← ht.out]
        show lowS n.attrs[i].2 = lowS (n.attrs.getD i at0).2
        rw [show n.attrs.getD i at0 = n.attrs[i] by simp [List.getD, hi]]
      rw [show findA n.attrs ⟨#[116, 121, 112, 101]⟩ = some i from hf, show findV (some i) = (i : Int) from rfl] at HF
      have i0 : (0 : Int) ≤ (i : Int) := by omega
      have i1 : (i : Int) < (n.attrs.length : Int) := by omega
      have ts := hs _ (List.getElem_mem hi)
      rw [ht.out] at ts
      have HL := hide (fun W => refLower_reach t W ts)
      rw [hE.out] at HL
      obtain ⟨b, o, rfl, hv2⟩ : ∃ b o, p = some ⟨b, o, none⟩ ∧ ∀ i (h : i < n.attrs.length), w.cell? ⟨b, o + i * 2, none⟩ = some (.string n.attrs[i].1) ∧ w.cell? ⟨b, o + i * 2 + 1, none⟩ = some (.string n.attrs[i].2) := by
        rcases hv with t | t
        · rw [t] at hi; simp at hi
        · exact t
      have c1 := cell_below (hv2 i hi).2 B0.out
      rw [ht.out] at c1
      have k0 : (w.alloc (.cells #[.string n.name, .string n.text, .slice (some ⟨b, o, none⟩) n.attrs.length c, .int .i64 n.parent, vk] 57)).cell? ⟨w.heap.size, 0, none⟩ = some (.string n.name) := by simp
      have k2 : (w.alloc (.cells #[.string n.name, .string n.text, .slice (some ⟨b, o, none⟩) n.attrs.length c, .int .i64 n.parent, vk] 57)).cell? ⟨w.heap.size, 2, none⟩ = some (.slice (some ⟨b, o, none⟩) n.attrs.length c) := by simp
      clear hf hv hv2 hs ef
      go_enter Tryz.func66, Tryz.ntmps66
      generalize n.name = nm at *
      go_wp2_with fail
      generalize w.alloc (.cells #[.string nm, .string n.text, .slice (some ⟨b, o, none⟩) n.attrs.length c, .int .i64 n.parent, vk] 57) = w0 at *
      refine HF.out.mono ?_
      rintro e u ⟨rfl, hu⟩
      obtain rfl : w0 = u := hu.symm
      go_wp2_with fail
      refine (HL.out _).mono ?_
      rintro e w2 ⟨rfl, b2⟩
      have B2 := hide (chain B0.out b2)
      have m0 := cell_below k0 b2
      clear k0 k2 c1 b2
      go_wp2_with fail
      go_ret
      exact ⟨rfl, B2.out⟩
theorem refOf_any (n : Nd) (va vk : Value) (w : World) (ha : AttrsV w va n.attrs) (hl : n.attrs.length ≤ 4398046511104) (hs : ∀ a ∈ n.attrs, a.2.size ≤ 140737488351232) :
    Calls Tryz.prog 66 #[.agg #[.string n.name, .string n.text, va, .int .i64 n.parent, vk]] w fun e w' => e = .returned (.int .i64 (kOf n.name (tyOf n.attrs))) ∧ Below w.heap.size w w' := by
  by_cases h0 : n.name = ⟨#[105, 110, 112, 117, 116]⟩
  · rw [show kOf n.name (tyOf n.attrs) = byT (tyOf n.attrs) 1 22 2 from by rw [h0]; rfl]
    exact refOf_input n va vk w ha hl hs h0
  by_cases h1 : n.name = ⟨#[98, 117, 116, 116, 111, 110]⟩
  · rw [show kOf n.name (tyOf n.attrs) = byT (tyOf n.attrs) 25 27 25 from by rw [h1]; rfl]
    exact refOf_button n va vk w ha hl hs h1
  by_cases h2 : n.name = ⟨#[115, 101, 108, 101, 99, 116]⟩
  · rw [show kOf n.name (tyOf n.attrs) = 23 from by rw [h2]; rfl]
    exact refOf_lits n va vk w ha hl hs _ (.inl ⟨rfl, h2⟩)
  by_cases h3 : n.name = ⟨#[116, 101, 120, 116, 97, 114, 101, 97]⟩
  · rw [show kOf n.name (tyOf n.attrs) = 24 from by rw [h3]; rfl]
    exact refOf_lits n va vk w ha hl hs _ (.inr (.inl ⟨rfl, h3⟩))
  by_cases h4 : n.name = ⟨#[111, 117, 116, 112, 117, 116]⟩
  · rw [show kOf n.name (tyOf n.attrs) = 28 from by rw [h4]; rfl]
    exact refOf_lits n va vk w ha hl hs _ (.inr (.inr (.inl ⟨rfl, h4⟩)))
  by_cases h5 : n.name = ⟨#[102, 105, 101, 108, 100, 115, 101, 116]⟩
  · rw [show kOf n.name (tyOf n.attrs) = 29 from by rw [h5]; rfl]
    exact refOf_lits n va vk w ha hl hs _ (.inr (.inr (.inr (.inl ⟨rfl, h5⟩))))
  by_cases h6 : n.name = ⟨#[102, 111, 114, 109]⟩
  · rw [show kOf n.name (tyOf n.attrs) = 30 from by rw [h6]; rfl]
    exact refOf_lits n va vk w ha hl hs _ (.inr (.inr (.inr (.inr (.inl ⟨rfl, h6⟩)))))
  by_cases h7 : n.name = ⟨#[108, 97, 98, 101, 108]⟩
  · rw [show kOf n.name (tyOf n.attrs) = 31 from by rw [h7]; rfl]
    exact refOf_lits n va vk w ha hl hs _ (.inr (.inr (.inr (.inr (.inr (.inl ⟨rfl, h7⟩))))))
  by_cases h8 : n.name = ⟨#[111, 112, 116, 105, 111, 110]⟩
  · rw [show kOf n.name (tyOf n.attrs) = 32 from by rw [h8]; rfl]
    exact refOf_lits n va vk w ha hl hs _ (.inr (.inr (.inr (.inr (.inr (.inr (.inl ⟨rfl, h8⟩)))))))
  by_cases h9 : n.name = ⟨#[111, 112, 116, 103, 114, 111, 117, 112]⟩
  · rw [show kOf n.name (tyOf n.attrs) = 33 from by rw [h9]; rfl]
    exact refOf_lits n va vk w ha hl hs _ (.inr (.inr (.inr (.inr (.inr (.inr (.inr (.inl ⟨rfl, h9⟩))))))))
  by_cases h10 : n.name = ⟨#[108, 101, 103, 101, 110, 100]⟩
  · rw [show kOf n.name (tyOf n.attrs) = 34 from by rw [h10]; rfl]
    exact refOf_lits n va vk w ha hl hs _ (.inr (.inr (.inr (.inr (.inr (.inr (.inr (.inr (.inl ⟨rfl, h10⟩)))))))))
  by_cases h11 : n.name = ⟨#[100, 97, 116, 97, 108, 105, 115, 116]⟩
  · rw [show kOf n.name (tyOf n.attrs) = 35 from by rw [h11]; rfl]
    exact refOf_lits n va vk w ha hl hs _ (.inr (.inr (.inr (.inr (.inr (.inr (.inr (.inr (.inr (.inl ⟨rfl, h11⟩))))))))))
  have hn : seekL n.name 8 0 = none := by
    show (if lastN 0 = n.name then some 0 else if lastN 1 = n.name then some 1 else if lastN 2 = n.name then some 2 else if lastN 3 = n.name then some 3 else if lastN 4 = n.name then some 4 else if lastN 5 = n.name then some 5 else if lastN 6 = n.name then some 6 else if lastN 7 = n.name then some 7 else none) = none
    rw [if_neg (fun q => h4 q.symm), if_neg (fun q => h5 q.symm), if_neg (fun q => h6 q.symm), if_neg (fun q => h7 q.symm), if_neg (fun q => h8 q.symm), if_neg (fun q => h9 q.symm), if_neg (fun q => h10 q.symm), if_neg (fun q => h11 q.symm)]
  rw [show kOf n.name (tyOf n.attrs) = 0 from by unfold kOf; rw [if_neg h0, if_neg h2, if_neg h3, if_neg h1, hn]]
  exact refOf_lits n va vk w ha hl hs _ (.inr (.inr (.inr (.inr (.inr (.inr (.inr (.inr (.inr (.inr (⟨rfl, h0, h1, h2, h3, h4, h5, h6, h7, h8, h9, h10, h11⟩)))))))))))
end Go.Proofs.YtnojgejcmaajmaaGreatDoor

namespace Go.Proofs.YtnojgejcmaajmaaGreatDoor
open Go.RowKit
set_option maxRecDepth 100000
theorem right_attrsO {l : List Nd} (h : Right l) {i : Nat} (hi : i < l.length) : (nd l i).attrs.length ≤ 40 ∧ ∀ a ∈ (nd l i).attrs, a.2.size ≤ 4000 := by
  have ha := h.alone i hi
  by_cases h0 : (nd l i).name.size = 0
  · rw [alone_text h0, Bool.and_eq_true, empty_iff, beq_iff_eq] at ha
    have e : (nd l i).attrs = [] := List.eq_nil_of_length_eq_zero ha.1
    rw [e]; exact ⟨by decide, fun a q => by cases q⟩
  · rw [alone_el h0, Bool.and_eq_true, Bool.and_eq_true, Bool.and_eq_true, decide_eq_true_eq, List.all_eq_true] at ha
    refine ⟨ha.2.2.1, fun a q => ?_⟩
    obtain ⟨k, hk, rfl⟩ := List.getElem_of_mem q
    have := ha.2.2.2 k (List.mem_range.2 hk)
    rw [attrOk_at hk, Bool.and_eq_true, Bool.and_eq_true, decide_eq_true_eq] at this
    exact this.2.1
set_option maxHeartbeats 4000000 in
theorem refOHas_any (n : Nd) (va vk : Value) (nm : ByteArray) (w : World) (ha : AttrsV w va n.attrs) (hl : n.attrs.length ≤ 4398046511104) :
    Calls Tryz.prog 87 #[.agg #[.string n.name, .string n.text, va, .int .i64 n.parent, vk], .string nm] w fun e w' => e = .returned (.bool (hasA n nm)) ∧ Below w.heap.size w w' := by
  have HF := hide (fun W (hb : Below w.heap.size w W) => refFind_any va n.attrs nm W (ha.below hb) hl)
  have E : Hid (decide (0 ≤ findV (findA n.attrs nm)) = hasA n nm) := findV_nonneg _
  have BB : Hid (∀ o : Obj, Below w.heap.size w (w.alloc o)) := fun o => (Below.refl _ w).alloc (Nat.le_refl _) _
  obtain ⟨p, c, rfl, _⟩ := ha
  generalize hasA n nm = R at *
  generalize findV (findA n.attrs nm) = z at *
  generalize n.name = y0 at *
  generalize n.text = y1 at *
  generalize n.parent = y2 at *
  clear hl
  go_enter Tryz.func87, Tryz.ntmps87
  go_wp2_with fail
  refine (HF.out _ (BB.out _)).mono ?_
  rintro e u ⟨rfl, hu⟩
  subst hu
  go_wp2_with fail
  go_ret
  exact ⟨ret_bool E.out, BB.out _⟩
set_option maxHeartbeats 4000000 in
theorem refIs_any (v : Value) (l : List Nd) (id k : Int) (w : World) (hv : NodesV w v l) (hz : DocSz l) :
    Calls Tryz.prog 132 #[v, .int .i64 id, .int .i64 k] w fun e w' => e = .returned (.bool (isK l id k)) ∧ Below w.heap.size w w' := by
  have HH := hide (refHas_any v l id w hv hz)
  cases h : hasN l id with
  | false =>
    have E : Hid (isK l id k = false) := by show _ = _; unfold isK; rw [h]; rfl
    rw [h] at HH
    obtain ⟨p, c, rfl, _⟩ := hv
    clear h hz
    go_enter Tryz.func132, Tryz.ntmps132
    go_wp2_with fail
    refine HH.out.mono ?_
    rintro e w1 ⟨rfl, b1⟩
    go_wp2_with fail
    go_ret
    exact ⟨ret_bool E.out.symm, b1⟩
  | true =>
    obtain ⟨m, hI⟩ := Is.of h
    obtain ⟨rfl, h0⟩ := (⟨hI.eq, hI.lt⟩ : id = (m : Int) ∧ m < l.length)
    have sz := right_attrsO hI.right h0
    have hlen := hI.right.len.2
    have E : Hid ((kOf l[m].name (tyOf l[m].attrs) == k) = isK l (m : Int) k) := by
      show _ = _
      unfold isK kN
      rw [h, Int.toNat_natCast, nd_at h0, Bool.true_and]
      rfl
    rw [nd_at h0] at sz
    rw [h] at HH
    obtain ⟨p, c, rfl, hv⟩ := hv
    rcases hv with hv | ⟨b, o, rfl, hv⟩
    · rw [hv] at h0; simp at h0
    obtain ⟨va, vk, N0⟩ := hv m h0
    have N1 := hide N0
    have HO := hide (fun W (hb : Below w.heap.size w W) => refOf_any l[m] va vk W (N1.out.at_.below hb) (by omega) (fun a q => by have := sz.2 a q; omega))
    have i0 : (0 : Int) ≤ (m : Int) := by omega
    have i1 : (m : Int) < (l.length : Int) := by omega
    clear h hz hI hv N0 sz
    generalize kOf l[m].name (tyOf l[m].attrs) = z at *
    go_enter Tryz.func132, Tryz.ntmps132
    go_wp2_with fail
    refine HH.out.mono ?_
    rintro e w1 ⟨rfl, b1⟩
    have a0 := cell_below N1.out.name b1
    have a1 := cell_below N1.out.text b1
    have a2 := cell_below N1.out.attrs b1
    have a3 := cell_below N1.out.parent b1
    have a4 := cell_below N1.out.kids b1
    go_wp2_with fail
    refine (HO.out _ b1).mono ?_
    rintro e w2 ⟨rfl, b2⟩
    go_wp2_with fail
    go_ret
    exact ⟨ret_bool E.out, chain b1 b2⟩
-- more
theorem nmI_at {l : List Nd} {p : Nat} (h : p < l.length) : nmI l (p : Int) = l[p].name := by unfold nmI; rw [Int.toNat_natCast, nd_at h]
theorem nat_of {z : Int} {n : Nat} (h : ¬ z < 0) (h1 : z < (n : Int)) : ∃ p : Nat, z = (p : Int) ∧ p < n := ⟨z.toNat, by omega, by omega⟩

end Go.Proofs.YtnojgejcmaajmaaGreatDoor
