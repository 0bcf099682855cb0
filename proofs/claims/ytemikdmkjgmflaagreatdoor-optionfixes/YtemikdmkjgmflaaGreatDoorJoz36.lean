/- The document's Has, Is, Owner, Off of layer 15. The document's Size, Text of layer 15. -/
import Derived.Test.YtemikdmkjgmflaaGreatDoorJoz17

namespace Go.Proofs.YtemikdmkjgmflaaGreatDoor
open Go.RowKit
set_option maxRecDepth 100000
set_option maxHeartbeats 4000000 in
theorem refOHas_any (n : Nd) (va vk : Value) (nm : ByteArray) (w : World) (ha : AttrsV w va n.attrs) (hl : n.attrs.length ≤ 4398046511104) :
    Calls Tryz.prog 38 #[.agg #[.string n.name, .string n.text, va, .int .i64 n.parent, vk], .string nm] w fun e w' => e = .returned (.bool (hasA n nm)) ∧ Below w.heap.size w w' := by
  have HF := hide (fun W (hb : Below w.heap.size w W) => refFind_any va n.attrs nm W (ha.below hb) hl)
  have E : Hid (decide (0 ≤ findV (findA n.attrs nm)) = hasA n nm) := findV_nonneg _
  have BB : Hid (∀ o : Obj, Below w.heap.size w (w.alloc o)) := fun o => (Below.refl _ w).alloc (Nat.le_refl _) _
  obtain ⟨p, c, rfl, _⟩ := ha
  generalize hasA n nm = R at *
  generalize findV (findA n.attrs nm) = z at *
  generalize n.name = y0 at *
  generalize n.text = y1 at *
  generalize n.parent = y2 at *
  clear hl
  go_enter Tryz.func38, Tryz.ntmps38
  go_wp2_with fail
  refine (HF.out _ (BB.out _)).mono ?_
  rintro e u ⟨rfl, hu⟩
  subst hu
  go_wp2_with fail
  go_ret
  exact ⟨ret_bool E.out, BB.out _⟩
set_option maxHeartbeats 4000000 in
theorem refOff_any (v : Value) (l : List Nd) (id : Int) (w : World) (hv : NodesV w v l) (hz : DocSz l) :
    Calls Tryz.prog 14 #[v, .int .i64 id] w fun e w' => e = .returned (.bool (offP l id)) ∧ Below w.heap.size w w' := by
  have HI := hide (refIs_any v l id 32 w hv hz)
  cases h : isK l id 32 with
  | false =>
    have E : Hid (offP l id = false) := by show _ = _; unfold offP; rw [h]; rfl
    rw [h] at HI
    obtain ⟨p, c, rfl, _⟩ := hv
    clear h hz
    go_enter Tryz.func14, Tryz.ntmps14
    go_wp2_with fail
    refine HI.out.mono ?_
    rintro e w1 ⟨rfl, b1⟩
    go_wp2_with fail
    go_ret
    exact ⟨ret_bool E.out.symm, b1⟩
  | true =>
    have hh : hasN l id = true := by unfold isK at h; rw [Bool.and_eq_true] at h; exact h.1
    obtain ⟨m, hI⟩ := Is.of hh
    obtain ⟨rfl, h0⟩ := (⟨hI.eq, hI.lt⟩ : id = (m : Int) ∧ m < l.length)
    have hR := hI.right
    have sz := right_attrsO hR h0
    have hlen := hR.len.2
    have EQ : Hid (offP l (m : Int) = (hasA l[m] oDis || (grpI l l[m].parent && hasA (nd l l[m].parent.toNat) oDis))) := by
      show _ = _
      unfold offP
      rw [h, parI_at h0, Int.toNat_natCast, nd_at h0, Bool.true_and]
    rw [nd_at h0] at sz
    rw [h] at HI
    have pr := hR.par m h0
    rw [nd_at h0] at pr
    obtain ⟨pr1, pr2⟩ := pr
    obtain ⟨p, c, rfl, hv⟩ := hv
    rcases hv with hv | ⟨b, o, rfl, hv⟩
    · rw [hv] at h0; simp at h0
    obtain ⟨va, vk, N0⟩ := hv m h0
    have N1 := hide N0
    have HO := hide (fun W (hb : Below w.heap.size w W) => refOHas_any l[m] va vk oDis W (N1.out.at_.below hb) (by omega))
    rw [show oDis = ⟨#[100, 105, 115, 97, 98, 108, 101, 100]⟩ from rfl] at HO
    have i0 : (0 : Int) ≤ (m : Int) := by omega
    have i1 : (m : Int) < (l.length : Int) := by omega
    clear h hh hI N0 sz
    cases g : hasA l[m] ⟨#[100, 105, 115, 97, 98, 108, 101, 100]⟩ with
    | true =>
      have E : Hid (offP l (m : Int) = true) := by show _ = _; rw [EQ.out, show oDis = ⟨#[100, 105, 115, 97, 98, 108, 101, 100]⟩ from rfl, g]; rfl
      rw [g] at HO
      clear EQ g hv hR
      go_enter Tryz.func14, Tryz.ntmps14
      go_wp2_with fail
      refine HI.out.mono ?_
      rintro e w1 ⟨rfl, b1⟩
      have a0 := cell_below N1.out.name b1
      have a1 := cell_below N1.out.text b1
      have a2 := cell_below N1.out.attrs b1
      have a3 := cell_below N1.out.parent b1
      have a4 := cell_below N1.out.kids b1
      go_wp2_with fail
      refine (HO.out _ b1).mono ?_
      rintro e w2 ⟨rfl, b2⟩
      go_wp2_with fail
      go_ret
      exact ⟨ret_bool E.out.symm, chain b1 b2⟩
    | false =>
      rw [show oDis = ⟨#[100, 105, 115, 97, 98, 108, 101, 100]⟩ from rfl, g, Bool.false_or] at EQ
      rw [g] at HO
      clear g
      obtain ⟨z0, hz0⟩ : ∃ z0, l[m].parent = z0 := ⟨_, rfl⟩
      rw [hz0] at EQ pr1 pr2
      have HZ := hide hz0
      rw [hz0] at HO
      clear hz0
      by_cases g0 : z0 < 0
      · have E : Hid (offP l (m : Int) = false) := by show _ = _; rw [EQ.out, grp_neg g0]; rfl
        have d0 : decide (0 ≤ z0) = false := decide_eq_false (by omega)
        clear EQ hv hR
        go_enter Tryz.func14, Tryz.ntmps14
        go_wp2_with fail
        refine HI.out.mono ?_
        rintro e w1 ⟨rfl, b1⟩
        have a0 := cell_below N1.out.name b1
        have a1 := cell_below N1.out.text b1
        have a2 := cell_below N1.out.attrs b1
        have a3 := cell_below N1.out.parent b1
        have a4 := cell_below N1.out.kids b1
        rw [HZ.out] at a3
        go_wp2_with fail
        refine (HO.out _ b1).mono ?_
        rintro e w2 ⟨rfl, b2⟩
        go_wp2_with fail
        go_ret
        exact ⟨ret_bool E.out.symm, chain b1 b2⟩
      · obtain ⟨p1, rfl, hp1⟩ := nat_of g0 pr2
        obtain ⟨va1, vk1, N2'⟩ := hv p1 hp1
        have N2 := hide N2'
        have j0 : (0 : Int) ≤ (p1 : Int) := by omega
        have j1 : (p1 : Int) < (l.length : Int) := by omega
        have sz1 := right_attrsO hR hp1
        rw [nd_at hp1] at sz1
        have HO2 := hide (fun W (hb : Below w.heap.size w W) => refOHas_any l[p1] va1 vk1 ⟨#[100, 105, 115, 97, 98, 108, 101, 100]⟩ W (N2.out.at_.below hb) (by omega))
        rw [grp_at hp1, Int.toNat_natCast, nd_at hp1] at EQ
        clear hv hR sz1 N2'
        by_cases g1 : l[p1].name = oGrp
        · rw [decide_eq_true g1, Bool.true_and] at EQ
          have t1 : (l[p1].name.toList == [111, 112, 116, 103, 114, 111, 117, 112]) = true := lit_yes g1
          clear g1
          generalize hasA l[p1] ⟨#[100, 105, 115, 97, 98, 108, 101, 100]⟩ = R at *
          go_enter Tryz.func14, Tryz.ntmps14
          go_wp2_with fail
          refine HI.out.mono ?_
          rintro e w1 ⟨rfl, b1⟩
          have a0 := cell_below N1.out.name b1
          have a1 := cell_below N1.out.text b1
          have a2 := cell_below N1.out.attrs b1
          have a3 := cell_below N1.out.parent b1
          have a4 := cell_below N1.out.kids b1
          rw [HZ.out] at a3
          go_wp2_with fail
          refine (HO.out _ b1).mono ?_
          rintro e w2 ⟨rfl, b2⟩
          have q0 := cell_below N2.out.name (chain b1 b2)
          have q1 := cell_below N2.out.text (chain b1 b2)
          have q2 := cell_below N2.out.attrs (chain b1 b2)
          have q3 := cell_below N2.out.parent (chain b1 b2)
          have q4 := cell_below N2.out.kids (chain b1 b2)
          go_wp2_with fail
          refine (HO2.out _ (chain b1 b2)).mono ?_
          rintro e w3 ⟨rfl, b3⟩
          go_wp2_with fail
          go_ret
          exact ⟨ret_bool EQ.out.symm, chain (chain b1 b2) b3⟩
        · rw [decide_eq_false g1, Bool.false_and] at EQ
          have t1 : (l[p1].name.toList == [111, 112, 116, 103, 114, 111, 117, 112]) = false := lit_no g1
          clear g1 HO2
          go_enter Tryz.func14, Tryz.ntmps14
          go_wp2_with fail
          refine HI.out.mono ?_
          rintro e w1 ⟨rfl, b1⟩
          have a0 := cell_below N1.out.name b1
          have a1 := cell_below N1.out.text b1
          have a2 := cell_below N1.out.attrs b1
          have a3 := cell_below N1.out.parent b1
          have a4 := cell_below N1.out.kids b1
          rw [HZ.out] at a3
          go_wp2_with fail
          refine (HO.out _ b1).mono ?_
          rintro e w2 ⟨rfl, b2⟩
          have q0 := cell_below N2.out.name (chain b1 b2)
          have q1 := cell_below N2.out.text (chain b1 b2)
          have q2 := cell_below N2.out.attrs (chain b1 b2)
          have q3 := cell_below N2.out.parent (chain b1 b2)
          have q4 := cell_below N2.out.kids (chain b1 b2)
          go_wp2_with fail
          go_ret
          exact ⟨ret_bool EQ.out.symm, chain b1 b2⟩
end Go.Proofs.YtemikdmkjgmflaaGreatDoor

namespace Go.Proofs.YtemikdmkjgmflaaGreatDoor
open Go.RowKit
set_option maxRecDepth 100000
set_option maxHeartbeats 4000000 in
theorem refOSize_any (v : Value) (l : List Nd) (id : Int) (w : World) (hv : NodesV w v l) (hz : DocSz l) :
    Calls Tryz.prog 12 #[v, .int .i64 id] w fun e w' => e = .returned (.int .i64 (sizeP l id)) ∧ Below w.heap.size w w' := by
  have HI := hide (refIs_any v l id 23 w hv hz)
  cases h : isK l id 23 with
  | false =>
    have E : Hid (sizeP l id = 0) := by show _ = _; unfold sizeP; rw [h]; rfl
    rw [h] at HI
    obtain ⟨p, c, rfl, _⟩ := hv
    clear h hz
    go_enter Tryz.func12, Tryz.ntmps12
    go_wp2_with fail
    refine HI.out.mono ?_
    rintro e w1 ⟨rfl, b1⟩
    go_wp2_with fail
    go_ret
    exact ⟨ret_int E.out.symm, b1⟩
  | true =>
    have hh : hasN l id = true := by unfold isK at h; rw [Bool.and_eq_true] at h; exact h.1
    obtain ⟨m, hI⟩ := Is.of hh
    have hI' := hide hI
    obtain ⟨rfl, h0⟩ := (⟨hI.eq, hI.lt⟩ : id = (m : Int) ∧ m < l.length)
    have hR := hI.right
    have sz := right_attrsO hR h0
    have hlen := hR.len.2
    have EQ : Hid (sizeP l (m : Int) = if 0 < szN (fndS l[m].attrs oSiz).data.toList then szN (fndS l[m].attrs oSiz).data.toList else if hasA l[m] oMul = true then 4 else 1) := by
      show _ = _
      unfold sizeP
      rw [if_pos h, Int.toNat_natCast, nd_at h0]
    rw [nd_at h0] at sz
    rw [h] at HI
    obtain ⟨p, c, rfl, hv⟩ := hv
    rcases hv with hv | ⟨b, o, rfl, hv⟩
    · rw [hv] at h0; simp at h0
    obtain ⟨va, vk, N0⟩ := hv m h0
    have N1 := hide N0
    have fsz : (fndS l[m].attrs oSiz).size ≤ 4000 := by
      unfold fndS
      split
      · decide
      · rename_i i e
        obtain ⟨hi, _, _⟩ := List.findIdx?_eq_some_iff_getElem.1 (show l[m].attrs.findIdx? (isN oSiz) = some i from e)
        rw [show l[m].attrs.getD i at0 = l[m].attrs[i] by simp [List.getD, hi]]
        exact sz.2 _ (List.getElem_mem hi)
    have HA := hide (fun W (hb : Below w.heap.size w W) => refAttrS_any va l[m].attrs oSiz W (N1.out.at_.below hb) (by omega))
    have HM := hide (fun W (hb : Below w.heap.size w W) => refOHas_any l[m] va vk oMul W (N1.out.at_.below hb) (by omega))
    rw [show oSiz = ⟨#[115, 105, 122, 101]⟩ from rfl] at HA EQ fsz
    rw [show oMul = ⟨#[109, 117, 108, 116, 105, 112, 108, 101]⟩ from rfl] at HM EQ
    have i0 : (0 : Int) ≤ (m : Int) := by omega
    have i1 : (m : Int) < (l.length : Int) := by omega
    clear h hh hI N0 sz hv hz hI' hR
    generalize fndS l[m].attrs ⟨#[115, 105, 122, 101]⟩ = s at *
    generalize (findA l[m].attrs ⟨#[115, 105, 122, 101]⟩).isSome = fb at *
    generalize hasA l[m] ⟨#[109, 117, 108, 116, 105, 112, 108, 101]⟩ = R at *
    have ZL : Hid (¬ s.size ≤ 4 → szN s.data.toList = 0) := fun q => szN_no (fun t => q (by have := t.1; simpa using this))
    have ZB : Hid (∀ k (g : k < s.size), ¬ digB s[k] = true → szN s.data.toList = 0) := fun k g q => szN_no (fun t => q (by
      have := List.all_eq_true.1 t.2 (s.data.toList[k]'(by simpa using g)) (List.getElem_mem _)
      rwa [byte_at s k g] at this))
    have ZN : Hid (s.size ≤ 4 → s.data.toList.all digB = true → szN s.data.toList = szF s.data.toList) := fun q t => szN_is (by simpa using q) t
    by_cases hp : 0 < szN s.data.toList
    · skip
      rw [if_pos hp] at EQ
      go_enter Tryz.func12, Tryz.ntmps12
      go_wp2_with fail
      refine HI.out.mono ?_
      rintro e w1 ⟨rfl, b1⟩
      have a0 := cell_below N1.out.name b1
      have a1 := cell_below N1.out.text b1
      have a2 := cell_below N1.out.attrs b1
      have a3 := cell_below N1.out.parent b1
      have a4 := cell_below N1.out.kids b1
      go_wp2_with fail
      refine (HA.out _ b1).mono ?_
      rintro e u ⟨rfl, hu⟩
      obtain rfl : w1 = u := hu.symm
      go_wp2_with fail
      go_loop [7, 8] (fun nv iv => ∃ k : Nat, k ≤ s.size ∧ (k = 0 ∨ s.size ≤ 4) ∧ iv = .int .i64 k ∧ nv = .int .i64 (szF (s.data.toList.take k)) ∧ Hid ((s.data.toList.take k).all digB = true)) (fun _ iv => s.size - (intOf iv).toNat)
      case atStart => exact ⟨0, Nat.zero_le _, .inl rfl, rfl, rfl, rfl⟩
      case round =>
        obtain ⟨k, hk, hk4, rfl, rfl, hd⟩ := hrel
        by_cases g : k < s.size
        · have tk : s.data.toList.take (k + 1) = s.data.toList.take k ++ [s[k]] := by rw [List.take_succ_eq_append_getElem (by simpa using g), byte_at]
          have bd := szF_bound k (s.data.toList.take k) (by rw [List.length_take, Nat.min_eq_left (by simpa using hk)]) hd.out
          have b8 : s[k].toNat < 256 := s[k].toNat_lt
          by_cases h4 : s.size ≤ 4
          · have bd3 : szF (s.data.toList.take k) ≤ 9999 := by
              have bd := bd.2
              have hk3 : k = 0 ∨ k = 1 ∨ k = 2 ∨ k = 3 := by omega
              have : (10 : Int) ^ k ≤ 1000 := by rcases hk3 with e | e | e | e <;> rw [e] <;> decide
              omega
            have bd0 := bd.1
            have l4 : ¬ 4 < (s.size : Int) := by omega
            have d4 : decide (4 < (s.size : Int)) = false := decide_eq_false l4
            rcases (show (s[k].toNat : Int) < 48 ∨ (48 ≤ (s[k].toNat : Int) ∧ 57 < (s[k].toNat : Int)) ∨ (48 ≤ (s[k].toNat : Int) ∧ (s[k].toNat : Int) ≤ 57) by omega) with h1 | ⟨h1, h2⟩ | ⟨h1, h2⟩
            · have ZZ := hide (ZB.out k g (fun q => by unfold digB at q; have := of_decide_eq_true q; omega))
              exact absurd hp (by rw [ZZ.out]; decide)
            · have ZZ := hide (ZB.out k g (fun q => by unfold digB at q; have := of_decide_eq_true q; omega))
              have d1 : decide ((s[k].toNat : Int) < 48) = false := decide_eq_false (by omega)
              exact absurd hp (by rw [ZZ.out]; decide)
            · have d1 : decide ((s[k].toNat : Int) < 48) = false := decide_eq_false (by omega)
              have d2 : decide (57 < (s[k].toNat : Int)) = false := decide_eq_false (by omega)
              have hd' : Hid ((s.data.toList.take (k + 1)).all digB = true) := by
                show _ = _
                rw [tk, List.all_append, hd.out]
                show (digB s[k] && true) = true
                rw [show digB s[k] = true from decide_eq_true (by omega)]; rfl
              have EN : Hid (szF (s.data.toList.take (k + 1)) = 10 * szF (s.data.toList.take k) + ((s[k].toNat : Int) - 48)) := by show _ = _; rw [tk, szF_app]
              clear ZB ZL EQ hd tk bd HM
              generalize szF (s.data.toList.take k) = z at *
              go_wp2_with fail
              go_round
              case rel => exact ⟨k + 1, by omega, .inr h4, by go_num, by rw [EN.out], hd'⟩
              case measure => simp [intOf]; omega
          · have l4 : 4 < (s.size : Int) := by omega
            have ZZ := hide (ZL.out (by omega))
            have bd0 := bd.1
            rcases (show (s[k].toNat : Int) < 48 ∨ (48 ≤ (s[k].toNat : Int) ∧ 57 < (s[k].toNat : Int)) ∨ (48 ≤ (s[k].toNat : Int) ∧ (s[k].toNat : Int) ≤ 57) by omega) with h1 | ⟨h1, h2⟩ | ⟨h1, h2⟩
            · skip
              exact absurd hp (by rw [ZZ.out]; decide)
            · have d1 : decide ((s[k].toNat : Int) < 48) = false := decide_eq_false (by omega)
              exact absurd hp (by rw [ZZ.out]; decide)
            · have d1 : decide ((s[k].toNat : Int) < 48) = false := decide_eq_false (by omega)
              have d2 : decide (57 < (s[k].toNat : Int)) = false := decide_eq_false (by omega)
              exact absurd hp (by rw [ZZ.out]; decide)
        · obtain rfl : k = s.size := by omega
          have et : s.data.toList.take s.size = s.data.toList := List.take_of_length_le (by simp)
          rw [et] at hd
          rw [et]
          have h4 : s.size ≤ 4 := by omega
          have ZE := hide (ZN.out h4 hd.out)
          have hp' : 0 < szF s.data.toList := by rw [← ZE.out]; exact hp
          rw [ZE.out] at EQ
          clear ZB ZL ZN hd HM et hp ZE
          generalize szF s.data.toList = z at *
          go_wp2_with fail
          go_ret
          exact ⟨ret_int EQ.out.symm, b1⟩
    · skip
      rw [if_neg hp] at EQ
      go_enter Tryz.func12, Tryz.ntmps12
      go_wp2_with fail
      refine HI.out.mono ?_
      rintro e w1 ⟨rfl, b1⟩
      have a0 := cell_below N1.out.name b1
      have a1 := cell_below N1.out.text b1
      have a2 := cell_below N1.out.attrs b1
      have a3 := cell_below N1.out.parent b1
      have a4 := cell_below N1.out.kids b1
      go_wp2_with fail
      refine (HA.out _ b1).mono ?_
      rintro e u ⟨rfl, hu⟩
      obtain rfl : w1 = u := hu.symm
      go_wp2_with fail
      go_loop [7, 8] (fun nv iv => ∃ k : Nat, k ≤ s.size ∧ (k = 0 ∨ s.size ≤ 4) ∧ iv = .int .i64 k ∧ nv = .int .i64 (szF (s.data.toList.take k)) ∧ Hid ((s.data.toList.take k).all digB = true)) (fun _ iv => s.size - (intOf iv).toNat)
      case atStart => exact ⟨0, Nat.zero_le _, .inl rfl, rfl, rfl, rfl⟩
      case round =>
        obtain ⟨k, hk, hk4, rfl, rfl, hd⟩ := hrel
        by_cases g : k < s.size
        · have tk : s.data.toList.take (k + 1) = s.data.toList.take k ++ [s[k]] := by rw [List.take_succ_eq_append_getElem (by simpa using g), byte_at]
          have bd := szF_bound k (s.data.toList.take k) (by rw [List.length_take, Nat.min_eq_left (by simpa using hk)]) hd.out
          have b8 : s[k].toNat < 256 := s[k].toNat_lt
          by_cases h4 : s.size ≤ 4
          · have bd3 : szF (s.data.toList.take k) ≤ 9999 := by
              have bd := bd.2
              have hk3 : k = 0 ∨ k = 1 ∨ k = 2 ∨ k = 3 := by omega
              have : (10 : Int) ^ k ≤ 1000 := by rcases hk3 with e | e | e | e <;> rw [e] <;> decide
              omega
            have bd0 := bd.1
            have l4 : ¬ 4 < (s.size : Int) := by omega
            have d4 : decide (4 < (s.size : Int)) = false := decide_eq_false l4
            rcases (show (s[k].toNat : Int) < 48 ∨ (48 ≤ (s[k].toNat : Int) ∧ 57 < (s[k].toNat : Int)) ∨ (48 ≤ (s[k].toNat : Int) ∧ (s[k].toNat : Int) ≤ 57) by omega) with h1 | ⟨h1, h2⟩ | ⟨h1, h2⟩
            · have ZZ := hide (ZB.out k g (fun q => by unfold digB at q; have := of_decide_eq_true q; omega))
              clear ZB ZL ZN hd tk bd hp
              generalize szF (s.data.toList.take k) = z at *
              go_wp2_with fail
              refine (HM.out _ b1).mono ?_
              rintro e w2 ⟨rfl, b2⟩
              cases R with
              | true =>
                go_wp2_with fail
                go_ret
                exact ⟨ret_int EQ.out.symm, chain b1 b2⟩
              | false =>
                go_wp2_with fail
                go_ret
                exact ⟨ret_int EQ.out.symm, chain b1 b2⟩
            · have ZZ := hide (ZB.out k g (fun q => by unfold digB at q; have := of_decide_eq_true q; omega))
              have d1 : decide ((s[k].toNat : Int) < 48) = false := decide_eq_false (by omega)
              clear ZB ZL ZN hd tk bd hp
              generalize szF (s.data.toList.take k) = z at *
              go_wp2_with fail
              refine (HM.out _ b1).mono ?_
              rintro e w2 ⟨rfl, b2⟩
              cases R with
              | true =>
                go_wp2_with fail
                go_ret
                exact ⟨ret_int EQ.out.symm, chain b1 b2⟩
              | false =>
                go_wp2_with fail
                go_ret
                exact ⟨ret_int EQ.out.symm, chain b1 b2⟩
            · have d1 : decide ((s[k].toNat : Int) < 48) = false := decide_eq_false (by omega)
              have d2 : decide (57 < (s[k].toNat : Int)) = false := decide_eq_false (by omega)
              have hd' : Hid ((s.data.toList.take (k + 1)).all digB = true) := by
                show _ = _
                rw [tk, List.all_append, hd.out]
                show (digB s[k] && true) = true
                rw [show digB s[k] = true from decide_eq_true (by omega)]; rfl
              have EN : Hid (szF (s.data.toList.take (k + 1)) = 10 * szF (s.data.toList.take k) + ((s[k].toNat : Int) - 48)) := by show _ = _; rw [tk, szF_app]
              clear ZB ZL EQ hd tk bd HM
              generalize szF (s.data.toList.take k) = z at *
              go_wp2_with fail
              go_round
              case rel => exact ⟨k + 1, by omega, .inr h4, by go_num, by rw [EN.out], hd'⟩
              case measure => simp [intOf]; omega
          · have l4 : 4 < (s.size : Int) := by omega
            have ZZ := hide (ZL.out (by omega))
            have bd0 := bd.1
            rcases (show (s[k].toNat : Int) < 48 ∨ (48 ≤ (s[k].toNat : Int) ∧ 57 < (s[k].toNat : Int)) ∨ (48 ≤ (s[k].toNat : Int) ∧ (s[k].toNat : Int) ≤ 57) by omega) with h1 | ⟨h1, h2⟩ | ⟨h1, h2⟩
            · skip
              clear ZB ZL ZN hd tk bd hp
              generalize szF (s.data.toList.take k) = z at *
              go_wp2_with fail
              refine (HM.out _ b1).mono ?_
              rintro e w2 ⟨rfl, b2⟩
              cases R with
              | true =>
                go_wp2_with fail
                go_ret
                exact ⟨ret_int EQ.out.symm, chain b1 b2⟩
              | false =>
                go_wp2_with fail
                go_ret
                exact ⟨ret_int EQ.out.symm, chain b1 b2⟩
            · have d1 : decide ((s[k].toNat : Int) < 48) = false := decide_eq_false (by omega)
              clear ZB ZL ZN hd tk bd hp
              generalize szF (s.data.toList.take k) = z at *
              go_wp2_with fail
              refine (HM.out _ b1).mono ?_
              rintro e w2 ⟨rfl, b2⟩
              cases R with
              | true =>
                go_wp2_with fail
                go_ret
                exact ⟨ret_int EQ.out.symm, chain b1 b2⟩
              | false =>
                go_wp2_with fail
                go_ret
                exact ⟨ret_int EQ.out.symm, chain b1 b2⟩
            · have d1 : decide ((s[k].toNat : Int) < 48) = false := decide_eq_false (by omega)
              have d2 : decide (57 < (s[k].toNat : Int)) = false := decide_eq_false (by omega)
              clear ZB ZL ZN hd tk bd hp
              generalize szF (s.data.toList.take k) = z at *
              go_wp2_with fail
              refine (HM.out _ b1).mono ?_
              rintro e w2 ⟨rfl, b2⟩
              cases R with
              | true =>
                go_wp2_with fail
                go_ret
                exact ⟨ret_int EQ.out.symm, chain b1 b2⟩
              | false =>
                go_wp2_with fail
                go_ret
                exact ⟨ret_int EQ.out.symm, chain b1 b2⟩
        · obtain rfl : k = s.size := by omega
          have et : s.data.toList.take s.size = s.data.toList := List.take_of_length_le (by simp)
          rw [et] at hd
          rw [et]
          have h4 : s.size ≤ 4 := by omega
          have hp2 : szF s.data.toList ≤ 0 := by rw [← ZN.out h4 hd.out]; omega
          clear ZB ZL ZN hd et hp
          generalize szF s.data.toList = z at *
          go_wp2_with fail
          refine (HM.out _ b1).mono ?_
          rintro e w2 ⟨rfl, b2⟩
          cases R with
          | true =>
            go_wp2_with fail
            go_ret
            exact ⟨ret_int EQ.out.symm, chain b1 b2⟩
          | false =>
            go_wp2_with fail
            go_ret
            exact ⟨ret_int EQ.out.symm, chain b1 b2⟩

end Go.Proofs.YtemikdmkjgmflaaGreatDoor
