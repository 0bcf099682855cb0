/- The document's Attr, SameFiles, Same of layer 14. The document's Size, Text of layer 15. The program's Reset of layer 15. -/
import Derived.Test.YtemikdmkjgmflaaDoorJod19
import Derived.Test.YtemikdmkjgmflaaDoorJod34
import Derived.Test.YtemikdmkjgmflaaDoorJod36

namespace Go.Proofs.YtemikdmkjgmflaaDoor
open Go.RowKit
set_option maxRecDepth 100000
theorem ret_fndA {a b : ByteArray} {c d : Bool} (h : a = b) (g : c = d) : Ending.returned (.tuple #[.string a, .bool c]) = .returned (.tuple #[.string b, .bool d]) := by rw [h, g]
set_option maxHeartbeats 4000000 in
set_option maxRecDepth 100000 in
theorem refAttrS_any (v : Value) (ax : List (ByteArray × ByteArray)) (name : ByteArray) (w : World) (hv : AttrsV w v ax) (hl : ax.length ≤ 4398046511104) :
    Calls Tryd.prog 44 #[v, .string name] w fun e w' => e = .returned (.tuple #[.string (fndS ax name), .bool (findA ax name).isSome]) ∧ w' = w := by
  have HF := hide (refFind_any v ax name w hv hl)
  obtain ⟨p, c, rfl, hv⟩ := hv
  cases hf : findA ax name with
  | none =>
    have E := hide (fnd_miss hf)
    rw [hf, show findV none = -1 from rfl] at HF
    clear hf hv hl
    go_enter Tryd.func44, Tryd.ntmps44
    go_wp2_with fail
    refine HF.out.mono ?_
    rintro e u ⟨rfl, hu⟩
    obtain rfl : w = u := hu.symm
    go_wp2_with fail
    go_ret2
    exact ⟨ret_fndA E.out.1.symm rfl, rfl⟩
  | some i =>
    obtain ⟨hi, _, _⟩ := List.findIdx?_eq_some_iff_getElem.1 (show ax.findIdx? (isN name) = some i from hf)
    have E := hide (fnd_hit hi hf)
    rw [hf, show findV (some i) = (i : Int) from rfl] at HF
    obtain ⟨b, o, rfl, hv2⟩ : ∃ b o, p = some ⟨b, o, none⟩ ∧ ∀ i (h : i < ax.length), w.cell? ⟨b, o + i * 2, none⟩ = some (.string ax[i].1) ∧ w.cell? ⟨b, o + i * 2 + 1, none⟩ = some (.string ax[i].2) := by
      rcases hv with t | t
      · rw [t] at hi; simp at hi
      · exact t
    have c1 := (hv2 i hi).2
    have i0 : (0 : Int) ≤ (i : Int) := by omega
    have i1 : (i : Int) < (ax.length : Int) := by omega
    have i2 : ¬ (i : Int) < 0 := by omega
    generalize ax[i].2 = t at *
    clear hf hv hv2 hl
    go_enter Tryd.func44, Tryd.ntmps44
    go_wp2_with fail
    refine HF.out.mono ?_
    rintro e u ⟨rfl, hu⟩
    obtain rfl : w = u := hu.symm
    go_wp2_with fail
    go_ret2
    exact ⟨ret_fndA E.out.1.symm rfl, rfl⟩
end Go.Proofs.YtemikdmkjgmflaaDoor

namespace Go.Proofs.YtemikdmkjgmflaaDoor
open Go.RowKit
set_option maxRecDepth 100000
set_option maxHeartbeats 4000000 in
theorem refOSize_any (v : Value) (l : List Nd) (id : Int) (w : World) (hv : NodesV w v l) (hz : DocSz l) :
    Calls Tryd.prog 19 #[v, .int .i64 id] w fun e w' => e = .returned (.int .i64 (sizeP l id)) ∧ Below w.heap.size w w' := by
  have HI := hide (refIs_any v l id 23 w hv hz)
  cases h : isK l id 23 with
  | false =>
    have E : Hid (sizeP l id = 0) := by show _ = _; unfold sizeP; rw [h]; rfl
    rw [h] at HI
    obtain ⟨p, c, rfl, _⟩ := hv
    clear h hz
    go_enter Tryd.func19, Tryd.ntmps19
    go_wp2_with fail
    refine HI.out.mono ?_
    rintro e w1 ⟨rfl, b1⟩
    go_wp2_with fail
    go_ret
    exact ⟨ret_int E.out.symm, b1⟩
  | true =>
    have hh : hasN l id = true := by unfold isK at h; rw [Bool.and_eq_true] at h; exact h.1
    obtain ⟨m, hI⟩ := Is.of hh
    have hI' := hide hI
    obtain ⟨rfl, h0⟩ := (⟨hI.eq, hI.lt⟩ : id = (m : Int) ∧ m < l.length)
    have hR := hI.right
    have sz := right_attrsO hR h0
    have hlen := hR.len.2
    have EQ : Hid (sizeP l (m : Int) = if 0 < szN (fndS l[m].attrs oSiz).data.toList then szN (fndS l[m].attrs oSiz).data.toList else if hasA l[m] oMul = true then 4 else 1) := by
      show _ = _
      unfold sizeP
      rw [if_pos h, Int.toNat_natCast, nd_at h0]
    rw [nd_at h0] at sz
    rw [h] at HI
    obtain ⟨p, c, rfl, hv⟩ := hv
    rcases hv with hv | ⟨b, o, rfl, hv⟩
    · rw [hv] at h0; simp at h0
    obtain ⟨va, vk, N0⟩ := hv m h0
    have N1 := hide N0
    have fsz : (fndS l[m].attrs oSiz).size ≤ 4000 := by
      unfold fndS
      split
      · decide
      · rename_i i e
        obtain ⟨hi, _, _⟩ := List.findIdx?_eq_some_iff_getElem.1 (show l[m].attrs.findIdx? (isN oSiz) = some i from e)
        rw [show l[m].attrs.getD i at0 = l[m].attrs[i] by simp [List.getD, hi]]
        exact sz.2 _ (List.getElem_mem hi)
    have HA := hide (fun W (hb : Below w.heap.size w W) => refAttrS_any va l[m].attrs oSiz W (N1.out.at_.below hb) (by omega))
    have HM := hide (fun W (hb : Below w.heap.size w W) => refOHas_any l[m] va vk oMul W (N1.out.at_.below hb) (by omega))
    rw [show oSiz = ⟨#[115, 105, 122, 101]⟩ from rfl] at HA EQ fsz
    rw [show oMul = ⟨#[109, 117, 108, 116, 105, 112, 108, 101]⟩ from rfl] at HM EQ
    have i0 : (0 : Int) ≤ (m : Int) := by omega
    have i1 : (m : Int) < (l.length : Int) := by omega
    clear h hh hI N0 sz hv hz hI' hR
    generalize fndS l[m].attrs ⟨#[115, 105, 122, 101]⟩ = s at *
    generalize (findA l[m].attrs ⟨#[115, 105, 122, 101]⟩).isSome = fb at *
    generalize hasA l[m] ⟨#[109, 117, 108, 116, 105, 112, 108, 101]⟩ = R at *
    have ZL : Hid (¬ s.size ≤ 4 → szN s.data.toList = 0) := fun q => szN_no (fun t => q (by have := t.1; simpa using this))
    have ZB : Hid (∀ k (g : k < s.size), ¬ digB s[k] = true → szN s.data.toList = 0) := fun k g q => szN_no (fun t => q (by
      have := List.all_eq_true.1 t.2 (s.data.toList[k]'(by simpa using g)) (List.getElem_mem _)
      rwa [byte_at s k g] at this))
    have ZN : Hid (s.size ≤ 4 → s.data.toList.all digB = true → szN s.data.toList = szF s.data.toList) := fun q t => szN_is (by simpa using q) t
    by_cases hp : 0 < szN s.data.toList
    · skip
      rw [if_pos hp] at EQ
      go_enter Tryd.func19, Tryd.ntmps19
      go_wp2_with fail
      refine HI.out.mono ?_
      rintro e w1 ⟨rfl, b1⟩
      have a0 := cell_below N1.out.name b1
      have a1 := cell_below N1.out.text b1
      have a2 := cell_below N1.out.attrs b1
      have a3 := cell_below N1.out.parent b1
      have a4 := cell_below N1.out.kids b1
      go_wp2_with fail
      refine (HA.out _ b1).mono ?_
      rintro e u ⟨rfl, hu⟩
      obtain rfl : w1 = u := hu.symm
      go_wp2_with fail
      go_loop [7, 8] (fun nv iv => ∃ k : Nat, k ≤ s.size ∧ (k = 0 ∨ s.size ≤ 4) ∧ iv = .int .i64 k ∧ nv = .int .i64 (szF (s.data.toList.take k)) ∧ Hid ((s.data.toList.take k).all digB = true)) (fun _ iv => s.size - (intOf iv).toNat)
      case atStart => exact ⟨0, Nat.zero_le _, .inl rfl, rfl, rfl, rfl⟩
      case round =>
        obtain ⟨k, hk, hk4, rfl, rfl, hd⟩ := hrel
        by_cases g : k < s.size
        · have tk : s.data.toList.take (k + 1) = s.data.toList.take k ++ [s[k]] := by rw [List.take_succ_eq_append_getElem (by simpa using g), byte_at]
          have bd := szF_bound k (s.data.toList.take k) (by rw [List.length_take, Nat.min_eq_left (by simpa using hk)]) hd.out
          have b8 : s[k].toNat < 256 := s[k].toNat_lt
          by_cases h4 : s.size ≤ 4
          · have bd3 : szF (s.data.toList.take k) ≤ 9999 := by
              have bd := bd.2
              have hk3 : k = 0 ∨ k = 1 ∨ k = 2 ∨ k = 3 := by omega
              have : (10 : Int) ^ k ≤ 1000 := by rcases hk3 with e | e | e | e <;> rw [e] <;> decide
              omega
            have bd0 := bd.1
            have l4 : ¬ 4 < (s.size : Int) := by omega
            have d4 : decide (4 < (s.size : Int)) = false := decide_eq_false l4
            rcases (show (s[k].toNat : Int) < 48 ∨ (48 ≤ (s[k].toNat : Int) ∧ 57 < (s[k].toNat : Int)) ∨ (48 ≤ (s[k].toNat : Int) ∧ (s[k].toNat : Int) ≤ 57) by omega) with h1 | ⟨h1, h2⟩ | ⟨h1, h2⟩
            · have ZZ := hide (ZB.out k g (fun q => by unfold digB at q; have := of_decide_eq_true q; omega))
              exact absurd hp (by rw [ZZ.out]; decide)
            · have ZZ := hide (ZB.out k g (fun q => by unfold digB at q; have := of_decide_eq_true q; omega))
              have d1 : decide ((s[k].toNat : Int) < 48) = false := decide_eq_false (by omega)
              exact absurd hp (by rw [ZZ.out]; decide)
            · have d1 : decide ((s[k].toNat : Int) < 48) = false := decide_eq_false (by omega)
              have d2 : decide (57 < (s[k].toNat : Int)) = false := decide_eq_false (by omega)
              have hd' : Hid ((s.data.toList.take (k + 1)).all digB = true) := by
                show _ = _
                rw [tk, List.all_append, hd.out]
                show (digB s[k] && true) = true
                rw [show digB s[k] = true from decide_eq_true (by omega)]; rfl
              have EN : Hid (szF (s.data.toList.take (k + 1)) = 10 * szF (s.data.toList.take k) + ((s[k].toNat : Int) - 48)) := by show _ = _; rw [tk, szF_app]
              clear ZB ZL EQ hd tk bd HM
              generalize szF (s.data.toList.take k) = z at *
              go_wp2_with fail
              go_round
              case rel => exact ⟨k + 1, by omega, .inr h4, by go_num, by rw [EN.out], hd'⟩
              case measure => simp [intOf]; omega
          · have l4 : 4 < (s.size : Int) := by omega
            have ZZ := hide (ZL.out (by omega))
            have bd0 := bd.1
            rcases (show (s[k].toNat : Int) < 48 ∨ (48 ≤ (s[k].toNat : Int) ∧ 57 < (s[k].toNat : Int)) ∨ (48 ≤ (s[k].toNat : Int) ∧ (s[k].toNat : Int) ≤ 57) by omega) with h1 | ⟨h1, h2⟩ | ⟨h1, h2⟩
            · skip
              exact absurd hp (by rw [ZZ.out]; decide)
            · have d1 : decide ((s[k].toNat : Int) < 48) = false := decide_eq_false (by omega)
              exact absurd hp (by rw [ZZ.out]; decide)
            · have d1 : decide ((s[k].toNat : Int) < 48) = false := decide_eq_false (by omega)
              have d2 : decide (57 < (s[k].toNat : Int)) = false := decide_eq_false (by omega)
              exact absurd hp (by rw [ZZ.out]; decide)
        · obtain rfl : k = s.size := by omega
          have et : s.data.toList.take s.size = s.data.toList := List.take_of_length_le (by simp)
          rw [et] at hd
          rw [et]
          have h4 : s.size ≤ 4 := by omega
          have ZE := hide (ZN.out h4 hd.out)
          have hp' : 0 < szF s.data.toList := by rw [← ZE.out]; exact hp
          rw [ZE.out] at EQ
          clear ZB ZL ZN hd HM et hp ZE
          generalize szF s.data.toList = z at *
          go_wp2_with fail
          go_ret
          exact ⟨ret_int EQ.out.symm, b1⟩
    · skip
      rw [if_neg hp] at EQ
      go_enter Tryd.func19, Tryd.ntmps19
      go_wp2_with fail
      refine HI.out.mono ?_
      rintro e w1 ⟨rfl, b1⟩
      have a0 := cell_below N1.out.name b1
      have a1 := cell_below N1.out.text b1
      have a2 := cell_below N1.out.attrs b1
      have a3 := cell_below N1.out.parent b1
      have a4 := cell_below N1.out.kids b1
      go_wp2_with fail
      refine (HA.out _ b1).mono ?_
      rintro e u ⟨rfl, hu⟩
      obtain rfl : w1 = u := hu.symm
      go_wp2_with fail
      go_loop [7, 8] (fun nv iv => ∃ k : Nat, k ≤ s.size ∧ (k = 0 ∨ s.size ≤ 4) ∧ iv = .int .i64 k ∧ nv = .int .i64 (szF (s.data.toList.take k)) ∧ Hid ((s.data.toList.take k).all digB = true)) (fun _ iv => s.size - (intOf iv).toNat)
      case atStart => exact ⟨0, Nat.zero_le _, .inl rfl, rfl, rfl, rfl⟩
      case round =>
        obtain ⟨k, hk, hk4, rfl, rfl, hd⟩ := hrel
        by_cases g : k < s.size
        · have tk : s.data.toList.take (k + 1) = s.data.toList.take k ++ [s[k]] := by rw [List.take_succ_eq_append_getElem (by simpa using g), byte_at]
          have bd := szF_bound k (s.data.toList.take k) (by rw [List.length_take, Nat.min_eq_left (by simpa using hk)]) hd.out
          have b8 : s[k].toNat < 256 := s[k].toNat_lt
          by_cases h4 : s.size ≤ 4
          · have bd3 : szF (s.data.toList.take k) ≤ 9999 := by
              have bd := bd.2
              have hk3 : k = 0 ∨ k = 1 ∨ k = 2 ∨ k = 3 := by omega
              have : (10 : Int) ^ k ≤ 1000 := by rcases hk3 with e | e | e | e <;> rw [e] <;> decide
              omega
            have bd0 := bd.1
            have l4 : ¬ 4 < (s.size : Int) := by omega
            have d4 : decide (4 < (s.size : Int)) = false := decide_eq_false l4
            rcases (show (s[k].toNat : Int) < 48 ∨ (48 ≤ (s[k].toNat : Int) ∧ 57 < (s[k].toNat : Int)) ∨ (48 ≤ (s[k].toNat : Int) ∧ (s[k].toNat : Int) ≤ 57) by omega) with h1 | ⟨h1, h2⟩ | ⟨h1, h2⟩
            · have ZZ := hide (ZB.out k g (fun q => by unfold digB at q; have := of_decide_eq_true q; omega))
              clear ZB ZL ZN hd tk bd hp
              generalize szF (s.data.toList.take k) = z at *
              go_wp2_with fail
              refine (HM.out _ b1).mono ?_
              rintro e w2 ⟨rfl, b2⟩
              cases R with
              | true =>
                go_wp2_with fail
                go_ret
                exact ⟨ret_int EQ.out.symm, chain b1 b2⟩
              | false =>
                go_wp2_with fail
                go_ret
                exact ⟨ret_int EQ.out.symm, chain b1 b2⟩
            · have ZZ := hide (ZB.out k g (fun q => by unfold digB at q; have := of_decide_eq_true q; omega))
              have d1 : decide ((s[k].toNat : Int) < 48) = false := decide_eq_false (by omega)
              clear ZB ZL ZN hd tk bd hp
              generalize szF (s.data.toList.take k) = z at *
              go_wp2_with fail
              refine (HM.out _ b1).mono ?_
              rintro e w2 ⟨rfl, b2⟩
              cases R with
              | true =>
                go_wp2_with fail
                go_ret
                exact ⟨ret_int EQ.out.symm, chain b1 b2⟩
              | false =>
                go_wp2_with fail
                go_ret
                exact ⟨ret_int EQ.out.symm, chain b1 b2⟩
            · have d1 : decide ((s[k].toNat : Int) < 48) = false := decide_eq_false (by omega)
              have d2 : decide (57 < (s[k].toNat : Int)) = false := decide_eq_false (by omega)
              have hd' : Hid ((s.data.toList.take (k + 1)).all digB = true) := by
                show _ = _
                rw [tk, List.all_append, hd.out]
                show (digB s[k] && true) = true
                rw [show digB s[k] = true from decide_eq_true (by omega)]; rfl
              have EN : Hid (szF (s.data.toList.take (k + 1)) = 10 * szF (s.data.toList.take k) + ((s[k].toNat : Int) - 48)) := by show _ = _; rw [tk, szF_app]
              clear ZB ZL EQ hd tk bd HM
              generalize szF (s.data.toList.take k) = z at *
              go_wp2_with fail
              go_round
              case rel => exact ⟨k + 1, by omega, .inr h4, by go_num, by rw [EN.out], hd'⟩
              case measure => simp [intOf]; omega
          · have l4 : 4 < (s.size : Int) := by omega
            have ZZ := hide (ZL.out (by omega))
            have bd0 := bd.1
            rcases (show (s[k].toNat : Int) < 48 ∨ (48 ≤ (s[k].toNat : Int) ∧ 57 < (s[k].toNat : Int)) ∨ (48 ≤ (s[k].toNat : Int) ∧ (s[k].toNat : Int) ≤ 57) by omega) with h1 | ⟨h1, h2⟩ | ⟨h1, h2⟩
            · skip
              clear ZB ZL ZN hd tk bd hp
              generalize szF (s.data.toList.take k) = z at *
              go_wp2_with fail
              refine (HM.out _ b1).mono ?_
              rintro e w2 ⟨rfl, b2⟩
              cases R with
              | true =>
                go_wp2_with fail
                go_ret
                exact ⟨ret_int EQ.out.symm, chain b1 b2⟩
              | false =>
                go_wp2_with fail
                go_ret
                exact ⟨ret_int EQ.out.symm, chain b1 b2⟩
            · have d1 : decide ((s[k].toNat : Int) < 48) = false := decide_eq_false (by omega)
              clear ZB ZL ZN hd tk bd hp
              generalize szF (s.data.toList.take k) = z at *
              go_wp2_with fail
              refine (HM.out _ b1).mono ?_
              rintro e w2 ⟨rfl, b2⟩
              cases R with
              | true =>
                go_wp2_with fail
                go_ret
                exact ⟨ret_int EQ.out.symm, chain b1 b2⟩
              | false =>
                go_wp2_with fail
                go_ret
                exact ⟨ret_int EQ.out.symm, chain b1 b2⟩
            · have d1 : decide ((s[k].toNat : Int) < 48) = false := decide_eq_false (by omega)
              have d2 : decide (57 < (s[k].toNat : Int)) = false := decide_eq_false (by omega)
              clear ZB ZL ZN hd tk bd hp
              generalize szF (s.data.toList.take k) = z at *
              go_wp2_with fail
              refine (HM.out _ b1).mono ?_
              rintro e w2 ⟨rfl, b2⟩
              cases R with
              | true =>
                go_wp2_with fail
                go_ret
                exact ⟨ret_int EQ.out.symm, chain b1 b2⟩
              | false =>
                go_wp2_with fail
                go_ret
                exact ⟨ret_int EQ.out.symm, chain b1 b2⟩
        · obtain rfl : k = s.size := by omega
          have et : s.data.toList.take s.size = s.data.toList := List.take_of_length_le (by simp)
          rw [et] at hd
          rw [et]
          have h4 : s.size ≤ 4 := by omega
          have hp2 : szF s.data.toList ≤ 0 := by rw [← ZN.out h4 hd.out]; omega
          clear ZB ZL ZN hd et hp
          generalize szF s.data.toList = z at *
          go_wp2_with fail
          refine (HM.out _ b1).mono ?_
          rintro e w2 ⟨rfl, b2⟩
          cases R with
          | true =>
            go_wp2_with fail
            go_ret
            exact ⟨ret_int EQ.out.symm, chain b1 b2⟩
          | false =>
            go_wp2_with fail
            go_ret
            exact ⟨ret_int EQ.out.symm, chain b1 b2⟩
end Go.Proofs.YtemikdmkjgmflaaDoor

namespace Go.Proofs.YtemikdmkjgmflaaDoor
open Go.RowKit Go.Shelf
set_option maxRecDepth 100000
attribute [local go_sem] Oper.semAt_some
theorem resetO_chg {l : List Nd} {C : List Ct} {sel : Int} : chgO l C sel (resetC l C sel) = resetO l C sel := by
  unfold chgO resetO
  split
  · split
    · rfl
    · rename_i h
      have e : listP l sel = [] := if_neg h
      unfold resetC
      rw [e, upd_nil]
      exact (if_neg (fun t => h t.1)).symm
  · rfl
theorem updR_files (l : List Nd) (C : List Ct) (all : List Int) : (updP (rstF l) all C).length = C.length ∧ ∀ i (h1 : i < C.length) (h2 : i < (updP (rstF l) all C).length), (updP (rstF l) all C)[i].files = C[i].files := by
  refine ⟨updC_len .., fun i h1 h2 => ?_⟩
  exact (congrArg Ct.files (upd_at (f := rstF l) (all := all) (C := C) h1)).trans (by split <;> rfl)
theorem resetC_files (l : List Nd) (C : List Ct) (sel : Int) : (resetC l C sel).length = C.length ∧ ∀ i (h1 : i < C.length) (h2 : i < (resetC l C sel).length), (resetC l C sel)[i].files = C[i].files := by
  have e := updR_files l C (listP l sel)
  have f := fixP_files l (updP (rstF l) (listP l sel) C) sel
  exact ⟨f.1.trans e.1, fun i h1 h2 => (f.2 i (by rw [e.1]; exact h1) h2).trans (e.2 i h1 (by rw [e.1]; exact h1))⟩
theorem far_cell {X : World} {b k g j : Nat} {v u : Value} (h : X.cell? ⟨b, k, none⟩ = some v) (hb : b ≠ g) : (X.setCell ⟨g, j, none⟩ u).cell? ⟨b, k, none⟩ = some v := (World.cell?_setCell_other _ _ _ _ (fun e => hb (congrArg Addr.block e).symm)).trans h
set_option maxHeartbeats 16000000 in
theorem opReset1_any (l : List Nd) (sel : Int) (p : Option Addr) (c base : Nat) (ov : Value) (C : List Ct) (F : List Value) (w0 w : World) (hW : Wrk l sel p c base ov C F w0 w) :
    Calls Tryd.prog 35 #[.slice p l.length c, ov, .int .i64 sel] w fun e w' => e = .returned (.tuple #[]) ∧ CtsO base w' ov (resetC l C sel) F ∧ Chg ov.ownBlock.toList w w' := by
  obtain ⟨pv, kv, rfl, hkv⟩ := hW.own.form
  have HW := hide hW
  obtain ⟨w2, hw2⟩ : ∃ w2, (w.alloc (.cells #[.slice p l.length c] 22)).alloc (.cells #[.slice pv C.length kv] 23) = w2 := ⟨_, rfl⟩
  have b2 : Below w.heap.size w w2 := by rw [← hw2]; exact ((Below.refl _ w).alloc (Nat.le_refl _) _).alloc (by simp) _
  have bN2 : Boxed w2 w.heap.size 22 (.slice p l.length c) := by rw [← hw2]; exact (Boxed.new w _ _).alloc _
  have bC2 : Boxed w2 (w.heap.size + 1) 23 (.slice pv C.length kv) := by
    have := Boxed.new (w.alloc (.cells #[.slice p l.length c] 22)) 23 (.slice pv C.length kv)
    rw [World.size_alloc] at this
    rw [← hw2]; exact this
  have x1 := bN2.cell
  have OB : Hid (∀ g, (Value.slice pv C.length kv).ownBlock = some g → base ≤ g ∧ g < w.heap.size) := fun g hg => ⟨(hW.own.row.lt g hg).1, (hW.own.row.lt g hg).2⟩
  refine (callsIn_wide (n := 3)).1 ?_
  refine callsIn_of_wp_marks Tryd.func35 rfl trivial ?_ rfl
  simp only [Tryd.ntmps35, List.size_toArray, List.length_cons, List.length_nil, Nat.reduceAdd, Nat.reduceSub, Array.replicate_succ, Array.replicate_zero, List.push_toArray, List.append_toArray, List.nil_append, List.cons_append]
  gi_wp2
  refine ⟨trivial, ?_⟩
  refine (callsIn_wide.2 (options_any p l.length c sel _)).mono ?_
  rintro e w3 ⟨rfl, rfl⟩
  gi_wp2
  obtain ⟨w3, hw3⟩ : ∃ w3, (w2.alloc (.cells #[.slice p l.length c] 22)).alloc (.cells #[.int .i64 sel] 3) = w3 := ⟨_, rfl⟩
  have l3 : w2.heap.size + 1 < w3.heap.size := by rw [← hw3]; simp
  have b3 : Below w2.heap.size w2 w3 := by rw [← hw3]; exact ((Below.refl _ w2).alloc (Nat.le_refl _) _).alloc (by simp) _
  have bL : Boxed w3 w2.heap.size 22 (.slice p l.length c) := by rw [← hw3]; exact (Boxed.new w2 _ _).alloc _
  have bS : Boxed w3 (w2.heap.size + 1) 3 (.int .i64 sel) := by
    have := Boxed.new (w2.alloc (.cells #[.slice p l.length c] 22)) 3 (.int .i64 sel)
    rw [World.size_alloc] at this
    rw [← hw3]; exact this
  have bN3 : Boxed w3 w.heap.size 22 (.slice p l.length c) := (b3.block _ bN2.lt).trans bN2
  have bC3 : Boxed w3 (w.heap.size + 1) 23 (.slice pv C.length kv) := (b3.block _ bC2.lt).trans bC2
  have B3 : Below w.heap.size w w3 := chain b2 b3
  have W3 := hide (HW.out.later B3)
  have l2 : w.heap.size + 1 < w2.heap.size := bC2.lt
  have l0 : w0.heap.size ≤ w.heap.size := hW.below.size
  have lb : w0.heap.size ≤ base := hW.low
  have ALL := hide (list_opts hW.kind)
  have HIT := hide hW.iter
  have RNG := hide hW.rng
  have LEN := hide hW.len
  have FAL := hide (foldU_all (f := rstF l) hW.nodup hW.rng)
  rw [hw3]
  clear hw2 hw3 x1 hW b2 b3
  refine wpIn_rangeFunc_ownG rfl (by omega) (gf := 48) (lb := #[.pointer (some ⟨w2.heap.size, 0, none⟩), .pointer (some ⟨w2.heap.size + 1, 0, none⟩)]) rfl trivial (enters_of Tryd.func48 (by kernel_rfl) rfl)
    (HIT.out w3 w2.heap.size (w2.heap.size + 1) W3.out.below bL bS) kpB_t (kpB_b (by omega) (by intro b q; simp at q; omega)) (Below.refl _ _) (fun _ => rfl)
    (fun (pre : List (OptA l sel)) W => (Boxed W w.heap.size 22 (.slice p l.length c) ∧ Boxed W (w.heap.size + 1) 23 (.slice pv C.length kv)) ∧ W.ownsRow base 48 10 (.slice pv C.length kv) C.length (cellsC ((vals pre).foldl (stepU (rstF l)) C) F) ∧ Chg (Value.slice pv C.length kv).ownBlock.toList w3 W)
    (fun _ _ _ => False)
    (OwnFrom.and (OwnFrom.and (Own.from (boxed_own _ _ (fun _ => .slice p l.length c)) _) (Own.from (boxed_own _ _ (fun _ => .slice pv C.length kv)) _)) (OwnFrom.and (Own.from (row_own base 48 10 (.slice pv C.length kv) (fun _ => C.length) (fun pre : List (OptA l sel) => cellsC ((vals pre).foldl (stepU (rstF l)) C) F)) _) (ownFrom_chg (by omega))))
    (fun _ _ _ _ _ hs _ _ => hs)
    ⟨⟨bN3, bC3⟩, W3.out.own.row, (Chg.of_below (Below.refl _ w3)).nil⟩
    (fun x => { tmps := #[.slice p l.length c, .slice pv C.length kv, .int .i64 sel, .pointer (some ⟨w.heap.size, 0, none⟩), .pointer (some ⟨w.heap.size + 1, 0, none⟩), undef, .int .i64 x.1, .slice p l.length c, .int .i64 sel, .func (.func 48) #[] #[.pointer (some ⟨w2.heap.size, 0, none⟩), .pointer (some ⟨w2.heap.size + 1, 0, none⟩)], .int .i64 x.1, undef, undef, undef, undef, undef, undef, undef, undef, undef, undef, undef, undef, undef, undef, undef, undef, undef], defers := [] }) ?assign ?body ?done ?stop
  case assign =>
    intro y x W K hK
    gi_wp2
    exact hK
  case body =>
    rintro y pre x W ⟨⟨hN, hCb⟩, hrow, hch⟩ hlt
    have rx := RNG.out x.1 x.2
    obtain ⟨q, eq, hq⟩ : ∃ q : Nat, x.1 = (q : Int) ∧ q < C.length := ⟨x.1.toNat, by omega, by omega⟩
    have hql : q < l.length := by rw [← LEN.out]; exact hq
    obtain ⟨g, kv', ev, eg, hg0, hg1, hgx⟩ := owns_at hrow (by omega)
    cases ev
    clear hgx
    have og := OB.out g rfl
    have BW : Below w0.heap.size w0 W := W3.out.below.trans (hch.below W3.out.below.size (fun k r => Nat.le_trans lb (OB.out k (opt_mem.1 r)).1))
    obtain ⟨b, o, va, pk, nk, ck, rfl, N⟩ := node_of (HW.out.nds.below BW) hql
    have bl0 : b < w0.heap.size := by
      obtain ⟨b', o', va', pk', nk', ck', e', N'⟩ := node_of HW.out.nds hql
      cases e'
      exact World.block_lt_of_cell? _ _ N'.name
    have nz := HW.out.sz.nds _ (List.getElem_mem hql)
    have N0 := hide N
    obtain ⟨pa, ca, rfl, hxx⟩ := N.at_
    clear hxx N
    have HH := hide (fun X (hb : Below W.heap.size W X) => opHas_any l[q] (.slice pa l[q].attrs.length ca) pk nk ck oSld X (N0.out.at_.below hb) nz.attrs)
    have lF : ((vals pre).foldl (stepU (rstF l)) C).length = C.length := foldU_len ..
    have hqD : q < ((vals pre).foldl (stepU (rstF l)) C).length := by rw [lF]; exact hq
    have CO : Hid (CtsO base W (.slice (some ⟨g, 0, none⟩) ((vals pre).foldl (stepU (rstF l)) C).length kv) ((vals pre).foldl (stepU (rstF l)) C) F) := ⟨by rw [lF]; exact HW.out.own.len, by rw [lF]; exact hrow⟩
    have KC : Hid (∀ X, Below W.heap.size W X → X.cell? ⟨g, q * 10 + 6, none⟩ = some (.bool ((vals pre).foldl (stepU (rstF l)) C)[q].sel) ∧ X.frozen? ⟨g, q * 10 + 6, none⟩ = false ∧ X.cell? ⟨g, q * 10 + 7, none⟩ = some (.bool ((vals pre).foldl (stepU (rstF l)) C)[q].dsel) ∧ X.frozen? ⟨g, q * 10 + 7, none⟩ = false) := fun X hb =>
      ⟨(CO.out.kept hb).at_ rfl hqD 6 _ rfl, owns_free (CO.out.kept hb).row rfl _, (CO.out.kept hb).at_ rfl hqD 7 _ rfl, owns_free (CO.out.kept hb).row rfl _⟩
    have EV := hide (show vals (pre ++ [x]) = vals pre ++ [(q : Int)] by rw [vals_app, eq])
    have ER : Hid (∀ cc : Ct, rstF l (q : Int) cc = { cc with sel := hasA l[q] oSld, dsel := false }) := fun cc => by unfold rstF; rw [Int.toNat_natCast, nd_at hql]
    have LF := hide lF
    have q0 : (0 : Int) ≤ (q : Int) := by omega
    have q1 : (q : Int) < (C.length : Int) := by omega
    have q2 : (q : Int) < (l.length : Int) := by omega
    rw [eq]
    clear rx hrow lF
    rw [show oSld = ⟨#[115, 101, 108, 101, 99, 116, 101, 100]⟩ from rfl] at HH
    obtain ⟨hs, hHS⟩ : ∃ hs, hasA l[q] ⟨#[115, 101, 108, 101, 99, 116, 101, 100]⟩ = hs := ⟨_, rfl⟩
    rw [hHS] at HH
    have hHS' : hasA l[q] oSld = hs := hHS
    clear hHS
    replace hHS' := hide hHS'
    have DW : Hid (∀ X, Below W.drew.heap.size W.drew X → Below W.heap.size W X) := fun X h => ⟨h.os, h.tape, h.output, h.size, h.block⟩
    have gw1 : w.heap.size ≠ g := by omega
    have gw2 : w.heap.size + 1 ≠ g := by omega
    have gb : b ≠ g := by omega
    have HS : Hid (∀ X, Below W.heap.size W X → (fun X : World => X.cell? ⟨w.heap.size, 0, none⟩ = some (.slice (some ⟨b, o, none⟩) l.length c) ∧ X.cell? ⟨w.heap.size + 1, 0, none⟩ = some (.slice (some ⟨g, 0, none⟩) C.length kv) ∧ X.cell? ⟨b, o + q * 5, none⟩ = some (.string l[q].name) ∧ X.cell? ⟨b, o + q * 5 + 1, none⟩ = some (.string l[q].text) ∧ X.cell? ⟨b, o + q * 5 + 2, none⟩ = some (.slice pa l[q].attrs.length ca) ∧ X.cell? ⟨b, o + q * 5 + 3, none⟩ = some (.int .i64 l[q].parent) ∧ X.cell? ⟨b, o + q * 5 + 4, none⟩ = some (.slice pk nk ck)) X) := fun X hb => ⟨cell_below hN.cell hb, cell_below hCb.cell hb, cell_below N0.out.name hb, cell_below N0.out.text hb, cell_below N0.out.attrs hb, cell_below N0.out.parent hb, cell_below N0.out.kids hb⟩
    have HSF : Hid (∀ X k u, (fun X : World => X.cell? ⟨w.heap.size, 0, none⟩ = some (.slice (some ⟨b, o, none⟩) l.length c) ∧ X.cell? ⟨w.heap.size + 1, 0, none⟩ = some (.slice (some ⟨g, 0, none⟩) C.length kv) ∧ X.cell? ⟨b, o + q * 5, none⟩ = some (.string l[q].name) ∧ X.cell? ⟨b, o + q * 5 + 1, none⟩ = some (.string l[q].text) ∧ X.cell? ⟨b, o + q * 5 + 2, none⟩ = some (.slice pa l[q].attrs.length ca) ∧ X.cell? ⟨b, o + q * 5 + 3, none⟩ = some (.int .i64 l[q].parent) ∧ X.cell? ⟨b, o + q * 5 + 4, none⟩ = some (.slice pk nk ck)) X → (fun X : World => X.cell? ⟨w.heap.size, 0, none⟩ = some (.slice (some ⟨b, o, none⟩) l.length c) ∧ X.cell? ⟨w.heap.size + 1, 0, none⟩ = some (.slice (some ⟨g, 0, none⟩) C.length kv) ∧ X.cell? ⟨b, o + q * 5, none⟩ = some (.string l[q].name) ∧ X.cell? ⟨b, o + q * 5 + 1, none⟩ = some (.string l[q].text) ∧ X.cell? ⟨b, o + q * 5 + 2, none⟩ = some (.slice pa l[q].attrs.length ca) ∧ X.cell? ⟨b, o + q * 5 + 3, none⟩ = some (.int .i64 l[q].parent) ∧ X.cell? ⟨b, o + q * 5 + 4, none⟩ = some (.slice pk nk ck)) (X.setCell ⟨g, k, none⟩ u)) := fun X k u h => ⟨far_cell h.1 gw1, far_cell h.2.1 gw2, far_cell h.2.2.1 gb, far_cell h.2.2.2.1 gb, far_cell h.2.2.2.2.1 gb, far_cell h.2.2.2.2.2.1 gb, far_cell h.2.2.2.2.2.2 gb⟩
    gi_wp2
    refine region_round (S := (fun X : World => X.cell? ⟨w.heap.size, 0, none⟩ = some (.slice (some ⟨b, o, none⟩) l.length c) ∧ X.cell? ⟨w.heap.size + 1, 0, none⟩ = some (.slice (some ⟨g, 0, none⟩) C.length kv) ∧ X.cell? ⟨b, o + q * 5, none⟩ = some (.string l[q].name) ∧ X.cell? ⟨b, o + q * 5 + 1, none⟩ = some (.string l[q].text) ∧ X.cell? ⟨b, o + q * 5 + 2, none⟩ = some (.slice pa l[q].attrs.length ca) ∧ X.cell? ⟨b, o + q * 5 + 3, none⟩ = some (.int .i64 l[q].parent) ∧ X.cell? ⟨b, o + q * 5 + 4, none⟩ = some (.slice pk nk ck))) (by kernel_rfl) (by kernel_rfl) (by rintro ⟨_, _, h⟩; exact h) (HS.out _ (DW.out _ (Below.refl _ _))) (fun hHeld => ?_)
    refine wpAnyH_take (i := 0) (oi := { dst := some 11, op := Op.load 23 (Operand.tmp 4), type := 23, pos := "option.go:116", after := #[], guard := none }) (v := ?_) rfl (by kernel_rfl) (by kernel_rfl) (by kernel_rfl) (fun _ _ _ h => h) (Or.inl ⟨by rfl, ?_⟩) (by assumption) ?_
    rotate_left
    · (intro w hSw; (try dsimp only at hSw); first | (go_simp; done) | (go_simp; with_reducible rfl))
    simp only [Act.put, List.setIfInBounds_toArray, List.set_cons_zero, List.set_cons_succ]
    refine wpAnyH_take (i := 1) (oi := { dst := some 12, op := Op.move (Operand.tmp 6), type := 3, pos := "option.go:116", after := #[], guard := none }) (v := ?_) rfl (by kernel_rfl) (by kernel_rfl) (by kernel_rfl) (fun _ _ _ h => h) (Or.inl ⟨by rfl, ?_⟩) (by assumption) ?_
    rotate_left
    · (intro w hSw; (try dsimp only at hSw); first | (go_simp; done) | (go_simp; with_reducible rfl))
    simp only [Act.put, List.setIfInBounds_toArray, List.set_cons_zero, List.set_cons_succ]
    refine wpAnyH_take (i := 2) (oi := { dst := some 13, op := Op.load 23 (Operand.tmp 4), type := 23, pos := "option.go:116", after := #[{ on := 11, ground := Ground.gcOnly Departure.lateStores }], guard := none }) (v := ?_) rfl (by kernel_rfl) (by kernel_rfl) (by kernel_rfl) (fun _ _ _ h => h) (Or.inl ⟨by rfl, ?_⟩) (by assumption) ?_
    rotate_left
    · (intro w hSw; (try dsimp only at hSw); first | (go_simp; done) | (go_simp; with_reducible rfl))
    simp only [Act.put, List.setIfInBounds_toArray, List.set_cons_zero, List.set_cons_succ]
    refine wpAnyH_take (i := 3) (oi := { dst := some 14, op := Op.move (Operand.tmp 6), type := 3, pos := "option.go:116", after := #[{ on := 11, ground := Ground.gcOnly Departure.lateStores }], guard := none }) (v := ?_) rfl (by kernel_rfl) (by kernel_rfl) (by kernel_rfl) (fun _ _ _ h => h) (Or.inl ⟨by rfl, ?_⟩) (by assumption) ?_
    rotate_left
    · (intro w hSw; (try dsimp only at hSw); first | (go_simp; done) | (go_simp; with_reducible rfl))
    simp only [Act.put, List.setIfInBounds_toArray, List.set_cons_zero, List.set_cons_succ]
    refine wpAnyH_take (i := 4) (oi := { dst := some 15, op := Op.load 22 (Operand.tmp 3), type := 22, pos := "option.go:116", after := #[], guard := none }) (v := ?_) rfl (by kernel_rfl) (by kernel_rfl) (by kernel_rfl) (fun _ _ _ h => h) (Or.inl ⟨by rfl, ?_⟩) (by assumption) ?_
    rotate_left
    · (intro w hSw; (try dsimp only at hSw); first | (go_simp; done) | (go_simp; with_reducible rfl))
    simp only [Act.put, List.setIfInBounds_toArray, List.set_cons_zero, List.set_cons_succ]
    refine wpAnyH_take (i := 5) (oi := { dst := some 16, op := Op.move (Operand.tmp 6), type := 3, pos := "option.go:116", after := #[], guard := none }) (v := ?_) rfl (by kernel_rfl) (by kernel_rfl) (by kernel_rfl) (fun _ _ _ h => h) (Or.inl ⟨by rfl, ?_⟩) (by assumption) ?_
    rotate_left
    · (intro w hSw; (try dsimp only at hSw); first | (go_simp; done) | (go_simp; with_reducible rfl))
    simp only [Act.put, List.setIfInBounds_toArray, List.set_cons_zero, List.set_cons_succ]
    refine wpAnyH_take (i := 6) (oi := { dst := some 17, op := Op.indexAddr 22 (Operand.tmp 15) (Operand.tmp 16), type := 0, pos := "option.go:116", after := #[{ on := 4, ground := Ground.data }, { on := 5, ground := Ground.data }], guard := none }) (v := ?_) rfl (by kernel_rfl) (by kernel_rfl) (by kernel_rfl) (fun _ _ _ h => h) (Or.inl ⟨by rfl, ?_⟩) (by assumption) ?_
    rotate_left
    · (intro w hSw; (try dsimp only at hSw); first | (go_simp; done) | (go_simp; with_reducible rfl))
    simp only [Act.put, List.setIfInBounds_toArray, List.set_cons_zero, List.set_cons_succ]
    refine wpAnyH_take (i := 7) (oi := { dst := some 18, op := Op.load 43 (Operand.tmp 17), type := 43, pos := "option.go:116", after := #[{ on := 6, ground := Ground.data }], guard := none }) (v := ?_) rfl (by kernel_rfl) (by kernel_rfl) (by kernel_rfl) (fun _ _ _ h => h) (Or.inl ⟨by rfl, ?_⟩) (by assumption) ?_
    rotate_left
    · (intro w hSw; (try dsimp only at hSw); first | (go_simp; done) | (go_simp; with_reducible rfl))
    simp only [Act.put, List.setIfInBounds_toArray, List.set_cons_zero, List.set_cons_succ]
    refine wpAnyH_ready (rs := [8]) (by kernel_rfl) (by simp) ?_
    refine AllReadyH.cons (i := 8) (o := { dst := some 19, op := Op.call { callee := Callee.value (Operand.func 36), args := #[Operand.tmp 18, Operand.const (Value.string { data := #[115, 101, 108, 101, 99, 116, 101, 100] })], argTypes := #[43, 9] }, type := 4, pos := "option.go:116", after := #[{ on := 7, ground := Ground.data }], guard := none }) rfl (fun K hK => ?_) AllReadyH.nil
    go_simp
    refine (HH.out _ (DW.out _ (Below.refl _ _))).mono ?_
    rintro e w5 ⟨rfl, b5⟩
    obtain ⟨d6, d7, d8, d9⟩ := KC.out _ (DW.out _ b5)
    have B5 := hide (DW.out _ b5)
    have S5 := HS.out _ B5.out
    go_wp2_with fail
    refine hK.out _ _ ?_ (fun hHeld => ?_)
    · exact S5
    clear hK K
    refine wpAnyH_take (i := 9) (oi := { dst := some 20, op := Op.indexAddr 23 (Operand.tmp 11) (Operand.tmp 12), type := 0, pos := "option.go:116", after := #[{ on := 0, ground := Ground.data }, { on := 1, ground := Ground.data }, { on := 0, ground := Ground.phase }, { on := 1, ground := Ground.phase }, { on := 2, ground := Ground.textOnly Departure.lateStores }, { on := 3, ground := Ground.textOnly Departure.lateStores }, { on := 4, ground := Ground.phase }, { on := 5, ground := Ground.phase }, { on := 6, ground := Ground.phase }, { on := 7, ground := Ground.phase }, { on := 8, ground := Ground.phase }], guard := none }) (v := ?_) rfl (by kernel_rfl) (by kernel_rfl) (by kernel_rfl) (fun _ _ _ h => h) (Or.inl ⟨by rfl, ?_⟩) (by assumption) ?_
    rotate_left
    · (intro w hSw; (try dsimp only at hSw); first | (go_simp; done) | (go_simp; with_reducible rfl))
    simp only [Act.put, List.setIfInBounds_toArray, List.set_cons_zero, List.set_cons_succ]
    refine wpAnyH_take (i := 10) (oi := { dst := some 21, op := Op.fieldAddr 48 (Operand.tmp 20) 6, type := 0, pos := "option.go:116", after := #[{ on := 9, ground := Ground.data }, { on := 0, ground := Ground.phase }, { on := 1, ground := Ground.phase }, { on := 2, ground := Ground.textOnly Departure.lateStores }, { on := 3, ground := Ground.textOnly Departure.lateStores }, { on := 4, ground := Ground.phase }, { on := 5, ground := Ground.phase }, { on := 6, ground := Ground.phase }, { on := 7, ground := Ground.phase }, { on := 8, ground := Ground.phase }], guard := none }) (v := ?_) rfl (by kernel_rfl) (by kernel_rfl) (by kernel_rfl) (fun _ _ _ h => h) (Or.inl ⟨by rfl, ?_⟩) (by assumption) ?_
    rotate_left
    · (intro w hSw; (try dsimp only at hSw); first | (go_simp; done) | (go_simp; with_reducible rfl))
    simp only [Act.put, List.setIfInBounds_toArray, List.set_cons_zero, List.set_cons_succ]
    refine wpAnyH_ready (rs := [11]) (by kernel_rfl) (by simp) ?_
    refine AllReadyH.cons (i := 11) (o := { dst := none, op := Op.store 4 (Operand.tmp 21) (Operand.tmp 19), type := 0, pos := "option.go:116", after := #[{ on := 10, ground := Ground.data }, { on := 8, ground := Ground.data }, { on := 8, ground := Ground.chain }, { on := 0, ground := Ground.phase }, { on := 1, ground := Ground.phase }, { on := 2, ground := Ground.textOnly Departure.lateStores }, { on := 3, ground := Ground.textOnly Departure.lateStores }, { on := 4, ground := Ground.phase }, { on := 5, ground := Ground.phase }, { on := 6, ground := Ground.phase }, { on := 7, ground := Ground.phase }, { on := 8, ground := Ground.phase }], guard := none }) rfl (fun K hK => ?_) AllReadyH.nil
    go_simp
    refine hK.out _ _ ?_ (fun hHeld => ?_)
    · exact HSF.out _ _ _ S5
    clear hK K
    refine wpAnyH_take (i := 12) (oi := { dst := some 22, op := Op.indexAddr 23 (Operand.tmp 13) (Operand.tmp 14), type := 0, pos := "option.go:116", after := #[{ on := 2, ground := Ground.data }, { on := 3, ground := Ground.data }, { on := 0, ground := Ground.phase }, { on := 1, ground := Ground.phase }, { on := 2, ground := Ground.phase }, { on := 3, ground := Ground.phase }, { on := 4, ground := Ground.phase }, { on := 5, ground := Ground.phase }, { on := 6, ground := Ground.phase }, { on := 7, ground := Ground.phase }, { on := 8, ground := Ground.phase }, { on := 9, ground := Ground.phase }, { on := 10, ground := Ground.phase }, { on := 11, ground := Ground.phase }], guard := none }) (v := ?_) rfl (by kernel_rfl) (by kernel_rfl) (by kernel_rfl) (fun _ _ _ h => h) (Or.inl ⟨by rfl, ?_⟩) (by assumption) ?_
    rotate_left
    · (intro w hSw; (try dsimp only at hSw); first | (go_simp; done) | (go_simp; with_reducible rfl))
    simp only [Act.put, List.setIfInBounds_toArray, List.set_cons_zero, List.set_cons_succ]
    refine wpAnyH_take (i := 13) (oi := { dst := some 23, op := Op.fieldAddr 48 (Operand.tmp 22) 7, type := 0, pos := "option.go:116", after := #[{ on := 12, ground := Ground.data }, { on := 0, ground := Ground.phase }, { on := 1, ground := Ground.phase }, { on := 2, ground := Ground.phase }, { on := 3, ground := Ground.phase }, { on := 4, ground := Ground.phase }, { on := 5, ground := Ground.phase }, { on := 6, ground := Ground.phase }, { on := 7, ground := Ground.phase }, { on := 8, ground := Ground.phase }, { on := 9, ground := Ground.phase }, { on := 10, ground := Ground.phase }, { on := 11, ground := Ground.phase }], guard := none }) (v := ?_) rfl (by kernel_rfl) (by kernel_rfl) (by kernel_rfl) (fun _ _ _ h => h) (Or.inl ⟨by rfl, ?_⟩) (by assumption) ?_
    rotate_left
    · (intro w hSw; (try dsimp only at hSw); first | (go_simp; done) | (go_simp; with_reducible rfl))
    simp only [Act.put, List.setIfInBounds_toArray, List.set_cons_zero, List.set_cons_succ]
    refine wpAnyH_ready (rs := [14]) (by kernel_rfl) (by simp) ?_
    refine AllReadyH.cons (i := 14) (o := { dst := none, op := Op.store 4 (Operand.tmp 23) (Operand.const (Value.bool false)), type := 0, pos := "option.go:116", after := #[{ on := 13, ground := Ground.data }, { on := 11, ground := Ground.chain }, { on := 0, ground := Ground.phase }, { on := 1, ground := Ground.phase }, { on := 2, ground := Ground.phase }, { on := 3, ground := Ground.phase }, { on := 4, ground := Ground.phase }, { on := 5, ground := Ground.phase }, { on := 6, ground := Ground.phase }, { on := 7, ground := Ground.phase }, { on := 8, ground := Ground.phase }, { on := 9, ground := Ground.phase }, { on := 10, ground := Ground.phase }, { on := 11, ground := Ground.phase }], guard := none }) rfl (fun K hK => ?_) AllReadyH.nil
    go_simp
    refine hK.out _ _ ?_ (fun hHeld => ?_)
    · exact HSF.out _ _ _ (HSF.out _ _ _ S5)
    clear hK K
    refine wpAnyH_done (by kernel_rfl) ?_ _
    have OW5 := CO.out.kept B5.out
    have P6 := OW5.put (c' := { ((vals pre).foldl (stepU (rstF l)) C)[q] with sel := hs }) rfl hqD (j := 6) (by omega) (u := .bool hs) rfl
    have hq6 : q < (((vals pre).foldl (stepU (rstF l)) C).set q { ((vals pre).foldl (stepU (rstF l)) C)[q] with sel := hs }).length := by rw [List.length_set]; exact hqD
    have P6' : CtsO base (w5.setCell ⟨g, q * 10 + 6, none⟩ (.bool hs)) (.slice (some ⟨g, 0, none⟩) (((vals pre).foldl (stepU (rstF l)) C).set q { ((vals pre).foldl (stepU (rstF l)) C)[q] with sel := hs }).length kv) (((vals pre).foldl (stepU (rstF l)) C).set q { ((vals pre).foldl (stepU (rstF l)) C)[q] with sel := hs }) F := by rw [List.length_set]; exact P6
    have P7 := P6'.put (c' := rstF l (q : Int) ((vals pre).foldl (stepU (rstF l)) C)[q]) rfl hq6 (j := 7) (by omega) (u := .bool false) (by rw [ER.out, hHS'.out]; simp [List.getElem_set_self, ctCells])
    rw [List.set_set] at P7
    have k1 : Chg [g] w5 (w5.setCell ⟨g, q * 10 + 6, none⟩ (.bool hs)) := Chg.setB _ _ _ _
    have k2 : Chg [g] (w5.setCell ⟨g, q * 10 + 6, none⟩ (.bool hs)) ((w5.setCell ⟨g, q * 10 + 6, none⟩ (.bool hs)).setCell ⟨g, q * 10 + 7, none⟩ (.bool false)) := Chg.setB _ _ _ _
    have CG : Chg [g] W ((w5.setCell ⟨g, q * 10 + 6, none⟩ (.bool hs)).setCell ⟨g, q * 10 + 7, none⟩ (.bool false)) := (((Chg.of_below B5.out).nil).trans (k1.mono (fun k r _ => r))).trans (k2.mono (fun k r _ => r))
    have sW := hch.size
    refine ⟨(((KeepsOthers.of_grownBy (row := none) ⟨B5.out.os, B5.out.tape, B5.out.output, B5.out.size, fun k hk _ => B5.out.block k hk⟩ (fun j o e => by cases e)).trans (KeepsOthers.setCell _ _ _)).trans (KeepsOthers.setCell _ _ _)).from _, ⟨CG.below (by omega) (fun k r => by rw [List.mem_singleton.1 r]; omega), fun k r => CG.block k (by simp at r; omega) (fun t => by have := List.mem_singleton.1 t; simp at r; omega)⟩, ⟨⟨(CG.block _ hN.lt (fun t => gw1 (List.mem_singleton.1 t))).trans hN, (CG.block _ hCb.lt (fun t => gw2 (List.mem_singleton.1 t))).trans hCb⟩, ?_, hch.trans (CG.mono (fun k r _ => r))⟩⟩
    have pr := P7.row
    rw [List.length_set, List.length_set, LF.out] at pr
    rw [EV.out, List.foldl_append]
    show World.ownsRow _ _ _ _ _ _ (cellsC (stepU (rstF l) ((vals pre).foldl (stepU (rstF l)) C) (q : Int)) F)
    rw [stepU_at hqD]
    exact pr
  case done =>
    rintro D ys W hD hys ⟨⟨hN, hCb⟩, hrow, hch⟩ hK
    rw [hys, FAL.out, ← ALL.out] at hrow
    have hDl : D < W.heap.size := (List.getElem?_eq_some_iff.1 (by simpa using hK)).1
    have CO1 : CtsO base W (.slice pv C.length kv) (updP (rstF l) (listP l sel) C) F := ⟨by rw [updC_len]; exact HW.out.own.len, by rw [updC_len]; exact hrow⟩
    have HF := hide (opFixIn_any l sel p c base (.slice pv C.length kv) (updP (rstF l) (listP l sel) C) F w0 W (W3.out.chg hch CO1 (updC_len ..)))
    have CW : Hid (Chg (Value.slice pv C.length kv).ownBlock.toList w W) := ((Chg.of_below B3).nil).trans (hch.mono (fun k r _ => r))
    have y1 := hN.cell
    have y2 := hCb.cell
    clear CO1 hrow
    gi_wp2
    refine ⟨trivial, ?_⟩
    refine (callsIn_wide.2 HF.out).mono ?_
    rintro e w4 ⟨rfl, o4, k4⟩
    have hK4 : w4.heap[D]? = some (.deferred (some [])) := (k4.block D hDl (fun r => by have := (OB.out D (opt_mem.1 r)).2; have := B3.size; omega)).trans hK
    gi_wp2
    refine ⟨by simp, .inl ⟨_, _, rfl, run_takeDeferred hK4, ?_⟩⟩
    refine ⟨_, results_none rfl _ _ _, rfl, ?_⟩
    exact work_end o4 (CW.out.trans (k4.mono (fun _ r _ => r))) (by have := B3.size; omega) hK4
  case stop =>
    rintro D d pre W _ _ h _
    exact h.elim
theorem entersReset1 : ∀ args w, (callFunc 35 args).run Tryd.prog w = .ok (.enter 35 args) w := Go.Proofs.enters_of Tryd.func35 (by kernel_rfl) rfl
set_option maxHeartbeats 16000000 in
theorem opReset_any (nv cv : Value) (l : List Nd) (C : List Ct) (sel : Int) (w : World) (hD : DocV w nv cv l C) (hz : DocSz l) (hC : CsOK C) (hT : KTabs w) :
    Calls Tryd.prog 11 #[.agg #[nv, cv], .int .i64 sel] w fun e w' => ∃ v', e = .returned v' ∧ CtsV w' v' (resetO l C sel) ∧ Below w.heap.size w w' := by
  have B0 : Hid (Below w.heap.size w (w.alloc (.cells #[nv, cv] 25))) := (Below.refl _ w).alloc (Nat.le_refl _) _
  have HC := hide (opChanged_any nv cv l C (resetC l C sel) sel 35 #[] entersReset1 (w.alloc (.cells #[nv, cv] 25)) (hD.below B0.out) hz hC (hT.below B0.out) (fun p c base ov F W e hW => by
    subst e
    exact opReset1_any l sel p c base ov C F _ W hW) (resetC_files l C sel).1 (resetC_files l C sel).2)
  rw [resetO_chg] at HC
  obtain ⟨p, c, rfl⟩ := nds_formG hD.nds
  obtain ⟨pc, cc, rfl⟩ := cts_formG hD.cts
  clear hD hz hC hT
  go_enter Tryd.func11, Tryd.ntmps11
  go_wp2_with fail
  refine HC.out.mono ?_
  rintro e w1 ⟨v1, rfl, c1, b1⟩
  go_wp2_with fail
  go_ret
  exact ⟨_, rfl, c1, chain B0.out b1⟩

end Go.Proofs.YtemikdmkjgmflaaDoor
