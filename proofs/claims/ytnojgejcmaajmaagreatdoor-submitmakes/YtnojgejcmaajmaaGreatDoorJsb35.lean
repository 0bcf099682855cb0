/- The document's Text of layer 10. The document's Mode of layer 11 alone. The document's fires, Setting, Method, Kind, Asks of layer 24. The document's In and Plain. The document's Fit, Name, Unname, Type of layer 20. The document's Asks, first, Query of layer 24. The document's Value of layer 14. -/
import Derived.Test.YtnojgejcmaajmaaGreatDoorJsb12
import Derived.Test.YtnojgejcmaajmaaGreatDoorJsb13
import Derived.Test.YtnojgejcmaajmaaGreatDoorJsb18
import Derived.Test.YtnojgejcmaajmaaGreatDoorJsb37

namespace Go.Proofs.YtnojgejcmaajmaaGreatDoor
open Go.RowKit
set_option maxRecDepth 100000
set_option maxHeartbeats 2000000 in
theorem refText_any (v : Value) (l : List Nd) (id : Int) (m0 : Nat) (w : World) (hv : NodesV w v l) (hI : Is l id m0) :
    Calls Tryz.prog 206 #[v, .int .i64 id] w fun e w' => e = .returned (.string (textP l id)) ∧ w' = w := by
  have hR := hI.right
  obtain ⟨rfl, h0⟩ := (⟨hI.eq, hI.lt⟩ : id = (m0 : Int) ∧ m0 < l.length)
  clear hI
  have hlen := hR.len.2
  obtain ⟨p, c, rfl, hv⟩ := hv
  rcases hv with hv | ⟨b, o, rfl, hv⟩
  · rw [hv] at h0; simp at h0
  have HV := hide hv
  clear hv
  obtain ⟨va0, vk0, hN0⟩ := HV.out m0 h0
  have c1 := hN0.text
  have c4 := hN0.kids
  have i0 : (m0 : Int) < (l.length : Int) := by omega
  have ts := text_small hR h0
  have kf := kids_few hR h0
  have KD := hide (fun x hx => hR.kid m0 h0 x hx)
  have TS := hide (fun i hi => text_small hR (i := i) hi)
  obtain ⟨pk, ck, rfl, hks⟩ := hN0.ks
  unfold textP
  rw [Int.toNat_natCast]
  rw [nd_at h0] at ts kf KD ⊢
  clear hN0 hR
  generalize l[m0].text = t0 at *
  generalize l[m0].kids = ks at *
  generalize hW : textF l t0 ks = W
  have HW := hide hW
  clear hW
  go_enter Tryz.func206, Tryz.ntmps206
  go_wp2_with fail
  go_loop [5, 6] (fun sv iv => ∃ (j : Nat) (s : ByteArray), j ≤ ks.length ∧ iv = .int .i64 j ∧ sv = .string s ∧ s.size ≤ 4000 + 4000 * j ∧ Hid (textF l s (ks.drop j) = W)) (fun _ iv => ks.length - (intOf iv).toNat)
  case atStart => exact ⟨0, t0, Nat.zero_le _, rfl, rfl, by omega, HW.out⟩
  case round =>
    obtain ⟨j, s, hj, rfl, rfl, hs, hc⟩ := hrel
    clear HW
    by_cases h : j < ks.length
    · have i1 : (j : Int) < (ks.length : Int) := by omega
      rcases hks with hks | ⟨kb, ko, rfl, hks⟩
      · rw [hks] at h; simp at h
      have cc := hks j h
      have hk := KD.out ks[j] (List.getElem_mem _)
      obtain ⟨m, em⟩ : ∃ m : Nat, ks[j] = (m : Int) := ⟨ks[j].toNat, by omega⟩
      have hm : m < l.length := by omega
      have hc1 := hc.out
      rw [List.drop_eq_getElem_cons h] at hc1
      have hc2 : textF l (s ++ (nd l ks[j].toNat).text) (ks.drop (j + 1)) = W := hc1
      rw [em, Int.toNat_natCast, nd_at hm] at hc2
      have tm := TS.out m hm
      rw [nd_at hm] at tm
      obtain ⟨vam, vkm, hNm⟩ := HV.out m hm
      have cm := hNm.text
      rw [em] at cc
      have m1 : (m : Int) < (l.length : Int) := by omega
      have HC := hide hc2
      have q1 := fun w => run_string_add_sum (P := Tryz.prog) w s l[m].text (by omega)
      have sz : (s ++ l[m].text).size ≤ 4000 + 4000 * (j + 1) := by rw [ByteArray.size_append]; omega
      clear hc hc1 hc2 hk em hNm hks
      generalize s ++ l[m].text = s2 at *
      generalize l[m].text = tx at *
      go_wp2_with fail
      go_round
      case rel => exact ⟨j + 1, s2, by omega, by go_num, rfl, sz, HC.out⟩
      case measure => simp [intOf]; omega
    · obtain rfl : j = ks.length := by omega
      have E : Hid (s = W) := by
        have := hc.out
        rw [List.drop_length] at this
        exact this
      clear hc hks h
      go_wp2_with fail
      go_ret
      exact ⟨by rw [← E.out]; rfl, rfl⟩
end Go.Proofs.YtnojgejcmaajmaaGreatDoor

namespace Go.Proofs.YtnojgejcmaajmaaGreatDoor
open Go.RowKit
set_option maxHeartbeats 4000000 in
set_option maxRecDepth 100000 in
theorem refMode_any (k : Int) (w : World) :
    Calls Tryz.prog 155 #[.int .i64 k] w fun e w' => e = .returned (.int .i64 (modeV k)) ∧ w' = w := by
  go_enter Tryz.func155, Tryz.ntmps155
  go_wp2_with fail
  all_goals (go_ret; refine ⟨ret_int ?_, rfl⟩; simp only [beq_iff_eq, beq_eq_false_iff_ne, ne_eq] at *; unfold modeV; (repeat' split) <;> omega)
end Go.Proofs.YtnojgejcmaajmaaGreatDoor

namespace Go.Proofs.YtnojgejcmaajmaaGreatDoor
open Go.RowKit
set_option maxRecDepth 100000
set_option maxHeartbeats 4000000 in
theorem refFiresS_any (v : Value) (l : List Nd) (sub : Int) (w : World) (hv : NodesV w v l) (hz : DocSz l) :
    Calls Tryz.prog 39 #[v, .int .i64 sub] w fun e w' => e = .returned (.bool (firesP l sub)) ∧ Below w.heap.size w w' := by
  have hl := hz.len
  by_cases h0 : 0 ≤ sub
  · have g0 : decide (0 ≤ sub) = true := decide_eq_true h0
    by_cases h1 : sub < (l.length : Int)
    · obtain ⟨q, rfl, hq⟩ := nat_of (z := sub) (n := l.length) (by omega) h1
      have g1 : decide ((q : Int) < (l.length : Int)) = true := decide_eq_true h1
      have E : Hid (firesP l (q : Int) = fireB (kI l (q : Int))) := by show _ = _; unfold firesP; rw [g0, g1]; rfl
      have HS := hide (fun W => refIs_5 (kI l (q : Int)) W)
      obtain ⟨p, c, rfl, hvv⟩ := hv
      obtain ⟨b, o, rfl, hnn⟩ : ∃ b o, p = some ⟨b, o, none⟩ ∧ ∀ i (h : i < l.length), ∃ va vk, NodeAt w b (o + i * 5) l[i] va vk := by
        rcases hvv with t | t
        · rw [t] at hq; simp at hq
        · exact t
      obtain ⟨va, vk, N⟩ := hnn q hq
      have nz := hz.nds _ (List.getElem_mem hq)
      have HO := hide (fun W (hb : Below w.heap.size w W) => refOf_any l[q] va vk W (N.at_.below hb) nz.attrs nz.tx)
      have EK : kOf l[q].name (tyOf l[q].attrs) = kI l (q : Int) := by unfold kI kN; rw [Int.toNat_natCast, nd_at hq]
      rw [EK] at HO
      have HA := hide (fun a W (hb : Below w.heap.size w W) => refAttrS_any va l[q].attrs a W (N.at_.below hb) nz.attrs)
      have HH := hide (fun a W (hb : Below w.heap.size w W) => refOHas_any l[q] va vk a W (N.at_.below hb) nz.attrs)
      obtain ⟨pva, cva, rfl, hxx⟩ := N.at_
      clear hxx
      obtain ⟨pvk, cvk, rfl, hxx⟩ := N.ks
      clear hxx
      have c0 := hide N.name
      have c1 := hide N.text
      have c2 := hide N.attrs
      have c3 := hide N.parent
      have c4 := hide N.kids
      have q0 : (0 : Int) ≤ (q : Int) := by omega
      have q1 : (q : Int) < (l.length : Int) := by omega
      clear N nz EK
      clear hvv hnn hz HA HH
      generalize firesP l (q : Int) = RES at *
      generalize fireB (kI l (q : Int)) = fb at *
      generalize kI l (q : Int) = kk at *
      generalize l[q].name = n0 at *
      generalize l[q].text = n1 at *
      generalize l[q].parent = n3 at *
      generalize l[q].attrs.length = n5 at *
      generalize l[q].kids.length = n6 at *
      have u0 := cell_below c0.out (Below.refl _ w)
      have u1 := cell_below c1.out (Below.refl _ w)
      have u2 := cell_below c2.out (Below.refl _ w)
      have u3 := cell_below c3.out (Below.refl _ w)
      have u4 := cell_below c4.out (Below.refl _ w)
      go_enter Tryz.func39, Tryz.ntmps39
      go_wp2_with fail
      refine (HO.out _ (Below.refl _ _)).mono ?_
      rintro e w1 ⟨rfl, b1⟩
      go_wp2_with fail
      refine (HS.out _).mono ?_
      rintro e w2 ⟨rfl, hu⟩
      obtain rfl : w1 = w2 := hu.symm
      go_wp2_with fail
      go_ret
      exact ⟨ret_bool E.out.symm, b1⟩
    · have g1 : decide (sub < (l.length : Int)) = false := decide_eq_false h1
      have E : Hid (firesP l sub = false) := by show _ = _; unfold firesP; rw [g0, g1]; rfl
      obtain ⟨p, c, rfl, hvv⟩ := hv
      clear hvv hz
      go_enter Tryz.func39, Tryz.ntmps39
      go_wp2_with fail
      go_ret
      exact ⟨ret_bool E.out.symm, Below.refl _ _⟩
  · have g0 : decide (0 ≤ sub) = false := decide_eq_false h0
    have E : Hid (firesP l sub = false) := by show _ = _; unfold firesP; rw [g0]; rfl
    obtain ⟨p, c, rfl, hvv⟩ := hv
    clear hvv hz
    go_enter Tryz.func39, Tryz.ntmps39
    go_wp2_with fail
    go_ret
    exact ⟨ret_bool E.out.symm, Below.refl _ _⟩
set_option maxHeartbeats 4000000 in
theorem refSetS_any (v : Value) (l : List Nd) (m : Nat) (sub : Int) (own other : ByteArray) (w : World) (hv : NodesV w v l) (hz : DocSz l) (hm : m < l.length) :
    Calls Tryz.prog 36 #[v, .int .i64 (m : Int), .int .i64 sub, .string own, .string other] w fun e w' => e = .returned (.string (setP_SubP l (m : Int) sub own other)) ∧ Below w.heap.size w w' := by
  have hl := hz.len
  have HF := hide (refFiresS_any v l sub w hv hz)
  have E : Hid (setP_SubP l (m : Int) sub own other = if (firesP l sub && hasA (nd l sub.toNat) own) = true then fndS (nd l sub.toNat).attrs own else fndS l[m].attrs other) := by show _ = _; unfold setP_SubP; rw [Int.toNat_natCast, nd_at hm]
  obtain ⟨p, c, rfl, hvv⟩ := hv
  obtain ⟨b, o, rfl, hnn⟩ : ∃ b o, p = some ⟨b, o, none⟩ ∧ ∀ i (h : i < l.length), ∃ va vk, NodeAt w b (o + i * 5) l[i] va vk := by
    rcases hvv with t | t
    · rw [t] at hm; simp at hm
    · exact t
  obtain ⟨va, vk, N⟩ := hnn m hm
  have nz := hz.nds _ (List.getElem_mem hm)
  have HO := hide (fun W (hb : Below w.heap.size w W) => refOf_any l[m] va vk W (N.at_.below hb) nz.attrs nz.tx)
  have EK : kOf l[m].name (tyOf l[m].attrs) = kI l (m : Int) := by unfold kI kN; rw [Int.toNat_natCast, nd_at hm]
  rw [EK] at HO
  have HA := hide (fun a W (hb : Below w.heap.size w W) => refAttrS_any va l[m].attrs a W (N.at_.below hb) nz.attrs)
  have HH := hide (fun a W (hb : Below w.heap.size w W) => refOHas_any l[m] va vk a W (N.at_.below hb) nz.attrs)
  obtain ⟨pva, cva, rfl, hxx⟩ := N.at_
  clear hxx
  obtain ⟨pvk, cvk, rfl, hxx⟩ := N.ks
  clear hxx
  have c0 := hide N.name
  have c1 := hide N.text
  have c2 := hide N.attrs
  have c3 := hide N.parent
  have c4 := hide N.kids
  have m0 : (0 : Int) ≤ (m : Int) := by omega
  have m1 : (m : Int) < (l.length : Int) := by omega
  clear N nz EK
  have HAo := hide (fun W hb => HA.out other W hb)
  generalize setP_SubP l (m : Int) sub own other = RES at *
  cases hfi : firesP l sub with
  | false =>
    rw [hfi] at HF
    rw [hfi, Bool.false_and, if_neg (by decide)] at E
    clear hfi hvv hnn hz HA HH HO
    go_enter Tryz.func36, Tryz.ntmps36
    go_wp2_with fail
    refine HF.out.mono ?_
    rintro e w1 ⟨rfl, b1⟩
    have B1 := hide b1
    clear b1 HF
    have u0 := cell_below c0.out B1.out
    have u1 := cell_below c1.out B1.out
    have u2 := cell_below c2.out B1.out
    have u3 := cell_below c3.out B1.out
    have u4 := cell_below c4.out B1.out
    go_wp2_with fail
    refine (HAo.out _ B1.out).mono ?_
    rintro e w2 ⟨rfl, hu⟩
    obtain rfl : w1 = w2 := hu.symm
    go_wp2_with fail
    go_ret
    exact ⟨ret_str E.out.symm, B1.out⟩
  | true =>
    have hs : ∃ q : Nat, sub = (q : Int) ∧ q < l.length := by
      unfold firesP at hfi
      rw [Bool.and_eq_true, Bool.and_eq_true, decide_eq_true_eq, decide_eq_true_eq] at hfi
      exact ⟨sub.toNat, by omega, by omega⟩
    obtain ⟨q, rfl, hq⟩ := hs
    rw [hfi] at HF
    rw [hfi, Bool.true_and, Int.toNat_natCast, nd_at hq] at E
    obtain ⟨vaq, vkq, Nq⟩ := hnn q hq
    have nzq := hz.nds _ (List.getElem_mem hq)
    have HOq := hide (fun W (hb : Below w.heap.size w W) => refOf_any l[q] vaq vkq W (Nq.at_.below hb) nzq.attrs nzq.tx)
    have EKq : kOf l[q].name (tyOf l[q].attrs) = kI l (q : Int) := by unfold kI kN; rw [Int.toNat_natCast, nd_at hq]
    rw [EKq] at HOq
    have HAq := hide (fun a W (hb : Below w.heap.size w W) => refAttrS_any vaq l[q].attrs a W (Nq.at_.below hb) nzq.attrs)
    have HHq := hide (fun a W (hb : Below w.heap.size w W) => refOHas_any l[q] vaq vkq a W (Nq.at_.below hb) nzq.attrs)
    obtain ⟨pvaq, cvaq, rfl, hxx⟩ := Nq.at_
    clear hxx
    obtain ⟨pvkq, cvkq, rfl, hxx⟩ := Nq.ks
    clear hxx
    have s0 := hide Nq.name
    have s1 := hide Nq.text
    have s2 := hide Nq.attrs
    have s3 := hide Nq.parent
    have s4 := hide Nq.kids
    have q0 : (0 : Int) ≤ (q : Int) := by omega
    have q1 : (q : Int) < (l.length : Int) := by omega
    clear Nq nzq EKq
    have HHo := hide (fun W hb => HHq.out own W hb)
    have HAq2 := hide (fun W hb => HAq.out own W hb)
    clear hfi hvv hnn hz HA HH HO HOq HAq HHq
    generalize hasA l[q] own = hh at *
    generalize (findA l[q].attrs own).isSome = fs at *
    cases hh with
    | true =>
      rw [if_pos rfl] at E
      clear HAo c0 c1 c2 c3 c4
      go_enter Tryz.func36, Tryz.ntmps36
      go_wp2_with fail
      refine HF.out.mono ?_
      rintro e w1 ⟨rfl, b1⟩
      have B1 := hide b1
      clear b1 HF
      have x0 := cell_below s0.out B1.out
      have x1 := cell_below s1.out B1.out
      have x2 := cell_below s2.out B1.out
      have x3 := cell_below s3.out B1.out
      have x4 := cell_below s4.out B1.out
      go_wp2_with fail
      refine (HHo.out _ B1.out).mono ?_
      rintro e w2 ⟨rfl, b2⟩
      have B2 := hide (chain B1.out b2)
      clear b2 B1 x0 x1 x2 x3 x4
      have x2 := cell_below s2.out B2.out
      go_wp2_with fail
      refine (HAq2.out _ B2.out).mono ?_
      rintro e w3 ⟨rfl, hu⟩
      obtain rfl : w2 = w3 := hu.symm
      go_wp2_with fail
      go_ret
      exact ⟨ret_str E.out.symm, B2.out⟩
    | false =>
      rw [if_neg (by decide)] at E
      clear HAq2
      go_enter Tryz.func36, Tryz.ntmps36
      go_wp2_with fail
      refine HF.out.mono ?_
      rintro e w1 ⟨rfl, b1⟩
      have B1 := hide b1
      clear b1 HF
      have x0 := cell_below s0.out B1.out
      have x1 := cell_below s1.out B1.out
      have x2 := cell_below s2.out B1.out
      have x3 := cell_below s3.out B1.out
      have x4 := cell_below s4.out B1.out
      go_wp2_with fail
      refine (HHo.out _ B1.out).mono ?_
      rintro e w2 ⟨rfl, b2⟩
      have B2 := hide (chain B1.out b2)
      clear b2 B1 x0 x1 x2 x3 x4
      have u2 := cell_below c2.out B2.out
      go_wp2_with fail
      refine (HAo.out _ B2.out).mono ?_
      rintro e w3 ⟨rfl, hu⟩
      obtain rfl : w2 = w3 := hu.symm
      go_wp2_with fail
      go_ret
      exact ⟨ret_str E.out.symm, B2.out⟩
set_option maxHeartbeats 4000000 in
theorem refMethodS_any (v : Value) (l : List Nd) (form sub : Int) (w : World) (hv : NodesV w v l) (hz : DocSz l) :
    Calls Tryz.prog 35 #[v, .int .i64 form, .int .i64 sub] w fun e w' => e = .returned (.string (metP l form sub)) ∧ Below w.heap.size w w' := by
  have HI := hide (refHas_any v l form w hv hz)
  cases h : hasN l form with
  | false =>
    have E : Hid (metP l form sub = ⟨#[]⟩) := by show _ = _; unfold metP; rw [if_neg (by rw [h]; decide)]
    rw [h] at HI
    obtain ⟨p, c, rfl, hvv⟩ := hv
    clear h hz hvv
    go_enter Tryz.func35, Tryz.ntmps35
    go_wp2_with fail
    refine HI.out.mono ?_
    rintro e w1 ⟨rfl, b1⟩
    go_wp2_with fail
    go_ret
    exact ⟨ret_str E.out.symm, b1⟩
  | true =>
    obtain ⟨m, hI⟩ := Is.of h
    obtain ⟨rfl, hm⟩ := (⟨hI.eq, hI.lt⟩ : form = (m : Int) ∧ m < l.length)
    rw [h] at HI
    have HS := hide (fun W (hb : Below w.heap.size w W) => refSetS_any v l m sub ⟨#[102, 111, 114, 109, 109, 101, 116, 104, 111, 100]⟩ ⟨#[109, 101, 116, 104, 111, 100]⟩ W (hv.below hb) hz hm)
    have ZS : (setP_SubP l (m : Int) sub ⟨#[102, 111, 114, 109, 109, 101, 116, 104, 111, 100]⟩ ⟨#[109, 101, 116, 104, 111, 100]⟩).size ≤ 140737488351232 := by
      unfold setP_SubP
      split
      · rename_i q
        rw [Bool.and_eq_true] at q
        have q1 := q.1
        unfold firesP at q1
        rw [Bool.and_eq_true, Bool.and_eq_true, decide_eq_true_eq, decide_eq_true_eq] at q1
        rw [nd_at (show sub.toNat < l.length by omega)]
        exact fnd_lenS (hz.nds _ (List.getElem_mem _)).tx _
      · rw [Int.toNat_natCast, nd_at hm]
        exact fnd_lenS (hz.nds _ (List.getElem_mem _)).tx _
    have HL := hide (fun W => refLower_reach (setP_SubP l (m : Int) sub ⟨#[102, 111, 114, 109, 109, 101, 116, 104, 111, 100]⟩ ⟨#[109, 101, 116, 104, 111, 100]⟩) W ZS)
    have E : Hid (metP l (m : Int) sub = if lowS (setP_SubP l (m : Int) sub ⟨#[102, 111, 114, 109, 109, 101, 116, 104, 111, 100]⟩ ⟨#[109, 101, 116, 104, 111, 100]⟩) = sPost ∨ lowS (setP_SubP l (m : Int) sub ⟨#[102, 111, 114, 109, 109, 101, 116, 104, 111, 100]⟩ ⟨#[109, 101, 116, 104, 111, 100]⟩) = sDia then lowS (setP_SubP l (m : Int) sub ⟨#[102, 111, 114, 109, 109, 101, 116, 104, 111, 100]⟩ ⟨#[109, 101, 116, 104, 111, 100]⟩) else sGet) := by show _ = _; unfold metP; rw [if_pos h]; rfl
    obtain ⟨p, c, rfl, hvv⟩ := hv
    clear h hz hvv hI hm ZS
    generalize metP l (m : Int) sub = RES at *
    generalize lowS (setP_SubP l (m : Int) sub ⟨#[102, 111, 114, 109, 109, 101, 116, 104, 111, 100]⟩ ⟨#[109, 101, 116, 104, 111, 100]⟩) = s at *
    generalize setP_SubP l (m : Int) sub ⟨#[102, 111, 114, 109, 109, 101, 116, 104, 111, 100]⟩ ⟨#[109, 101, 116, 104, 111, 100]⟩ = s0 at *
    by_cases h1 : s = sPost
    · have a1 : (s.toList == [112, 111, 115, 116]) = true := lit_yes h1
      rw [if_pos (.inl h1)] at E
      clear h1
      go_enter Tryz.func35, Tryz.ntmps35
      go_wp2_with fail
      refine HI.out.mono ?_
      rintro e w1 ⟨rfl, b1⟩
      go_wp2_with fail
      refine (HS.out _ b1).mono ?_
      rintro e w2 ⟨rfl, b2⟩
      go_wp2_with fail
      refine (HL.out _).mono ?_
      rintro e w3 ⟨rfl, b3⟩
      go_wp2_with fail
      go_ret
      exact ⟨ret_str E.out.symm, chain (chain b1 b2) b3⟩
    · have a1 : (s.toList == [112, 111, 115, 116]) = false := lit_no h1
      by_cases h2 : s = sDia
      · have a2 : (s.toList == [100, 105, 97, 108, 111, 103]) = true := lit_yes h2
        rw [if_pos (.inr h2)] at E
        clear h1 h2
        go_enter Tryz.func35, Tryz.ntmps35
        go_wp2_with fail
        refine HI.out.mono ?_
        rintro e w1 ⟨rfl, b1⟩
        go_wp2_with fail
        refine (HS.out _ b1).mono ?_
        rintro e w2 ⟨rfl, b2⟩
        go_wp2_with fail
        refine (HL.out _).mono ?_
        rintro e w3 ⟨rfl, b3⟩
        go_wp2_with fail
        go_ret
        exact ⟨ret_str E.out.symm, chain (chain b1 b2) b3⟩
      · have a2 : (s.toList == [100, 105, 97, 108, 111, 103]) = false := lit_no h2
        rw [if_neg (fun t => t.elim h1 h2)] at E
        clear h1 h2
        go_enter Tryz.func35, Tryz.ntmps35
        go_wp2_with fail
        refine HI.out.mono ?_
        rintro e w1 ⟨rfl, b1⟩
        go_wp2_with fail
        refine (HS.out _ b1).mono ?_
        rintro e w2 ⟨rfl, b2⟩
        go_wp2_with fail
        refine (HL.out _).mono ?_
        rintro e w3 ⟨rfl, b3⟩
        go_wp2_with fail
        go_ret
        exact ⟨ret_str E.out.symm, chain (chain b1 b2) b3⟩
set_option maxHeartbeats 4000000 in
theorem refKindS_any (v : Value) (l : List Nd) (form sub : Int) (w : World) (hv : NodesV w v l) (hz : DocSz l) :
    Calls Tryz.prog 41 #[v, .int .i64 form, .int .i64 sub] w fun e w' => e = .returned (.int .i64 (knP l form sub)) ∧ Below w.heap.size w w' := by
  have HI := hide (refHas_any v l form w hv hz)
  cases h : hasN l form with
  | false =>
    have E : Hid (knP l form sub = 0) := by show _ = _; unfold knP; rw [if_neg (by rw [h]; decide)]
    rw [h] at HI
    obtain ⟨p, c, rfl, hvv⟩ := hv
    clear h hz hvv
    go_enter Tryz.func41, Tryz.ntmps41
    go_wp2_with fail
    refine HI.out.mono ?_
    rintro e w1 ⟨rfl, b1⟩
    go_wp2_with fail
    go_ret
    exact ⟨ret_int E.out.symm, b1⟩
  | true =>
    obtain ⟨m, hI⟩ := Is.of h
    obtain ⟨rfl, hm⟩ := (⟨hI.eq, hI.lt⟩ : form = (m : Int) ∧ m < l.length)
    rw [h] at HI
    have HS := hide (fun W (hb : Below w.heap.size w W) => refSetS_any v l m sub ⟨#[102, 111, 114, 109, 101, 110, 99, 116, 121, 112, 101]⟩ ⟨#[101, 110, 99, 116, 121, 112, 101]⟩ W (hv.below hb) hz hm)
    have ZS : (setP_SubP l (m : Int) sub ⟨#[102, 111, 114, 109, 101, 110, 99, 116, 121, 112, 101]⟩ ⟨#[101, 110, 99, 116, 121, 112, 101]⟩).size ≤ 140737488351232 := by
      unfold setP_SubP
      split
      · rename_i q
        rw [Bool.and_eq_true] at q
        have q1 := q.1
        unfold firesP at q1
        rw [Bool.and_eq_true, Bool.and_eq_true, decide_eq_true_eq, decide_eq_true_eq] at q1
        rw [nd_at (show sub.toNat < l.length by omega)]
        exact fnd_lenS (hz.nds _ (List.getElem_mem _)).tx _
      · rw [Int.toNat_natCast, nd_at hm]
        exact fnd_lenS (hz.nds _ (List.getElem_mem _)).tx _
    have HL := hide (fun W => refLower_reach (setP_SubP l (m : Int) sub ⟨#[102, 111, 114, 109, 101, 110, 99, 116, 121, 112, 101]⟩ ⟨#[101, 110, 99, 116, 121, 112, 101]⟩) W ZS)
    have E : Hid (knP l (m : Int) sub = if lowS (setP_SubP l (m : Int) sub ⟨#[102, 111, 114, 109, 101, 110, 99, 116, 121, 112, 101]⟩ ⟨#[101, 110, 99, 116, 121, 112, 101]⟩) = sMul then 2 else if lowS (setP_SubP l (m : Int) sub ⟨#[102, 111, 114, 109, 101, 110, 99, 116, 121, 112, 101]⟩ ⟨#[101, 110, 99, 116, 121, 112, 101]⟩) = sPla then 3 else 1) := by show _ = _; unfold knP; rw [if_pos h]; rfl
    obtain ⟨p, c, rfl, hvv⟩ := hv
    clear h hz hvv hI hm ZS
    generalize knP l (m : Int) sub = RES at *
    generalize lowS (setP_SubP l (m : Int) sub ⟨#[102, 111, 114, 109, 101, 110, 99, 116, 121, 112, 101]⟩ ⟨#[101, 110, 99, 116, 121, 112, 101]⟩) = s at *
    generalize setP_SubP l (m : Int) sub ⟨#[102, 111, 114, 109, 101, 110, 99, 116, 121, 112, 101]⟩ ⟨#[101, 110, 99, 116, 121, 112, 101]⟩ = s0 at *
    by_cases h1 : s = sMul
    · have a1 : (s.toList == [109, 117, 108, 116, 105, 112, 97, 114, 116, 47, 102, 111, 114, 109, 45, 100, 97, 116, 97]) = true := lit_yes h1
      rw [if_pos h1] at E
      clear h1
      go_enter Tryz.func41, Tryz.ntmps41
      go_wp2_with fail
      refine HI.out.mono ?_
      rintro e w1 ⟨rfl, b1⟩
      go_wp2_with fail
      refine (HS.out _ b1).mono ?_
      rintro e w2 ⟨rfl, b2⟩
      go_wp2_with fail
      refine (HL.out _).mono ?_
      rintro e w3 ⟨rfl, b3⟩
      go_wp2_with fail
      go_ret
      exact ⟨ret_int E.out.symm, chain (chain b1 b2) b3⟩
    · have a1 : (s.toList == [109, 117, 108, 116, 105, 112, 97, 114, 116, 47, 102, 111, 114, 109, 45, 100, 97, 116, 97]) = false := lit_no h1
      rw [if_neg h1] at E
      by_cases h2 : s = sPla
      · have a2 : (s.toList == [116, 101, 120, 116, 47, 112, 108, 97, 105, 110]) = true := lit_yes h2
        rw [if_pos h2] at E
        clear h1 h2
        go_enter Tryz.func41, Tryz.ntmps41
        go_wp2_with fail
        refine HI.out.mono ?_
        rintro e w1 ⟨rfl, b1⟩
        go_wp2_with fail
        refine (HS.out _ b1).mono ?_
        rintro e w2 ⟨rfl, b2⟩
        go_wp2_with fail
        refine (HL.out _).mono ?_
        rintro e w3 ⟨rfl, b3⟩
        go_wp2_with fail
        go_ret
        exact ⟨ret_int E.out.symm, chain (chain b1 b2) b3⟩
      · have a2 : (s.toList == [116, 101, 120, 116, 47, 112, 108, 97, 105, 110]) = false := lit_no h2
        rw [if_neg h2] at E
        clear h1 h2
        go_enter Tryz.func41, Tryz.ntmps41
        go_wp2_with fail
        refine HI.out.mono ?_
        rintro e w1 ⟨rfl, b1⟩
        go_wp2_with fail
        refine (HS.out _ b1).mono ?_
        rintro e w2 ⟨rfl, b2⟩
        go_wp2_with fail
        refine (HL.out _).mono ?_
        rintro e w3 ⟨rfl, b3⟩
        go_wp2_with fail
        go_ret
        exact ⟨ret_int E.out.symm, chain (chain b1 b2) b3⟩
end Go.Proofs.YtnojgejcmaajmaaGreatDoor

namespace Go.Proofs.YtnojgejcmaajmaaGreatDoor
open Go.RowKit
set_option maxRecDepth 100000
theorem take_none {s : ByteArray} {k : Nat} {c : UInt8} (h : (s.data.toList.take k).contains c = false) (hk : k < s.size) (hc : s[k] ≠ c) : (s.data.toList.take (k + 1)).contains c = false := by
  rw [byteAt_take s k hk, ← byteAt_eq s k hk]
  have : (c == s[k]) = false := by simpa using fun e => hc e.symm
  simp at h this ⊢
  exact ⟨h, this⟩
theorem at_contains {s : ByteArray} {k : Nat} {c : UInt8} (hk : k < s.size) (hc : s[k] = c) : hasB s.data.toList c = true := by
  unfold hasB
  have : s.data.toList[k]'(by simpa using hk) = c := hc
  rw [List.contains_iff_mem]; exact this ▸ List.getElem_mem _
theorem nat_eq {a b : UInt8} (h : (a.toNat : Int) = (b.toNat : Int)) : a = b := UInt8.toNat_inj.1 (by omega)
set_option maxHeartbeats 400000 in
theorem refIn_any (c : UInt8) (s : ByteArray) (w : World) (hs : s.size ≤ maxLen) :
    Calls Tryz.prog 236 #[.int .u8 (c.toNat : Int), .string s] w fun e w' => e = .returned (.bool (hasB s.data.toList c)) ∧ w' = w := by
  unfold maxLen at hs
  go_enter Tryz.func236, Tryz.ntmps236
  go_wp2
  go_loop [5] (fun i => ∃ k : Nat, k ≤ s.size ∧ i = .int .i64 k ∧ (s.data.toList.take k).contains c = false) (fun i => s.size - (intOf i).toNat)
  case atStart => exact ⟨0, Nat.zero_le _, rfl, rfl⟩
  case round =>
    obtain ⟨k, hk, rfl, hn⟩ := hrel
    have HN := hide hn
    clear hn
    by_cases hlt : k < s.size
    · by_cases he : (s[k].toNat : Int) = (c.toNat : Int)
      · have HC := hide (at_contains hlt (nat_eq he))
        have q : ((s[k].toNat : Int) == (c.toNat : Int)) = true := by simpa using he
        clear he
        go_wp2
        go_ret
        exact ⟨ret_bool HC.out.symm, rfl⟩
      · have HC := hide (take_none HN.out hlt (fun e => he (by rw [e])))
        have q : ((s[k].toNat : Int) == (c.toNat : Int)) = false := by simpa using he
        clear he
        go_wp2
        go_round
        case rel => exact ⟨k + 1, by omega, by go_num, HC.out⟩
        case measure => simp [intOf]; omega
    · have HC : Hid (hasB s.data.toList c = false) := by
        unfold hasB
        have := HN.out
        rw [List.take_of_length_le (by simp; omega)] at this; exact this
      go_wp2
      go_ret
      exact ⟨ret_bool HC.out.symm, rfl⟩
set_option maxHeartbeats 400000 in
theorem refPlain_any (c : UInt8) (w : World) :
    Calls Tryz.prog 207 #[.int .u8 (c.toNat : Int)] w fun e w' => e = .returned (.bool (plainB c)) ∧ w' = w := by
  unfold plainB
  rcases (show (c.toNat < 48) ∨ (48 ≤ c.toNat ∧ c.toNat ≤ 57) ∨ (57 < c.toNat ∧ c.toNat < 65) ∨ (65 ≤ c.toNat ∧ c.toNat ≤ 90) ∨ (90 < c.toNat ∧ c.toNat < 97) ∨ (97 ≤ c.toNat ∧ c.toNat ≤ 122) ∨ (122 < c.toNat) by omega) with h | ⟨h, g⟩ | ⟨h, g⟩ | ⟨h, g⟩ | ⟨h, g⟩ | ⟨h, g⟩ | h
  · rw [decide_eq_false (by omega)]
    go_enter Tryz.func207, Tryz.ntmps207
    go_wp2
    go_ret
    exact ⟨ret_bool (by first | rfl | (simp; omega)), rfl⟩
  · rw [decide_eq_true (by omega)]
    go_enter Tryz.func207, Tryz.ntmps207
    go_wp2
    go_ret
    exact ⟨ret_bool (by first | rfl | (simp; omega)), rfl⟩
  · rw [decide_eq_false (by omega)]
    go_enter Tryz.func207, Tryz.ntmps207
    go_wp2
    go_ret
    exact ⟨ret_bool (by first | rfl | (simp; omega)), rfl⟩
  · rw [decide_eq_true (by omega)]
    go_enter Tryz.func207, Tryz.ntmps207
    go_wp2
    go_ret
    exact ⟨ret_bool (by first | rfl | (simp; omega)), rfl⟩
  · rw [decide_eq_false (by omega)]
    go_enter Tryz.func207, Tryz.ntmps207
    go_wp2
    go_ret
    exact ⟨ret_bool (by first | rfl | (simp; omega)), rfl⟩
  · rw [decide_eq_true (by omega)]
    go_enter Tryz.func207, Tryz.ntmps207
    go_wp2
    go_ret
    exact ⟨ret_bool (by first | rfl | (simp; omega)), rfl⟩
  · rw [decide_eq_false (by omega)]
    go_enter Tryz.func207, Tryz.ntmps207
    go_wp2
    go_ret
    exact ⟨ret_bool (by first | rfl | (simp; omega)), rfl⟩
end Go.Proofs.YtnojgejcmaajmaaGreatDoor

namespace Go.Proofs.YtnojgejcmaajmaaGreatDoor
open Go.RowKit
set_option maxRecDepth 100000
set_option maxHeartbeats 4000000 in
theorem refFit_any (b : ByteArray) (w : World) (hs : b.size ≤ 1099511627776) :
    Calls Tryz.prog 157 #[.string b] w fun e w' => e = .returned (.bool (fitL (bL b))) ∧ Below w.heap.size w w' := by
  have LB := hide (len_bL b)
  have E : Hid (fitL (bL b) = ((bL b).all fitC && decide (0 < (bL b).length ∧ (bL b).length ≤ 70))) := rfl
  go_enter Tryz.func157, Tryz.ntmps157
  go_wp2_with fail
  go_loopw [3] (fun iv wr => ∃ k : Nat, k ≤ b.size ∧ iv = .int .i64 k ∧ Hid (((bL b).take k).all fitC = true) ∧ Hid (Below w.heap.size w wr)) (fun iv _ => b.size - (intOf iv).toNat)
  case atStart => exact ⟨0, Nat.zero_le _, rfl, rfl, Below.refl _ _⟩
  case round =>
    rename World => wr
    obtain ⟨k, hk, rfl, HA, BW⟩ := hrel
    by_cases g : k < b.size
    · have k1 : (k : Int) < (b.size : Int) := by omega
      have k0 : (0 : Int) ≤ (k : Int) := by omega
      have hl : k < (bL b).length := by rw [LB.out]; exact g
      have TK := hide (all_takeP fitC (bL b) hl)
      rw [at_bL g, HA.out, Bool.true_and] at TK
      have NO : Hid (fitC b[k] = false → fitL (bL b) = false) := fun t => by
        rw [E.out]
        have : (bL b).all fitC = false := List.all_eq_false.2 ⟨(bL b)[k], List.getElem_mem hl, by rw [at_bL g, t]; decide⟩
        rw [this]; rfl
      have EC : Hid (fitC b[k] = (plainB b[k] || b[k] == 45)) := rfl
      have HP := hide (fun W => refPlain_any b[k] W)
      clear HA E LB
      cases p : plainB b[k] with
      | true =>
        rw [p] at HP EC
        rw [EC.out] at TK
        clear NO EC p
        go_wp2_with fail
        refine (HP.out _).mono ?_
        rintro e w1 ⟨rfl, hu⟩
        obtain rfl : wr = w1 := hu.symm
        go_wp2_with fail
        go_roundw
        case rel => exact ⟨k + 1, by omega, by go_num, TK, BW⟩
        case measure => simp [intOf]; omega
      | false =>
        rw [p] at HP EC
        by_cases q : b[k] = 45
        · have q1 : ((b[k].toNat : Int) != 45) = false := by rw [q]; rfl
          have q2 : (b[k] == 45) = true := by rw [q]; rfl
          rw [EC.out, q2] at TK
          clear NO EC p q q2
          go_wp2_with fail
          refine (HP.out _).mono ?_
          rintro e w1 ⟨rfl, hu⟩
          obtain rfl : wr = w1 := hu.symm
          go_wp2_with fail
          go_roundw
          case rel => exact ⟨k + 1, by omega, by go_num, TK, BW⟩
          case measure => simp [intOf]; omega
        · have q1 : ((b[k].toNat : Int) != 45) = true := by
            rw [bne_iff_ne]
            intro h
            exact q (UInt8.toNat_inj.1 (by show _ = 45; omega))
          have q2 : (b[k] == 45) = false := by rw [beq_eq_false_iff_ne]; exact q
          have RN := hide (NO.out (by rw [EC.out, q2]; rfl))
          clear NO EC p q q2 TK
          go_wp2_with fail
          refine (HP.out _).mono ?_
          rintro e w1 ⟨rfl, hu⟩
          obtain rfl : wr = w1 := hu.symm
          go_wp2_with fail
          go_ret
          exact ⟨ret_bool RN.out.symm, BW.out⟩
    · obtain rfl : k = b.size := by omega
      rw [List.take_of_length_le (by rw [LB.out]; omega)] at HA
      rw [HA.out, Bool.true_and, LB.out] at E
      clear HA LB
      by_cases h0 : 0 < b.size
      · have d0 : decide (0 < (b.size : Int)) = true := decide_eq_true (by omega)
        by_cases h7 : b.size ≤ 70
        · have d1 : decide ((b.size : Int) ≤ 70) = true := decide_eq_true (by omega)
          rw [decide_eq_true ⟨h0, h7⟩] at E
          go_wp2_with fail
          go_ret
          exact ⟨ret_bool E.out.symm, BW.out⟩
        · have d1 : decide ((b.size : Int) ≤ 70) = false := decide_eq_false (by omega)
          rw [decide_eq_false (fun t => h7 t.2)] at E
          go_wp2_with fail
          go_ret
          exact ⟨ret_bool E.out.symm, BW.out⟩
      · have d0 : decide (0 < (b.size : Int)) = false := decide_eq_false (by omega)
        rw [decide_eq_false (fun t => h0 t.1)] at E
        go_wp2_with fail
        go_ret
        exact ⟨ret_bool E.out.symm, BW.out⟩
end Go.Proofs.YtnojgejcmaajmaaGreatDoor

namespace Go.Proofs.YtnojgejcmaajmaaGreatDoor
open Go.RowKit
set_option maxRecDepth 100000
/-- The way to the first place of a byte. -/
def FsAt (c : UInt8) (s : ByteArray) (k : Nat) : Prop := fst8 c (bL s) = k + fst8 c ((bL s).drop k)
theorem fs_start (c : UInt8) (s : ByteArray) : FsAt c s 0 := by show _ = _; rw [Nat.zero_add]; rfl
theorem fs_hit {c : UInt8} {s : ByteArray} {k : Nat} (h : FsAt c s k) (g : k < s.size) (e : s[k] = c) : fst8 c (bL s) = k := by
  unfold FsAt at h
  rw [h, show (bL s).drop k = s[k] :: (bL s).drop (k + 1) from drop1 s k g]
  unfold fst8
  rw [List.takeWhile_cons_of_neg (by rw [e]; simp)]; rfl
theorem fs_next {c : UInt8} {s : ByteArray} {k : Nat} (h : FsAt c s k) (g : k < s.size) (e : ¬ s[k] = c) : FsAt c s (k + 1) := by
  unfold FsAt at h ⊢
  rw [h, show (bL s).drop k = s[k] :: (bL s).drop (k + 1) from drop1 s k g]
  unfold fst8
  rw [List.takeWhile_cons_of_pos (by simp [e]), List.length_cons]; omega
theorem fs_end {c : UInt8} {s : ByteArray} (h : FsAt c s s.size) : fst8 c (bL s) = s.size := by
  unfold FsAt at h
  rw [h, List.drop_eq_nil_of_le (by rw [len_bL]; exact Nat.le_refl _)]; rfl
theorem fst_le (c : UInt8) (l : List UInt8) : fst8 c l ≤ l.length := (List.takeWhile_prefix _).length_le
set_option maxHeartbeats 4000000 in
theorem refFirstS_any (s : ByteArray) (c : UInt8) (w : World) (hs : s.size ≤ 140737488351232) :
    Calls Tryz.prog 89 #[.string s, .int .u8 (c.toNat : Int)] w fun e w' => e = .returned (.int .i64 (fst8 c (bL s) : Nat)) ∧ w' = w := by
  obtain ⟨RES, hRES⟩ : ∃ R : Nat, Hid (fst8 c (bL s) = R) := ⟨_, show _ = _ from rfl⟩
  rw [hRES.out]
  go_enter Tryz.func89, Tryz.ntmps89
  go_wp2_with fail
  go_loop [5] (fun i => ∃ k : Nat, k ≤ s.size ∧ i = .int .i64 k ∧ Hid (FsAt c s k)) (fun i => s.size - (intOf i).toNat)
  case atStart => exact ⟨0, Nat.zero_le _, rfl, fs_start c s⟩
  case round =>
    obtain ⟨k, hk, rfl, hd⟩ := hrel
    by_cases hlt : k < s.size
    · have i1 : (k : Int) < (s.size : Int) := by omega
      by_cases hc : s[k] = c
      · have E : Hid ((k : Int) = (RES : Int)) := by show _ = _; rw [← hRES.out, fs_hit hd.out hlt hc]
        have i3 : ((s[k].toNat : Int) == (c.toNat : Int)) = true := by rw [hc]; simp
        clear hd hc hRES
        go_wp2_with fail
        go_ret
        exact ⟨ret_int E.out, rfl⟩
      · have i3 := ne_intS hc
        have hd' : Hid (FsAt c s (k + 1)) := fs_next hd.out hlt hc
        clear hd hc hRES
        go_wp2_with fail
        go_round
        case rel => exact ⟨k + 1, by omega, by go_num, hd'⟩
        case measure => simp [intOf]; omega
    · obtain rfl : k = s.size := by omega
      have E : Hid ((s.size : Int) = (RES : Int)) := by show _ = _; rw [← hRES.out, fs_end hd.out]
      clear hd hRES
      go_wp2_with fail
      go_ret
      exact ⟨ret_int E.out, rfl⟩
theorem qry_is (a q : ByteArray) (h : Nat) (e : fst8 35 (bL a) = h) (k : Nat) (g : fst8 63 (bL (a.extract 0 h)) = k) : (a.extract 0 h).extract 0 k ++ (⟨#[63]⟩ : ByteArray) ++ q ++ a.extract h a.size = txt (qryL (bL a) (bL q)) := by
  have ex : ∀ (s : ByteArray) (i : Nat), bL (s.extract 0 i) = (bL s).take i := fun s i => by
    show (s.extract 0 i).data.toList = _
    simp only [ByteArray.data_extract, Array.toList_extract]; rw [List.extract_eq_take_drop]; simp
  have ed : bL (a.extract h a.size) = (bL a).drop h := by
    show (a.extract h a.size).data.toList = _
    simp only [ByteArray.data_extract, Array.toList_extract]; rw [List.extract_eq_take_drop]
    exact List.take_of_length_le (by rw [List.length_drop, len_bL]; exact Nat.le_refl _)
  have key : bL ((a.extract 0 h).extract 0 k ++ (⟨#[63]⟩ : ByteArray) ++ q ++ a.extract h a.size) = qryL (bL a) (bL q) := by
    rw [ex] at g
    unfold qryL
    rw [e, g]
    show ((a.extract 0 h).extract 0 k ++ (⟨#[63]⟩ : ByteArray) ++ q ++ a.extract h a.size).data.toList = _
    simp only [ByteArray.data_append, Array.toList_append]
    rw [show (a.extract h a.size).data.toList = _ from ed, show ((a.extract 0 h).extract 0 k).data.toList = _ from ex _ _, ex]
    simp
  rw [← key]; rfl
set_option maxHeartbeats 4000000 in
theorem refQueryS_any (a q : ByteArray) (w : World) (ha : a.size ≤ 140737488351232) (hq : q.size ≤ 140737488351232) :
    Calls Tryz.prog 37 #[.string a, .string q] w fun e w' => e = .returned (.string (txt (qryL (bL a) (bL q)))) ∧ Below w.heap.size w w' := by
  obtain ⟨h, eh⟩ : ∃ h, fst8 35 (bL a) = h := ⟨_, rfl⟩
  obtain ⟨k, ek⟩ : ∃ k, fst8 63 (bL (a.extract 0 h)) = k := ⟨_, rfl⟩
  have E := hide (qry_is a q h eh k ek)
  have hh : h ≤ a.size := by have := fst_le 35 (bL a); rw [len_bL, eh] at this; exact this
  have sz : (a.extract 0 h).size = h := by rw [ByteArray.size_extract]; omega
  have kk : k ≤ (a.extract 0 h).size := by have := fst_le 63 (bL (a.extract 0 h)); rw [len_bL, ek] at this; exact this
  have H1 := hide (fun W => refFirstS_any a 35 W ha)
  have H2 := hide (fun W => refFirstS_any (a.extract 0 h) 63 W (by omega))
  rw [eh] at H1
  rw [ek] at H2
  generalize txt (qryL (bL a) (bL q)) = RES at *
  clear eh ek
  have h0 : (0 : Int) ≤ (h : Int) := by omega
  have h1 : (h : Int) ≤ (a.size : Int) := by omega
  have k0 : (0 : Int) ≤ (k : Int) := by omega
  have k1 : (k : Int) ≤ ((a.extract 0 h).size : Int) := by omega
  have kh : k ≤ h := by omega
  have Z1 : ((a.extract 0 h).extract 0 k).size ≤ 140737488351232 := by rw [ByteArray.size_extract]; omega
  have Z2 : ((a.extract 0 h).extract 0 k ++ (⟨#[63]⟩ : ByteArray)).size ≤ 140737488351233 := by rw [ByteArray.size_append]; exact Nat.add_le_add Z1 (show (⟨#[63]⟩ : ByteArray).size ≤ 1 by decide)
  have Z3 : ((a.extract 0 h).extract 0 k ++ (⟨#[63]⟩ : ByteArray) ++ q).size ≤ 281474976702465 := by rw [ByteArray.size_append]; omega
  have Z4 : (a.extract h a.size).size ≤ 140737488351232 := by rw [ByteArray.size_extract]; omega
  go_enter Tryz.func37, Tryz.ntmps37
  go_wp2_with fail
  refine (H1.out _).mono ?_
  rintro e w1 ⟨rfl, hu⟩
  obtain rfl : w = w1 := hu.symm
  go_wp2_with fail
  have p1 := fun W => run_string_add_sum (P := Tryz.prog) W ((a.extract 0 h).extract 0 k) (⟨#[63]⟩ : ByteArray) (by have := (show (⟨#[63]⟩ : ByteArray).size ≤ 1 by decide); omega)
  have p2 := fun W => run_string_add_sum (P := Tryz.prog) W ((a.extract 0 h).extract 0 k ++ (⟨#[63]⟩ : ByteArray)) q (by omega)
  have p3 := fun W => run_string_add_sum (P := Tryz.prog) W ((a.extract 0 h).extract 0 k ++ (⟨#[63]⟩ : ByteArray) ++ q) (a.extract h a.size) (by omega)
  refine wp_region_held_drew (S := fun X : World => True) (by kernel_rfl) ?_ (fun hHeld => ?_)
  · exact trivial
  refine wpAnyH_take (i := 0) (oi := { dst := some 12, op := Op.move (Operand.tmp 6), type := 9, pos := "ref.go:89", after := #[], guard := none }) (v := ?_) rfl (by kernel_rfl) (by kernel_rfl) (by kernel_rfl) (fun _ _ _ h => h) (Or.inl ⟨by rfl, ?_⟩) (by assumption) ?_
  rotate_left
  · (intro w hSw; (try dsimp only at hSw); first | (go_simp; done) | (go_simp; with_reducible rfl))
  simp only [Act.put, List.setIfInBounds_toArray, List.set_cons_zero, List.set_cons_succ]
  refine wpAnyH_take (i := 1) (oi := { dst := some 13, op := Op.move (Operand.tmp 6), type := 9, pos := "ref.go:89", after := #[], guard := none }) (v := ?_) rfl (by kernel_rfl) (by kernel_rfl) (by kernel_rfl) (fun _ _ _ h => h) (Or.inl ⟨by rfl, ?_⟩) (by assumption) ?_
  rotate_left
  · (intro w hSw; (try dsimp only at hSw); first | (go_simp; done) | (go_simp; with_reducible rfl))
  simp only [Act.put, List.setIfInBounds_toArray, List.set_cons_zero, List.set_cons_succ]
  refine wpAnyH_take (i := 5) (oi := { dst := some 17, op := Op.move (Operand.tmp 1), type := 9, pos := "ref.go:89", after := #[], guard := none }) (v := ?_) rfl (by kernel_rfl) (by kernel_rfl) (by kernel_rfl) (fun _ _ _ h => h) (Or.inl ⟨by rfl, ?_⟩) (by assumption) ?_
  rotate_left
  · (intro w hSw; (try dsimp only at hSw); first | (go_simp; done) | (go_simp; with_reducible rfl))
  simp only [Act.put, List.setIfInBounds_toArray, List.set_cons_zero, List.set_cons_succ]
  refine wpAnyH_take (i := 7) (oi := { dst := some 19, op := Op.move (Operand.tmp 0), type := 9, pos := "ref.go:89", after := #[], guard := none }) (v := ?_) rfl (by kernel_rfl) (by kernel_rfl) (by kernel_rfl) (fun _ _ _ h => h) (Or.inl ⟨by rfl, ?_⟩) (by assumption) ?_
  rotate_left
  · (intro w hSw; (try dsimp only at hSw); first | (go_simp; done) | (go_simp; with_reducible rfl))
  simp only [Act.put, List.setIfInBounds_toArray, List.set_cons_zero, List.set_cons_succ]
  refine wpAnyH_take (i := 8) (oi := { dst := some 20, op := Op.move (Operand.tmp 5), type := 3, pos := "ref.go:89", after := #[], guard := none }) (v := ?_) rfl (by kernel_rfl) (by kernel_rfl) (by kernel_rfl) (fun _ _ _ h => h) (Or.inl ⟨by rfl, ?_⟩) (by assumption) ?_
  rotate_left
  · (intro w hSw; (try dsimp only at hSw); first | (go_simp; done) | (go_simp; with_reducible rfl))
  simp only [Act.put, List.setIfInBounds_toArray, List.set_cons_zero, List.set_cons_succ]
  refine wpAnyH_take (i := 9) (oi := { dst := some 21, op := Op.slice 9 (Operand.tmp 19) (some (Operand.tmp 20)) none none, type := 9, pos := "ref.go:89", after := #[{ on := 7, ground := Ground.data }, { on := 8, ground := Ground.data }], guard := none }) (v := ?_) rfl (by kernel_rfl) (by kernel_rfl) (by kernel_rfl) (fun _ _ _ h => h) (Or.inl ⟨by rfl, ?_⟩) (by assumption) ?_
  rotate_left
  · (intro w hSw; (try dsimp only at hSw); first | (go_simp; done) | (go_simp; with_reducible rfl))
  simp only [Act.put, List.setIfInBounds_toArray, List.set_cons_zero, List.set_cons_succ]
  refine wpAnyH_ready (rs := [2]) (by kernel_rfl) (by simp) ?_
  refine AllReadyH.cons (i := 2) (o := { dst := some 14, op := Op.call { callee := Callee.value (Operand.func 89), args := #[Operand.tmp 13, Operand.const (Value.int IntKind.u8 63)], argTypes := #[9, 5] }, type := 3, pos := "ref.go:89", after := #[{ on := 1, ground := Ground.data }], guard := none }) rfl (fun K hK => ?_) AllReadyH.nil
  go_simp
  refine (H2.out _).mono ?_
  rintro e w2 ⟨rfl, hu⟩
  obtain rfl : w.drew = w2 := hu.symm
  go_wp2_with fail
  refine hK.out _ _ ?_ (fun hHeld => ?_)
  · exact trivial
  clear hK K
  refine wpAnyH_take (i := 3) (oi := { dst := some 15, op := Op.slice 9 (Operand.tmp 12) none (some (Operand.tmp 14)) none, type := 9, pos := "ref.go:89", after := #[{ on := 0, ground := Ground.data }, { on := 2, ground := Ground.data }], guard := none }) (v := ?_) rfl (by kernel_rfl) (by kernel_rfl) (by kernel_rfl) (fun _ _ _ h => h) (Or.inl ⟨by rfl, ?_⟩) (by assumption) ?_
  rotate_left
  · (intro w hSw; (try dsimp only at hSw); first | (go_simp; done) | (go_simp; with_reducible rfl))
  simp only [Act.put, List.setIfInBounds_toArray, List.set_cons_zero, List.set_cons_succ]
  refine wpAnyH_take (i := 4) (oi := { dst := some 16, op := Op.binOp BinOp.add 9 (Operand.tmp 15) (Operand.const (Value.string { data := #[63] })) 9, type := 9, pos := "ref.go:89", after := #[{ on := 3, ground := Ground.data }], guard := none }) (v := ?_) rfl (by kernel_rfl) (by kernel_rfl) (by kernel_rfl) (fun _ _ _ h => h) (Or.inl ⟨by rfl, ?_⟩) (by assumption) ?_
  rotate_left
  · (intro w hSw; (try dsimp only at hSw); first | (go_simp; done) | (go_simp; with_reducible rfl))
  simp only [Act.put, List.setIfInBounds_toArray, List.set_cons_zero, List.set_cons_succ]
  refine wpAnyH_take (i := 6) (oi := { dst := some 18, op := Op.binOp BinOp.add 9 (Operand.tmp 16) (Operand.tmp 17) 9, type := 9, pos := "ref.go:89", after := #[{ on := 4, ground := Ground.data }, { on := 5, ground := Ground.data }], guard := none }) (v := ?_) rfl (by kernel_rfl) (by kernel_rfl) (by kernel_rfl) (fun _ _ _ h => h) (Or.inl ⟨by rfl, ?_⟩) (by assumption) ?_
  rotate_left
  · (intro w hSw; (try dsimp only at hSw); first | (go_simp; done) | (go_simp; with_reducible rfl))
  simp only [Act.put, List.setIfInBounds_toArray, List.set_cons_zero, List.set_cons_succ]
  refine wpAnyH_take (i := 10) (oi := { dst := some 22, op := Op.binOp BinOp.add 9 (Operand.tmp 18) (Operand.tmp 21) 9, type := 9, pos := "ref.go:89", after := #[{ on := 6, ground := Ground.data }, { on := 9, ground := Ground.data }], guard := none }) (v := ?_) rfl (by kernel_rfl) (by kernel_rfl) (by kernel_rfl) (fun _ _ _ h => h) (Or.inl ⟨by rfl, ?_⟩) (by assumption) ?_
  rotate_left
  · (intro w hSw; (try dsimp only at hSw); first | (go_simp; done) | (go_simp; with_reducible rfl))
  simp only [Act.put, List.setIfInBounds_toArray, List.set_cons_zero, List.set_cons_succ]
  refine wpAnyH_take (i := 11) (oi := { dst := some 4, op := Op.assign (Operand.tmp 22), type := 9, pos := "ref.go:89", after := #[{ on := 10, ground := Ground.data }, { on := 2, ground := Ground.chain }, { on := 0, ground := Ground.phase }, { on := 1, ground := Ground.phase }, { on := 2, ground := Ground.phase }, { on := 3, ground := Ground.phase }, { on := 4, ground := Ground.phase }, { on := 5, ground := Ground.phase }, { on := 6, ground := Ground.phase }, { on := 7, ground := Ground.phase }, { on := 8, ground := Ground.phase }, { on := 9, ground := Ground.phase }, { on := 10, ground := Ground.phase }], guard := none }) (v := ?_) rfl (by kernel_rfl) (by kernel_rfl) (by kernel_rfl) (fun _ _ _ h => h) (Or.inl ⟨by rfl, ?_⟩) (by assumption) ?_
  rotate_left
  · (intro w hSw; (try dsimp only at hSw); first | (go_simp; done) | (go_simp; with_reducible rfl))
  simp only [Act.put, List.setIfInBounds_toArray, List.set_cons_zero, List.set_cons_succ]
  refine wpAnyH_done (by kernel_rfl) ?_ _
  go_wp2_with fail
  go_ret
  exact ⟨ret_str E.out, ⟨rfl, rfl, rfl, Nat.le_refl _, fun _ _ => rfl⟩⟩
end Go.Proofs.YtnojgejcmaajmaaGreatDoor

namespace Go.Proofs.YtnojgejcmaajmaaGreatDoor
open Go.RowKit
set_option maxRecDepth 100000
set_option maxHeartbeats 4000000 in
theorem refValueV_m1 (v : Value) (ax : List (ByteArray × ByteArray)) (w : World) (hv : AttrsV w v ax) (hz : ax.length ≤ 4398046511104) (k : Int) (C : Ct) (fv : Value) (hf : FilesV w fv C.files) (hm : modeV k = 1) :
    Calls Tryz.prog 92 #[.int .i64 k, ctV C fv, v] w fun e w' => e = .returned (.string C.val) ∧ Below w.heap.size w w' := by
  have A1 := hide (fun W (hb : Below w.heap.size w W) => refAttrS_any v ax valS W (hv.below hb) hz)
  rw [show valS = ⟨#[118, 97, 108, 117, 101]⟩ from rfl] at A1
  have HM := hide (fun W => refMode_any k W)
  have HQ := hide (fun W => refPush_any k W)
  obtain ⟨fp, fc, rfl, _⟩ := hf
  rw [hm] at HM
  clear hm HQ
  obtain ⟨p, c, rfl, _⟩ := hv
  unfold ctV ctCells
  have B1 : Hid (∀ o, Below w.heap.size w (w.alloc o)) := fun o => (Below.refl _ w).alloc (Nat.le_refl _) _
  clear hz
  go_enter Tryz.func92, Tryz.ntmps92
  go_wp2_with fail
  refine (A1.out _ (B1.out _)).mono ?_
  rintro e w1 ⟨rfl, rfl⟩
  go_wp2_with fail
  refine (HM.out _).mono ?_
  rintro e w1 ⟨rfl, rfl⟩
  go_wp2_with fail
  go_ret
  exact ⟨rfl, B1.out _⟩
set_option maxHeartbeats 4000000 in
theorem refValueV_m2 (v : Value) (ax : List (ByteArray × ByteArray)) (w : World) (hv : AttrsV w v ax) (hz : ax.length ≤ 4398046511104) (k : Int) (C : Ct) (fv : Value) (hf : FilesV w fv C.files) (hm : modeV k = 2) :
    Calls Tryz.prog 92 #[.int .i64 k, ctV C fv, v] w fun e w' => e = .returned (.string (fndS ax ⟨#[118, 97, 108, 117, 101]⟩)) ∧ Below w.heap.size w w' := by
  have A1 := hide (fun W (hb : Below w.heap.size w W) => refAttrS_any v ax valS W (hv.below hb) hz)
  rw [show valS = ⟨#[118, 97, 108, 117, 101]⟩ from rfl] at A1
  have HM := hide (fun W => refMode_any k W)
  have HQ := hide (fun W => refPush_any k W)
  obtain ⟨fp, fc, rfl, _⟩ := hf
  rw [hm] at HM
  clear hm HQ
  obtain ⟨p, c, rfl, _⟩ := hv
  unfold ctV ctCells
  have B1 : Hid (∀ o, Below w.heap.size w (w.alloc o)) := fun o => (Below.refl _ w).alloc (Nat.le_refl _) _
  clear hz
  go_enter Tryz.func92, Tryz.ntmps92
  go_wp2_with fail
  refine (A1.out _ (B1.out _)).mono ?_
  rintro e w1 ⟨rfl, rfl⟩
  go_wp2_with fail
  refine (HM.out _).mono ?_
  rintro e w1 ⟨rfl, rfl⟩
  go_wp2_with fail
  go_ret
  exact ⟨rfl, B1.out _⟩
set_option maxHeartbeats 4000000 in
theorem refValueV_m3y (v : Value) (ax : List (ByteArray × ByteArray)) (w : World) (hv : AttrsV w v ax) (hz : ax.length ≤ 4398046511104) (k : Int) (C : Ct) (fv : Value) (hf : FilesV w fv C.files) (hm : modeV k = 3) (hh : (findA ax ⟨#[118, 97, 108, 117, 101]⟩).isSome = true) :
    Calls Tryz.prog 92 #[.int .i64 k, ctV C fv, v] w fun e w' => e = .returned (.string (fndS ax ⟨#[118, 97, 108, 117, 101]⟩)) ∧ Below w.heap.size w w' := by
  have A1 := hide (fun W (hb : Below w.heap.size w W) => refAttrS_any v ax valS W (hv.below hb) hz)
  rw [show valS = ⟨#[118, 97, 108, 117, 101]⟩ from rfl] at A1
  have HM := hide (fun W => refMode_any k W)
  have HQ := hide (fun W => refPush_any k W)
  obtain ⟨fp, fc, rfl, _⟩ := hf
  rw [hm] at HM
  rw [hh] at A1
  clear hm HQ hh
  obtain ⟨p, c, rfl, _⟩ := hv
  unfold ctV ctCells
  have B1 : Hid (∀ o, Below w.heap.size w (w.alloc o)) := fun o => (Below.refl _ w).alloc (Nat.le_refl _) _
  clear hz
  go_enter Tryz.func92, Tryz.ntmps92
  go_wp2_with fail
  refine (A1.out _ (B1.out _)).mono ?_
  rintro e w1 ⟨rfl, rfl⟩
  go_wp2_with fail
  refine (HM.out _).mono ?_
  rintro e w1 ⟨rfl, rfl⟩
  go_wp2_with fail
  go_ret
  exact ⟨rfl, B1.out _⟩
set_option maxHeartbeats 4000000 in
theorem refValueV_m3n (v : Value) (ax : List (ByteArray × ByteArray)) (w : World) (hv : AttrsV w v ax) (hz : ax.length ≤ 4398046511104) (k : Int) (C : Ct) (fv : Value) (hf : FilesV w fv C.files) (hm : modeV k = 3) (hh : (findA ax ⟨#[118, 97, 108, 117, 101]⟩).isSome = false) :
    Calls Tryz.prog 92 #[.int .i64 k, ctV C fv, v] w fun e w' => e = .returned (.string ⟨#[111, 110]⟩) ∧ Below w.heap.size w w' := by
  have A1 := hide (fun W (hb : Below w.heap.size w W) => refAttrS_any v ax valS W (hv.below hb) hz)
  rw [show valS = ⟨#[118, 97, 108, 117, 101]⟩ from rfl] at A1
  have HM := hide (fun W => refMode_any k W)
  have HQ := hide (fun W => refPush_any k W)
  obtain ⟨fp, fc, rfl, _⟩ := hf
  rw [hm] at HM
  rw [hh] at A1
  clear hm HQ hh
  obtain ⟨p, c, rfl, _⟩ := hv
  unfold ctV ctCells
  have B1 : Hid (∀ o, Below w.heap.size w (w.alloc o)) := fun o => (Below.refl _ w).alloc (Nat.le_refl _) _
  clear hz
  go_enter Tryz.func92, Tryz.ntmps92
  go_wp2_with fail
  refine (A1.out _ (B1.out _)).mono ?_
  rintro e w1 ⟨rfl, rfl⟩
  go_wp2_with fail
  refine (HM.out _).mono ?_
  rintro e w1 ⟨rfl, rfl⟩
  go_wp2_with fail
  go_ret
  exact ⟨rfl, B1.out _⟩
set_option maxHeartbeats 4000000 in
theorem refValueV_m4n (v : Value) (ax : List (ByteArray × ByteArray)) (w : World) (hv : AttrsV w v ax) (hz : ax.length ≤ 4398046511104) (k : Int) (C : Ct) (fv : Value) (hf : FilesV w fv C.files) (hm : modeV k = 4) (hfs : C.files = []) :
    Calls Tryz.prog 92 #[.int .i64 k, ctV C fv, v] w fun e w' => e = .returned (.string ⟨#[]⟩) ∧ Below w.heap.size w w' := by
  have A1 := hide (fun W (hb : Below w.heap.size w W) => refAttrS_any v ax valS W (hv.below hb) hz)
  rw [show valS = ⟨#[118, 97, 108, 117, 101]⟩ from rfl] at A1
  have HM := hide (fun W => refMode_any k W)
  have HQ := hide (fun W => refPush_any k W)
  obtain ⟨fp, fc, rfl, _⟩ := hf
  rw [hm] at HM
  have l0 : C.files.length = 0 := by rw [hfs]; rfl
  rw [l0]
  clear hm HQ hfs l0
  obtain ⟨p, c, rfl, _⟩ := hv
  unfold ctV ctCells
  have B1 : Hid (∀ o, Below w.heap.size w (w.alloc o)) := fun o => (Below.refl _ w).alloc (Nat.le_refl _) _
  clear hz
  go_enter Tryz.func92, Tryz.ntmps92
  go_wp2_with fail
  refine (A1.out _ (B1.out _)).mono ?_
  rintro e w1 ⟨rfl, rfl⟩
  go_wp2_with fail
  refine (HM.out _).mono ?_
  rintro e w1 ⟨rfl, rfl⟩
  go_wp2_with fail
  go_ret
  exact ⟨rfl, B1.out _⟩
set_option maxHeartbeats 4000000 in
theorem refValueV_m4y (v : Value) (ax : List (ByteArray × ByteArray)) (w : World) (hv : AttrsV w v ax) (hz : ax.length ≤ 4398046511104) (k : Int) (C : Ct) (fv : Value) (hf : FilesV w fv C.files) (hm : modeV k = 4) (en : En) (r : List En) (hfs : C.files = en :: r) (hF : FsOK C.files) :
    Calls Tryz.prog 92 #[.int .i64 k, ctV C fv, v] w fun e w' => e = .returned (.string (⟨#[67, 58, 92, 102, 97, 107, 101, 112, 97, 116, 104, 92]⟩ ++ en.fname)) ∧ Below w.heap.size w w' := by
  have A1 := hide (fun W (hb : Below w.heap.size w W) => refAttrS_any v ax valS W (hv.below hb) hz)
  rw [show valS = ⟨#[118, 97, 108, 117, 101]⟩ from rfl] at A1
  have HM := hide (fun W => refMode_any k W)
  have HQ := hide (fun W => refPush_any k W)
  obtain ⟨fp, fc, rfl, hf2⟩ := hf
  obtain ⟨b, o, rfl, hf3⟩ : ∃ b o, fp = some ⟨b, o, none⟩ ∧ ∀ i (h : i < C.files.length), EnAt w b (o + i * 5) C.files[i] := by
    rcases hf2 with q | q
    · rw [hfs] at q; cases q
    · exact q
  have hl : 0 < C.files.length := by rw [hfs]; exact Nat.succ_pos _
  have E0 := hf3 0 hl
  rw [show C.files[0] = en by simp [hfs]] at E0
  have x3 : w.cell? ⟨b, o + 3, none⟩ = some (.string en.fname) := by have := E0.c3; simpa using this
  have hlt : b < w.heap.size := World.block_lt_of_cell? _ _ x3
  have fb := hF.name en (by rw [hfs]; exact List.mem_cons_self)
  have nb : ¬ 9223372036854775807 < 12 + en.fname.size := by omega
  have hne : b ≠ w.heap.size := by omega
  have i1 : (0 : Int) < (C.files.length : Int) := by omega
  have i2 : ((C.files.length : Int) == 0) = false := by rw [beq_eq_false_iff_ne]; omega
  have i3 : ¬ (C.files.length : Int) = 0 := by omega
  have i4 : ¬ C.files.length = 0 := by omega
  rw [hm] at HM
  clear hm HQ hf2 hf3 E0 hfs hF
  generalize en.fname = fnm at *
  generalize C.files.length = fl at *
  obtain ⟨p, c, rfl, _⟩ := hv
  unfold ctV ctCells
  have B1 : Hid (∀ o, Below w.heap.size w (w.alloc o)) := fun o => (Below.refl _ w).alloc (Nat.le_refl _) _
  clear hz
  go_enter Tryz.func92, Tryz.ntmps92
  go_wp2_with fail
  refine (A1.out _ (B1.out _)).mono ?_
  rintro e w1 ⟨rfl, rfl⟩
  go_wp2_with fail
  refine (HM.out _).mono ?_
  rintro e w1 ⟨rfl, rfl⟩
  go_wp2_with fail
  go_ret
  exact ⟨rfl, B1.out _⟩
set_option maxHeartbeats 4000000 in
theorem refValueV_m0y (v : Value) (ax : List (ByteArray × ByteArray)) (w : World) (hv : AttrsV w v ax) (hz : ax.length ≤ 4398046511104) (k : Int) (C : Ct) (fv : Value) (hf : FilesV w fv C.files) (hm : modeV k = 0) (hq : isPush k = true) :
    Calls Tryz.prog 92 #[.int .i64 k, ctV C fv, v] w fun e w' => e = .returned (.string (fndS ax ⟨#[118, 97, 108, 117, 101]⟩)) ∧ Below w.heap.size w w' := by
  have A1 := hide (fun W (hb : Below w.heap.size w W) => refAttrS_any v ax valS W (hv.below hb) hz)
  rw [show valS = ⟨#[118, 97, 108, 117, 101]⟩ from rfl] at A1
  have HM := hide (fun W => refMode_any k W)
  have HQ := hide (fun W => refPush_any k W)
  obtain ⟨fp, fc, rfl, _⟩ := hf
  rw [hm] at HM
  rw [hq] at HQ
  clear hm hq
  obtain ⟨p, c, rfl, _⟩ := hv
  unfold ctV ctCells
  have B1 : Hid (∀ o, Below w.heap.size w (w.alloc o)) := fun o => (Below.refl _ w).alloc (Nat.le_refl _) _
  clear hz
  go_enter Tryz.func92, Tryz.ntmps92
  go_wp2_with fail
  refine (A1.out _ (B1.out _)).mono ?_
  rintro e w1 ⟨rfl, rfl⟩
  go_wp2_with fail
  refine (HM.out _).mono ?_
  rintro e w1 ⟨rfl, rfl⟩
  go_wp2_with fail
  refine (HQ.out _).mono ?_
  rintro e w1 ⟨rfl, rfl⟩
  go_wp2_with fail
  go_ret
  exact ⟨rfl, B1.out _⟩
set_option maxHeartbeats 4000000 in
theorem refValueV_m0n (v : Value) (ax : List (ByteArray × ByteArray)) (w : World) (hv : AttrsV w v ax) (hz : ax.length ≤ 4398046511104) (k : Int) (C : Ct) (fv : Value) (hf : FilesV w fv C.files) (hm : modeV k = 0) (hq : isPush k = false) :
    Calls Tryz.prog 92 #[.int .i64 k, ctV C fv, v] w fun e w' => e = .returned (.string ⟨#[]⟩) ∧ Below w.heap.size w w' := by
  have A1 := hide (fun W (hb : Below w.heap.size w W) => refAttrS_any v ax valS W (hv.below hb) hz)
  rw [show valS = ⟨#[118, 97, 108, 117, 101]⟩ from rfl] at A1
  have HM := hide (fun W => refMode_any k W)
  have HQ := hide (fun W => refPush_any k W)
  obtain ⟨fp, fc, rfl, _⟩ := hf
  rw [hm] at HM
  rw [hq] at HQ
  clear hm hq
  obtain ⟨p, c, rfl, _⟩ := hv
  unfold ctV ctCells
  have B1 : Hid (∀ o, Below w.heap.size w (w.alloc o)) := fun o => (Below.refl _ w).alloc (Nat.le_refl _) _
  clear hz
  go_enter Tryz.func92, Tryz.ntmps92
  go_wp2_with fail
  refine (A1.out _ (B1.out _)).mono ?_
  rintro e w1 ⟨rfl, rfl⟩
  go_wp2_with fail
  refine (HM.out _).mono ?_
  rintro e w1 ⟨rfl, rfl⟩
  go_wp2_with fail
  refine (HQ.out _).mono ?_
  rintro e w1 ⟨rfl, rfl⟩
  go_wp2_with fail
  go_ret
  exact ⟨rfl, B1.out _⟩
theorem refValueV_any (k : Int) (C : Ct) (fv v : Value) (ax : List (ByteArray × ByteArray)) (w : World) (hf : FilesV w fv C.files) (hF : FsOK C.files) (hv : AttrsV w v ax) (hz : ax.length ≤ 4398046511104) :
    Calls Tryz.prog 92 #[.int .i64 k, ctV C fv, v] w fun e w' => e = .returned (.string (valueP k C ax)) ∧ Below w.heap.size w w' := by
  unfold valueP
  rcases mode_cases k with m | m | m | m | m
  · rw [if_neg (by rw [m]; decide), if_neg (by rw [m]; decide), if_neg (by rw [m]; decide), if_neg (by rw [m]; decide)]
    cases hq : isPush k with
    | true => exact refValueV_m0y v ax w hv hz k C fv hf m hq
    | false => exact refValueV_m0n v ax w hv hz k C fv hf m hq
  · rw [if_pos m]; exact refValueV_m1 v ax w hv hz k C fv hf m
  · rw [if_neg (by rw [m]; decide), if_pos m]; exact refValueV_m2 v ax w hv hz k C fv hf m
  · rw [if_neg (by rw [m]; decide), if_neg (by rw [m]; decide), if_pos m]
    cases hh : (findA ax valS).isSome with
    | true => exact refValueV_m3y v ax w hv hz k C fv hf m hh
    | false => exact refValueV_m3n v ax w hv hz k C fv hf m hh
  · rw [if_neg (by rw [m]; decide), if_neg (by rw [m]; decide), if_neg (by rw [m]; decide), if_pos m]
    cases hfs : C.files with
    | nil => exact refValueV_m4n v ax w hv hz k C fv hf m hfs
    | cons e r => exact refValueV_m4y v ax w hv hz k C fv hf m e r hfs hF

end Go.Proofs.YtnojgejcmaajmaaGreatDoor
