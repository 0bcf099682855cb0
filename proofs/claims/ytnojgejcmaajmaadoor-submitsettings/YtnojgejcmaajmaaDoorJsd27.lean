/- The document's fires, Setting, Method, Kind, Asks of layer 24. The document's Asks, first, Query of layer 24. Stage 24's wakes and its laws SubmitSettings, SubmitQueries, SubmitEnters, walked. -/
import Derived.Test.YtnojgejcmaajmaaDoorJsd18
import Derived.Test.YtnojgejcmaajmaaDoorJsd28
import Derived.Laws.Concat

namespace Go.Proofs.YtnojgejcmaajmaaDoor
open Go.RowKit
set_option maxRecDepth 100000
theorem fnd_lenS {ax : List (ByteArray × ByteArray)} {B : Nat} (hz : ∀ a ∈ ax, a.2.size ≤ B) (n : ByteArray) : (fndS ax n).size ≤ B := by
  unfold fndS
  split
  · exact Nat.zero_le _
  · rename_i i e
    obtain ⟨hi, _, _⟩ := List.findIdx?_eq_some_iff_getElem.1 (show ax.findIdx? _ = some i from e)
    rw [show ax.getD i at0 = ax[i] by simp [List.getD, hi]]
    exact hz _ (List.getElem_mem hi)
set_option maxHeartbeats 4000000 in
theorem refFiresS_any (v : Value) (l : List Nd) (sub : Int) (w : World) (hv : NodesV w v l) (hz : DocSz l) :
    Calls Tryd.prog 24 #[v, .int .i64 sub] w fun e w' => e = .returned (.bool (firesP l sub)) ∧ Below w.heap.size w w' := by
  have hl := hz.len
  by_cases h0 : 0 ≤ sub
  · have g0 : decide (0 ≤ sub) = true := decide_eq_true h0
    by_cases h1 : sub < (l.length : Int)
    · obtain ⟨q, rfl, hq⟩ := nat_of (z := sub) (n := l.length) (by omega) h1
      have g1 : decide ((q : Int) < (l.length : Int)) = true := decide_eq_true h1
      have E : Hid (firesP l (q : Int) = fireB (kI l (q : Int))) := by show _ = _; unfold firesP; rw [g0, g1]; rfl
      have HS := hide (fun W => refIs_5 (kI l (q : Int)) W)
      obtain ⟨p, c, rfl, hvv⟩ := hv
      obtain ⟨b, o, rfl, hnn⟩ : ∃ b o, p = some ⟨b, o, none⟩ ∧ ∀ i (h : i < l.length), ∃ va vk, NodeAt w b (o + i * 5) l[i] va vk := by
        rcases hvv with t | t
        · rw [t] at hq; simp at hq
        · exact t
      obtain ⟨va, vk, N⟩ := hnn q hq
      have nz := hz.nds _ (List.getElem_mem hq)
      have HO := hide (fun W (hb : Below w.heap.size w W) => refOf_any l[q] va vk W (N.at_.below hb) nz.attrs nz.tx)
      have EK : kOf l[q].name (tyOf l[q].attrs) = kI l (q : Int) := by unfold kI kN; rw [Int.toNat_natCast, nd_at hq]
      rw [EK] at HO
      have HA := hide (fun a W (hb : Below w.heap.size w W) => refAttrS_any va l[q].attrs a W (N.at_.below hb) nz.attrs)
      have HH := hide (fun a W (hb : Below w.heap.size w W) => refOHas_any l[q] va vk a W (N.at_.below hb) nz.attrs)
      obtain ⟨pva, cva, rfl, hxx⟩ := N.at_
      clear hxx
      obtain ⟨pvk, cvk, rfl, hxx⟩ := N.ks
      clear hxx
      have c0 := hide N.name
      have c1 := hide N.text
      have c2 := hide N.attrs
      have c3 := hide N.parent
      have c4 := hide N.kids
      have q0 : (0 : Int) ≤ (q : Int) := by omega
      have q1 : (q : Int) < (l.length : Int) := by omega
      clear N nz EK
      clear hvv hnn hz HA HH
      generalize firesP l (q : Int) = RES at *
      generalize fireB (kI l (q : Int)) = fb at *
      generalize kI l (q : Int) = kk at *
      generalize l[q].name = n0 at *
      generalize l[q].text = n1 at *
      generalize l[q].parent = n3 at *
      generalize l[q].attrs.length = n5 at *
      generalize l[q].kids.length = n6 at *
      have u0 := cell_below c0.out (Below.refl _ w)
      have u1 := cell_below c1.out (Below.refl _ w)
      have u2 := cell_below c2.out (Below.refl _ w)
      have u3 := cell_below c3.out (Below.refl _ w)
      have u4 := cell_below c4.out (Below.refl _ w)
      go_enter Tryd.func24, Tryd.ntmps24
      go_wp2_with fail
      refine (HO.out _ (Below.refl _ _)).mono ?_
      rintro e w1 ⟨rfl, b1⟩
      go_wp2_with fail
      refine (HS.out _).mono ?_
      rintro e w2 ⟨rfl, hu⟩
      obtain rfl : w1 = w2 := hu.symm
      go_wp2_with fail
      go_ret
      exact ⟨ret_bool E.out.symm, b1⟩
    · have g1 : decide (sub < (l.length : Int)) = false := decide_eq_false h1
      have E : Hid (firesP l sub = false) := by show _ = _; unfold firesP; rw [g0, g1]; rfl
      obtain ⟨p, c, rfl, hvv⟩ := hv
      clear hvv hz
      go_enter Tryd.func24, Tryd.ntmps24
      go_wp2_with fail
      go_ret
      exact ⟨ret_bool E.out.symm, Below.refl _ _⟩
  · have g0 : decide (0 ≤ sub) = false := decide_eq_false h0
    have E : Hid (firesP l sub = false) := by show _ = _; unfold firesP; rw [g0]; rfl
    obtain ⟨p, c, rfl, hvv⟩ := hv
    clear hvv hz
    go_enter Tryd.func24, Tryd.ntmps24
    go_wp2_with fail
    go_ret
    exact ⟨ret_bool E.out.symm, Below.refl _ _⟩
set_option maxHeartbeats 4000000 in
theorem refSetS_any (v : Value) (l : List Nd) (m : Nat) (sub : Int) (own other : ByteArray) (w : World) (hv : NodesV w v l) (hz : DocSz l) (hm : m < l.length) :
    Calls Tryd.prog 19 #[v, .int .i64 (m : Int), .int .i64 sub, .string own, .string other] w fun e w' => e = .returned (.string (setP_SubP l (m : Int) sub own other)) ∧ Below w.heap.size w w' := by
  have hl := hz.len
  have HF := hide (refFiresS_any v l sub w hv hz)
  have E : Hid (setP_SubP l (m : Int) sub own other = if (firesP l sub && hasA (nd l sub.toNat) own) = true then fndS (nd l sub.toNat).attrs own else fndS l[m].attrs other) := by show _ = _; unfold setP_SubP; rw [Int.toNat_natCast, nd_at hm]
  obtain ⟨p, c, rfl, hvv⟩ := hv
  obtain ⟨b, o, rfl, hnn⟩ : ∃ b o, p = some ⟨b, o, none⟩ ∧ ∀ i (h : i < l.length), ∃ va vk, NodeAt w b (o + i * 5) l[i] va vk := by
    rcases hvv with t | t
    · rw [t] at hm; simp at hm
    · exact t
  obtain ⟨va, vk, N⟩ := hnn m hm
  have nz := hz.nds _ (List.getElem_mem hm)
  have HO := hide (fun W (hb : Below w.heap.size w W) => refOf_any l[m] va vk W (N.at_.below hb) nz.attrs nz.tx)
  have EK : kOf l[m].name (tyOf l[m].attrs) = kI l (m : Int) := by unfold kI kN; rw [Int.toNat_natCast, nd_at hm]
  rw [EK] at HO
  have HA := hide (fun a W (hb : Below w.heap.size w W) => refAttrS_any va l[m].attrs a W (N.at_.below hb) nz.attrs)
  have HH := hide (fun a W (hb : Below w.heap.size w W) => refOHas_any l[m] va vk a W (N.at_.below hb) nz.attrs)
  obtain ⟨pva, cva, rfl, hxx⟩ := N.at_
  clear hxx
  obtain ⟨pvk, cvk, rfl, hxx⟩ := N.ks
  clear hxx
  have c0 := hide N.name
  have c1 := hide N.text
  have c2 := hide N.attrs
  have c3 := hide N.parent
  have c4 := hide N.kids
  have m0 : (0 : Int) ≤ (m : Int) := by omega
  have m1 : (m : Int) < (l.length : Int) := by omega
  clear N nz EK
  have HAo := hide (fun W hb => HA.out other W hb)
  generalize setP_SubP l (m : Int) sub own other = RES at *
  cases hfi : firesP l sub with
  | false =>
    rw [hfi] at HF
    rw [hfi, Bool.false_and, if_neg (by decide)] at E
    clear hfi hvv hnn hz HA HH HO
    go_enter Tryd.func19, Tryd.ntmps19
    go_wp2_with fail
    refine HF.out.mono ?_
    rintro e w1 ⟨rfl, b1⟩
    have B1 := hide b1
    clear b1 HF
    have u0 := cell_below c0.out B1.out
    have u1 := cell_below c1.out B1.out
    have u2 := cell_below c2.out B1.out
    have u3 := cell_below c3.out B1.out
    have u4 := cell_below c4.out B1.out
    go_wp2_with fail
    refine (HAo.out _ B1.out).mono ?_
    rintro e w2 ⟨rfl, hu⟩
    obtain rfl : w1 = w2 := hu.symm
    go_wp2_with fail
    go_ret
    exact ⟨ret_str E.out.symm, B1.out⟩
  | true =>
    have hs : ∃ q : Nat, sub = (q : Int) ∧ q < l.length := by
      unfold firesP at hfi
      rw [Bool.and_eq_true, Bool.and_eq_true, decide_eq_true_eq, decide_eq_true_eq] at hfi
      exact ⟨sub.toNat, by omega, by omega⟩
    obtain ⟨q, rfl, hq⟩ := hs
    rw [hfi] at HF
    rw [hfi, Bool.true_and, Int.toNat_natCast, nd_at hq] at E
    obtain ⟨vaq, vkq, Nq⟩ := hnn q hq
    have nzq := hz.nds _ (List.getElem_mem hq)
    have HOq := hide (fun W (hb : Below w.heap.size w W) => refOf_any l[q] vaq vkq W (Nq.at_.below hb) nzq.attrs nzq.tx)
    have EKq : kOf l[q].name (tyOf l[q].attrs) = kI l (q : Int) := by unfold kI kN; rw [Int.toNat_natCast, nd_at hq]
    rw [EKq] at HOq
    have HAq := hide (fun a W (hb : Below w.heap.size w W) => refAttrS_any vaq l[q].attrs a W (Nq.at_.below hb) nzq.attrs)
    have HHq := hide (fun a W (hb : Below w.heap.size w W) => refOHas_any l[q] vaq vkq a W (Nq.at_.below hb) nzq.attrs)
    obtain ⟨pvaq, cvaq, rfl, hxx⟩ := Nq.at_
    clear hxx
    obtain ⟨pvkq, cvkq, rfl, hxx⟩ := Nq.ks
    clear hxx
    have s0 := hide Nq.name
    have s1 := hide Nq.text
    have s2 := hide Nq.attrs
    have s3 := hide Nq.parent
    have s4 := hide Nq.kids
    have q0 : (0 : Int) ≤ (q : Int) := by omega
    have q1 : (q : Int) < (l.length : Int) := by omega
    clear Nq nzq EKq
    have HHo := hide (fun W hb => HHq.out own W hb)
    have HAq2 := hide (fun W hb => HAq.out own W hb)
    clear hfi hvv hnn hz HA HH HO HOq HAq HHq
    generalize hasA l[q] own = hh at *
    generalize (findA l[q].attrs own).isSome = fs at *
    cases hh with
    | true =>
      rw [if_pos rfl] at E
      clear HAo c0 c1 c2 c3 c4
      go_enter Tryd.func19, Tryd.ntmps19
      go_wp2_with fail
      refine HF.out.mono ?_
      rintro e w1 ⟨rfl, b1⟩
      have B1 := hide b1
      clear b1 HF
      have x0 := cell_below s0.out B1.out
      have x1 := cell_below s1.out B1.out
      have x2 := cell_below s2.out B1.out
      have x3 := cell_below s3.out B1.out
      have x4 := cell_below s4.out B1.out
      go_wp2_with fail
      refine (HHo.out _ B1.out).mono ?_
      rintro e w2 ⟨rfl, b2⟩
      have B2 := hide (chain B1.out b2)
      clear b2 B1 x0 x1 x2 x3 x4
      have x2 := cell_below s2.out B2.out
      go_wp2_with fail
      refine (HAq2.out _ B2.out).mono ?_
      rintro e w3 ⟨rfl, hu⟩
      obtain rfl : w2 = w3 := hu.symm
      go_wp2_with fail
      go_ret
      exact ⟨ret_str E.out.symm, B2.out⟩
    | false =>
      rw [if_neg (by decide)] at E
      clear HAq2
      go_enter Tryd.func19, Tryd.ntmps19
      go_wp2_with fail
      refine HF.out.mono ?_
      rintro e w1 ⟨rfl, b1⟩
      have B1 := hide b1
      clear b1 HF
      have x0 := cell_below s0.out B1.out
      have x1 := cell_below s1.out B1.out
      have x2 := cell_below s2.out B1.out
      have x3 := cell_below s3.out B1.out
      have x4 := cell_below s4.out B1.out
      go_wp2_with fail
      refine (HHo.out _ B1.out).mono ?_
      rintro e w2 ⟨rfl, b2⟩
      have B2 := hide (chain B1.out b2)
      clear b2 B1 x0 x1 x2 x3 x4
      have u2 := cell_below c2.out B2.out
      go_wp2_with fail
      refine (HAo.out _ B2.out).mono ?_
      rintro e w3 ⟨rfl, hu⟩
      obtain rfl : w2 = w3 := hu.symm
      go_wp2_with fail
      go_ret
      exact ⟨ret_str E.out.symm, B2.out⟩
set_option maxHeartbeats 4000000 in
theorem refMethodS_any (v : Value) (l : List Nd) (form sub : Int) (w : World) (hv : NodesV w v l) (hz : DocSz l) :
    Calls Tryd.prog 7 #[v, .int .i64 form, .int .i64 sub] w fun e w' => e = .returned (.string (metP l form sub)) ∧ Below w.heap.size w w' := by
  have HI := hide (refHas_any v l form w hv hz)
  cases h : hasN l form with
  | false =>
    have E : Hid (metP l form sub = ⟨#[]⟩) := by show _ = _; unfold metP; rw [if_neg (by rw [h]; decide)]
    rw [h] at HI
    obtain ⟨p, c, rfl, hvv⟩ := hv
    clear h hz hvv
    go_enter Tryd.func7, Tryd.ntmps7
    go_wp2_with fail
    refine HI.out.mono ?_
    rintro e w1 ⟨rfl, b1⟩
    go_wp2_with fail
    go_ret
    exact ⟨ret_str E.out.symm, b1⟩
  | true =>
    obtain ⟨m, hI⟩ := Is.of h
    obtain ⟨rfl, hm⟩ := (⟨hI.eq, hI.lt⟩ : form = (m : Int) ∧ m < l.length)
    rw [h] at HI
    have HS := hide (fun W (hb : Below w.heap.size w W) => refSetS_any v l m sub ⟨#[102, 111, 114, 109, 109, 101, 116, 104, 111, 100]⟩ ⟨#[109, 101, 116, 104, 111, 100]⟩ W (hv.below hb) hz hm)
    have ZS : (setP_SubP l (m : Int) sub ⟨#[102, 111, 114, 109, 109, 101, 116, 104, 111, 100]⟩ ⟨#[109, 101, 116, 104, 111, 100]⟩).size ≤ 140737488351232 := by
      unfold setP_SubP
      split
      · rename_i q
        rw [Bool.and_eq_true] at q
        have q1 := q.1
        unfold firesP at q1
        rw [Bool.and_eq_true, Bool.and_eq_true, decide_eq_true_eq, decide_eq_true_eq] at q1
        rw [nd_at (show sub.toNat < l.length by omega)]
        exact fnd_lenS (hz.nds _ (List.getElem_mem _)).tx _
      · rw [Int.toNat_natCast, nd_at hm]
        exact fnd_lenS (hz.nds _ (List.getElem_mem _)).tx _
    have HL := hide (fun W => refLower_reach (setP_SubP l (m : Int) sub ⟨#[102, 111, 114, 109, 109, 101, 116, 104, 111, 100]⟩ ⟨#[109, 101, 116, 104, 111, 100]⟩) W ZS)
    have E : Hid (metP l (m : Int) sub = if lowS (setP_SubP l (m : Int) sub ⟨#[102, 111, 114, 109, 109, 101, 116, 104, 111, 100]⟩ ⟨#[109, 101, 116, 104, 111, 100]⟩) = sPost ∨ lowS (setP_SubP l (m : Int) sub ⟨#[102, 111, 114, 109, 109, 101, 116, 104, 111, 100]⟩ ⟨#[109, 101, 116, 104, 111, 100]⟩) = sDia then lowS (setP_SubP l (m : Int) sub ⟨#[102, 111, 114, 109, 109, 101, 116, 104, 111, 100]⟩ ⟨#[109, 101, 116, 104, 111, 100]⟩) else sGet) := by show _ = _; unfold metP; rw [if_pos h]; rfl
    obtain ⟨p, c, rfl, hvv⟩ := hv
    clear h hz hvv hI hm ZS
    generalize metP l (m : Int) sub = RES at *
    generalize lowS (setP_SubP l (m : Int) sub ⟨#[102, 111, 114, 109, 109, 101, 116, 104, 111, 100]⟩ ⟨#[109, 101, 116, 104, 111, 100]⟩) = s at *
    generalize setP_SubP l (m : Int) sub ⟨#[102, 111, 114, 109, 109, 101, 116, 104, 111, 100]⟩ ⟨#[109, 101, 116, 104, 111, 100]⟩ = s0 at *
    by_cases h1 : s = sPost
    · have a1 : (s.toList == [112, 111, 115, 116]) = true := lit_yes h1
      rw [if_pos (.inl h1)] at E
      clear h1
      go_enter Tryd.func7, Tryd.ntmps7
      go_wp2_with fail
      refine HI.out.mono ?_
      rintro e w1 ⟨rfl, b1⟩
      go_wp2_with fail
      refine (HS.out _ b1).mono ?_
      rintro e w2 ⟨rfl, b2⟩
      go_wp2_with fail
      refine (HL.out _).mono ?_
      rintro e w3 ⟨rfl, b3⟩
      go_wp2_with fail
      go_ret
      exact ⟨ret_str E.out.symm, chain (chain b1 b2) b3⟩
    · have a1 : (s.toList == [112, 111, 115, 116]) = false := lit_no h1
      by_cases h2 : s = sDia
      · have a2 : (s.toList == [100, 105, 97, 108, 111, 103]) = true := lit_yes h2
        rw [if_pos (.inr h2)] at E
        clear h1 h2
        go_enter Tryd.func7, Tryd.ntmps7
        go_wp2_with fail
        refine HI.out.mono ?_
        rintro e w1 ⟨rfl, b1⟩
        go_wp2_with fail
        refine (HS.out _ b1).mono ?_
        rintro e w2 ⟨rfl, b2⟩
        go_wp2_with fail
        refine (HL.out _).mono ?_
        rintro e w3 ⟨rfl, b3⟩
        go_wp2_with fail
        go_ret
        exact ⟨ret_str E.out.symm, chain (chain b1 b2) b3⟩
      · have a2 : (s.toList == [100, 105, 97, 108, 111, 103]) = false := lit_no h2
        rw [if_neg (fun t => t.elim h1 h2)] at E
        clear h1 h2
        go_enter Tryd.func7, Tryd.ntmps7
        go_wp2_with fail
        refine HI.out.mono ?_
        rintro e w1 ⟨rfl, b1⟩
        go_wp2_with fail
        refine (HS.out _ b1).mono ?_
        rintro e w2 ⟨rfl, b2⟩
        go_wp2_with fail
        refine (HL.out _).mono ?_
        rintro e w3 ⟨rfl, b3⟩
        go_wp2_with fail
        go_ret
        exact ⟨ret_str E.out.symm, chain (chain b1 b2) b3⟩
set_option maxHeartbeats 4000000 in
theorem refKindS_any (v : Value) (l : List Nd) (form sub : Int) (w : World) (hv : NodesV w v l) (hz : DocSz l) :
    Calls Tryd.prog 9 #[v, .int .i64 form, .int .i64 sub] w fun e w' => e = .returned (.int .i64 (knP l form sub)) ∧ Below w.heap.size w w' := by
  have HI := hide (refHas_any v l form w hv hz)
  cases h : hasN l form with
  | false =>
    have E : Hid (knP l form sub = 0) := by show _ = _; unfold knP; rw [if_neg (by rw [h]; decide)]
    rw [h] at HI
    obtain ⟨p, c, rfl, hvv⟩ := hv
    clear h hz hvv
    go_enter Tryd.func9, Tryd.ntmps9
    go_wp2_with fail
    refine HI.out.mono ?_
    rintro e w1 ⟨rfl, b1⟩
    go_wp2_with fail
    go_ret
    exact ⟨ret_int E.out.symm, b1⟩
  | true =>
    obtain ⟨m, hI⟩ := Is.of h
    obtain ⟨rfl, hm⟩ := (⟨hI.eq, hI.lt⟩ : form = (m : Int) ∧ m < l.length)
    rw [h] at HI
    have HS := hide (fun W (hb : Below w.heap.size w W) => refSetS_any v l m sub ⟨#[102, 111, 114, 109, 101, 110, 99, 116, 121, 112, 101]⟩ ⟨#[101, 110, 99, 116, 121, 112, 101]⟩ W (hv.below hb) hz hm)
    have ZS : (setP_SubP l (m : Int) sub ⟨#[102, 111, 114, 109, 101, 110, 99, 116, 121, 112, 101]⟩ ⟨#[101, 110, 99, 116, 121, 112, 101]⟩).size ≤ 140737488351232 := by
      unfold setP_SubP
      split
      · rename_i q
        rw [Bool.and_eq_true] at q
        have q1 := q.1
        unfold firesP at q1
        rw [Bool.and_eq_true, Bool.and_eq_true, decide_eq_true_eq, decide_eq_true_eq] at q1
        rw [nd_at (show sub.toNat < l.length by omega)]
        exact fnd_lenS (hz.nds _ (List.getElem_mem _)).tx _
      · rw [Int.toNat_natCast, nd_at hm]
        exact fnd_lenS (hz.nds _ (List.getElem_mem _)).tx _
    have HL := hide (fun W => refLower_reach (setP_SubP l (m : Int) sub ⟨#[102, 111, 114, 109, 101, 110, 99, 116, 121, 112, 101]⟩ ⟨#[101, 110, 99, 116, 121, 112, 101]⟩) W ZS)
    have E : Hid (knP l (m : Int) sub = if lowS (setP_SubP l (m : Int) sub ⟨#[102, 111, 114, 109, 101, 110, 99, 116, 121, 112, 101]⟩ ⟨#[101, 110, 99, 116, 121, 112, 101]⟩) = sMul then 2 else if lowS (setP_SubP l (m : Int) sub ⟨#[102, 111, 114, 109, 101, 110, 99, 116, 121, 112, 101]⟩ ⟨#[101, 110, 99, 116, 121, 112, 101]⟩) = sPla then 3 else 1) := by show _ = _; unfold knP; rw [if_pos h]; rfl
    obtain ⟨p, c, rfl, hvv⟩ := hv
    clear h hz hvv hI hm ZS
    generalize knP l (m : Int) sub = RES at *
    generalize lowS (setP_SubP l (m : Int) sub ⟨#[102, 111, 114, 109, 101, 110, 99, 116, 121, 112, 101]⟩ ⟨#[101, 110, 99, 116, 121, 112, 101]⟩) = s at *
    generalize setP_SubP l (m : Int) sub ⟨#[102, 111, 114, 109, 101, 110, 99, 116, 121, 112, 101]⟩ ⟨#[101, 110, 99, 116, 121, 112, 101]⟩ = s0 at *
    by_cases h1 : s = sMul
    · have a1 : (s.toList == [109, 117, 108, 116, 105, 112, 97, 114, 116, 47, 102, 111, 114, 109, 45, 100, 97, 116, 97]) = true := lit_yes h1
      rw [if_pos h1] at E
      clear h1
      go_enter Tryd.func9, Tryd.ntmps9
      go_wp2_with fail
      refine HI.out.mono ?_
      rintro e w1 ⟨rfl, b1⟩
      go_wp2_with fail
      refine (HS.out _ b1).mono ?_
      rintro e w2 ⟨rfl, b2⟩
      go_wp2_with fail
      refine (HL.out _).mono ?_
      rintro e w3 ⟨rfl, b3⟩
      go_wp2_with fail
      go_ret
      exact ⟨ret_int E.out.symm, chain (chain b1 b2) b3⟩
    · have a1 : (s.toList == [109, 117, 108, 116, 105, 112, 97, 114, 116, 47, 102, 111, 114, 109, 45, 100, 97, 116, 97]) = false := lit_no h1
      rw [if_neg h1] at E
      by_cases h2 : s = sPla
      · have a2 : (s.toList == [116, 101, 120, 116, 47, 112, 108, 97, 105, 110]) = true := lit_yes h2
        rw [if_pos h2] at E
        clear h1 h2
        go_enter Tryd.func9, Tryd.ntmps9
        go_wp2_with fail
        refine HI.out.mono ?_
        rintro e w1 ⟨rfl, b1⟩
        go_wp2_with fail
        refine (HS.out _ b1).mono ?_
        rintro e w2 ⟨rfl, b2⟩
        go_wp2_with fail
        refine (HL.out _).mono ?_
        rintro e w3 ⟨rfl, b3⟩
        go_wp2_with fail
        go_ret
        exact ⟨ret_int E.out.symm, chain (chain b1 b2) b3⟩
      · have a2 : (s.toList == [116, 101, 120, 116, 47, 112, 108, 97, 105, 110]) = false := lit_no h2
        rw [if_neg h2] at E
        clear h1 h2
        go_enter Tryd.func9, Tryd.ntmps9
        go_wp2_with fail
        refine HI.out.mono ?_
        rintro e w1 ⟨rfl, b1⟩
        go_wp2_with fail
        refine (HS.out _ b1).mono ?_
        rintro e w2 ⟨rfl, b2⟩
        go_wp2_with fail
        refine (HL.out _).mono ?_
        rintro e w3 ⟨rfl, b3⟩
        go_wp2_with fail
        go_ret
        exact ⟨ret_int E.out.symm, chain (chain b1 b2) b3⟩
end Go.Proofs.YtnojgejcmaajmaaDoor

namespace Go.Proofs.YtnojgejcmaajmaaDoor
open Go.RowKit
set_option maxRecDepth 100000
set_option maxHeartbeats 4000000 in
theorem refAsks_any (v : Value) (l : List Nd) (form sub : Int) (w : World) (hv : NodesV w v l) (hz : DocSz l) :
    Calls Tryd.prog 11 #[v, .int .i64 form, .int .i64 sub] w fun e w' => e = .returned (.bool (askP l form sub)) ∧ Below w.heap.size w w' := by
  have HI := hide (refHas_any v l form w hv hz)
  cases h : hasN l form with
  | false =>
    have E : Hid (askP l form sub = false) := by show _ = _; unfold askP; rw [h]; rfl
    rw [h] at HI
    obtain ⟨p, c, rfl, hvv⟩ := hv
    clear h hz hvv
    go_enter Tryd.func11, Tryd.ntmps11
    go_wp2_with fail
    refine HI.out.mono ?_
    rintro e w1 ⟨rfl, b1⟩
    go_wp2_with fail
    go_ret
    exact ⟨ret_bool E.out.symm, b1⟩
  | true =>
    obtain ⟨m, hI⟩ := Is.of h
    obtain ⟨rfl, hm⟩ := (⟨hI.eq, hI.lt⟩ : form = (m : Int) ∧ m < l.length)
    rw [h] at HI
    have HF := hide (fun W (hb : Below w.heap.size w W) => refFiresS_any v l sub W (hv.below hb) hz)
    have hl := hz.len
    have E : Hid (askP l (m : Int) sub = (!hasA l[m] ⟨#[110, 111, 118, 97, 108, 105, 100, 97, 116, 101]⟩ && !(firesP l sub && hasA (nd l sub.toNat) ⟨#[102, 111, 114, 109, 110, 111, 118, 97, 108, 105, 100, 97, 116, 101]⟩))) := by show _ = _; unfold askP; rw [h, Int.toNat_natCast, nd_at hm]; rfl
    obtain ⟨p, c, rfl, hvv⟩ := hv
    obtain ⟨b, o, rfl, hnn⟩ : ∃ b o, p = some ⟨b, o, none⟩ ∧ ∀ i (h : i < l.length), ∃ va vk, NodeAt w b (o + i * 5) l[i] va vk := by
      rcases hvv with t | t
      · rw [t] at hm; simp at hm
      · exact t
    obtain ⟨va, vk, N⟩ := hnn m hm
    have nz := hz.nds _ (List.getElem_mem hm)
    have HO := hide (fun W (hb : Below w.heap.size w W) => refOf_any l[m] va vk W (N.at_.below hb) nz.attrs nz.tx)
    have EK : kOf l[m].name (tyOf l[m].attrs) = kI l (m : Int) := by unfold kI kN; rw [Int.toNat_natCast, nd_at hm]
    rw [EK] at HO
    have HA := hide (fun a W (hb : Below w.heap.size w W) => refAttrS_any va l[m].attrs a W (N.at_.below hb) nz.attrs)
    have HH := hide (fun a W (hb : Below w.heap.size w W) => refOHas_any l[m] va vk a W (N.at_.below hb) nz.attrs)
    obtain ⟨pva, cva, rfl, hxx⟩ := N.at_
    clear hxx
    obtain ⟨pvk, cvk, rfl, hxx⟩ := N.ks
    clear hxx
    have c0 := hide N.name
    have c1 := hide N.text
    have c2 := hide N.attrs
    have c3 := hide N.parent
    have c4 := hide N.kids
    have m0 : (0 : Int) ≤ (m : Int) := by omega
    have m1 : (m : Int) < (l.length : Int) := by omega
    clear N nz EK
    have HHo := hide (fun W hb => HH.out ⟨#[110, 111, 118, 97, 108, 105, 100, 97, 116, 101]⟩ W hb)
    generalize askP l (m : Int) sub = RES at *
    cases hn : hasA l[m] ⟨#[110, 111, 118, 97, 108, 105, 100, 97, 116, 101]⟩ with
    | true =>
      rw [hn, Bool.not_true, Bool.false_and] at E
      rw [hn] at HHo
      clear h hz hvv hnn hI hn HF HA HH HO
      go_enter Tryd.func11, Tryd.ntmps11
      go_wp2_with fail
      refine HI.out.mono ?_
      rintro e w1 ⟨rfl, b1⟩
      have B1 := hide b1
      clear b1 HI
      have u0 := cell_below c0.out B1.out
      have u1 := cell_below c1.out B1.out
      have u2 := cell_below c2.out B1.out
      have u3 := cell_below c3.out B1.out
      have u4 := cell_below c4.out B1.out
      go_wp2_with fail
      refine (HHo.out _ B1.out).mono ?_
      rintro e w2 ⟨rfl, b2⟩
      have B2 := hide (chain B1.out b2)
      clear b2 B1 u0 u1 u2 u3 u4 HHo
      go_wp2_with fail
      go_ret
      exact ⟨ret_bool E.out.symm, B2.out⟩
    | false =>
      rw [hn, Bool.not_false, Bool.true_and] at E
      rw [hn] at HHo
      cases hfi : firesP l sub with
      | false =>
        rw [hfi, Bool.false_and, Bool.not_false] at E
        rw [hfi] at HF
        clear h hz hvv hnn hI hn HA HH HO hfi
        go_enter Tryd.func11, Tryd.ntmps11
        go_wp2_with fail
        refine HI.out.mono ?_
        rintro e w1 ⟨rfl, b1⟩
        have B1 := hide b1
        clear b1 HI
        have u0 := cell_below c0.out B1.out
        have u1 := cell_below c1.out B1.out
        have u2 := cell_below c2.out B1.out
        have u3 := cell_below c3.out B1.out
        have u4 := cell_below c4.out B1.out
        go_wp2_with fail
        refine (HHo.out _ B1.out).mono ?_
        rintro e w2 ⟨rfl, b2⟩
        have B2 := hide (chain B1.out b2)
        clear b2 B1 u0 u1 u2 u3 u4 HHo
        go_wp2_with fail
        refine (HF.out _ B2.out).mono ?_
        rintro e w3 ⟨rfl, b3⟩
        have B3 := hide (chain B2.out b3)
        clear b3 B2 HF
        go_wp2_with fail
        go_ret
        exact ⟨ret_bool E.out.symm, B3.out⟩
      | true =>
        have hs : ∃ q : Nat, sub = (q : Int) ∧ q < l.length := by
          unfold firesP at hfi
          rw [Bool.and_eq_true, Bool.and_eq_true, decide_eq_true_eq, decide_eq_true_eq] at hfi
          exact ⟨sub.toNat, by omega, by omega⟩
        obtain ⟨q, rfl, hq⟩ := hs
        rw [hfi] at HF
        rw [hfi, Bool.true_and, Int.toNat_natCast, nd_at hq] at E
        obtain ⟨vaq, vkq, Nq⟩ := hnn q hq
        have nzq := hz.nds _ (List.getElem_mem hq)
        have HOq := hide (fun W (hb : Below w.heap.size w W) => refOf_any l[q] vaq vkq W (Nq.at_.below hb) nzq.attrs nzq.tx)
        have EKq : kOf l[q].name (tyOf l[q].attrs) = kI l (q : Int) := by unfold kI kN; rw [Int.toNat_natCast, nd_at hq]
        rw [EKq] at HOq
        have HAq := hide (fun a W (hb : Below w.heap.size w W) => refAttrS_any vaq l[q].attrs a W (Nq.at_.below hb) nzq.attrs)
        have HHq := hide (fun a W (hb : Below w.heap.size w W) => refOHas_any l[q] vaq vkq a W (Nq.at_.below hb) nzq.attrs)
        obtain ⟨pvaq, cvaq, rfl, hxx⟩ := Nq.at_
        clear hxx
        obtain ⟨pvkq, cvkq, rfl, hxx⟩ := Nq.ks
        clear hxx
        have s0 := hide Nq.name
        have s1 := hide Nq.text
        have s2 := hide Nq.attrs
        have s3 := hide Nq.parent
        have s4 := hide Nq.kids
        have q0 : (0 : Int) ≤ (q : Int) := by omega
        have q1 : (q : Int) < (l.length : Int) := by omega
        clear Nq nzq EKq
        have HHq2 := hide (fun W hb => HHq.out ⟨#[102, 111, 114, 109, 110, 111, 118, 97, 108, 105, 100, 97, 116, 101]⟩ W hb)
        clear h hz hvv hnn hI hn HA HH HO hfi HOq HAq HHq
        generalize hasA l[q] ⟨#[102, 111, 114, 109, 110, 111, 118, 97, 108, 105, 100, 97, 116, 101]⟩ = hh at *
        go_enter Tryd.func11, Tryd.ntmps11
        go_wp2_with fail
        refine HI.out.mono ?_
        rintro e w1 ⟨rfl, b1⟩
        have B1 := hide b1
        clear b1 HI
        have u0 := cell_below c0.out B1.out
        have u1 := cell_below c1.out B1.out
        have u2 := cell_below c2.out B1.out
        have u3 := cell_below c3.out B1.out
        have u4 := cell_below c4.out B1.out
        go_wp2_with fail
        refine (HHo.out _ B1.out).mono ?_
        rintro e w2 ⟨rfl, b2⟩
        have B2 := hide (chain B1.out b2)
        clear b2 B1 u0 u1 u2 u3 u4 HHo
        go_wp2_with fail
        refine (HF.out _ B2.out).mono ?_
        rintro e w3 ⟨rfl, b3⟩
        have B3 := hide (chain B2.out b3)
        clear b3 B2 HF
        have x0 := cell_below s0.out B3.out
        have x1 := cell_below s1.out B3.out
        have x2 := cell_below s2.out B3.out
        have x3 := cell_below s3.out B3.out
        have x4 := cell_below s4.out B3.out
        go_wp2_with fail
        refine (HHq2.out _ B3.out).mono ?_
        rintro e w4 ⟨rfl, b4⟩
        go_wp2_with fail
        go_ret
        exact ⟨ret_bool E.out.symm, chain B3.out b4⟩
end Go.Proofs.YtnojgejcmaajmaaDoor

namespace Go.Proofs.YtnojgejcmaajmaaDoor
open Go.RowKit
set_option maxRecDepth 100000
theorem sb_wake : txt (qryL (bL ⟨#[47, 97, 63, 98, 35, 99]⟩) (bL ⟨#[100, 61, 49]⟩)) = ⟨#[47, 97, 63, 100, 61, 49, 35, 99]⟩ := by kernel_rfl
set_option maxHeartbeats 8000000 in
theorem sbWakes_any (w : World) (hT : SomeMax w) :
    Calls Tryd.prog 5 #[] w fun e w' => e = .returned (.bool true) ∧ Below w.heap.size w w' := by
  have HQ := hide (sbQuery_any ⟨#[47, 97, 63, 98, 35, 99]⟩ ⟨#[100, 61, 49]⟩ w (by decide) (by decide) hT)
  rw [sb_wake] at HQ
  clear hT
  go_enter Tryd.func5, Tryd.ntmps5
  go_wp2_with fail
  refine HQ.out.mono ?_
  rintro e w1 ⟨rfl, b1⟩
  go_wp2_with fail
  go_ret
  exact ⟨rfl, b1⟩
set_option maxHeartbeats 8000000 in
theorem submitSettings_walk (v : Value) (l : List Nd) (form sub : Int) (w : World) (hv : NodesV w v l) (hz : DocSz l) (hT : SbTabs w) :
    Calls Tryd.prog 3 #[v, .int .i64 form, .int .i64 sub] w fun e w' => e = .returned (.bool true) ∧ Below w.heap.size w w' := by
  have HW := hide (fun W (hb : Below w.heap.size w W) => sbWakes_any W (hT.below hb).mx)
  have HC := hide (fun W (hb : Below w.heap.size w W) => refCopied_any v l W (hv.below hb) hz)
  have H1 := hide (fun u W (hb : Below w.heap.size w W) (hu : NodesV W u l) => sbMethod_any u l form sub W hu hz (hT.below hb))
  have H2 := hide (fun u W (hb : Below w.heap.size w W) (hu : NodesV W u l) => sbKind_any u l form sub W hu hz (hT.below hb))
  have H3 := hide (fun u W (hb : Below w.heap.size w W) (hu : NodesV W u l) => sbAsks_any u l form sub W hu hz (hT.below hb))
  have R1 := hide (fun W (hb : Below w.heap.size w W) => refMethodS_any v l form sub W (hv.below hb) hz)
  have R2 := hide (fun W (hb : Below w.heap.size w W) => refKindS_any v l form sub W (hv.below hb) hz)
  have R3 := hide (fun W (hb : Below w.heap.size w W) => refAsks_any v l form sub W (hv.below hb) hz)
  generalize metP l form sub = X1 at *
  generalize knP l form sub = X2 at *
  generalize askP l form sub = X3 at *
  obtain ⟨p, k, rfl⟩ : ∃ p k, v = .slice p l.length k := by obtain ⟨p, k, e, _⟩ := hv; exact ⟨p, k, e⟩
  clear hv hz hT
  go_enter Tryd.func3, Tryd.ntmps3
  go_wp2_with fail
  refine (HC.out _ (Below.refl _ _)).mono ?_
  rintro e w2 ⟨v2, L2, rfl, o2, e2, b2⟩
  have N2 : Hid (NodesV w2 v2 l) := by show NodesV _ _ _; rw [← e2]; exact o2.nodes
  obtain ⟨p2, k2, rfl⟩ : ∃ p k, v2 = .slice p l.length k := by obtain ⟨p, k, e, _⟩ := N2.out; exact ⟨p, k, e⟩
  have B2 := hide (b2)
  clear o2 e2 b2
  go_wp2_with fail
  refine (HW.out _ B2.out).mono ?_
  rintro e w3 ⟨rfl, b3⟩
  have B3 := hide (chain B2.out b3)
  have N3 := hide (N2.out.below b3)
  clear b3
  go_wp2_with fail
  refine (H1.out _ _ B3.out N3.out).mono ?_
  rintro e w4 ⟨rfl, b4⟩
  have B4 := hide (chain B3.out b4)
  have N4 := hide (N3.out.below b4)
  clear b4
  go_wp2_with fail
  refine (R1.out _ B4.out).mono ?_
  rintro e w5 ⟨rfl, b5⟩
  have B5 := hide (chain B4.out b5)
  have N5 := hide (N4.out.below b5)
  clear b5
  go_wp2_with fail
  refine (H2.out _ _ B5.out N5.out).mono ?_
  rintro e w6 ⟨rfl, b6⟩
  have B6 := hide (chain B5.out b6)
  have N6 := hide (N5.out.below b6)
  clear b6
  go_wp2_with fail
  refine (R2.out _ B6.out).mono ?_
  rintro e w7 ⟨rfl, b7⟩
  have B7 := hide (chain B6.out b7)
  have N7 := hide (N6.out.below b7)
  clear b7
  go_wp2_with fail
  refine (H3.out _ _ B7.out N7.out).mono ?_
  rintro e w8 ⟨rfl, b8⟩
  have B8 := hide (chain B7.out b8)
  have N8 := hide (N7.out.below b8)
  clear b8
  go_wp2_with fail
  refine (R3.out _ B8.out).mono ?_
  rintro e w9 ⟨rfl, b9⟩
  have B9 := hide (chain B8.out b9)
  have N9 := hide (N8.out.below b9)
  clear b9
  go_wp2_with fail
  go_ret
  exact ⟨rfl, B9.out⟩

end Go.Proofs.YtnojgejcmaajmaaDoor
