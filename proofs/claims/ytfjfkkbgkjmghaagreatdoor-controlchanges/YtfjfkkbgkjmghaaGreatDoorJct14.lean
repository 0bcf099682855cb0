/- The document's scale, Step, Fits of layer 12. The document's Default and Range of layer 13. The program's Value, showNumber, Show of layer 12. -/
import Derived.Test.YtfjfkkbgkjmghaaGreatDoorJct13
import Derived.Test.YtfjfkkbgkjmghaaGreatDoorJct23
import Derived.Deep.DeepCutAuto

namespace Go.Proofs.YtfjfkkbgkjmghaaGreatDoor
open Go.RowKit
set_option maxRecDepth 100000
set_option maxHeartbeats 4000000 in
set_option maxRecDepth 100000 in
theorem refStep_13 (v : Value) (ax : List (ByteArray × ByteArray)) (w : World) (hv : AttrsV w v ax) (hz : AxOK ax) :
    Calls Tryz.prog 74 #[.int .i64 13, v] w fun e w' => e = .returned (optV (stepK 13 ax)) ∧ Below w.heap.size w w' := by
  have HF := hide (refFind_any v ax stepS w hv hz.len)
  obtain ⟨p, c, rfl, hv⟩ := hv
  have DF : Hid (defK 13 = 1000000) := by show _ = _; decide
  have SC : Hid (scaleK 13 = 1000000) := by show _ = _; decide
  cases hf : findA ax stepS with
  | none =>
    rw [hf, show findV none = -1 from rfl, show stepS = ⟨#[115, 116, 101, 112]⟩ from rfl] at HF
    have E : Hid (stepK 13 ax = some 1000000) := by show _ = _; unfold stepK; rw [if_pos (by decide), hf, DF.out]
    clear hf hv hz SC
    go_enter Tryz.func74, Tryz.ntmps74
    go_wp2_with fail
    refine (refScale_13 _).mono ?_
    rintro e u0 ⟨rfl, hu0⟩
    obtain rfl : w = u0 := hu0.symm
    go_wp2_with fail
    refine HF.out.mono ?_
    rintro e u ⟨rfl, hu⟩
    obtain rfl : w = u := hu.symm
    go_wp2_with fail
    go_ret2
    exact ⟨by rw [E.out]; rfl, Below.refl _ _⟩
  | some i =>
    obtain ⟨hi, _, _⟩ := List.findIdx?_eq_some_iff_getElem.1 (show ax.findIdx? (isN stepS) = some i from hf)
    obtain ⟨t, ht⟩ : ∃ t, Hid (ax[i].2 = t) := ⟨_, show _ = _ from rfl⟩
    have E : Hid (stepK 13 ax = if lowS t = anyS then none else some (stepOf 13 (okP (parseV t.data.toList)))) := by
      show _ = _
      unfold stepK
      rw [if_pos (by decide), hf, ← ht.out]
      show (if lowS (ax.getD i at0).2 = anyS then none else some (stepOf 13 (okP (parseV (ax.getD i at0).2.data.toList)))) = _
      rw [show ax.getD i at0 = ax[i] by simp [List.getD, hi]]
    rw [hf, show findV (some i) = (i : Int) from rfl, show stepS = ⟨#[115, 116, 101, 112]⟩ from rfl] at HF
    obtain ⟨b, o, rfl, hv2⟩ : ∃ b o, p = some ⟨b, o, none⟩ ∧ ∀ i (h : i < ax.length), w.cell? ⟨b, o + i * 2, none⟩ = some (.string ax[i].1) ∧ w.cell? ⟨b, o + i * 2 + 1, none⟩ = some (.string ax[i].2) := by
      rcases hv with t | t
      · rw [t] at hi; simp at hi
      · exact t
    have ts := hz.val _ (List.getElem_mem hi)
    have c1 := (hv2 i hi).2
    rw [ht.out] at c1 ts
    have HL := hide (fun W => refLower_any t W (by omega))
    have HP := hide (fun W => refParse_any t W (by omega))
    have PR := hide (fun n => parse_range (l := t.data.toList) (n := n))
    have PO := hide (parse_out t.data.toList)
    have i0 : (0 : Int) ≤ (i : Int) := by omega
    have i1 : (i : Int) < (ax.length : Int) := by omega
    have i2 : ¬ (i : Int) < 0 := by omega
    generalize parseV t.data.toList = r at *
    generalize stepK 13 ax = L at *
    clear hf hv hv2 hz ht
    have TL := hide (lit_decK (lowS t) [97, 110, 121])
    by_cases q : lowS t = anyS
    · have f1 : ((lowS t).toList == [97, 110, 121]) = true := by rw [TL.out]; exact decide_eq_true q
      have e : L = none := by rw [E.out, if_pos q]
      subst e
      generalize lowS t = lt at *
      clear q E
      go_enter Tryz.func74, Tryz.ntmps74
      go_wp2_with fail
      refine (refScale_13 _).mono ?_
      rintro e u0 ⟨rfl, hu0⟩
      obtain rfl : w = u0 := hu0.symm
      go_wp2_with fail
      refine HF.out.mono ?_
      rintro e u ⟨rfl, hu⟩
      obtain rfl : w = u := hu.symm
      go_wp2_with fail
      refine (HL.out _).mono ?_
      rintro e u1 ⟨rfl, b1⟩
      have c2 := cell_below c1 b1
      go_wp2_with fail
      go_ret2
      exact ⟨rfl, b1⟩
    · have f1 : ((lowS t).toList == [97, 110, 121]) = false := by rw [TL.out]; exact decide_eq_false q
      have e : L = some (stepOf 13 (okP r)) := by rw [E.out, if_neg q]
      generalize lowS t = lt at *
      clear q E
      obtain ⟨n, ec⟩ := r
      have WAY : (∃ z, Hid (L = some z) ∧ Hid (z = 1000000) ∧ ((ec == 0) = false ∨ ((ec == 0) = true ∧ n ≤ 0) ∨ ((ec == 0) = true ∧ 0 < n ∧ 1000000000000 < n / 1000000) ∨ ((ec == 0) = true ∧ 0 < n ∧ ¬ 1000000000000 < n / 1000000 ∧ ((n / 1000000 * 1000000 + n % 1000000 * 1000000 / 1000000) = 0 ∨ 1000000000000000000 < (n / 1000000 * 1000000 + n % 1000000 * 1000000 / 1000000)))) ∧ n ≤ 1000000000000000000) ∨ ((ec == 0) = true ∧ 0 < n ∧ n ≤ 1000000000000000000 ∧ ¬ 1000000000000 < n / 1000000 ∧ ¬ (n / 1000000 * 1000000 + n % 1000000 * 1000000 / 1000000) = 0 ∧ ¬ 1000000000000000000 < (n / 1000000 * 1000000 + n % 1000000 * 1000000 / 1000000) ∧ Hid (L = some (n / 1000000 * 1000000 + n % 1000000 * 1000000 / 1000000))) := by
        by_cases h0 : ec = 0
        · have ok : okP (n, ec) = some n := if_pos h0
          have rg := PR.out n ok
          rw [ok] at e
          have eb : (ec == 0) = true := by rw [h0]; rfl
          have eo : outN 13 n = (n / 1000000 * 1000000 + n % 1000000 * 1000000 / 1000000) := by unfold outN; rw [SC.out]
          have es : stepOf 13 (some n) = stepN 13 n := rfl
          rw [es] at e
          unfold stepN at e
          rw [DF.out, SC.out, eo, show (1000000000000000000 : Int) / 1000000 = 1000000000000 from by decide] at e
          by_cases h1 : n ≤ 0
          · rw [if_pos h1] at e
            exact .inl ⟨_, e, rfl, .inr (.inl ⟨eb, h1⟩), rg.2⟩
          · rw [if_neg h1] at e
            by_cases h2 : 1000000000000 < n / 1000000
            · rw [if_pos h2] at e
              exact .inl ⟨_, e, rfl, .inr (.inr (.inl ⟨eb, by omega, h2⟩)), rg.2⟩
            · rw [if_neg h2] at e
              by_cases h3 : (n / 1000000 * 1000000 + n % 1000000 * 1000000 / 1000000) = 0 ∨ 1000000000000000000 < (n / 1000000 * 1000000 + n % 1000000 * 1000000 / 1000000)
              · rw [if_pos h3] at e
                exact .inl ⟨_, e, rfl, .inr (.inr (.inr ⟨eb, by omega, h2, h3⟩)), rg.2⟩
              · rw [if_neg h3] at e
                exact .inr ⟨eb, by omega, rg.2, h2, fun q => h3 (.inl q), fun q => h3 (.inr q), e⟩
        · have ok : okP (n, ec) = none := if_neg h0
          rw [ok, show stepOf 13 none = defK 13 from rfl, DF.out] at e
          have z : n = 0 := by
            rcases PO.out with t | t
            · exact absurd t h0
            · exact t
          exact .inl ⟨_, e, rfl, .inl (beq_eq_false_iff_ne.2 h0), by omega⟩
      clear e PR PO DF SC
      rcases WAY with ⟨z, E, Z, W, rg⟩ | ⟨eb, h1, rg, h2, h3, h4, E⟩
      · rcases W with eb | ⟨eb, h1⟩ | ⟨eb, h1, h2⟩ | ⟨eb, h1, h2, h3⟩
        · have nz : ¬ ec = 0 := beq_eq_false_iff_ne.1 eb
          go_enter Tryz.func74, Tryz.ntmps74
          go_wp2_with fail
          refine (refScale_13 _).mono ?_
          rintro e u0 ⟨rfl, hu0⟩
          obtain rfl : w = u0 := hu0.symm
          go_wp2_with fail
          refine HF.out.mono ?_
          rintro e u ⟨rfl, hu⟩
          obtain rfl : w = u := hu.symm
          go_wp2_with fail
          refine (HL.out _).mono ?_
          rintro e u1 ⟨rfl, b1⟩
          have c2 := cell_below c1 b1
          go_wp2_with fail
          refine (HP.out _).mono ?_
          rintro e u2 ⟨rfl, hu2⟩
          obtain rfl : u1 = u2 := hu2.symm
          go_wp2_with fail
          go_ret2
          exact ⟨by rw [E.out, Z.out]; rfl, b1⟩
        · have nb : (ec != 0) = false := by unfold bne; rw [eb]; rfl
          go_enter Tryz.func74, Tryz.ntmps74
          go_wp2_with fail
          refine (refScale_13 _).mono ?_
          rintro e u0 ⟨rfl, hu0⟩
          obtain rfl : w = u0 := hu0.symm
          go_wp2_with fail
          refine HF.out.mono ?_
          rintro e u ⟨rfl, hu⟩
          obtain rfl : w = u := hu.symm
          go_wp2_with fail
          refine (HL.out _).mono ?_
          rintro e u1 ⟨rfl, b1⟩
          have c2 := cell_below c1 b1
          go_wp2_with fail
          refine (HP.out _).mono ?_
          rintro e u2 ⟨rfl, hu2⟩
          obtain rfl : u1 = u2 := hu2.symm
          go_wp2_with fail
          go_ret2
          exact ⟨by rw [E.out, Z.out]; rfl, b1⟩
        · exfalso; omega
        · have h0 : ¬ n ≤ 0 := by omega
          have nb : (ec != 0) = false := by unfold bne; rw [eb]; rfl
          rcases h3 with h3 | h3
          · exfalso; omega
          · exfalso; omega
      · have h0 : ¬ n ≤ 0 := by omega
        have nb : (ec != 0) = false := by unfold bne; rw [eb]; rfl
        have z0 : ((n / 1000000 * 1000000 + n % 1000000) == 0) = false := beq_eq_false_iff_ne.2 (by omega)
        have y0 : ¬ 1000000000000000000 < (n / 1000000 * 1000000 + n % 1000000) := by omega
        go_enter Tryz.func74, Tryz.ntmps74
        go_wp2_with fail
        refine (refScale_13 _).mono ?_
        rintro e u0 ⟨rfl, hu0⟩
        obtain rfl : w = u0 := hu0.symm
        go_wp2_with fail
        refine HF.out.mono ?_
        rintro e u ⟨rfl, hu⟩
        obtain rfl : w = u := hu.symm
        go_wp2_with fail
        refine (HL.out _).mono ?_
        rintro e u1 ⟨rfl, b1⟩
        have c2 := cell_below c1 b1
        go_wp2_with fail
        refine (HP.out _).mono ?_
        rintro e u2 ⟨rfl, hu2⟩
        obtain rfl : u1 = u2 := hu2.symm
        go_wp2_with fail
        refine (refScale_13 _).mono ?_
        rintro e u9 ⟨rfl, hu9⟩
        obtain rfl : u1 = u9 := hu9.symm
        go_wp2_with fail
        go_ret2
        exact ⟨by rw [E.out]; exact ret_opt (show (n / 1000000 * 1000000 + n % 1000000) = (n / 1000000 * 1000000 + n % 1000000 * 1000000 / 1000000) by omega) rfl, b1⟩
set_option maxHeartbeats 4000000 in
set_option maxRecDepth 100000 in
theorem refStep_14 (v : Value) (ax : List (ByteArray × ByteArray)) (w : World) (hv : AttrsV w v ax) (hz : AxOK ax) :
    Calls Tryz.prog 74 #[.int .i64 14, v] w fun e w' => e = .returned (optV (stepK 14 ax)) ∧ Below w.heap.size w w' := by
  have HF := hide (refFind_any v ax stepS w hv hz.len)
  obtain ⟨p, c, rfl, hv⟩ := hv
  have DF : Hid (defK 14 = 1000000) := by show _ = _; decide
  have SC : Hid (scaleK 14 = 1000000) := by show _ = _; decide
  cases hf : findA ax stepS with
  | none =>
    rw [hf, show findV none = -1 from rfl, show stepS = ⟨#[115, 116, 101, 112]⟩ from rfl] at HF
    have E : Hid (stepK 14 ax = some 1000000) := by show _ = _; unfold stepK; rw [if_pos (by decide), hf, DF.out]
    clear hf hv hz SC
    go_enter Tryz.func74, Tryz.ntmps74
    go_wp2_with fail
    refine (refScale_14 _).mono ?_
    rintro e u0 ⟨rfl, hu0⟩
    obtain rfl : w = u0 := hu0.symm
    go_wp2_with fail
    refine HF.out.mono ?_
    rintro e u ⟨rfl, hu⟩
    obtain rfl : w = u := hu.symm
    go_wp2_with fail
    go_ret2
    exact ⟨by rw [E.out]; rfl, Below.refl _ _⟩
  | some i =>
    obtain ⟨hi, _, _⟩ := List.findIdx?_eq_some_iff_getElem.1 (show ax.findIdx? (isN stepS) = some i from hf)
    obtain ⟨t, ht⟩ : ∃ t, Hid (ax[i].2 = t) := ⟨_, show _ = _ from rfl⟩
    have E : Hid (stepK 14 ax = if lowS t = anyS then none else some (stepOf 14 (okP (parseV t.data.toList)))) := by
      show _ = _
      unfold stepK
      rw [if_pos (by decide), hf, ← ht.out]
      show (if lowS (ax.getD i at0).2 = anyS then none else some (stepOf 14 (okP (parseV (ax.getD i at0).2.data.toList)))) = _
      rw [show ax.getD i at0 = ax[i] by simp [List.getD, hi]]
    rw [hf, show findV (some i) = (i : Int) from rfl, show stepS = ⟨#[115, 116, 101, 112]⟩ from rfl] at HF
    obtain ⟨b, o, rfl, hv2⟩ : ∃ b o, p = some ⟨b, o, none⟩ ∧ ∀ i (h : i < ax.length), w.cell? ⟨b, o + i * 2, none⟩ = some (.string ax[i].1) ∧ w.cell? ⟨b, o + i * 2 + 1, none⟩ = some (.string ax[i].2) := by
      rcases hv with t | t
      · rw [t] at hi; simp at hi
      · exact t
    have ts := hz.val _ (List.getElem_mem hi)
    have c1 := (hv2 i hi).2
    rw [ht.out] at c1 ts
    have HL := hide (fun W => refLower_any t W (by omega))
    have HP := hide (fun W => refParse_any t W (by omega))
    have PR := hide (fun n => parse_range (l := t.data.toList) (n := n))
    have PO := hide (parse_out t.data.toList)
    have i0 : (0 : Int) ≤ (i : Int) := by omega
    have i1 : (i : Int) < (ax.length : Int) := by omega
    have i2 : ¬ (i : Int) < 0 := by omega
    generalize parseV t.data.toList = r at *
    generalize stepK 14 ax = L at *
    clear hf hv hv2 hz ht
    have TL := hide (lit_decK (lowS t) [97, 110, 121])
    by_cases q : lowS t = anyS
    · have f1 : ((lowS t).toList == [97, 110, 121]) = true := by rw [TL.out]; exact decide_eq_true q
      have e : L = none := by rw [E.out, if_pos q]
      subst e
      generalize lowS t = lt at *
      clear q E
      go_enter Tryz.func74, Tryz.ntmps74
      go_wp2_with fail
      refine (refScale_14 _).mono ?_
      rintro e u0 ⟨rfl, hu0⟩
      obtain rfl : w = u0 := hu0.symm
      go_wp2_with fail
      refine HF.out.mono ?_
      rintro e u ⟨rfl, hu⟩
      obtain rfl : w = u := hu.symm
      go_wp2_with fail
      refine (HL.out _).mono ?_
      rintro e u1 ⟨rfl, b1⟩
      have c2 := cell_below c1 b1
      go_wp2_with fail
      go_ret2
      exact ⟨rfl, b1⟩
    · have f1 : ((lowS t).toList == [97, 110, 121]) = false := by rw [TL.out]; exact decide_eq_false q
      have e : L = some (stepOf 14 (okP r)) := by rw [E.out, if_neg q]
      generalize lowS t = lt at *
      clear q E
      obtain ⟨n, ec⟩ := r
      have WAY : (∃ z, Hid (L = some z) ∧ Hid (z = 1000000) ∧ ((ec == 0) = false ∨ ((ec == 0) = true ∧ n ≤ 0) ∨ ((ec == 0) = true ∧ 0 < n ∧ 1000000000000 < n / 1000000) ∨ ((ec == 0) = true ∧ 0 < n ∧ ¬ 1000000000000 < n / 1000000 ∧ ((n / 1000000 * 1000000 + n % 1000000 * 1000000 / 1000000) = 0 ∨ 1000000000000000000 < (n / 1000000 * 1000000 + n % 1000000 * 1000000 / 1000000)))) ∧ n ≤ 1000000000000000000) ∨ ((ec == 0) = true ∧ 0 < n ∧ n ≤ 1000000000000000000 ∧ ¬ 1000000000000 < n / 1000000 ∧ ¬ (n / 1000000 * 1000000 + n % 1000000 * 1000000 / 1000000) = 0 ∧ ¬ 1000000000000000000 < (n / 1000000 * 1000000 + n % 1000000 * 1000000 / 1000000) ∧ Hid (L = some (n / 1000000 * 1000000 + n % 1000000 * 1000000 / 1000000))) := by
        by_cases h0 : ec = 0
        · have ok : okP (n, ec) = some n := if_pos h0
          have rg := PR.out n ok
          rw [ok] at e
          have eb : (ec == 0) = true := by rw [h0]; rfl
          have eo : outN 14 n = (n / 1000000 * 1000000 + n % 1000000 * 1000000 / 1000000) := by unfold outN; rw [SC.out]
          have es : stepOf 14 (some n) = stepN 14 n := rfl
          rw [es] at e
          unfold stepN at e
          rw [DF.out, SC.out, eo, show (1000000000000000000 : Int) / 1000000 = 1000000000000 from by decide] at e
          by_cases h1 : n ≤ 0
          · rw [if_pos h1] at e
            exact .inl ⟨_, e, rfl, .inr (.inl ⟨eb, h1⟩), rg.2⟩
          · rw [if_neg h1] at e
            by_cases h2 : 1000000000000 < n / 1000000
            · rw [if_pos h2] at e
              exact .inl ⟨_, e, rfl, .inr (.inr (.inl ⟨eb, by omega, h2⟩)), rg.2⟩
            · rw [if_neg h2] at e
              by_cases h3 : (n / 1000000 * 1000000 + n % 1000000 * 1000000 / 1000000) = 0 ∨ 1000000000000000000 < (n / 1000000 * 1000000 + n % 1000000 * 1000000 / 1000000)
              · rw [if_pos h3] at e
                exact .inl ⟨_, e, rfl, .inr (.inr (.inr ⟨eb, by omega, h2, h3⟩)), rg.2⟩
              · rw [if_neg h3] at e
                exact .inr ⟨eb, by omega, rg.2, h2, fun q => h3 (.inl q), fun q => h3 (.inr q), e⟩
        · have ok : okP (n, ec) = none := if_neg h0
          rw [ok, show stepOf 14 none = defK 14 from rfl, DF.out] at e
          have z : n = 0 := by
            rcases PO.out with t | t
            · exact absurd t h0
            · exact t
          exact .inl ⟨_, e, rfl, .inl (beq_eq_false_iff_ne.2 h0), by omega⟩
      clear e PR PO DF SC
      rcases WAY with ⟨z, E, Z, W, rg⟩ | ⟨eb, h1, rg, h2, h3, h4, E⟩
      · rcases W with eb | ⟨eb, h1⟩ | ⟨eb, h1, h2⟩ | ⟨eb, h1, h2, h3⟩
        · have nz : ¬ ec = 0 := beq_eq_false_iff_ne.1 eb
          go_enter Tryz.func74, Tryz.ntmps74
          go_wp2_with fail
          refine (refScale_14 _).mono ?_
          rintro e u0 ⟨rfl, hu0⟩
          obtain rfl : w = u0 := hu0.symm
          go_wp2_with fail
          refine HF.out.mono ?_
          rintro e u ⟨rfl, hu⟩
          obtain rfl : w = u := hu.symm
          go_wp2_with fail
          refine (HL.out _).mono ?_
          rintro e u1 ⟨rfl, b1⟩
          have c2 := cell_below c1 b1
          go_wp2_with fail
          refine (HP.out _).mono ?_
          rintro e u2 ⟨rfl, hu2⟩
          obtain rfl : u1 = u2 := hu2.symm
          go_wp2_with fail
          go_ret2
          exact ⟨by rw [E.out, Z.out]; rfl, b1⟩
        · have nb : (ec != 0) = false := by unfold bne; rw [eb]; rfl
          go_enter Tryz.func74, Tryz.ntmps74
          go_wp2_with fail
          refine (refScale_14 _).mono ?_
          rintro e u0 ⟨rfl, hu0⟩
          obtain rfl : w = u0 := hu0.symm
          go_wp2_with fail
          refine HF.out.mono ?_
          rintro e u ⟨rfl, hu⟩
          obtain rfl : w = u := hu.symm
          go_wp2_with fail
          refine (HL.out _).mono ?_
          rintro e u1 ⟨rfl, b1⟩
          have c2 := cell_below c1 b1
          go_wp2_with fail
          refine (HP.out _).mono ?_
          rintro e u2 ⟨rfl, hu2⟩
          obtain rfl : u1 = u2 := hu2.symm
          go_wp2_with fail
          go_ret2
          exact ⟨by rw [E.out, Z.out]; rfl, b1⟩
        · exfalso; omega
        · have h0 : ¬ n ≤ 0 := by omega
          have nb : (ec != 0) = false := by unfold bne; rw [eb]; rfl
          rcases h3 with h3 | h3
          · exfalso; omega
          · exfalso; omega
      · have h0 : ¬ n ≤ 0 := by omega
        have nb : (ec != 0) = false := by unfold bne; rw [eb]; rfl
        have z0 : ((n / 1000000 * 1000000 + n % 1000000) == 0) = false := beq_eq_false_iff_ne.2 (by omega)
        have y0 : ¬ 1000000000000000000 < (n / 1000000 * 1000000 + n % 1000000) := by omega
        go_enter Tryz.func74, Tryz.ntmps74
        go_wp2_with fail
        refine (refScale_14 _).mono ?_
        rintro e u0 ⟨rfl, hu0⟩
        obtain rfl : w = u0 := hu0.symm
        go_wp2_with fail
        refine HF.out.mono ?_
        rintro e u ⟨rfl, hu⟩
        obtain rfl : w = u := hu.symm
        go_wp2_with fail
        refine (HL.out _).mono ?_
        rintro e u1 ⟨rfl, b1⟩
        have c2 := cell_below c1 b1
        go_wp2_with fail
        refine (HP.out _).mono ?_
        rintro e u2 ⟨rfl, hu2⟩
        obtain rfl : u1 = u2 := hu2.symm
        go_wp2_with fail
        refine (refScale_14 _).mono ?_
        rintro e u9 ⟨rfl, hu9⟩
        obtain rfl : u1 = u9 := hu9.symm
        go_wp2_with fail
        go_ret2
        exact ⟨by rw [E.out]; exact ret_opt (show (n / 1000000 * 1000000 + n % 1000000) = (n / 1000000 * 1000000 + n % 1000000 * 1000000 / 1000000) by omega) rfl, b1⟩
set_option maxHeartbeats 4000000 in
set_option maxRecDepth 100000 in
theorem refStepK_any (k : Int) (v : Value) (ax : List (ByteArray × ByteArray)) (w : World) (hv : AttrsV w v ax) (hz : AxOK ax) :
    Calls Tryz.prog 74 #[.int .i64 k, v] w fun e w' => e = .returned (optV (stepK k ax)) ∧ Below w.heap.size w w' := by
  rcases (show k < 8 ∨ k = 8 ∨ k = 9 ∨ k = 10 ∨ k = 11 ∨ k = 12 ∨ k = 13 ∨ k = 14 ∨ 14 < k by omega) with h | rfl | rfl | rfl | rfl | rfl | rfl | rfl | h
  · have E : Hid (stepK k ax = none) := if_neg (by omega)
    obtain ⟨p, c, rfl, _⟩ := hv
    clear hz
    go_enter Tryz.func74, Tryz.ntmps74
    go_wp2_with fail
    go_ret2
    exact ⟨by rw [E.out]; rfl, Below.refl _ _⟩
  · exact refStep_8 v ax w hv hz
  · exact refStep_9 v ax w hv hz
  · exact refStep_10 v ax w hv hz
  · exact refStep_11 v ax w hv hz
  · exact refStep_12 v ax w hv hz
  · exact refStep_13 v ax w hv hz
  · exact refStep_14 v ax w hv hz
  · have E : Hid (stepK k ax = none) := if_neg (by omega)
    have q8 : ¬ k < 8 := by omega
    have d8 : decide (k < 8) = false := decide_eq_false q8
    obtain ⟨p, c, rfl, _⟩ := hv
    clear hz
    go_enter Tryz.func74, Tryz.ntmps74
    go_wp2_with fail
    go_ret2
    exact ⟨by rw [E.out]; rfl, Below.refl _ _⟩
end Go.Proofs.YtfjfkkbgkjmghaaGreatDoor

namespace Go.Proofs.YtfjfkkbgkjmghaaGreatDoor
open Go.RowKit
theorem least14 (ax : List (ByteArray × ByteArray)) : ∃ b, optV (leastK 14 ax) = .tuple #[.int .i64 (loK ax), .bool b] := ⟨_, rfl⟩
theorem most14 (ax : List (ByteArray × ByteArray)) : ∃ b, optV (mostK 14 ax) = .tuple #[.int .i64 (hiK ax), .bool b] := ⟨_, rfl⟩
set_option maxHeartbeats 8000000 in
set_option maxRecDepth 100000 in
theorem refDefault_any (v : Value) (ax : List (ByteArray × ByteArray)) (w : World) (hv : AttrsV w v ax) (hz : AxOK ax) :
    Calls Tryz.prog 76 #[v] w fun e w' => e = .returned (.int .i64 (defG (loK ax) (hiK ax))) ∧ Below w.heap.size w w' := by
  have H1 := hide (fun W (hb : Below w.heap.size w W) => refLeastK_any 14 v ax W (hv.below hb) hz)
  have H2 := hide (fun W (hb : Below w.heap.size w W) => refMostK_any 14 v ax W (hv.below hb) hz)
  obtain ⟨x1, e1⟩ := least14 ax
  obtain ⟨x2, e2⟩ := most14 ax
  rw [e1] at H1
  rw [e2] at H2
  have r1 : -1000000000000000000 ≤ loK ax ∧ loK ax ≤ 1000000000000000000 := least_range 14 ax
  have r2 : -1000000000000000000 ≤ hiK ax ∧ hiK ax ≤ 1000000000000000000 := most_range 14 ax
  obtain ⟨p, c, rfl, _⟩ := hv
  clear hz e1 e2
  generalize loK ax = lo at *
  generalize hiK ax = hi at *
  obtain ⟨a1, a2⟩ := r1
  obtain ⟨a3, a4⟩ := r2
  have E : Hid (defG lo hi = if hi < lo then lo else lo + (hi - lo) / 2) := rfl
  by_cases q : hi < lo
  · rw [if_pos q] at E
    go_enter Tryz.func76, Tryz.ntmps76
    go_wp2_with fail
    refine (H1.out _ (Below.refl _ _)).mono ?_
    rintro e w1 ⟨rfl, b1⟩
    go_wp2_with fail
    refine (H2.out _ b1).mono ?_
    rintro e w2 ⟨rfl, b2⟩
    go_wp2_with fail
    go_ret
    exact ⟨ret_int E.out.symm, chain b1 b2⟩
  · rw [if_neg q] at E
    have q2 : 0 ≤ hi - lo := by omega
    go_enter Tryz.func76, Tryz.ntmps76
    go_wp2_with fail
    refine (H1.out _ (Below.refl _ _)).mono ?_
    rintro e w1 ⟨rfl, b1⟩
    go_wp2_with fail
    refine (H2.out _ b1).mono ?_
    rintro e w2 ⟨rfl, b2⟩
    go_wp2_with fail
    go_ret
    exact ⟨ret_int E.out.symm, chain b1 b2⟩
theorem down_ok {n base st : Int} (h : 1 ≤ st) (h1 : -1000000000000000000 ≤ n) (h2 : st ≤ 1000000000000000000) : downOk n base st = true ∧ downV n base st = loG n base st := by
  have m := much_bounds (n := n) (base := base) h
  have k : downOk n base st = true := down_some h (by omega)
  exact ⟨k, downV_yes k⟩
theorem txt_back (s : ByteArray) : txt s.data.toList = s := by cases s; rfl
theorem ret_txt {a : ByteArray} {l : List UInt8} (h : a = txt l) : Ending.returned (.string a) = .returned (.string (txt l)) := by rw [h]
set_option maxHeartbeats 8000000 in
set_option maxRecDepth 100000 in
theorem refRange_any (v : Value) (ax : List (ByteArray × ByteArray)) (w : World) (hv : AttrsV w v ax) (hz : AxOK ax) (s : ByteArray) (hs : s.size ≤ 100000) :
    Calls Tryz.prog 49 #[v, .string s] w fun e w' => e = .returned (.string (txt (rangeT ax s.data.toList))) ∧ Below w.heap.size w w' := by
  have H1 := hide (fun W (hb : Below w.heap.size w W) => refLeastK_any 14 v ax W (hv.below hb) hz)
  have H2 := hide (fun W (hb : Below w.heap.size w W) => refMostK_any 14 v ax W (hv.below hb) hz)
  have H3 := hide (fun W (hb : Below w.heap.size w W) => refStepK_any 14 v ax W (hv.below hb) hz)
  have H4 := hide (fun W (hb : Below w.heap.size w W) => refBaseK_any 14 v ax W (hv.below hb) hz)
  have H5 := hide (fun W => refValue_any 14 s W hs)
  have H6 := hide (fun W (hb : Below w.heap.size w W) => refDefault_any v ax W (hv.below hb) hz)
  obtain ⟨x1, e1⟩ := least14 ax
  obtain ⟨x2, e2⟩ := most14 ax
  rw [e1] at H1
  rw [e2] at H2
  have RR := rangeK_range ax s.data.toList
  have HSh := hide (fun W => refShowK_any (k := 14) (n := rangeK ax s.data.toList) (o := some (showL (rangeK ax s.data.toList))) (.inl ⟨.inr rfl, .inl ⟨RR.1, RR.2, rfl⟩⟩) W (by omega) (by omega))
  rw [show txtV (some (showL (rangeK ax s.data.toList))) = .tuple #[.string (txt (showL (rangeK ax s.data.toList))), .bool true] from rfl] at HSh
  have HFit := hide (fun n st b W (g1 : -1000000000000000000 ≤ n) (g2 : n ≤ 1000000000000000000) (g3 : 1 ≤ st) (g4 : st ≤ 1000000000000000000) (g5 : -1000000000000000000 ≤ b) (g6 : b ≤ 1000000000000000000) => refFits_any n b st W (by omega) (by omega) (by omega) (by omega) (by omega) (by omega))
  have HDn := hide (fun n st b W (g1 : -1000000000000000000 ≤ n) (g2 : n ≤ 1000000000000000000) (g3 : 1 ≤ st) (g4 : st ≤ 1000000000000000000) (g5 : -1000000000000000000 ≤ b) (g6 : b ≤ 1000000000000000000) => refDown_any n b st W (by omega) (by omega) (by omega) (by omega) (by omega) (by omega))
  have r1 : -1000000000000000000 ≤ loK ax ∧ loK ax ≤ 1000000000000000000 := least_range 14 ax
  have r2 : -1000000000000000000 ≤ hiK ax ∧ hiK ax ≤ 1000000000000000000 := most_range 14 ax
  have r3 := base_range 14 ax
  have SR := hide (fun st => step_range 14 ax (b := st))
  have NR := hide (fun n => num_range (k := 14) (l := s.data.toList) (n := n))
  have ET : Hid (rangeT ax s.data.toList = if numK 14 s.data.toList = some (rangeK ax s.data.toList) then s.data.toList else showL (rangeK ax s.data.toList)) := rfl
  have EK : Hid (rangeK ax s.data.toList = stepG (loK ax) (hiK ax) (baseK 14 ax) (stepK 14 ax) (heldG (loK ax) (hiK ax) ((numK 14 s.data.toList).getD (defG (loK ax) (hiK ax))))) := rfl
  have HI := hide (def_in (loK ax) (hiK ax))
  obtain ⟨p, c, rfl, _⟩ := hv
  clear hz e1 e2 hs RR
  generalize loK ax = lo at *
  generalize hiK ax = hi at *
  generalize baseK 14 ax = bs at *
  generalize stepK 14 ax = S at *
  generalize rangeK ax s.data.toList = rk at *
  generalize numK 14 s.data.toList = own at *
  generalize rangeT ax s.data.toList = rt at *
  obtain ⟨a1, a2⟩ := r1
  obtain ⟨a3, a4⟩ := r2
  obtain ⟨a5, a6⟩ := r3
  have d0 : Hid (-1000000000000000000 ≤ own.getD (defG lo hi) ∧ own.getD (defG lo hi) ≤ 1000000000000000000) := by
    cases own with
    | none =>
      have := HI.out
      show -1000000000000000000 ≤ defG lo hi ∧ defG lo hi ≤ 1000000000000000000
      unfold defG at this ⊢
      split <;> omega
    | some n => exact NR.out n rfl
  unfold optV at H3 H5
  obtain ⟨y, hy⟩ : ∃ y, Hid (own.isSome = y) := ⟨_, show _ = _ from rfl⟩
  obtain ⟨z, hzz⟩ : ∃ z, Hid (optI own = z) := ⟨_, show _ = _ from rfl⟩
  obtain ⟨y2, hy2⟩ : ∃ y2, Hid (S.isSome = y2) := ⟨_, show _ = _ from rfl⟩
  obtain ⟨st, hst⟩ : ∃ st, Hid (optI S = st) := ⟨_, show _ = _ from rfl⟩
  rw [hy.out, hzz.out] at H5
  rw [hy2.out, hst.out] at H3
  go_enter Tryz.func49, Tryz.ntmps49
  go_wp2_with fail
  refine (H1.out _ (Below.refl _ _)).mono ?_
  rintro e w1 ⟨rfl, b1⟩
  go_wp2_with fail
  refine (H2.out _ b1).mono ?_
  rintro e w2 ⟨rfl, b2⟩
  have B2 := hide (chain b1 b2)
  clear b1 b2
  go_wp2_with fail
  refine (H3.out _ B2.out).mono ?_
  rintro e w3 ⟨rfl, b3⟩
  have B3 := hide (chain B2.out b3)
  clear b3 B2
  go_wp2_with fail
  refine (H4.out _ B3.out).mono ?_
  rintro e w4 ⟨rfl, b4⟩
  have B4 := hide (chain B3.out b4)
  clear b4 B3
  go_wp2_with fail
  refine (H5.out _).mono ?_
  rintro e w5 ⟨rfl, b5⟩
  have B5 := hide (chain B4.out b5)
  clear b5 B4 H1 H2 H3 H4 H5
  obtain ⟨n0, hn0⟩ : ∃ n0, Hid (own.getD (defG lo hi) = n0) := ⟨_, show _ = _ from rfl⟩
  go_upto_if 44 with fail
  go_cut [14] (fun t wx => t = .int .i64 n0 ∧ Hid (Below w.heap.size w wx))
  case first =>
    cases own with
    | none =>
      obtain rfl : false = y := hy.out
      have e0 : defG lo hi = n0 := hn0.out
      rw [e0] at H6
      clear ET EK d0 HI NR hn0 e0
      go_wp2_with fail
      refine (H6.out _ B5.out).mono ?_
      rintro e w6 ⟨rfl, b6⟩
      go_wp2_with fail
      go_meet
      case rel => exact ⟨rfl, chain B5.out b6⟩
    | some n =>
      obtain rfl : true = y := hy.out
      have e0 : n = n0 := hn0.out
      have e1 : n = z := hzz.out
      subst e1
      subst e0
      clear ET EK d0 HI NR hn0 H6
      go_wp2_with fail
      go_meet
      case rel => exact ⟨rfl, B5.out⟩
  case rest =>
  obtain ⟨rfl, B6⟩ := hcut
  clear B5 H6
  rw [hn0.out] at EK d0
  obtain ⟨g1, g2⟩ := d0.out
  have HD := hide (held_in lo hi n0)
  obtain ⟨n1, hn1⟩ : ∃ n1, Hid (heldG lo hi n0 = n1) := ⟨_, show _ = _ from rfl⟩
  rw [hn1.out] at EK HD
  go_upto_if 49 with fail
  go_cut [14] (fun t wx => t = .int .i64 n1 ∧ Hid (Below w.heap.size w wx))
  case first =>
    have hx : (if n0 < lo then lo else if hi < n0 ∧ lo ≤ hi then hi else n0) = n1 := hn1.out
    clear ET EK d0 HI NR hn0 hn1 HD
    by_cases q1 : n0 < lo
    · rw [if_pos q1] at hx
      subst hx
      go_wp2_with fail
      go_meet
      case rel => exact ⟨rfl, B6.out⟩
    · rw [if_neg q1] at hx
      by_cases q2 : hi < n0
      · by_cases q3 : lo ≤ hi
        · rw [if_pos ⟨q2, q3⟩] at hx
          subst hx
          go_wp2_with fail
          go_meet
          case rel => exact ⟨rfl, B6.out⟩
        · rw [if_neg (fun t => q3 t.2)] at hx
          subst hx
          have d3 : decide (lo ≤ hi) = false := decide_eq_false q3
          go_wp2_with fail
          go_meet
          case rel => exact ⟨rfl, B6.out⟩
      · rw [if_neg (fun t => q2 t.1)] at hx
        subst hx
        have d2 : decide (hi < n0) = false := decide_eq_false q2
        go_wp2_with fail
        go_meet
        case rel => exact ⟨rfl, B6.out⟩
  case rest =>
  obtain ⟨rfl, B7⟩ := hcut
  clear B6
  have bn : -1000000000000000000 ≤ n1 ∧ n1 ≤ 1000000000000000000 := by
    rw [← hn1.out]
    unfold heldG
    split
    · omega
    · split <;> omega
  obtain ⟨m1, m2⟩ := bn
  clear hn0 d0 HI NR hn1
  cases S with
  | none =>
    obtain rfl : false = y2 := hy2.out
    have ek : rk = n1 := EK.out
    subst ek
    clear EK hst hy2 HD
    have B8 := B7
    go_upto_if 67 with fail
    by_cases f : own = some rk
    · rw [if_pos f] at ET
      subst f
      obtain rfl : true = y := hy.out
      have e1 : rk = z := hzz.out
      subst e1
      have ES : Hid (s = txt rt) := by show _ = _; rw [ET.out]; exact (txt_back s).symm
      clear ET
      go_wp2_with fail
      go_ret
      exact ⟨ret_txt ES.out, B8.out⟩
    · rw [if_neg f] at ET
      have ES : Hid (txt (showL rk) = txt rt) := by show _ = _; rw [ET.out]
      generalize txt (showL rk) = x at *
      clear ET
      cases own with
      | none =>
        obtain rfl : false = y := hy.out
        clear f
        go_wp2_with fail
        refine (HSh.out _).mono ?_
        rintro e w9 ⟨rfl, b9⟩
        go_wp2_with fail
        go_ret
        exact ⟨ret_txt ES.out, chain B8.out b9⟩
      | some m =>
        obtain rfl : true = y := hy.out
        have e1 : m = z := hzz.out
        subst e1
        have nf : (rk == m) = false := beq_eq_false_iff_ne.2 (fun t => f (by rw [t]))
        clear f
        go_wp2_with fail
        refine (HSh.out _).mono ?_
        rintro e w9 ⟨rfl, b9⟩
        go_wp2_with fail
        go_ret
        exact ⟨ret_txt ES.out, chain B8.out b9⟩
  | some st' =>
    obtain rfl : true = y2 := hy2.out
    have e2 : st' = st := hst.out
    subst e2
    have sr := SR.out st' rfl
    obtain ⟨s1, s2⟩ := sr
    have ek : rk = ontoG lo hi bs st' n1 := EK.out
    have HF := hide (fun W => HFit.out n1 st' bs W m1 m2 s1 s2 a5 a6)
    have HDo := hide (fun W => HDn.out n1 st' bs W m1 m2 s1 s2 a5 a6)
    obtain ⟨k1, k2⟩ := down_ok (n := n1) (base := bs) s1 m1 s2
    rw [k1, k2] at HDo
    obtain ⟨_, _, l1, l2⟩ := lo_fits (n := n1) (base := bs) s1
    unfold ontoG at ek
    generalize loG n1 bs st' = d at *
    clear EK hst hy2 HFit HDn SR k1 k2
    replace ek := hide ek
    go_wp2_with fail
    refine (HF.out _).mono ?_
    rintro e w8 ⟨rfl, h8⟩
    obtain rfl : wc = w8 := h8.symm
    go_upto_if 67 with fail
    go_cut [14] (fun t wx => t = .int .i64 rk ∧ Hid (Below w.heap.size w wx))
    case first =>
      cases q : fitV n1 bs st' with
      | true =>
        have er : rk = n1 := by rw [ek.out, if_pos q]
        subst er
        clear ek ET
        go_wp2_with fail
        go_meet
        case rel => exact ⟨rfl, B7.out⟩
      | false =>
        have er : rk = (if d + st' ≤ hi ∧ (d + st' - n1 ≤ n1 - d ∨ d < lo) then d + st' else if lo ≤ d then d else n1) := by rw [ek.out, if_neg (by rw [q]; decide)]
        clear ek ET
        have d0 : (fitV n1 bs st') = false := q
        by_cases q1 : d + st' ≤ hi
        · by_cases q2 : d + st' - n1 ≤ n1 - d
          · rw [if_pos ⟨q1, .inl q2⟩] at er
            subst er
            go_wp2_with fail
            refine (HDo.out _).mono ?_
            rintro e w10 ⟨rfl, h10⟩
            obtain rfl : wc = w10 := h10.symm
            go_wp2_with fail
            go_meet
            case rel => exact ⟨rfl, B7.out⟩
          · have e2 : decide (d + st' - n1 ≤ n1 - d) = false := decide_eq_false q2
            by_cases q3 : d < lo
            · rw [if_pos ⟨q1, .inr q3⟩] at er
              subst er
              go_wp2_with fail
              refine (HDo.out _).mono ?_
              rintro e w10 ⟨rfl, h10⟩
              obtain rfl : wc = w10 := h10.symm
              go_wp2_with fail
              go_meet
              case rel => exact ⟨rfl, B7.out⟩
            · have e3 : decide (d < lo) = false := decide_eq_false q3
              have q4 : lo ≤ d := by omega
              rw [if_neg (fun t => t.2.elim q2 q3), if_pos q4] at er
              subst er
              go_wp2_with fail
              refine (HDo.out _).mono ?_
              rintro e w10 ⟨rfl, h10⟩
              obtain rfl : wc = w10 := h10.symm
              go_wp2_with fail
              go_meet
              case rel => exact ⟨rfl, B7.out⟩
        · have e1 : decide (d + st' ≤ hi) = false := decide_eq_false q1
          by_cases q4 : lo ≤ d
          · rw [if_neg (fun t => q1 t.1), if_pos q4] at er
            subst er
            go_wp2_with fail
            refine (HDo.out _).mono ?_
            rintro e w10 ⟨rfl, h10⟩
            obtain rfl : wc = w10 := h10.symm
            go_wp2_with fail
            go_meet
            case rel => exact ⟨rfl, B7.out⟩
          · have e4 : decide (lo ≤ d) = false := decide_eq_false q4
            rw [if_neg (fun t => q1 t.1), if_neg q4] at er
            subst er
            go_wp2_with fail
            refine (HDo.out _).mono ?_
            rintro e w10 ⟨rfl, h10⟩
            obtain rfl : wc = w10 := h10.symm
            go_wp2_with fail
            go_meet
            case rel => exact ⟨rfl, B7.out⟩
    case rest =>
    obtain ⟨rfl, B8⟩ := hcut
    clear B7
    by_cases f : own = some rk
    · rw [if_pos f] at ET
      subst f
      obtain rfl : true = y := hy.out
      have e1 : rk = z := hzz.out
      subst e1
      have ES : Hid (s = txt rt) := by show _ = _; rw [ET.out]; exact (txt_back s).symm
      clear ET
      go_wp2_with fail
      go_ret
      exact ⟨ret_txt ES.out, B8.out⟩
    · rw [if_neg f] at ET
      have ES : Hid (txt (showL rk) = txt rt) := by show _ = _; rw [ET.out]
      generalize txt (showL rk) = x at *
      clear ET
      cases own with
      | none =>
        obtain rfl : false = y := hy.out
        clear f
        go_wp2_with fail
        refine (HSh.out _).mono ?_
        rintro e w9 ⟨rfl, b9⟩
        go_wp2_with fail
        go_ret
        exact ⟨ret_txt ES.out, chain B8.out b9⟩
      | some m =>
        obtain rfl : true = y := hy.out
        have e1 : m = z := hzz.out
        subst e1
        have nf : (rk == m) = false := beq_eq_false_iff_ne.2 (fun t => f (by rw [t]))
        clear f
        go_wp2_with fail
        refine (HSh.out _).mono ?_
        rintro e w9 ⟨rfl, b9⟩
        go_wp2_with fail
        go_ret
        exact ⟨ret_txt ES.out, chain B8.out b9⟩
end Go.Proofs.YtfjfkkbgkjmghaaGreatDoor

namespace Go.Proofs.YtfjfkkbgkjmghaaGreatDoor
open Go.RowKit
set_option maxRecDepth 100000
structure StTabs (w : World) : Prop where
  mom : Tabs w
  max : SomeMax w
  unit : Units w
theorem StTabs.below {w w' : World} (h : StTabs w) (hb : Below w.heap.size w w') : StTabs w' := ⟨h.mom.below hb, h.max.below hb, h.unit.below hb⟩
theorem row_mom {k : Int} (h : 8 ≤ k ∧ k ≤ 12) : rowU k = .agg #[.int .i64 (k - 7), .int .i64 (scaleK k), .int .i64 (defK k)] := by
  unfold rowU momK
  rw [if_pos (by omega), if_pos (by omega)]
theorem row_out {k : Int} (h : ¬ (8 ≤ k ∧ k ≤ 14)) : rowU k = .agg #[.int .i64 0, .int .i64 0, .int .i64 0] := if_neg h
set_option maxHeartbeats 4000000 in
set_option maxRecDepth 100000 in
theorem stValue_mom (k : Int) (s : ByteArray) (w : World) (hs : s.size ≤ 100000) (hT : StTabs w) (h : 8 ≤ k ∧ k ≤ 12) :
    Calls Tryz.prog 85 #[.int .i64 k, .string s] w fun e w' => e = .returned (optV (numK k s.data.toList)) ∧ Below w.heap.size w w' := by
  have E1 : Hid (numK k s.data.toList = momT (k - 7) s.data.toList) := by show _ = _; unfold numK; rw [if_neg (by omega), if_pos h]
  have E2 := hide (mom_opt (k := k - 7) (by omega) s.data.toList)
  have HU := hide (unitOf_any k w hT.unit)
  rw [row_mom h] at HU
  have HP := hide (fun W (hb : Below w.heap.size w W) => momParse_any (k - 7) s W hs (hT.below hb).mom)
  have m1 : ¬ k - 7 = 0 := by omega
  generalize k - 7 = m at *
  generalize scaleK k = sc at *
  generalize defK k = de at *
  have m2 : (m == 0) = false := beq_eq_false_iff_ne.2 m1
  generalize momV m s.data.toList = r at *
  clear h hT
  go_enter Tryz.func85, Tryz.ntmps85
  go_wp2_with fail
  refine HU.out.mono ?_
  rintro e u1 ⟨rfl, b1⟩
  go_wp2_with fail
  refine (HP.out _ (b1.alloc b1.size _)).mono ?_
  rintro e u2 ⟨rfl, b2⟩
  go_wp2_with fail
  go_ret2
  exact ⟨by rw [E1.out]; exact ret_opt E2.out.1 E2.out.2, chain (b1.alloc b1.size _) b2⟩
set_option maxHeartbeats 4000000 in
set_option maxRecDepth 100000 in
theorem stValue_13 (s : ByteArray) (w : World) (hs : s.size ≤ 100000) (hT : StTabs w) :
    Calls Tryz.prog 85 #[.int .i64 13, .string s] w fun e w' => e = .returned (optV (numK 13 s.data.toList)) ∧ Below w.heap.size w w' := by
  have E1 : Hid (numK 13 s.data.toList = okP (parseV s.data.toList)) := if_pos (by decide)
  have E2 := hide (parse_opt s.data.toList)
  have HU := hide (unitOf_13 w hT.unit)
  have HP := hide (fun W (hb : Below w.heap.size w W) => parse_any s W (by omega) (hT.below hb).max)
  generalize parseV s.data.toList = r at *
  clear hT
  go_enter Tryz.func85, Tryz.ntmps85
  go_wp2_with fail
  refine HU.out.mono ?_
  rintro e u1 ⟨rfl, b1⟩
  go_wp2_with fail
  refine (HP.out _ (b1.alloc b1.size _)).mono ?_
  rintro e u2 ⟨rfl, b2⟩
  go_wp2_with fail
  go_ret2
  exact ⟨by rw [E1.out]; exact ret_opt E2.out.1 E2.out.2, chain (b1.alloc b1.size _) b2⟩
set_option maxHeartbeats 4000000 in
set_option maxRecDepth 100000 in
theorem stValue_14 (s : ByteArray) (w : World) (hs : s.size ≤ 100000) (hT : StTabs w) :
    Calls Tryz.prog 85 #[.int .i64 14, .string s] w fun e w' => e = .returned (optV (numK 14 s.data.toList)) ∧ Below w.heap.size w w' := by
  have E1 : Hid (numK 14 s.data.toList = okP (parseV s.data.toList)) := if_pos (by decide)
  have E2 := hide (parse_opt s.data.toList)
  have HU := hide (unitOf_14 w hT.unit)
  have HP := hide (fun W (hb : Below w.heap.size w W) => parse_any s W (by omega) (hT.below hb).max)
  generalize parseV s.data.toList = r at *
  clear hT
  go_enter Tryz.func85, Tryz.ntmps85
  go_wp2_with fail
  refine HU.out.mono ?_
  rintro e u1 ⟨rfl, b1⟩
  go_wp2_with fail
  refine (HP.out _ (b1.alloc b1.size _)).mono ?_
  rintro e u2 ⟨rfl, b2⟩
  go_wp2_with fail
  go_ret2
  exact ⟨by rw [E1.out]; exact ret_opt E2.out.1 E2.out.2, chain (b1.alloc b1.size _) b2⟩
set_option maxHeartbeats 4000000 in
set_option maxRecDepth 100000 in
theorem stValue_out (k : Int) (s : ByteArray) (w : World) (hT : StTabs w) (h : ¬ (8 ≤ k ∧ k ≤ 14)) :
    Calls Tryz.prog 85 #[.int .i64 k, .string s] w fun e w' => e = .returned (optV (numK k s.data.toList)) ∧ Below w.heap.size w w' := by
  have E1 : Hid (numK k s.data.toList = none) := by show _ = _; unfold numK; rw [if_neg (by omega), if_neg (by omega)]
  have HU := hide (unitOf_any k w hT.unit)
  rw [row_out h] at HU
  clear hT h
  go_enter Tryz.func85, Tryz.ntmps85
  go_wp2_with fail
  refine HU.out.mono ?_
  rintro e u1 ⟨rfl, b1⟩
  go_wp2_with fail
  go_ret2
  exact ⟨by rw [E1.out]; rfl, b1.alloc b1.size _⟩
theorem stValue_any (k : Int) (s : ByteArray) (w : World) (hs : s.size ≤ 100000) (hT : StTabs w) :
    Calls Tryz.prog 85 #[.int .i64 k, .string s] w fun e w' => e = .returned (optV (numK k s.data.toList)) ∧ Below w.heap.size w w' := by
  by_cases h : 8 ≤ k ∧ k ≤ 14
  · by_cases q : k ≤ 12
    · exact stValue_mom k s w hs hT ⟨h.1, q⟩
    · rcases (show k = 13 ∨ k = 14 by omega) with rfl | rfl
      · exact stValue_13 s w hs hT
      · exact stValue_14 s w hs hT
  · exact stValue_out k s w hT h
set_option maxHeartbeats 4000000 in
set_option maxRecDepth 100000 in
theorem showNumber_in (n : Int) (w : World) (n1 : -1000000000000000000 ≤ n) (n2 : n ≤ 1000000000000000000) (hT : Tens w) :
    Calls Tryz.prog 118 #[.int .i64 n] w fun e w' => e = .returned (.tuple #[.string (txt (showL n)), .bool true]) ∧ Below w.heap.size w w' := by
  have HS := hide (show_any n w (by omega) (by omega) hT)
  generalize txt (showL n) = t at *
  have g1 : ¬ 1000000000000000000 < n := by omega
  have g2 : ¬ n < -1000000000000000000 := by omega
  have d1 : decide (1000000000000000000 < n) = false := decide_eq_false g1
  have d2 : decide (n < -1000000000000000000) = false := decide_eq_false g2
  go_enter Tryz.func118, Tryz.ntmps118
  go_wp2_with fail
  refine HS.out.mono ?_
  rintro e u1 ⟨rfl, b1⟩
  go_wp2_with fail
  go_ret2
  exact ⟨rfl, b1⟩
set_option maxHeartbeats 4000000 in
set_option maxRecDepth 100000 in
theorem showNumber_out (n : Int) (w : World) (h : ¬ (-1000000000000000000 ≤ n ∧ n ≤ 1000000000000000000)) :
    Calls Tryz.prog 118 #[.int .i64 n] w fun e w' => e = .returned (.tuple #[.string ⟨#[]⟩, .bool false]) ∧ Below w.heap.size w w' := by
  rcases (show n < -1000000000000000000 ∨ 1000000000000000000 < n by omega) with q | q
  · clear h
    go_enter Tryz.func118, Tryz.ntmps118
    go_wp2_with fail
    go_ret2
    exact ⟨rfl, Below.refl _ _⟩
  · have g2 : ¬ n < -1000000000000000000 := by omega
    have d2 : decide (n < -1000000000000000000) = false := decide_eq_false g2
    clear h
    go_enter Tryz.func118, Tryz.ntmps118
    go_wp2_with fail
    go_ret2
    exact ⟨rfl, Below.refl _ _⟩
set_option maxHeartbeats 4000000 in
set_option maxRecDepth 100000 in
theorem stShow_13 (n : Int) (t : ByteArray) (b : Bool) (w : World) (hT : StTabs w) (h : ∀ W, Below w.heap.size w W → Calls Tryz.prog 118 #[.int .i64 n] W fun e w' => e = .returned (.tuple #[.string t, .bool b]) ∧ Below W.heap.size W w') :
    Calls Tryz.prog 86 #[.int .i64 13, .int .i64 n] w fun e w' => e = .returned (.tuple #[.string t, .bool b]) ∧ Below w.heap.size w w' := by
  have HU := hide (unitOf_13 w hT.unit)
  have HP := hide h
  clear hT h
  go_enter Tryz.func86, Tryz.ntmps86
  go_wp2_with fail
  refine HU.out.mono ?_
  rintro e u1 ⟨rfl, b1⟩
  go_wp2_with fail
  refine (HP.out _ (b1.alloc b1.size _)).mono ?_
  rintro e u2 ⟨rfl, b2⟩
  go_wp2_with fail
  go_ret2
  exact ⟨rfl, chain (b1.alloc b1.size _) b2⟩
set_option maxHeartbeats 4000000 in
set_option maxRecDepth 100000 in
theorem stShow_14 (n : Int) (t : ByteArray) (b : Bool) (w : World) (hT : StTabs w) (h : ∀ W, Below w.heap.size w W → Calls Tryz.prog 118 #[.int .i64 n] W fun e w' => e = .returned (.tuple #[.string t, .bool b]) ∧ Below W.heap.size W w') :
    Calls Tryz.prog 86 #[.int .i64 14, .int .i64 n] w fun e w' => e = .returned (.tuple #[.string t, .bool b]) ∧ Below w.heap.size w w' := by
  have HU := hide (unitOf_14 w hT.unit)
  have HP := hide h
  clear hT h
  go_enter Tryz.func86, Tryz.ntmps86
  go_wp2_with fail
  refine HU.out.mono ?_
  rintro e u1 ⟨rfl, b1⟩
  go_wp2_with fail
  refine (HP.out _ (b1.alloc b1.size _)).mono ?_
  rintro e u2 ⟨rfl, b2⟩
  go_wp2_with fail
  go_ret2
  exact ⟨rfl, chain (b1.alloc b1.size _) b2⟩
set_option maxHeartbeats 4000000 in
set_option maxRecDepth 100000 in
theorem stShow_mom (k n : Int) (t : ByteArray) (c : Int) (b : Bool) (w : World) (hT : StTabs w) (h : 8 ≤ k ∧ k ≤ 12) (hc : (c == 0) = b) (hS : ∀ W, Below w.heap.size w W → Calls Tryz.prog 119 #[.int .i64 (k - 7), .int .i64 n] W fun e w' => e = .returned (.tuple #[.string t, .int .i64 c]) ∧ Below W.heap.size W w') :
    Calls Tryz.prog 86 #[.int .i64 k, .int .i64 n] w fun e w' => e = .returned (.tuple #[.string t, .bool b]) ∧ Below w.heap.size w w' := by
  have HU := hide (unitOf_any k w hT.unit)
  rw [row_mom h] at HU
  have HP := hide hS
  have m1 : ¬ k - 7 = 0 := by omega
  generalize k - 7 = m at *
  generalize scaleK k = sc at *
  generalize defK k = de at *
  have m2 : (m == 0) = false := beq_eq_false_iff_ne.2 m1
  clear h hT hS
  go_enter Tryz.func86, Tryz.ntmps86
  go_wp2_with fail
  refine HU.out.mono ?_
  rintro e u1 ⟨rfl, b1⟩
  go_wp2_with fail
  refine (HP.out _ (b1.alloc b1.size _)).mono ?_
  rintro e u2 ⟨rfl, b2⟩
  go_wp2_with fail
  go_ret2
  exact ⟨rfl, chain (b1.alloc b1.size _) b2⟩
set_option maxHeartbeats 4000000 in
set_option maxRecDepth 100000 in
theorem stShow_out (k n : Int) (w : World) (hT : StTabs w) (h : ¬ (8 ≤ k ∧ k ≤ 14)) :
    Calls Tryz.prog 86 #[.int .i64 k, .int .i64 n] w fun e w' => e = .returned (.tuple #[.string ⟨#[]⟩, .bool false]) ∧ Below w.heap.size w w' := by
  have HU := hide (unitOf_any k w hT.unit)
  rw [row_out h] at HU
  clear hT h
  go_enter Tryz.func86, Tryz.ntmps86
  go_wp2_with fail
  refine HU.out.mono ?_
  rintro e u1 ⟨rfl, b1⟩
  go_wp2_with fail
  go_ret2
  exact ⟨rfl, b1.alloc b1.size _⟩
theorem stShow_any {k n : Int} {o : Option (List UInt8)} (h : ShK k n o) (w : World) (n1 : -9223372036854775808 ≤ n) (n2 : n ≤ 9223372036854775807) (hT : StTabs w) :
    Calls Tryz.prog 86 #[.int .i64 k, .int .i64 n] w fun e w' => e = .returned (txtV o) ∧ Below w.heap.size w w' := by
  rcases h with ⟨h, h1⟩ | ⟨h, h1⟩ | ⟨h, rfl⟩
  · rcases h1 with ⟨q1, q2, rfl⟩ | ⟨q, rfl⟩
    · rcases h with rfl | rfl
      · exact stShow_13 n _ _ w hT fun W hb => showNumber_in n W q1 q2 (hT.below hb).mom.2
      · exact stShow_14 n _ _ w hT fun W hb => showNumber_in n W q1 q2 (hT.below hb).mom.2
    · rcases h with rfl | rfl
      · exact stShow_13 n _ _ w hT fun W _ => showNumber_out n W q
      · exact stShow_14 n _ _ w hT fun W _ => showNumber_out n W q
  · rcases h1 with ⟨t, ht, rfl⟩ | ⟨hn, rfl⟩
    · exact stShow_mom k n _ 0 true w hT h rfl fun W hb => momShow_yes ht W n1 n2 (hT.below hb).mom
    · exact stShow_mom k n _ 2 false w hT h rfl fun W hb => momShow_no hn W n1 n2 (hT.below hb).mom
  · exact stShow_out k n w hT h

end Go.Proofs.YtfjfkkbgkjmghaaGreatDoor
