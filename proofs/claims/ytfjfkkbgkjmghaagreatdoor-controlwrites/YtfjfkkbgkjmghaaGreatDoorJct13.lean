/- The document's scale, Step, Fits of layer 12. -/
import Derived.Test.YtfjfkkbgkjmghaaGreatDoorJct11
import Derived.Test.YtfjfkkbgkjmghaaGreatDoorJct12

namespace Go.Proofs.YtfjfkkbgkjmghaaGreatDoor
open Go.RowKit
set_option maxRecDepth 100000
theorem lit_decK (a : ByteArray) (l : List UInt8) : (a.toList == l) = decide (a = ⟨l.toArray⟩) := by
  rw [Bool.eq_iff_iff, beq_iff_eq, decide_eq_true_eq, ByteArray.toList_eq]
  constructor
  · intro e
    apply ByteArray.ext
    exact Array.ext' e
  · intro e; rw [e]
theorem refScale_8 (w : World) : Calls Tryz.prog 104 #[.int .i64 8] w fun e w' => e = .returned (.int .i64 86400000) ∧ w' = w := by
  go_enter Tryz.func104, Tryz.ntmps104
  go_wp2_with fail
  go_ret
  exact ⟨rfl, rfl⟩
theorem refScale_9 (w : World) : Calls Tryz.prog 104 #[.int .i64 9] w fun e w' => e = .returned (.int .i64 1) ∧ w' = w := by
  go_enter Tryz.func104, Tryz.ntmps104
  go_wp2_with fail
  go_ret
  exact ⟨rfl, rfl⟩
theorem refScale_10 (w : World) : Calls Tryz.prog 104 #[.int .i64 10] w fun e w' => e = .returned (.int .i64 604800000) ∧ w' = w := by
  go_enter Tryz.func104, Tryz.ntmps104
  go_wp2_with fail
  go_ret
  exact ⟨rfl, rfl⟩
theorem refScale_11 (w : World) : Calls Tryz.prog 104 #[.int .i64 11] w fun e w' => e = .returned (.int .i64 1000) ∧ w' = w := by
  go_enter Tryz.func104, Tryz.ntmps104
  go_wp2_with fail
  go_ret
  exact ⟨rfl, rfl⟩
theorem refScale_12 (w : World) : Calls Tryz.prog 104 #[.int .i64 12] w fun e w' => e = .returned (.int .i64 1000) ∧ w' = w := by
  go_enter Tryz.func104, Tryz.ntmps104
  go_wp2_with fail
  go_ret
  exact ⟨rfl, rfl⟩
theorem refScale_13 (w : World) : Calls Tryz.prog 104 #[.int .i64 13] w fun e w' => e = .returned (.int .i64 1000000) ∧ w' = w := by
  go_enter Tryz.func104, Tryz.ntmps104
  go_wp2_with fail
  go_ret
  exact ⟨rfl, rfl⟩
theorem refScale_14 (w : World) : Calls Tryz.prog 104 #[.int .i64 14] w fun e w' => e = .returned (.int .i64 1000000) ∧ w' = w := by
  go_enter Tryz.func104, Tryz.ntmps104
  go_wp2_with fail
  go_ret
  exact ⟨rfl, rfl⟩
set_option maxHeartbeats 4000000 in
set_option maxRecDepth 100000 in
theorem refStep_8 (v : Value) (ax : List (ByteArray × ByteArray)) (w : World) (hv : AttrsV w v ax) (hz : AxOK ax) :
    Calls Tryz.prog 74 #[.int .i64 8, v] w fun e w' => e = .returned (optV (stepK 8 ax)) ∧ Below w.heap.size w w' := by
  have HF := hide (refFind_any v ax stepS w hv hz.len)
  obtain ⟨p, c, rfl, hv⟩ := hv
  have DF : Hid (defK 8 = 86400000) := by show _ = _; decide
  have SC : Hid (scaleK 8 = 86400000) := by show _ = _; decide
  cases hf : findA ax stepS with
  | none =>
    rw [hf, show findV none = -1 from rfl, show stepS = ⟨#[115, 116, 101, 112]⟩ from rfl] at HF
    have E : Hid (stepK 8 ax = some 86400000) := by show _ = _; unfold stepK; rw [if_pos (by decide), hf, DF.out]
    clear hf hv hz SC
    go_enter Tryz.func74, Tryz.ntmps74
    go_wp2_with fail
    refine (refScale_8 _).mono ?_
    rintro e u0 ⟨rfl, hu0⟩
    obtain rfl : w = u0 := hu0.symm
    go_wp2_with fail
    refine HF.out.mono ?_
    rintro e u ⟨rfl, hu⟩
    obtain rfl : w = u := hu.symm
    go_wp2_with fail
    go_ret2
    exact ⟨by rw [E.out]; rfl, Below.refl _ _⟩
  | some i =>
    obtain ⟨hi, _, _⟩ := List.findIdx?_eq_some_iff_getElem.1 (show ax.findIdx? (isN stepS) = some i from hf)
    obtain ⟨t, ht⟩ : ∃ t, Hid (ax[i].2 = t) := ⟨_, show _ = _ from rfl⟩
    have E : Hid (stepK 8 ax = if lowS t = anyS then none else some (stepOf 8 (okP (parseV t.data.toList)))) := by
      show _ = _
      unfold stepK
      rw [if_pos (by decide), hf, ← ht.out]
      show (if lowS (ax.getD i at0).2 = anyS then none else some (stepOf 8 (okP (parseV (ax.getD i at0).2.data.toList)))) = _
      rw [show ax.getD i at0 = ax[i] by simp [List.getD, hi]]
    rw [hf, show findV (some i) = (i : Int) from rfl, show stepS = ⟨#[115, 116, 101, 112]⟩ from rfl] at HF
    obtain ⟨b, o, rfl, hv2⟩ : ∃ b o, p = some ⟨b, o, none⟩ ∧ ∀ i (h : i < ax.length), w.cell? ⟨b, o + i * 2, none⟩ = some (.string ax[i].1) ∧ w.cell? ⟨b, o + i * 2 + 1, none⟩ = some (.string ax[i].2) := by
      rcases hv with t | t
      · rw [t] at hi; simp at hi
      · exact t
    have ts := hz.val _ (List.getElem_mem hi)
    have c1 := (hv2 i hi).2
    rw [ht.out] at c1 ts
    have HL := hide (fun W => refLower_any t W (by omega))
    have HP := hide (fun W => refParse_any t W (by omega))
    have PR := hide (fun n => parse_range (l := t.data.toList) (n := n))
    have PO := hide (parse_out t.data.toList)
    have i0 : (0 : Int) ≤ (i : Int) := by omega
    have i1 : (i : Int) < (ax.length : Int) := by omega
    have i2 : ¬ (i : Int) < 0 := by omega
    generalize parseV t.data.toList = r at *
    generalize stepK 8 ax = L at *
    clear hf hv hv2 hz ht
    have TL := hide (lit_decK (lowS t) [97, 110, 121])
    by_cases q : lowS t = anyS
    · have f1 : ((lowS t).toList == [97, 110, 121]) = true := by rw [TL.out]; exact decide_eq_true q
      have e : L = none := by rw [E.out, if_pos q]
      subst e
      generalize lowS t = lt at *
      clear q E
      go_enter Tryz.func74, Tryz.ntmps74
      go_wp2_with fail
      refine (refScale_8 _).mono ?_
      rintro e u0 ⟨rfl, hu0⟩
      obtain rfl : w = u0 := hu0.symm
      go_wp2_with fail
      refine HF.out.mono ?_
      rintro e u ⟨rfl, hu⟩
      obtain rfl : w = u := hu.symm
      go_wp2_with fail
      refine (HL.out _).mono ?_
      rintro e u1 ⟨rfl, b1⟩
      have c2 := cell_below c1 b1
      go_wp2_with fail
      go_ret2
      exact ⟨rfl, b1⟩
    · have f1 : ((lowS t).toList == [97, 110, 121]) = false := by rw [TL.out]; exact decide_eq_false q
      have e : L = some (stepOf 8 (okP r)) := by rw [E.out, if_neg q]
      generalize lowS t = lt at *
      clear q E
      obtain ⟨n, ec⟩ := r
      have WAY : (∃ z, Hid (L = some z) ∧ Hid (z = 86400000) ∧ ((ec == 0) = false ∨ ((ec == 0) = true ∧ n ≤ 0) ∨ ((ec == 0) = true ∧ 0 < n ∧ 11574074074 < n / 1000000) ∨ ((ec == 0) = true ∧ 0 < n ∧ ¬ 11574074074 < n / 1000000 ∧ ((n / 1000000 * 86400000 + n % 1000000 * 86400000 / 1000000) = 0 ∨ 1000000000000000000 < (n / 1000000 * 86400000 + n % 1000000 * 86400000 / 1000000)))) ∧ n ≤ 1000000000000000000) ∨ ((ec == 0) = true ∧ 0 < n ∧ n ≤ 1000000000000000000 ∧ ¬ 11574074074 < n / 1000000 ∧ ¬ (n / 1000000 * 86400000 + n % 1000000 * 86400000 / 1000000) = 0 ∧ ¬ 1000000000000000000 < (n / 1000000 * 86400000 + n % 1000000 * 86400000 / 1000000) ∧ Hid (L = some (n / 1000000 * 86400000 + n % 1000000 * 86400000 / 1000000))) := by
        by_cases h0 : ec = 0
        · have ok : okP (n, ec) = some n := if_pos h0
          have rg := PR.out n ok
          rw [ok] at e
          have eb : (ec == 0) = true := by rw [h0]; rfl
          have eo : outN 8 n = (n / 1000000 * 86400000 + n % 1000000 * 86400000 / 1000000) := by unfold outN; rw [SC.out]
          have es : stepOf 8 (some n) = stepN 8 n := rfl
          rw [es] at e
          unfold stepN at e
          rw [DF.out, SC.out, eo, show (1000000000000000000 : Int) / 86400000 = 11574074074 from by decide] at e
          by_cases h1 : n ≤ 0
          · rw [if_pos h1] at e
            exact .inl ⟨_, e, rfl, .inr (.inl ⟨eb, h1⟩), rg.2⟩
          · rw [if_neg h1] at e
            by_cases h2 : 11574074074 < n / 1000000
            · rw [if_pos h2] at e
              exact .inl ⟨_, e, rfl, .inr (.inr (.inl ⟨eb, by omega, h2⟩)), rg.2⟩
            · rw [if_neg h2] at e
              by_cases h3 : (n / 1000000 * 86400000 + n % 1000000 * 86400000 / 1000000) = 0 ∨ 1000000000000000000 < (n / 1000000 * 86400000 + n % 1000000 * 86400000 / 1000000)
              · rw [if_pos h3] at e
                exact .inl ⟨_, e, rfl, .inr (.inr (.inr ⟨eb, by omega, h2, h3⟩)), rg.2⟩
              · rw [if_neg h3] at e
                exact .inr ⟨eb, by omega, rg.2, h2, fun q => h3 (.inl q), fun q => h3 (.inr q), e⟩
        · have ok : okP (n, ec) = none := if_neg h0
          rw [ok, show stepOf 8 none = defK 8 from rfl, DF.out] at e
          have z : n = 0 := by
            rcases PO.out with t | t
            · exact absurd t h0
            · exact t
          exact .inl ⟨_, e, rfl, .inl (beq_eq_false_iff_ne.2 h0), by omega⟩
      clear e PR PO DF SC
      rcases WAY with ⟨z, E, Z, W, rg⟩ | ⟨eb, h1, rg, h2, h3, h4, E⟩
      · rcases W with eb | ⟨eb, h1⟩ | ⟨eb, h1, h2⟩ | ⟨eb, h1, h2, h3⟩
        · have nz : ¬ ec = 0 := beq_eq_false_iff_ne.1 eb
          go_enter Tryz.func74, Tryz.ntmps74
          go_wp2_with fail
          refine (refScale_8 _).mono ?_
          rintro e u0 ⟨rfl, hu0⟩
          obtain rfl : w = u0 := hu0.symm
          go_wp2_with fail
          refine HF.out.mono ?_
          rintro e u ⟨rfl, hu⟩
          obtain rfl : w = u := hu.symm
          go_wp2_with fail
          refine (HL.out _).mono ?_
          rintro e u1 ⟨rfl, b1⟩
          have c2 := cell_below c1 b1
          go_wp2_with fail
          refine (HP.out _).mono ?_
          rintro e u2 ⟨rfl, hu2⟩
          obtain rfl : u1 = u2 := hu2.symm
          go_wp2_with fail
          go_ret2
          exact ⟨by rw [E.out, Z.out]; rfl, b1⟩
        · have nb : (ec != 0) = false := by unfold bne; rw [eb]; rfl
          go_enter Tryz.func74, Tryz.ntmps74
          go_wp2_with fail
          refine (refScale_8 _).mono ?_
          rintro e u0 ⟨rfl, hu0⟩
          obtain rfl : w = u0 := hu0.symm
          go_wp2_with fail
          refine HF.out.mono ?_
          rintro e u ⟨rfl, hu⟩
          obtain rfl : w = u := hu.symm
          go_wp2_with fail
          refine (HL.out _).mono ?_
          rintro e u1 ⟨rfl, b1⟩
          have c2 := cell_below c1 b1
          go_wp2_with fail
          refine (HP.out _).mono ?_
          rintro e u2 ⟨rfl, hu2⟩
          obtain rfl : u1 = u2 := hu2.symm
          go_wp2_with fail
          go_ret2
          exact ⟨by rw [E.out, Z.out]; rfl, b1⟩
        · have h0 : ¬ n ≤ 0 := by omega
          have nb : (ec != 0) = false := by unfold bne; rw [eb]; rfl
          go_enter Tryz.func74, Tryz.ntmps74
          go_wp2_with fail
          refine (refScale_8 _).mono ?_
          rintro e u0 ⟨rfl, hu0⟩
          obtain rfl : w = u0 := hu0.symm
          go_wp2_with fail
          refine HF.out.mono ?_
          rintro e u ⟨rfl, hu⟩
          obtain rfl : w = u := hu.symm
          go_wp2_with fail
          refine (HL.out _).mono ?_
          rintro e u1 ⟨rfl, b1⟩
          have c2 := cell_below c1 b1
          go_wp2_with fail
          refine (HP.out _).mono ?_
          rintro e u2 ⟨rfl, hu2⟩
          obtain rfl : u1 = u2 := hu2.symm
          go_wp2_with fail
          refine (refScale_8 _).mono ?_
          rintro e u9 ⟨rfl, hu9⟩
          obtain rfl : u1 = u9 := hu9.symm
          go_wp2_with fail
          go_ret2
          exact ⟨by rw [E.out, Z.out]; rfl, b1⟩
        · have h0 : ¬ n ≤ 0 := by omega
          have nb : (ec != 0) = false := by unfold bne; rw [eb]; rfl
          rcases h3 with h3 | h3
          · exfalso; omega
          · have z0 : ((n / 1000000 * 86400000 + n % 1000000 * 86400000 / 1000000) == 0) = false := by rw [beq_eq_false_iff_ne]; omega
            go_enter Tryz.func74, Tryz.ntmps74
            go_wp2_with fail
            refine (refScale_8 _).mono ?_
            rintro e u0 ⟨rfl, hu0⟩
            obtain rfl : w = u0 := hu0.symm
            go_wp2_with fail
            refine HF.out.mono ?_
            rintro e u ⟨rfl, hu⟩
            obtain rfl : w = u := hu.symm
            go_wp2_with fail
            refine (HL.out _).mono ?_
            rintro e u1 ⟨rfl, b1⟩
            have c2 := cell_below c1 b1
            go_wp2_with fail
            refine (HP.out _).mono ?_
            rintro e u2 ⟨rfl, hu2⟩
            obtain rfl : u1 = u2 := hu2.symm
            go_wp2_with fail
            refine (refScale_8 _).mono ?_
            rintro e u9 ⟨rfl, hu9⟩
            obtain rfl : u1 = u9 := hu9.symm
            go_wp2_with fail
            go_ret2
            exact ⟨by rw [E.out, Z.out]; rfl, b1⟩
      · have h0 : ¬ n ≤ 0 := by omega
        have nb : (ec != 0) = false := by unfold bne; rw [eb]; rfl
        have z0 : ((n / 1000000 * 86400000 + n % 1000000 * 86400000 / 1000000) == 0) = false := beq_eq_false_iff_ne.2 (by omega)
        have y0 : ¬ 1000000000000000000 < (n / 1000000 * 86400000 + n % 1000000 * 86400000 / 1000000) := by omega
        go_enter Tryz.func74, Tryz.ntmps74
        go_wp2_with fail
        refine (refScale_8 _).mono ?_
        rintro e u0 ⟨rfl, hu0⟩
        obtain rfl : w = u0 := hu0.symm
        go_wp2_with fail
        refine HF.out.mono ?_
        rintro e u ⟨rfl, hu⟩
        obtain rfl : w = u := hu.symm
        go_wp2_with fail
        refine (HL.out _).mono ?_
        rintro e u1 ⟨rfl, b1⟩
        have c2 := cell_below c1 b1
        go_wp2_with fail
        refine (HP.out _).mono ?_
        rintro e u2 ⟨rfl, hu2⟩
        obtain rfl : u1 = u2 := hu2.symm
        go_wp2_with fail
        refine (refScale_8 _).mono ?_
        rintro e u9 ⟨rfl, hu9⟩
        obtain rfl : u1 = u9 := hu9.symm
        go_wp2_with fail
        go_ret2
        exact ⟨by rw [E.out]; exact ret_opt (show (n / 1000000 * 86400000 + n % 1000000 * 86400000 / 1000000) = (n / 1000000 * 86400000 + n % 1000000 * 86400000 / 1000000) by omega) rfl, b1⟩
set_option maxHeartbeats 4000000 in
set_option maxRecDepth 100000 in
theorem refStep_9 (v : Value) (ax : List (ByteArray × ByteArray)) (w : World) (hv : AttrsV w v ax) (hz : AxOK ax) :
    Calls Tryz.prog 74 #[.int .i64 9, v] w fun e w' => e = .returned (optV (stepK 9 ax)) ∧ Below w.heap.size w w' := by
  have HF := hide (refFind_any v ax stepS w hv hz.len)
  obtain ⟨p, c, rfl, hv⟩ := hv
  have DF : Hid (defK 9 = 1) := by show _ = _; decide
  have SC : Hid (scaleK 9 = 1) := by show _ = _; decide
  cases hf : findA ax stepS with
  | none =>
    rw [hf, show findV none = -1 from rfl, show stepS = ⟨#[115, 116, 101, 112]⟩ from rfl] at HF
    have E : Hid (stepK 9 ax = some 1) := by show _ = _; unfold stepK; rw [if_pos (by decide), hf, DF.out]
    clear hf hv hz SC
    go_enter Tryz.func74, Tryz.ntmps74
    go_wp2_with fail
    refine (refScale_9 _).mono ?_
    rintro e u0 ⟨rfl, hu0⟩
    obtain rfl : w = u0 := hu0.symm
    go_wp2_with fail
    refine HF.out.mono ?_
    rintro e u ⟨rfl, hu⟩
    obtain rfl : w = u := hu.symm
    go_wp2_with fail
    go_ret2
    exact ⟨by rw [E.out]; rfl, Below.refl _ _⟩
  | some i =>
    obtain ⟨hi, _, _⟩ := List.findIdx?_eq_some_iff_getElem.1 (show ax.findIdx? (isN stepS) = some i from hf)
    obtain ⟨t, ht⟩ : ∃ t, Hid (ax[i].2 = t) := ⟨_, show _ = _ from rfl⟩
    have E : Hid (stepK 9 ax = if lowS t = anyS then none else some (stepOf 9 (okP (parseV t.data.toList)))) := by
      show _ = _
      unfold stepK
      rw [if_pos (by decide), hf, ← ht.out]
      show (if lowS (ax.getD i at0).2 = anyS then none else some (stepOf 9 (okP (parseV (ax.getD i at0).2.data.toList)))) = _
      rw [show ax.getD i at0 = ax[i] by simp [List.getD, hi]]
    rw [hf, show findV (some i) = (i : Int) from rfl, show stepS = ⟨#[115, 116, 101, 112]⟩ from rfl] at HF
    obtain ⟨b, o, rfl, hv2⟩ : ∃ b o, p = some ⟨b, o, none⟩ ∧ ∀ i (h : i < ax.length), w.cell? ⟨b, o + i * 2, none⟩ = some (.string ax[i].1) ∧ w.cell? ⟨b, o + i * 2 + 1, none⟩ = some (.string ax[i].2) := by
      rcases hv with t | t
      · rw [t] at hi; simp at hi
      · exact t
    have ts := hz.val _ (List.getElem_mem hi)
    have c1 := (hv2 i hi).2
    rw [ht.out] at c1 ts
    have HL := hide (fun W => refLower_any t W (by omega))
    have HP := hide (fun W => refParse_any t W (by omega))
    have PR := hide (fun n => parse_range (l := t.data.toList) (n := n))
    have PO := hide (parse_out t.data.toList)
    have i0 : (0 : Int) ≤ (i : Int) := by omega
    have i1 : (i : Int) < (ax.length : Int) := by omega
    have i2 : ¬ (i : Int) < 0 := by omega
    generalize parseV t.data.toList = r at *
    generalize stepK 9 ax = L at *
    clear hf hv hv2 hz ht
    have TL := hide (lit_decK (lowS t) [97, 110, 121])
    by_cases q : lowS t = anyS
    · have f1 : ((lowS t).toList == [97, 110, 121]) = true := by rw [TL.out]; exact decide_eq_true q
      have e : L = none := by rw [E.out, if_pos q]
      subst e
      generalize lowS t = lt at *
      clear q E
      go_enter Tryz.func74, Tryz.ntmps74
      go_wp2_with fail
      refine (refScale_9 _).mono ?_
      rintro e u0 ⟨rfl, hu0⟩
      obtain rfl : w = u0 := hu0.symm
      go_wp2_with fail
      refine HF.out.mono ?_
      rintro e u ⟨rfl, hu⟩
      obtain rfl : w = u := hu.symm
      go_wp2_with fail
      refine (HL.out _).mono ?_
      rintro e u1 ⟨rfl, b1⟩
      have c2 := cell_below c1 b1
      go_wp2_with fail
      go_ret2
      exact ⟨rfl, b1⟩
    · have f1 : ((lowS t).toList == [97, 110, 121]) = false := by rw [TL.out]; exact decide_eq_false q
      have e : L = some (stepOf 9 (okP r)) := by rw [E.out, if_neg q]
      generalize lowS t = lt at *
      clear q E
      obtain ⟨n, ec⟩ := r
      have WAY : (∃ z, Hid (L = some z) ∧ Hid (z = 1) ∧ ((ec == 0) = false ∨ ((ec == 0) = true ∧ n ≤ 0) ∨ ((ec == 0) = true ∧ 0 < n ∧ 1000000000000000000 < n / 1000000) ∨ ((ec == 0) = true ∧ 0 < n ∧ ¬ 1000000000000000000 < n / 1000000 ∧ ((n / 1000000 * 1 + n % 1000000 * 1 / 1000000) = 0 ∨ 1000000000000000000 < (n / 1000000 * 1 + n % 1000000 * 1 / 1000000)))) ∧ n ≤ 1000000000000000000) ∨ ((ec == 0) = true ∧ 0 < n ∧ n ≤ 1000000000000000000 ∧ ¬ 1000000000000000000 < n / 1000000 ∧ ¬ (n / 1000000 * 1 + n % 1000000 * 1 / 1000000) = 0 ∧ ¬ 1000000000000000000 < (n / 1000000 * 1 + n % 1000000 * 1 / 1000000) ∧ Hid (L = some (n / 1000000 * 1 + n % 1000000 * 1 / 1000000))) := by
        by_cases h0 : ec = 0
        · have ok : okP (n, ec) = some n := if_pos h0
          have rg := PR.out n ok
          rw [ok] at e
          have eb : (ec == 0) = true := by rw [h0]; rfl
          have eo : outN 9 n = (n / 1000000 * 1 + n % 1000000 * 1 / 1000000) := by unfold outN; rw [SC.out]
          have es : stepOf 9 (some n) = stepN 9 n := rfl
          rw [es] at e
          unfold stepN at e
          rw [DF.out, SC.out, eo, show (1000000000000000000 : Int) / 1 = 1000000000000000000 from by decide] at e
          by_cases h1 : n ≤ 0
          · rw [if_pos h1] at e
            exact .inl ⟨_, e, rfl, .inr (.inl ⟨eb, h1⟩), rg.2⟩
          · rw [if_neg h1] at e
            by_cases h2 : 1000000000000000000 < n / 1000000
            · rw [if_pos h2] at e
              exact .inl ⟨_, e, rfl, .inr (.inr (.inl ⟨eb, by omega, h2⟩)), rg.2⟩
            · rw [if_neg h2] at e
              by_cases h3 : (n / 1000000 * 1 + n % 1000000 * 1 / 1000000) = 0 ∨ 1000000000000000000 < (n / 1000000 * 1 + n % 1000000 * 1 / 1000000)
              · rw [if_pos h3] at e
                exact .inl ⟨_, e, rfl, .inr (.inr (.inr ⟨eb, by omega, h2, h3⟩)), rg.2⟩
              · rw [if_neg h3] at e
                exact .inr ⟨eb, by omega, rg.2, h2, fun q => h3 (.inl q), fun q => h3 (.inr q), e⟩
        · have ok : okP (n, ec) = none := if_neg h0
          rw [ok, show stepOf 9 none = defK 9 from rfl, DF.out] at e
          have z : n = 0 := by
            rcases PO.out with t | t
            · exact absurd t h0
            · exact t
          exact .inl ⟨_, e, rfl, .inl (beq_eq_false_iff_ne.2 h0), by omega⟩
      clear e PR PO DF SC
      rcases WAY with ⟨z, E, Z, W, rg⟩ | ⟨eb, h1, rg, h2, h3, h4, E⟩
      · rcases W with eb | ⟨eb, h1⟩ | ⟨eb, h1, h2⟩ | ⟨eb, h1, h2, h3⟩
        · have nz : ¬ ec = 0 := beq_eq_false_iff_ne.1 eb
          go_enter Tryz.func74, Tryz.ntmps74
          go_wp2_with fail
          refine (refScale_9 _).mono ?_
          rintro e u0 ⟨rfl, hu0⟩
          obtain rfl : w = u0 := hu0.symm
          go_wp2_with fail
          refine HF.out.mono ?_
          rintro e u ⟨rfl, hu⟩
          obtain rfl : w = u := hu.symm
          go_wp2_with fail
          refine (HL.out _).mono ?_
          rintro e u1 ⟨rfl, b1⟩
          have c2 := cell_below c1 b1
          go_wp2_with fail
          refine (HP.out _).mono ?_
          rintro e u2 ⟨rfl, hu2⟩
          obtain rfl : u1 = u2 := hu2.symm
          go_wp2_with fail
          go_ret2
          exact ⟨by rw [E.out, Z.out]; rfl, b1⟩
        · have nb : (ec != 0) = false := by unfold bne; rw [eb]; rfl
          go_enter Tryz.func74, Tryz.ntmps74
          go_wp2_with fail
          refine (refScale_9 _).mono ?_
          rintro e u0 ⟨rfl, hu0⟩
          obtain rfl : w = u0 := hu0.symm
          go_wp2_with fail
          refine HF.out.mono ?_
          rintro e u ⟨rfl, hu⟩
          obtain rfl : w = u := hu.symm
          go_wp2_with fail
          refine (HL.out _).mono ?_
          rintro e u1 ⟨rfl, b1⟩
          have c2 := cell_below c1 b1
          go_wp2_with fail
          refine (HP.out _).mono ?_
          rintro e u2 ⟨rfl, hu2⟩
          obtain rfl : u1 = u2 := hu2.symm
          go_wp2_with fail
          go_ret2
          exact ⟨by rw [E.out, Z.out]; rfl, b1⟩
        · exfalso; omega
        · have h0 : ¬ n ≤ 0 := by omega
          have nb : (ec != 0) = false := by unfold bne; rw [eb]; rfl
          rcases h3 with h3 | h3
          · have z0 : ((n / 1000000 + n % 1000000 / 1000000) == 0) = true := by rw [beq_iff_eq]; omega
            go_enter Tryz.func74, Tryz.ntmps74
            go_wp2_with fail
            refine (refScale_9 _).mono ?_
            rintro e u0 ⟨rfl, hu0⟩
            obtain rfl : w = u0 := hu0.symm
            go_wp2_with fail
            refine HF.out.mono ?_
            rintro e u ⟨rfl, hu⟩
            obtain rfl : w = u := hu.symm
            go_wp2_with fail
            refine (HL.out _).mono ?_
            rintro e u1 ⟨rfl, b1⟩
            have c2 := cell_below c1 b1
            go_wp2_with fail
            refine (HP.out _).mono ?_
            rintro e u2 ⟨rfl, hu2⟩
            obtain rfl : u1 = u2 := hu2.symm
            go_wp2_with fail
            refine (refScale_9 _).mono ?_
            rintro e u9 ⟨rfl, hu9⟩
            obtain rfl : u1 = u9 := hu9.symm
            go_wp2_with fail
            go_ret2
            exact ⟨by rw [E.out, Z.out]; rfl, b1⟩
          · exfalso; omega
      · have h0 : ¬ n ≤ 0 := by omega
        have nb : (ec != 0) = false := by unfold bne; rw [eb]; rfl
        have z0 : ((n / 1000000 + n % 1000000 / 1000000) == 0) = false := beq_eq_false_iff_ne.2 (by omega)
        have y0 : ¬ 1000000000000000000 < (n / 1000000 + n % 1000000 / 1000000) := by omega
        go_enter Tryz.func74, Tryz.ntmps74
        go_wp2_with fail
        refine (refScale_9 _).mono ?_
        rintro e u0 ⟨rfl, hu0⟩
        obtain rfl : w = u0 := hu0.symm
        go_wp2_with fail
        refine HF.out.mono ?_
        rintro e u ⟨rfl, hu⟩
        obtain rfl : w = u := hu.symm
        go_wp2_with fail
        refine (HL.out _).mono ?_
        rintro e u1 ⟨rfl, b1⟩
        have c2 := cell_below c1 b1
        go_wp2_with fail
        refine (HP.out _).mono ?_
        rintro e u2 ⟨rfl, hu2⟩
        obtain rfl : u1 = u2 := hu2.symm
        go_wp2_with fail
        refine (refScale_9 _).mono ?_
        rintro e u9 ⟨rfl, hu9⟩
        obtain rfl : u1 = u9 := hu9.symm
        go_wp2_with fail
        go_ret2
        exact ⟨by rw [E.out]; exact ret_opt (show (n / 1000000 + n % 1000000 / 1000000) = (n / 1000000 * 1 + n % 1000000 * 1 / 1000000) by omega) rfl, b1⟩
set_option maxHeartbeats 4000000 in
set_option maxRecDepth 100000 in
theorem refStep_10 (v : Value) (ax : List (ByteArray × ByteArray)) (w : World) (hv : AttrsV w v ax) (hz : AxOK ax) :
    Calls Tryz.prog 74 #[.int .i64 10, v] w fun e w' => e = .returned (optV (stepK 10 ax)) ∧ Below w.heap.size w w' := by
  have HF := hide (refFind_any v ax stepS w hv hz.len)
  obtain ⟨p, c, rfl, hv⟩ := hv
  have DF : Hid (defK 10 = 604800000) := by show _ = _; decide
  have SC : Hid (scaleK 10 = 604800000) := by show _ = _; decide
  cases hf : findA ax stepS with
  | none =>
    rw [hf, show findV none = -1 from rfl, show stepS = ⟨#[115, 116, 101, 112]⟩ from rfl] at HF
    have E : Hid (stepK 10 ax = some 604800000) := by show _ = _; unfold stepK; rw [if_pos (by decide), hf, DF.out]
    clear hf hv hz SC
    go_enter Tryz.func74, Tryz.ntmps74
    go_wp2_with fail
    refine (refScale_10 _).mono ?_
    rintro e u0 ⟨rfl, hu0⟩
    obtain rfl : w = u0 := hu0.symm
    go_wp2_with fail
    refine HF.out.mono ?_
    rintro e u ⟨rfl, hu⟩
    obtain rfl : w = u := hu.symm
    go_wp2_with fail
    go_ret2
    exact ⟨by rw [E.out]; rfl, Below.refl _ _⟩
  | some i =>
    obtain ⟨hi, _, _⟩ := List.findIdx?_eq_some_iff_getElem.1 (show ax.findIdx? (isN stepS) = some i from hf)
    obtain ⟨t, ht⟩ : ∃ t, Hid (ax[i].2 = t) := ⟨_, show _ = _ from rfl⟩
    have E : Hid (stepK 10 ax = if lowS t = anyS then none else some (stepOf 10 (okP (parseV t.data.toList)))) := by
      show _ = _
      unfold stepK
      rw [if_pos (by decide), hf, ← ht.out]
      show (if lowS (ax.getD i at0).2 = anyS then none else some (stepOf 10 (okP (parseV (ax.getD i at0).2.data.toList)))) = _
      rw [show ax.getD i at0 = ax[i] by simp [List.getD, hi]]
    rw [hf, show findV (some i) = (i : Int) from rfl, show stepS = ⟨#[115, 116, 101, 112]⟩ from rfl] at HF
    obtain ⟨b, o, rfl, hv2⟩ : ∃ b o, p = some ⟨b, o, none⟩ ∧ ∀ i (h : i < ax.length), w.cell? ⟨b, o + i * 2, none⟩ = some (.string ax[i].1) ∧ w.cell? ⟨b, o + i * 2 + 1, none⟩ = some (.string ax[i].2) := by
      rcases hv with t | t
      · rw [t] at hi; simp at hi
      · exact t
    have ts := hz.val _ (List.getElem_mem hi)
    have c1 := (hv2 i hi).2
    rw [ht.out] at c1 ts
    have HL := hide (fun W => refLower_any t W (by omega))
    have HP := hide (fun W => refParse_any t W (by omega))
    have PR := hide (fun n => parse_range (l := t.data.toList) (n := n))
    have PO := hide (parse_out t.data.toList)
    have i0 : (0 : Int) ≤ (i : Int) := by omega
    have i1 : (i : Int) < (ax.length : Int) := by omega
    have i2 : ¬ (i : Int) < 0 := by omega
    generalize parseV t.data.toList = r at *
    generalize stepK 10 ax = L at *
    clear hf hv hv2 hz ht
    have TL := hide (lit_decK (lowS t) [97, 110, 121])
    by_cases q : lowS t = anyS
    · have f1 : ((lowS t).toList == [97, 110, 121]) = true := by rw [TL.out]; exact decide_eq_true q
      have e : L = none := by rw [E.out, if_pos q]
      subst e
      generalize lowS t = lt at *
      clear q E
      go_enter Tryz.func74, Tryz.ntmps74
      go_wp2_with fail
      refine (refScale_10 _).mono ?_
      rintro e u0 ⟨rfl, hu0⟩
      obtain rfl : w = u0 := hu0.symm
      go_wp2_with fail
      refine HF.out.mono ?_
      rintro e u ⟨rfl, hu⟩
      obtain rfl : w = u := hu.symm
      go_wp2_with fail
      refine (HL.out _).mono ?_
      rintro e u1 ⟨rfl, b1⟩
      have c2 := cell_below c1 b1
      go_wp2_with fail
      go_ret2
      exact ⟨rfl, b1⟩
    · have f1 : ((lowS t).toList == [97, 110, 121]) = false := by rw [TL.out]; exact decide_eq_false q
      have e : L = some (stepOf 10 (okP r)) := by rw [E.out, if_neg q]
      generalize lowS t = lt at *
      clear q E
      obtain ⟨n, ec⟩ := r
      have WAY : (∃ z, Hid (L = some z) ∧ Hid (z = 604800000) ∧ ((ec == 0) = false ∨ ((ec == 0) = true ∧ n ≤ 0) ∨ ((ec == 0) = true ∧ 0 < n ∧ 1653439153 < n / 1000000) ∨ ((ec == 0) = true ∧ 0 < n ∧ ¬ 1653439153 < n / 1000000 ∧ ((n / 1000000 * 604800000 + n % 1000000 * 604800000 / 1000000) = 0 ∨ 1000000000000000000 < (n / 1000000 * 604800000 + n % 1000000 * 604800000 / 1000000)))) ∧ n ≤ 1000000000000000000) ∨ ((ec == 0) = true ∧ 0 < n ∧ n ≤ 1000000000000000000 ∧ ¬ 1653439153 < n / 1000000 ∧ ¬ (n / 1000000 * 604800000 + n % 1000000 * 604800000 / 1000000) = 0 ∧ ¬ 1000000000000000000 < (n / 1000000 * 604800000 + n % 1000000 * 604800000 / 1000000) ∧ Hid (L = some (n / 1000000 * 604800000 + n % 1000000 * 604800000 / 1000000))) := by
        by_cases h0 : ec = 0
        · have ok : okP (n, ec) = some n := if_pos h0
          have rg := PR.out n ok
          rw [ok] at e
          have eb : (ec == 0) = true := by rw [h0]; rfl
          have eo : outN 10 n = (n / 1000000 * 604800000 + n % 1000000 * 604800000 / 1000000) := by unfold outN; rw [SC.out]
          have es : stepOf 10 (some n) = stepN 10 n := rfl
          rw [es] at e
          unfold stepN at e
          rw [DF.out, SC.out, eo, show (1000000000000000000 : Int) / 604800000 = 1653439153 from by decide] at e
          by_cases h1 : n ≤ 0
          · rw [if_pos h1] at e
            exact .inl ⟨_, e, rfl, .inr (.inl ⟨eb, h1⟩), rg.2⟩
          · rw [if_neg h1] at e
            by_cases h2 : 1653439153 < n / 1000000
            · rw [if_pos h2] at e
              exact .inl ⟨_, e, rfl, .inr (.inr (.inl ⟨eb, by omega, h2⟩)), rg.2⟩
            · rw [if_neg h2] at e
              by_cases h3 : (n / 1000000 * 604800000 + n % 1000000 * 604800000 / 1000000) = 0 ∨ 1000000000000000000 < (n / 1000000 * 604800000 + n % 1000000 * 604800000 / 1000000)
              · rw [if_pos h3] at e
                exact .inl ⟨_, e, rfl, .inr (.inr (.inr ⟨eb, by omega, h2, h3⟩)), rg.2⟩
              · rw [if_neg h3] at e
                exact .inr ⟨eb, by omega, rg.2, h2, fun q => h3 (.inl q), fun q => h3 (.inr q), e⟩
        · have ok : okP (n, ec) = none := if_neg h0
          rw [ok, show stepOf 10 none = defK 10 from rfl, DF.out] at e
          have z : n = 0 := by
            rcases PO.out with t | t
            · exact absurd t h0
            · exact t
          exact .inl ⟨_, e, rfl, .inl (beq_eq_false_iff_ne.2 h0), by omega⟩
      clear e PR PO DF SC
      rcases WAY with ⟨z, E, Z, W, rg⟩ | ⟨eb, h1, rg, h2, h3, h4, E⟩
      · rcases W with eb | ⟨eb, h1⟩ | ⟨eb, h1, h2⟩ | ⟨eb, h1, h2, h3⟩
        · have nz : ¬ ec = 0 := beq_eq_false_iff_ne.1 eb
          go_enter Tryz.func74, Tryz.ntmps74
          go_wp2_with fail
          refine (refScale_10 _).mono ?_
          rintro e u0 ⟨rfl, hu0⟩
          obtain rfl : w = u0 := hu0.symm
          go_wp2_with fail
          refine HF.out.mono ?_
          rintro e u ⟨rfl, hu⟩
          obtain rfl : w = u := hu.symm
          go_wp2_with fail
          refine (HL.out _).mono ?_
          rintro e u1 ⟨rfl, b1⟩
          have c2 := cell_below c1 b1
          go_wp2_with fail
          refine (HP.out _).mono ?_
          rintro e u2 ⟨rfl, hu2⟩
          obtain rfl : u1 = u2 := hu2.symm
          go_wp2_with fail
          go_ret2
          exact ⟨by rw [E.out, Z.out]; rfl, b1⟩
        · have nb : (ec != 0) = false := by unfold bne; rw [eb]; rfl
          go_enter Tryz.func74, Tryz.ntmps74
          go_wp2_with fail
          refine (refScale_10 _).mono ?_
          rintro e u0 ⟨rfl, hu0⟩
          obtain rfl : w = u0 := hu0.symm
          go_wp2_with fail
          refine HF.out.mono ?_
          rintro e u ⟨rfl, hu⟩
          obtain rfl : w = u := hu.symm
          go_wp2_with fail
          refine (HL.out _).mono ?_
          rintro e u1 ⟨rfl, b1⟩
          have c2 := cell_below c1 b1
          go_wp2_with fail
          refine (HP.out _).mono ?_
          rintro e u2 ⟨rfl, hu2⟩
          obtain rfl : u1 = u2 := hu2.symm
          go_wp2_with fail
          go_ret2
          exact ⟨by rw [E.out, Z.out]; rfl, b1⟩
        · have h0 : ¬ n ≤ 0 := by omega
          have nb : (ec != 0) = false := by unfold bne; rw [eb]; rfl
          go_enter Tryz.func74, Tryz.ntmps74
          go_wp2_with fail
          refine (refScale_10 _).mono ?_
          rintro e u0 ⟨rfl, hu0⟩
          obtain rfl : w = u0 := hu0.symm
          go_wp2_with fail
          refine HF.out.mono ?_
          rintro e u ⟨rfl, hu⟩
          obtain rfl : w = u := hu.symm
          go_wp2_with fail
          refine (HL.out _).mono ?_
          rintro e u1 ⟨rfl, b1⟩
          have c2 := cell_below c1 b1
          go_wp2_with fail
          refine (HP.out _).mono ?_
          rintro e u2 ⟨rfl, hu2⟩
          obtain rfl : u1 = u2 := hu2.symm
          go_wp2_with fail
          refine (refScale_10 _).mono ?_
          rintro e u9 ⟨rfl, hu9⟩
          obtain rfl : u1 = u9 := hu9.symm
          go_wp2_with fail
          go_ret2
          exact ⟨by rw [E.out, Z.out]; rfl, b1⟩
        · have h0 : ¬ n ≤ 0 := by omega
          have nb : (ec != 0) = false := by unfold bne; rw [eb]; rfl
          rcases h3 with h3 | h3
          · exfalso; omega
          · have z0 : ((n / 1000000 * 604800000 + n % 1000000 * 604800000 / 1000000) == 0) = false := by rw [beq_eq_false_iff_ne]; omega
            go_enter Tryz.func74, Tryz.ntmps74
            go_wp2_with fail
            refine (refScale_10 _).mono ?_
            rintro e u0 ⟨rfl, hu0⟩
            obtain rfl : w = u0 := hu0.symm
            go_wp2_with fail
            refine HF.out.mono ?_
            rintro e u ⟨rfl, hu⟩
            obtain rfl : w = u := hu.symm
            go_wp2_with fail
            refine (HL.out _).mono ?_
            rintro e u1 ⟨rfl, b1⟩
            have c2 := cell_below c1 b1
            go_wp2_with fail
            refine (HP.out _).mono ?_
            rintro e u2 ⟨rfl, hu2⟩
            obtain rfl : u1 = u2 := hu2.symm
            go_wp2_with fail
            refine (refScale_10 _).mono ?_
            rintro e u9 ⟨rfl, hu9⟩
            obtain rfl : u1 = u9 := hu9.symm
            go_wp2_with fail
            go_ret2
            exact ⟨by rw [E.out, Z.out]; rfl, b1⟩
      · have h0 : ¬ n ≤ 0 := by omega
        have nb : (ec != 0) = false := by unfold bne; rw [eb]; rfl
        have z0 : ((n / 1000000 * 604800000 + n % 1000000 * 604800000 / 1000000) == 0) = false := beq_eq_false_iff_ne.2 (by omega)
        have y0 : ¬ 1000000000000000000 < (n / 1000000 * 604800000 + n % 1000000 * 604800000 / 1000000) := by omega
        go_enter Tryz.func74, Tryz.ntmps74
        go_wp2_with fail
        refine (refScale_10 _).mono ?_
        rintro e u0 ⟨rfl, hu0⟩
        obtain rfl : w = u0 := hu0.symm
        go_wp2_with fail
        refine HF.out.mono ?_
        rintro e u ⟨rfl, hu⟩
        obtain rfl : w = u := hu.symm
        go_wp2_with fail
        refine (HL.out _).mono ?_
        rintro e u1 ⟨rfl, b1⟩
        have c2 := cell_below c1 b1
        go_wp2_with fail
        refine (HP.out _).mono ?_
        rintro e u2 ⟨rfl, hu2⟩
        obtain rfl : u1 = u2 := hu2.symm
        go_wp2_with fail
        refine (refScale_10 _).mono ?_
        rintro e u9 ⟨rfl, hu9⟩
        obtain rfl : u1 = u9 := hu9.symm
        go_wp2_with fail
        go_ret2
        exact ⟨by rw [E.out]; exact ret_opt (show (n / 1000000 * 604800000 + n % 1000000 * 604800000 / 1000000) = (n / 1000000 * 604800000 + n % 1000000 * 604800000 / 1000000) by omega) rfl, b1⟩
set_option maxHeartbeats 4000000 in
set_option maxRecDepth 100000 in
theorem refStep_11 (v : Value) (ax : List (ByteArray × ByteArray)) (w : World) (hv : AttrsV w v ax) (hz : AxOK ax) :
    Calls Tryz.prog 74 #[.int .i64 11, v] w fun e w' => e = .returned (optV (stepK 11 ax)) ∧ Below w.heap.size w w' := by
  have HF := hide (refFind_any v ax stepS w hv hz.len)
  obtain ⟨p, c, rfl, hv⟩ := hv
  have DF : Hid (defK 11 = 60000) := by show _ = _; decide
  have SC : Hid (scaleK 11 = 1000) := by show _ = _; decide
  cases hf : findA ax stepS with
  | none =>
    rw [hf, show findV none = -1 from rfl, show stepS = ⟨#[115, 116, 101, 112]⟩ from rfl] at HF
    have E : Hid (stepK 11 ax = some 60000) := by show _ = _; unfold stepK; rw [if_pos (by decide), hf, DF.out]
    clear hf hv hz SC
    go_enter Tryz.func74, Tryz.ntmps74
    go_wp2_with fail
    refine (refScale_11 _).mono ?_
    rintro e u0 ⟨rfl, hu0⟩
    obtain rfl : w = u0 := hu0.symm
    go_wp2_with fail
    refine HF.out.mono ?_
    rintro e u ⟨rfl, hu⟩
    obtain rfl : w = u := hu.symm
    go_wp2_with fail
    go_ret2
    exact ⟨by rw [E.out]; rfl, Below.refl _ _⟩
  | some i =>
    obtain ⟨hi, _, _⟩ := List.findIdx?_eq_some_iff_getElem.1 (show ax.findIdx? (isN stepS) = some i from hf)
    obtain ⟨t, ht⟩ : ∃ t, Hid (ax[i].2 = t) := ⟨_, show _ = _ from rfl⟩
    have E : Hid (stepK 11 ax = if lowS t = anyS then none else some (stepOf 11 (okP (parseV t.data.toList)))) := by
      show _ = _
      unfold stepK
      rw [if_pos (by decide), hf, ← ht.out]
      show (if lowS (ax.getD i at0).2 = anyS then none else some (stepOf 11 (okP (parseV (ax.getD i at0).2.data.toList)))) = _
      rw [show ax.getD i at0 = ax[i] by simp [List.getD, hi]]
    rw [hf, show findV (some i) = (i : Int) from rfl, show stepS = ⟨#[115, 116, 101, 112]⟩ from rfl] at HF
    obtain ⟨b, o, rfl, hv2⟩ : ∃ b o, p = some ⟨b, o, none⟩ ∧ ∀ i (h : i < ax.length), w.cell? ⟨b, o + i * 2, none⟩ = some (.string ax[i].1) ∧ w.cell? ⟨b, o + i * 2 + 1, none⟩ = some (.string ax[i].2) := by
      rcases hv with t | t
      · rw [t] at hi; simp at hi
      · exact t
    have ts := hz.val _ (List.getElem_mem hi)
    have c1 := (hv2 i hi).2
    rw [ht.out] at c1 ts
    have HL := hide (fun W => refLower_any t W (by omega))
    have HP := hide (fun W => refParse_any t W (by omega))
    have PR := hide (fun n => parse_range (l := t.data.toList) (n := n))
    have PO := hide (parse_out t.data.toList)
    have i0 : (0 : Int) ≤ (i : Int) := by omega
    have i1 : (i : Int) < (ax.length : Int) := by omega
    have i2 : ¬ (i : Int) < 0 := by omega
    generalize parseV t.data.toList = r at *
    generalize stepK 11 ax = L at *
    clear hf hv hv2 hz ht
    have TL := hide (lit_decK (lowS t) [97, 110, 121])
    by_cases q : lowS t = anyS
    · have f1 : ((lowS t).toList == [97, 110, 121]) = true := by rw [TL.out]; exact decide_eq_true q
      have e : L = none := by rw [E.out, if_pos q]
      subst e
      generalize lowS t = lt at *
      clear q E
      go_enter Tryz.func74, Tryz.ntmps74
      go_wp2_with fail
      refine (refScale_11 _).mono ?_
      rintro e u0 ⟨rfl, hu0⟩
      obtain rfl : w = u0 := hu0.symm
      go_wp2_with fail
      refine HF.out.mono ?_
      rintro e u ⟨rfl, hu⟩
      obtain rfl : w = u := hu.symm
      go_wp2_with fail
      refine (HL.out _).mono ?_
      rintro e u1 ⟨rfl, b1⟩
      have c2 := cell_below c1 b1
      go_wp2_with fail
      go_ret2
      exact ⟨rfl, b1⟩
    · have f1 : ((lowS t).toList == [97, 110, 121]) = false := by rw [TL.out]; exact decide_eq_false q
      have e : L = some (stepOf 11 (okP r)) := by rw [E.out, if_neg q]
      generalize lowS t = lt at *
      clear q E
      obtain ⟨n, ec⟩ := r
      have WAY : (∃ z, Hid (L = some z) ∧ Hid (z = 60000) ∧ ((ec == 0) = false ∨ ((ec == 0) = true ∧ n ≤ 0) ∨ ((ec == 0) = true ∧ 0 < n ∧ 1000000000000000 < n / 1000000) ∨ ((ec == 0) = true ∧ 0 < n ∧ ¬ 1000000000000000 < n / 1000000 ∧ ((n / 1000000 * 1000 + n % 1000000 * 1000 / 1000000) = 0 ∨ 1000000000000000000 < (n / 1000000 * 1000 + n % 1000000 * 1000 / 1000000)))) ∧ n ≤ 1000000000000000000) ∨ ((ec == 0) = true ∧ 0 < n ∧ n ≤ 1000000000000000000 ∧ ¬ 1000000000000000 < n / 1000000 ∧ ¬ (n / 1000000 * 1000 + n % 1000000 * 1000 / 1000000) = 0 ∧ ¬ 1000000000000000000 < (n / 1000000 * 1000 + n % 1000000 * 1000 / 1000000) ∧ Hid (L = some (n / 1000000 * 1000 + n % 1000000 * 1000 / 1000000))) := by
        by_cases h0 : ec = 0
        · have ok : okP (n, ec) = some n := if_pos h0
          have rg := PR.out n ok
          rw [ok] at e
          have eb : (ec == 0) = true := by rw [h0]; rfl
          have eo : outN 11 n = (n / 1000000 * 1000 + n % 1000000 * 1000 / 1000000) := by unfold outN; rw [SC.out]
          have es : stepOf 11 (some n) = stepN 11 n := rfl
          rw [es] at e
          unfold stepN at e
          rw [DF.out, SC.out, eo, show (1000000000000000000 : Int) / 1000 = 1000000000000000 from by decide] at e
          by_cases h1 : n ≤ 0
          · rw [if_pos h1] at e
            exact .inl ⟨_, e, rfl, .inr (.inl ⟨eb, h1⟩), rg.2⟩
          · rw [if_neg h1] at e
            by_cases h2 : 1000000000000000 < n / 1000000
            · rw [if_pos h2] at e
              exact .inl ⟨_, e, rfl, .inr (.inr (.inl ⟨eb, by omega, h2⟩)), rg.2⟩
            · rw [if_neg h2] at e
              by_cases h3 : (n / 1000000 * 1000 + n % 1000000 * 1000 / 1000000) = 0 ∨ 1000000000000000000 < (n / 1000000 * 1000 + n % 1000000 * 1000 / 1000000)
              · rw [if_pos h3] at e
                exact .inl ⟨_, e, rfl, .inr (.inr (.inr ⟨eb, by omega, h2, h3⟩)), rg.2⟩
              · rw [if_neg h3] at e
                exact .inr ⟨eb, by omega, rg.2, h2, fun q => h3 (.inl q), fun q => h3 (.inr q), e⟩
        · have ok : okP (n, ec) = none := if_neg h0
          rw [ok, show stepOf 11 none = defK 11 from rfl, DF.out] at e
          have z : n = 0 := by
            rcases PO.out with t | t
            · exact absurd t h0
            · exact t
          exact .inl ⟨_, e, rfl, .inl (beq_eq_false_iff_ne.2 h0), by omega⟩
      clear e PR PO DF SC
      rcases WAY with ⟨z, E, Z, W, rg⟩ | ⟨eb, h1, rg, h2, h3, h4, E⟩
      · rcases W with eb | ⟨eb, h1⟩ | ⟨eb, h1, h2⟩ | ⟨eb, h1, h2, h3⟩
        · have nz : ¬ ec = 0 := beq_eq_false_iff_ne.1 eb
          go_enter Tryz.func74, Tryz.ntmps74
          go_wp2_with fail
          refine (refScale_11 _).mono ?_
          rintro e u0 ⟨rfl, hu0⟩
          obtain rfl : w = u0 := hu0.symm
          go_wp2_with fail
          refine HF.out.mono ?_
          rintro e u ⟨rfl, hu⟩
          obtain rfl : w = u := hu.symm
          go_wp2_with fail
          refine (HL.out _).mono ?_
          rintro e u1 ⟨rfl, b1⟩
          have c2 := cell_below c1 b1
          go_wp2_with fail
          refine (HP.out _).mono ?_
          rintro e u2 ⟨rfl, hu2⟩
          obtain rfl : u1 = u2 := hu2.symm
          go_wp2_with fail
          go_ret2
          exact ⟨by rw [E.out, Z.out]; rfl, b1⟩
        · have nb : (ec != 0) = false := by unfold bne; rw [eb]; rfl
          go_enter Tryz.func74, Tryz.ntmps74
          go_wp2_with fail
          refine (refScale_11 _).mono ?_
          rintro e u0 ⟨rfl, hu0⟩
          obtain rfl : w = u0 := hu0.symm
          go_wp2_with fail
          refine HF.out.mono ?_
          rintro e u ⟨rfl, hu⟩
          obtain rfl : w = u := hu.symm
          go_wp2_with fail
          refine (HL.out _).mono ?_
          rintro e u1 ⟨rfl, b1⟩
          have c2 := cell_below c1 b1
          go_wp2_with fail
          refine (HP.out _).mono ?_
          rintro e u2 ⟨rfl, hu2⟩
          obtain rfl : u1 = u2 := hu2.symm
          go_wp2_with fail
          go_ret2
          exact ⟨by rw [E.out, Z.out]; rfl, b1⟩
        · exfalso; omega
        · have h0 : ¬ n ≤ 0 := by omega
          have nb : (ec != 0) = false := by unfold bne; rw [eb]; rfl
          rcases h3 with h3 | h3
          · have z0 : ((n / 1000000 * 1000 + n % 1000000 * 1000 / 1000000) == 0) = true := by rw [beq_iff_eq]; omega
            go_enter Tryz.func74, Tryz.ntmps74
            go_wp2_with fail
            refine (refScale_11 _).mono ?_
            rintro e u0 ⟨rfl, hu0⟩
            obtain rfl : w = u0 := hu0.symm
            go_wp2_with fail
            refine HF.out.mono ?_
            rintro e u ⟨rfl, hu⟩
            obtain rfl : w = u := hu.symm
            go_wp2_with fail
            refine (HL.out _).mono ?_
            rintro e u1 ⟨rfl, b1⟩
            have c2 := cell_below c1 b1
            go_wp2_with fail
            refine (HP.out _).mono ?_
            rintro e u2 ⟨rfl, hu2⟩
            obtain rfl : u1 = u2 := hu2.symm
            go_wp2_with fail
            refine (refScale_11 _).mono ?_
            rintro e u9 ⟨rfl, hu9⟩
            obtain rfl : u1 = u9 := hu9.symm
            go_wp2_with fail
            go_ret2
            exact ⟨by rw [E.out, Z.out]; rfl, b1⟩
          · exfalso; omega
      · have h0 : ¬ n ≤ 0 := by omega
        have nb : (ec != 0) = false := by unfold bne; rw [eb]; rfl
        have z0 : ((n / 1000000 * 1000 + n % 1000000 * 1000 / 1000000) == 0) = false := beq_eq_false_iff_ne.2 (by omega)
        have y0 : ¬ 1000000000000000000 < (n / 1000000 * 1000 + n % 1000000 * 1000 / 1000000) := by omega
        go_enter Tryz.func74, Tryz.ntmps74
        go_wp2_with fail
        refine (refScale_11 _).mono ?_
        rintro e u0 ⟨rfl, hu0⟩
        obtain rfl : w = u0 := hu0.symm
        go_wp2_with fail
        refine HF.out.mono ?_
        rintro e u ⟨rfl, hu⟩
        obtain rfl : w = u := hu.symm
        go_wp2_with fail
        refine (HL.out _).mono ?_
        rintro e u1 ⟨rfl, b1⟩
        have c2 := cell_below c1 b1
        go_wp2_with fail
        refine (HP.out _).mono ?_
        rintro e u2 ⟨rfl, hu2⟩
        obtain rfl : u1 = u2 := hu2.symm
        go_wp2_with fail
        refine (refScale_11 _).mono ?_
        rintro e u9 ⟨rfl, hu9⟩
        obtain rfl : u1 = u9 := hu9.symm
        go_wp2_with fail
        go_ret2
        exact ⟨by rw [E.out]; exact ret_opt (show (n / 1000000 * 1000 + n % 1000000 * 1000 / 1000000) = (n / 1000000 * 1000 + n % 1000000 * 1000 / 1000000) by omega) rfl, b1⟩
set_option maxHeartbeats 4000000 in
set_option maxRecDepth 100000 in
theorem refStep_12 (v : Value) (ax : List (ByteArray × ByteArray)) (w : World) (hv : AttrsV w v ax) (hz : AxOK ax) :
    Calls Tryz.prog 74 #[.int .i64 12, v] w fun e w' => e = .returned (optV (stepK 12 ax)) ∧ Below w.heap.size w w' := by
  have HF := hide (refFind_any v ax stepS w hv hz.len)
  obtain ⟨p, c, rfl, hv⟩ := hv
  have DF : Hid (defK 12 = 60000) := by show _ = _; decide
  have SC : Hid (scaleK 12 = 1000) := by show _ = _; decide
  cases hf : findA ax stepS with
  | none =>
    rw [hf, show findV none = -1 from rfl, show stepS = ⟨#[115, 116, 101, 112]⟩ from rfl] at HF
    have E : Hid (stepK 12 ax = some 60000) := by show _ = _; unfold stepK; rw [if_pos (by decide), hf, DF.out]
    clear hf hv hz SC
    go_enter Tryz.func74, Tryz.ntmps74
    go_wp2_with fail
    refine (refScale_12 _).mono ?_
    rintro e u0 ⟨rfl, hu0⟩
    obtain rfl : w = u0 := hu0.symm
    go_wp2_with fail
    refine HF.out.mono ?_
    rintro e u ⟨rfl, hu⟩
    obtain rfl : w = u := hu.symm
    go_wp2_with fail
    go_ret2
    exact ⟨by rw [E.out]; rfl, Below.refl _ _⟩
  | some i =>
    obtain ⟨hi, _, _⟩ := List.findIdx?_eq_some_iff_getElem.1 (show ax.findIdx? (isN stepS) = some i from hf)
    obtain ⟨t, ht⟩ : ∃ t, Hid (ax[i].2 = t) := ⟨_, show _ = _ from rfl⟩
    have E : Hid (stepK 12 ax = if lowS t = anyS then none else some (stepOf 12 (okP (parseV t.data.toList)))) := by
      show _ = _
      unfold stepK
      rw [if_pos (by decide), hf, ← ht.out]
      show (if lowS (ax.getD i at0).2 = anyS then none else some (stepOf 12 (okP (parseV (ax.getD i at0).2.data.toList)))) = _
      rw [show ax.getD i at0 = ax[i] by simp [List.getD, hi]]
    rw [hf, show findV (some i) = (i : Int) from rfl, show stepS = ⟨#[115, 116, 101, 112]⟩ from rfl] at HF
    obtain ⟨b, o, rfl, hv2⟩ : ∃ b o, p = some ⟨b, o, none⟩ ∧ ∀ i (h : i < ax.length), w.cell? ⟨b, o + i * 2, none⟩ = some (.string ax[i].1) ∧ w.cell? ⟨b, o + i * 2 + 1, none⟩ = some (.string ax[i].2) := by
      rcases hv with t | t
      · rw [t] at hi; simp at hi
      · exact t
    have ts := hz.val _ (List.getElem_mem hi)
    have c1 := (hv2 i hi).2
    rw [ht.out] at c1 ts
    have HL := hide (fun W => refLower_any t W (by omega))
    have HP := hide (fun W => refParse_any t W (by omega))
    have PR := hide (fun n => parse_range (l := t.data.toList) (n := n))
    have PO := hide (parse_out t.data.toList)
    have i0 : (0 : Int) ≤ (i : Int) := by omega
    have i1 : (i : Int) < (ax.length : Int) := by omega
    have i2 : ¬ (i : Int) < 0 := by omega
    generalize parseV t.data.toList = r at *
    generalize stepK 12 ax = L at *
    clear hf hv hv2 hz ht
    have TL := hide (lit_decK (lowS t) [97, 110, 121])
    by_cases q : lowS t = anyS
    · have f1 : ((lowS t).toList == [97, 110, 121]) = true := by rw [TL.out]; exact decide_eq_true q
      have e : L = none := by rw [E.out, if_pos q]
      subst e
      generalize lowS t = lt at *
      clear q E
      go_enter Tryz.func74, Tryz.ntmps74
      go_wp2_with fail
      refine (refScale_12 _).mono ?_
      rintro e u0 ⟨rfl, hu0⟩
      obtain rfl : w = u0 := hu0.symm
      go_wp2_with fail
      refine HF.out.mono ?_
      rintro e u ⟨rfl, hu⟩
      obtain rfl : w = u := hu.symm
      go_wp2_with fail
      refine (HL.out _).mono ?_
      rintro e u1 ⟨rfl, b1⟩
      have c2 := cell_below c1 b1
      go_wp2_with fail
      go_ret2
      exact ⟨rfl, b1⟩
    · have f1 : ((lowS t).toList == [97, 110, 121]) = false := by rw [TL.out]; exact decide_eq_false q
      have e : L = some (stepOf 12 (okP r)) := by rw [E.out, if_neg q]
      generalize lowS t = lt at *
      clear q E
      obtain ⟨n, ec⟩ := r
      have WAY : (∃ z, Hid (L = some z) ∧ Hid (z = 60000) ∧ ((ec == 0) = false ∨ ((ec == 0) = true ∧ n ≤ 0) ∨ ((ec == 0) = true ∧ 0 < n ∧ 1000000000000000 < n / 1000000) ∨ ((ec == 0) = true ∧ 0 < n ∧ ¬ 1000000000000000 < n / 1000000 ∧ ((n / 1000000 * 1000 + n % 1000000 * 1000 / 1000000) = 0 ∨ 1000000000000000000 < (n / 1000000 * 1000 + n % 1000000 * 1000 / 1000000)))) ∧ n ≤ 1000000000000000000) ∨ ((ec == 0) = true ∧ 0 < n ∧ n ≤ 1000000000000000000 ∧ ¬ 1000000000000000 < n / 1000000 ∧ ¬ (n / 1000000 * 1000 + n % 1000000 * 1000 / 1000000) = 0 ∧ ¬ 1000000000000000000 < (n / 1000000 * 1000 + n % 1000000 * 1000 / 1000000) ∧ Hid (L = some (n / 1000000 * 1000 + n % 1000000 * 1000 / 1000000))) := by
        by_cases h0 : ec = 0
        · have ok : okP (n, ec) = some n := if_pos h0
          have rg := PR.out n ok
          rw [ok] at e
          have eb : (ec == 0) = true := by rw [h0]; rfl
          have eo : outN 12 n = (n / 1000000 * 1000 + n % 1000000 * 1000 / 1000000) := by unfold outN; rw [SC.out]
          have es : stepOf 12 (some n) = stepN 12 n := rfl
          rw [es] at e
          unfold stepN at e
          rw [DF.out, SC.out, eo, show (1000000000000000000 : Int) / 1000 = 1000000000000000 from by decide] at e
          by_cases h1 : n ≤ 0
          · rw [if_pos h1] at e
            exact .inl ⟨_, e, rfl, .inr (.inl ⟨eb, h1⟩), rg.2⟩
          · rw [if_neg h1] at e
            by_cases h2 : 1000000000000000 < n / 1000000
            · rw [if_pos h2] at e
              exact .inl ⟨_, e, rfl, .inr (.inr (.inl ⟨eb, by omega, h2⟩)), rg.2⟩
            · rw [if_neg h2] at e
              by_cases h3 : (n / 1000000 * 1000 + n % 1000000 * 1000 / 1000000) = 0 ∨ 1000000000000000000 < (n / 1000000 * 1000 + n % 1000000 * 1000 / 1000000)
              · rw [if_pos h3] at e
                exact .inl ⟨_, e, rfl, .inr (.inr (.inr ⟨eb, by omega, h2, h3⟩)), rg.2⟩
              · rw [if_neg h3] at e
                exact .inr ⟨eb, by omega, rg.2, h2, fun q => h3 (.inl q), fun q => h3 (.inr q), e⟩
        · have ok : okP (n, ec) = none := if_neg h0
          rw [ok, show stepOf 12 none = defK 12 from rfl, DF.out] at e
          have z : n = 0 := by
            rcases PO.out with t | t
            · exact absurd t h0
            · exact t
          exact .inl ⟨_, e, rfl, .inl (beq_eq_false_iff_ne.2 h0), by omega⟩
      clear e PR PO DF SC
      rcases WAY with ⟨z, E, Z, W, rg⟩ | ⟨eb, h1, rg, h2, h3, h4, E⟩
      · rcases W with eb | ⟨eb, h1⟩ | ⟨eb, h1, h2⟩ | ⟨eb, h1, h2, h3⟩
        · have nz : ¬ ec = 0 := beq_eq_false_iff_ne.1 eb
          go_enter Tryz.func74, Tryz.ntmps74
          go_wp2_with fail
          refine (refScale_12 _).mono ?_
          rintro e u0 ⟨rfl, hu0⟩
          obtain rfl : w = u0 := hu0.symm
          go_wp2_with fail
          refine HF.out.mono ?_
          rintro e u ⟨rfl, hu⟩
          obtain rfl : w = u := hu.symm
          go_wp2_with fail
          refine (HL.out _).mono ?_
          rintro e u1 ⟨rfl, b1⟩
          have c2 := cell_below c1 b1
          go_wp2_with fail
          refine (HP.out _).mono ?_
          rintro e u2 ⟨rfl, hu2⟩
          obtain rfl : u1 = u2 := hu2.symm
          go_wp2_with fail
          go_ret2
          exact ⟨by rw [E.out, Z.out]; rfl, b1⟩
        · have nb : (ec != 0) = false := by unfold bne; rw [eb]; rfl
          go_enter Tryz.func74, Tryz.ntmps74
          go_wp2_with fail
          refine (refScale_12 _).mono ?_
          rintro e u0 ⟨rfl, hu0⟩
          obtain rfl : w = u0 := hu0.symm
          go_wp2_with fail
          refine HF.out.mono ?_
          rintro e u ⟨rfl, hu⟩
          obtain rfl : w = u := hu.symm
          go_wp2_with fail
          refine (HL.out _).mono ?_
          rintro e u1 ⟨rfl, b1⟩
          have c2 := cell_below c1 b1
          go_wp2_with fail
          refine (HP.out _).mono ?_
          rintro e u2 ⟨rfl, hu2⟩
          obtain rfl : u1 = u2 := hu2.symm
          go_wp2_with fail
          go_ret2
          exact ⟨by rw [E.out, Z.out]; rfl, b1⟩
        · exfalso; omega
        · have h0 : ¬ n ≤ 0 := by omega
          have nb : (ec != 0) = false := by unfold bne; rw [eb]; rfl
          rcases h3 with h3 | h3
          · have z0 : ((n / 1000000 * 1000 + n % 1000000 * 1000 / 1000000) == 0) = true := by rw [beq_iff_eq]; omega
            go_enter Tryz.func74, Tryz.ntmps74
            go_wp2_with fail
            refine (refScale_12 _).mono ?_
            rintro e u0 ⟨rfl, hu0⟩
            obtain rfl : w = u0 := hu0.symm
            go_wp2_with fail
            refine HF.out.mono ?_
            rintro e u ⟨rfl, hu⟩
            obtain rfl : w = u := hu.symm
            go_wp2_with fail
            refine (HL.out _).mono ?_
            rintro e u1 ⟨rfl, b1⟩
            have c2 := cell_below c1 b1
            go_wp2_with fail
            refine (HP.out _).mono ?_
            rintro e u2 ⟨rfl, hu2⟩
            obtain rfl : u1 = u2 := hu2.symm
            go_wp2_with fail
            refine (refScale_12 _).mono ?_
            rintro e u9 ⟨rfl, hu9⟩
            obtain rfl : u1 = u9 := hu9.symm
            go_wp2_with fail
            go_ret2
            exact ⟨by rw [E.out, Z.out]; rfl, b1⟩
          · exfalso; omega
      · have h0 : ¬ n ≤ 0 := by omega
        have nb : (ec != 0) = false := by unfold bne; rw [eb]; rfl
        have z0 : ((n / 1000000 * 1000 + n % 1000000 * 1000 / 1000000) == 0) = false := beq_eq_false_iff_ne.2 (by omega)
        have y0 : ¬ 1000000000000000000 < (n / 1000000 * 1000 + n % 1000000 * 1000 / 1000000) := by omega
        go_enter Tryz.func74, Tryz.ntmps74
        go_wp2_with fail
        refine (refScale_12 _).mono ?_
        rintro e u0 ⟨rfl, hu0⟩
        obtain rfl : w = u0 := hu0.symm
        go_wp2_with fail
        refine HF.out.mono ?_
        rintro e u ⟨rfl, hu⟩
        obtain rfl : w = u := hu.symm
        go_wp2_with fail
        refine (HL.out _).mono ?_
        rintro e u1 ⟨rfl, b1⟩
        have c2 := cell_below c1 b1
        go_wp2_with fail
        refine (HP.out _).mono ?_
        rintro e u2 ⟨rfl, hu2⟩
        obtain rfl : u1 = u2 := hu2.symm
        go_wp2_with fail
        refine (refScale_12 _).mono ?_
        rintro e u9 ⟨rfl, hu9⟩
        obtain rfl : u1 = u9 := hu9.symm
        go_wp2_with fail
        go_ret2
        exact ⟨by rw [E.out]; exact ret_opt (show (n / 1000000 * 1000 + n % 1000000 * 1000 / 1000000) = (n / 1000000 * 1000 + n % 1000000 * 1000 / 1000000) by omega) rfl, b1⟩

end Go.Proofs.YtfjfkkbgkjmghaaGreatDoor
