/- Joined texts. StepR1: The document's Value, Show, attr, Least, Most, Base of layer 12: they answer by the functions of 'StepP'; what lay in the world lies there still. Conditions: a row of attributes as it lies in the world; texts of at most 100000 bytes. FitPure: What fits a base and a step: plain facts of no program. No condition. FitRef: The document's Fits and Down of layer 3. Conditions: numbers of 64 bits. LowWalks: The program's Lower and Same, and the document's Lower, answer by the small letters of a text, for every text; they change nothing that was there. No condition beyond the texts' lengths as every row has them. -/
import Derived.Test.YtpkpkpiphgjbaaaGreatDoorJcl6
import Derived.Test.YtpkpkpiphgjbaaaGreatDoorJcl8
import Derived.Test.YtpkpkpiphgjbaaaGreatDoorJcl10
import Derived.Test.YtpkpkpiphgjbaaaGreatDoorJcl13
import Derived.Test.YtpkpkpiphgjbaaaGreatDoorJcl5
import Derived.Test.YtpkpkpiphgjbaaaGreatDoorJcl2
import Derived.Test.YtpkpkpiphgjbaaaGreatDoorRows
namespace Go.Proofs.YtpkpkpiphgjbaaaGreatDoor
open Go.RowKit
set_option maxRecDepth 100000

/-- A number, and whether there is one. -/
def optV (o : Option Int) : Value := .tuple #[.int .i64 (optI o), .bool o.isSome]
def txtV (o : Option (List UInt8)) : Value := .tuple #[.string (txt (o.getD [])), .bool o.isSome]
theorem ret_opt {a : Int} {b : Bool} {o : Option Int} (h : a = optI o) (g : b = o.isSome) : Ending.returned (.tuple #[.int .i64 a, .bool b]) = .returned (optV o) := by rw [h, g]; rfl
theorem ret_st {a : ByteArray} {b : Bool} {o : Option (List UInt8)} (h : a = txt (o.getD [])) (g : b = o.isSome) : Ending.returned (.tuple #[.string a, .bool b]) = .returned (txtV o) := by rw [h, g]; rfl
theorem belQ (w : World) (q : Nat) : Below w.heap.size w (w.drewN q) := ⟨rfl, rfl, rfl, Nat.le_refl _, fun _ _ => rfl⟩
/-- Attributes that a statement takes. -/
structure AxOK (ax : List (ByteArray × ByteArray)) : Prop where
  len : ax.length ≤ 4398046511104
  val : ∀ a ∈ ax, a.2.size ≤ 100000

set_option maxHeartbeats 4000000 in
set_option maxRecDepth 100000 in
theorem refValue_any (k : Int) (s : ByteArray) (w : World) (hs : s.size ≤ 100000) :
    Calls Tryz.prog 12 #[.int .i64 k, .string s] w fun e w' => e = .returned (optV (numK k s.data.toList)) ∧ Below w.heap.size w w' := by
  by_cases h : k = 13 ∨ k = 14
  · have E1 : Hid (numK k s.data.toList = okP (parseV s.data.toList)) := if_pos h
    have E2 := hide (parse_opt s.data.toList)
    have HP := hide (fun W => refParse_any s W (by omega))
    generalize parseV s.data.toList = r at *
    rcases h with rfl | rfl
    all_goals
      go_enter Tryz.func12, Tryz.ntmps12
      go_wp2_with fail
      refine (HP.out _).mono ?_
      rintro e u ⟨rfl, rfl⟩
      go_wp2_with fail
      go_ret2
      exact ⟨by rw [E1.out]; exact ret_opt E2.out.1 E2.out.2, Below.refl _ _⟩
  · have n13 : ¬ k = 13 := fun q => h (.inl q)
    have n14 : ¬ k = 14 := fun q => h (.inr q)
    have b13 : (k == 13) = false := beq_eq_false_iff_ne.2 n13
    have b14 : (k == 14) = false := beq_eq_false_iff_ne.2 n14
    by_cases h2 : 8 ≤ k ∧ k ≤ 12
    · have E1 : Hid (numK k s.data.toList = momT (k - 7) s.data.toList) := by show _ = _; unfold numK; rw [if_neg h, if_pos h2]
      have E2 := hide (mom_opt (k := k - 7) (by omega) s.data.toList)
      have HP := hide (fun W => refMom_any (k - 8 + 1) s W hs)
      rw [show k - 8 + 1 = k - 7 by omega] at HP
      have HP2 : Hid (∀ W, Calls Tryz.prog 35 #[.int .i64 (k - 8 + 1), .string s] W fun e w' => e = .returned (.tuple #[.int .i64 (momV (k - 7) s.data.toList).1, .int .i64 (momV (k - 7) s.data.toList).2]) ∧ ∃ q, w' = W.drewN q) := fun W => by
        rw [show k - 8 + 1 = k - 7 by omega]; exact HP.out W
      clear HP
      generalize momV (k - 7) s.data.toList = r at *
      have h3 := h2.1
      have h4 : k ≤ 14 := by omega
      have h5 : k ≤ 12 := h2.2
      clear h h2
      go_enter Tryz.func12, Tryz.ntmps12
      go_wp2_with fail
      refine (HP2.out _).mono ?_
      rintro e u ⟨rfl, q, rfl⟩
      go_wp2_with fail
      go_ret2
      exact ⟨by rw [E1.out]; exact ret_opt E2.out.1 E2.out.2, belQ _ _⟩
    · have E1 : Hid (numK k s.data.toList = none) := by show _ = _; unfold numK; rw [if_neg h, if_neg h2]
      rcases (show k < 8 ∨ 14 < k by omega) with q | q
      · clear h h2
        go_enter Tryz.func12, Tryz.ntmps12
        go_wp2_with fail
        go_ret2
        exact ⟨by rw [E1.out]; rfl, Below.refl _ _⟩
      · have q8 : ¬ k < 8 := by omega
        have d8 : decide (k < 8) = false := decide_eq_false q8
        clear h h2
        go_enter Tryz.func12, Tryz.ntmps12
        go_wp2_with fail
        go_ret2
        exact ⟨by rw [E1.out]; rfl, Below.refl _ _⟩

set_option maxHeartbeats 4000000 in
set_option maxRecDepth 100000 in
theorem refShowK_any {k n : Int} {o : Option (List UInt8)} (h : ShK k n o) (w : World) (n1 : -9223372036854775808 ≤ n) (n2 : n ≤ 9223372036854775807) :
    Calls Tryz.prog 31 #[.int .i64 k, .int .i64 n] w fun e w' => e = .returned (txtV o) ∧ Below w.heap.size w w' := by
  rcases h with ⟨h, h1⟩ | ⟨h, h1⟩ | ⟨h, rfl⟩
  · rcases h1 with ⟨q1, q2, rfl⟩ | ⟨q, rfl⟩
    · have HS := hide (fun W => refShow_any n W n1 n2)
      have g1 : ¬ 1000000000000000000 < n := by omega
      have g2 : ¬ n < -1000000000000000000 := by omega
      have d1 : decide (1000000000000000000 < n) = false := decide_eq_false g1
      have d2 : decide (n < -1000000000000000000) = false := decide_eq_false g2
      have E : Hid (txt (showL n) = txt ((some (showL n)).getD [])) := rfl
      generalize txt (showL n) = t at *
      rcases h with rfl | rfl
      all_goals
        go_enter Tryz.func31, Tryz.ntmps31
        go_wp2_with fail
        refine (HS.out _).mono ?_
        rintro e u ⟨rfl, b1⟩
        go_wp2_with fail
        go_ret2
        exact ⟨ret_st E.out rfl, b1⟩
    · rcases (show 1000000000000000000 < n ∨ n < -1000000000000000000 by omega) with g1 | g2
      · rcases h with rfl | rfl
        all_goals
          clear q
          go_enter Tryz.func31, Tryz.ntmps31
          go_wp2_with fail
          go_ret2
          exact ⟨rfl, Below.refl _ _⟩
      · have g1 : ¬ 1000000000000000000 < n := by omega
        have d1 : decide (1000000000000000000 < n) = false := decide_eq_false g1
        rcases h with rfl | rfl
        all_goals
          clear q
          go_enter Tryz.func31, Tryz.ntmps31
          go_wp2_with fail
          go_ret2
          exact ⟨rfl, Below.refl _ _⟩
  · have b13 : (k == 13) = false := by rw [beq_eq_false_iff_ne]; omega
    have b14 : (k == 14) = false := by rw [beq_eq_false_iff_ne]; omega
    have n13 : ¬ k = 13 := by omega
    have n14 : ¬ k = 14 := by omega
    have h3 := h.1
    have h4 : k ≤ 14 := by omega
    have h5 : k ≤ 12 := h.2
    clear h
    rcases h1 with ⟨t, ht, rfl⟩ | ⟨hn, rfl⟩
    · have HS : Hid (∀ W, Calls Tryz.prog 57 #[.int .i64 (k - 8 + 1), .int .i64 n] W fun e w' => e = .returned (.tuple #[.string (txt t), .int .i64 0]) ∧ Below W.heap.size W w') := fun W => by
        rw [show k - 8 + 1 = k - 7 by omega]; exact refShow_yes ht W n1 n2
      have E : Hid (txt t = txt ((some t).getD [])) := rfl
      generalize txt t = x at *
      clear ht
      go_enter Tryz.func31, Tryz.ntmps31
      go_wp2_with fail
      refine (HS.out _).mono ?_
      rintro e u ⟨rfl, b1⟩
      go_wp2_with fail
      go_ret2
      exact ⟨ret_st E.out rfl, b1⟩
    · have HS : Hid (∀ W, Calls Tryz.prog 57 #[.int .i64 (k - 8 + 1), .int .i64 n] W fun e w' => e = .returned (.tuple #[.string ⟨#[]⟩, .int .i64 2]) ∧ Below W.heap.size W w') := fun W => by
        rw [show k - 8 + 1 = k - 7 by omega]; exact refShow_no hn W n1 n2
      clear hn
      go_enter Tryz.func31, Tryz.ntmps31
      go_wp2_with fail
      refine (HS.out _).mono ?_
      rintro e u ⟨rfl, b1⟩
      go_wp2_with fail
      go_ret2
      exact ⟨rfl, b1⟩
  · have b13 : (k == 13) = false := by rw [beq_eq_false_iff_ne]; omega
    have b14 : (k == 14) = false := by rw [beq_eq_false_iff_ne]; omega
    have n13 : ¬ k = 13 := by omega
    have n14 : ¬ k = 14 := by omega
    rcases (show k < 8 ∨ 14 < k by omega) with q | q
    · clear h
      go_enter Tryz.func31, Tryz.ntmps31
      go_wp2_with fail
      go_ret2
      exact ⟨rfl, Below.refl _ _⟩
    · have q8 : ¬ k < 8 := by omega
      have d8 : decide (k < 8) = false := decide_eq_false q8
      clear h
      go_enter Tryz.func31, Tryz.ntmps31
      go_wp2_with fail
      go_ret2
      exact ⟨rfl, Below.refl _ _⟩

set_option maxHeartbeats 4000000 in
set_option maxRecDepth 100000 in
theorem refAttrK_any (k : Int) (v : Value) (ax : List (ByteArray × ByteArray)) (name : ByteArray) (w : World) (hv : AttrsV w v ax) (hz : AxOK ax) :
    Calls Tryz.prog 36 #[.int .i64 k, v, .string name] w fun e w' => e = .returned (optV (attrK k ax name)) ∧ Below w.heap.size w w' := by
  have HF := hide (refFind_any v ax name w hv hz.len)
  obtain ⟨p, c, rfl, hv⟩ := hv
  cases hf : findA ax name with
  | none =>
    rw [hf, show findV none = -1 from rfl] at HF
    have E : Hid (attrK k ax name = none) := by show _ = _; unfold attrK; rw [hf]; rfl
    clear hf hv hz
    go_enter Tryz.func36, Tryz.ntmps36
    go_wp2_with fail
    refine HF.out.mono ?_
    rintro e u ⟨rfl, hu⟩
    obtain rfl : w = u := hu.symm
    go_wp2_with fail
    go_ret2
    exact ⟨by rw [E.out]; rfl, Below.refl _ _⟩
  | some i =>
    rw [hf, show findV (some i) = (i : Int) from rfl] at HF
    obtain ⟨hi, _, _⟩ := List.findIdx?_eq_some_iff_getElem.1 (show ax.findIdx? (isN name) = some i from hf)
    have E : Hid (attrK k ax name = numK k ax[i].2.data.toList) := by
      show _ = _
      unfold attrK
      rw [hf]
      show numK k (ax.getD i at0).2.data.toList = _
      rw [show ax.getD i at0 = ax[i] by simp [List.getD, hi]]
    have HV := hide (fun W => refValue_any k ax[i].2 W (hz.val _ (List.getElem_mem hi)))
    obtain ⟨b, o, rfl, hv2⟩ : ∃ b o, p = some ⟨b, o, none⟩ ∧ ∀ i (h : i < ax.length), w.cell? ⟨b, o + i * 2, none⟩ = some (.string ax[i].1) ∧ w.cell? ⟨b, o + i * 2 + 1, none⟩ = some (.string ax[i].2) := by
      rcases hv with t | t
      · rw [t] at hi; simp at hi
      · exact t
    have c1 := (hv2 i hi).2
    have i0 : (0 : Int) ≤ (i : Int) := by omega
    have i1 : (i : Int) < (ax.length : Int) := by omega
    have i2 : ¬ (i : Int) < 0 := by omega
    rw [← E.out] at HV
    generalize ax[i].2 = t at *
    generalize attrK k ax name = r at *
    clear hf hv hv2 hz E
    unfold optV at *
    go_enter Tryz.func36, Tryz.ntmps36
    go_wp2_with fail
    refine HF.out.mono ?_
    rintro e u ⟨rfl, hu⟩
    obtain rfl : w = u := hu.symm
    go_wp2_with fail
    refine (HV.out _).mono ?_
    rintro e u1 ⟨rfl, b1⟩
    go_wp2_with fail
    go_ret2
    exact ⟨rfl, b1⟩

set_option maxHeartbeats 4000000 in
set_option maxRecDepth 100000 in
theorem refLeastK_any (k : Int) (v : Value) (ax : List (ByteArray × ByteArray)) (w : World) (hv : AttrsV w v ax) (hz : AxOK ax) :
    Calls Tryz.prog 13 #[.int .i64 k, v] w fun e w' => e = .returned (optV (leastK k ax)) ∧ Below w.heap.size w w' := by
  have HA := hide (refAttrK_any k v ax minS w hv hz)
  have E : Hid (leastK k ax = if (attrK k ax minS).isSome then attrK k ax minS else if k = 14 then some 0 else none) := rfl
  rw [show minS = ⟨#[109, 105, 110]⟩ from rfl] at HA
  rw [show minS = ⟨#[109, 105, 110]⟩ from rfl] at E
  generalize leastK k ax = L at *
  generalize attrK k ax ⟨#[109, 105, 110]⟩ = A at *
  clear hv hz
  cases A with
  | some n =>
    have e : L = some n := E.out
    subst e
    clear E
    go_enter Tryz.func13, Tryz.ntmps13
    go_wp2_with fail
    refine HA.out.mono ?_
    rintro e u ⟨rfl, b1⟩
    unfold optV
    go_wp2_with fail
    go_ret2
    exact ⟨rfl, b1⟩
  | none =>
    by_cases h : k = 14
    · have e : L = some 0 := by rw [E.out]; exact if_pos h
      subst e h
      clear E
      go_enter Tryz.func13, Tryz.ntmps13
      go_wp2_with fail
      refine HA.out.mono ?_
      rintro e u ⟨rfl, b1⟩
      unfold optV
      go_wp2_with fail
      go_ret2
      exact ⟨rfl, b1⟩
    · have e : L = none := by rw [E.out]; exact if_neg h
      have b14 : (k == 14) = false := beq_eq_false_iff_ne.2 h
      subst e
      clear E
      go_enter Tryz.func13, Tryz.ntmps13
      go_wp2_with fail
      refine HA.out.mono ?_
      rintro e u ⟨rfl, b1⟩
      unfold optV
      go_wp2_with fail
      go_ret2
      exact ⟨rfl, b1⟩

set_option maxHeartbeats 4000000 in
set_option maxRecDepth 100000 in
theorem refMostK_any (k : Int) (v : Value) (ax : List (ByteArray × ByteArray)) (w : World) (hv : AttrsV w v ax) (hz : AxOK ax) :
    Calls Tryz.prog 14 #[.int .i64 k, v] w fun e w' => e = .returned (optV (mostK k ax)) ∧ Below w.heap.size w w' := by
  have HA := hide (refAttrK_any k v ax maxS w hv hz)
  have HL := hide (fun W (hb : Below w.heap.size w W) => refLeastK_any k v ax W (hv.below hb) hz)
  have E : Hid (mostK k ax = if (attrK k ax maxS).isSome then attrK k ax maxS else if k = 14 then some (if 100000000 < optI (leastK k ax) then optI (leastK k ax) else 100000000) else none) := rfl
  rw [show maxS = ⟨#[109, 97, 120]⟩ from rfl] at HA
  rw [show maxS = ⟨#[109, 97, 120]⟩ from rfl] at E
  generalize mostK k ax = L at *
  generalize attrK k ax ⟨#[109, 97, 120]⟩ = A at *
  generalize leastK k ax = Lo at *
  clear hv hz
  cases A with
  | some n =>
    have e : L = some n := E.out
    subst e
    clear E HL
    go_enter Tryz.func14, Tryz.ntmps14
    go_wp2_with fail
    refine HA.out.mono ?_
    rintro e u ⟨rfl, b1⟩
    unfold optV
    go_wp2_with fail
    go_ret2
    exact ⟨rfl, b1⟩
  | none =>
    by_cases h : k = 14
    · have e : L = some (if 100000000 < optI Lo then optI Lo else 100000000) := by rw [E.out]; exact if_pos h
      subst h
      clear E
      unfold optV at HL
      generalize optI Lo = lo at *
      generalize Lo.isSome = is at *
      by_cases q : 100000000 < lo
      · rw [if_pos q] at e
        subst e
        go_enter Tryz.func14, Tryz.ntmps14
        go_wp2_with fail
        refine HA.out.mono ?_
        rintro e u ⟨rfl, b1⟩
        unfold optV
        go_wp2_with fail
        refine (HL.out _ b1).mono ?_
        rintro e u2 ⟨rfl, b2⟩
        go_wp2_with fail
        go_ret2
        exact ⟨rfl, chain b1 b2⟩
      · rw [if_neg q] at e
        subst e
        have dq : decide (100000000 < lo) = false := decide_eq_false q
        go_enter Tryz.func14, Tryz.ntmps14
        go_wp2_with fail
        refine HA.out.mono ?_
        rintro e u ⟨rfl, b1⟩
        unfold optV
        go_wp2_with fail
        refine (HL.out _ b1).mono ?_
        rintro e u2 ⟨rfl, b2⟩
        go_wp2_with fail
        go_ret2
        exact ⟨rfl, chain b1 b2⟩
    · have e : L = none := by rw [E.out]; exact if_neg h
      have b14 : (k == 14) = false := beq_eq_false_iff_ne.2 h
      subst e
      clear E HL
      go_enter Tryz.func14, Tryz.ntmps14
      go_wp2_with fail
      refine HA.out.mono ?_
      rintro e u ⟨rfl, b1⟩
      unfold optV
      go_wp2_with fail
      go_ret2
      exact ⟨rfl, b1⟩

set_option maxHeartbeats 4000000 in
set_option maxRecDepth 100000 in
theorem refBaseK_any (k : Int) (v : Value) (ax : List (ByteArray × ByteArray)) (w : World) (hv : AttrsV w v ax) (hz : AxOK ax) :
    Calls Tryz.prog 38 #[.int .i64 k, v] w fun e w' => e = .returned (.int .i64 (baseK k ax)) ∧ Below w.heap.size w w' := by
  have HA := hide (refAttrK_any k v ax minS w hv hz)
  have HB := hide (fun W (hb : Below w.heap.size w W) => refAttrK_any k v ax valS W (hv.below hb) hz)
  have E : Hid (baseK k ax = if (attrK k ax minS).isSome then optI (attrK k ax minS) else if (attrK k ax valS).isSome then optI (attrK k ax valS) else if k = 10 then -259200000 else 0) := rfl
  rw [show minS = ⟨#[109, 105, 110]⟩ from rfl] at HA E
  rw [show valS = ⟨#[118, 97, 108, 117, 101]⟩ from rfl] at HB E
  generalize baseK k ax = L at *
  generalize attrK k ax ⟨#[109, 105, 110]⟩ = A at *
  generalize attrK k ax ⟨#[118, 97, 108, 117, 101]⟩ = C at *
  clear hv hz
  cases A with
  | some n =>
    have e : L = n := E.out
    subst e
    clear E HB
    go_enter Tryz.func38, Tryz.ntmps38
    go_wp2_with fail
    refine HA.out.mono ?_
    rintro e u ⟨rfl, b1⟩
    unfold optV
    go_wp2_with fail
    go_ret
    exact ⟨rfl, b1⟩
  | none =>
    cases C with
    | some n =>
      have e : L = n := E.out
      subst e
      clear E
      go_enter Tryz.func38, Tryz.ntmps38
      go_wp2_with fail
      refine HA.out.mono ?_
      rintro e u ⟨rfl, b1⟩
      unfold optV
      go_wp2_with fail
      refine (HB.out _ b1).mono ?_
      rintro e u2 ⟨rfl, b2⟩
      unfold optV
      go_wp2_with fail
      go_ret
      exact ⟨rfl, chain b1 b2⟩
    | none =>
      by_cases h : k = 10
      · have e : L = -259200000 := by rw [E.out]; exact if_pos h
        subst e h
        clear E
        go_enter Tryz.func38, Tryz.ntmps38
        go_wp2_with fail
        refine HA.out.mono ?_
        rintro e u ⟨rfl, b1⟩
        unfold optV
        go_wp2_with fail
        refine (HB.out _ b1).mono ?_
        rintro e u2 ⟨rfl, b2⟩
        unfold optV
        go_wp2_with fail
        go_ret
        exact ⟨rfl, chain b1 b2⟩
      · have e : L = 0 := by rw [E.out]; exact if_neg h
        have b10 : (k == 10) = false := beq_eq_false_iff_ne.2 h
        subst e
        clear E
        go_enter Tryz.func38, Tryz.ntmps38
        go_wp2_with fail
        refine HA.out.mono ?_
        rintro e u ⟨rfl, b1⟩
        unfold optV
        go_wp2_with fail
        refine (HB.out _ b1).mono ?_
        rintro e u2 ⟨rfl, b2⟩
        unfold optV
        go_wp2_with fail
        go_ret
        exact ⟨rfl, chain b1 b2⟩

end Go.Proofs.YtpkpkpiphgjbaaaGreatDoor

namespace Go.Proofs.YtpkpkpiphgjbaaaGreatDoor
open Go.RowKit

theorem fit_no {n base step : Int} (h : ¬ 1 ≤ step) : fitV n base step = false := decide_eq_false (fun x => h x.1)
theorem fit_is {n base step : Int} (h : 1 ≤ step) : fitV n base step = (n % step == base % step) := by
  unfold fitV
  by_cases e : n % step = base % step
  · rw [decide_eq_true ⟨h, e⟩]; simp [e]
  · rw [decide_eq_false (fun x => e x.2)]; simp [e]

theorem ret_down {n : Int} {b : Bool} {m : Int} {c : Bool} (h : n = m) (g : b = c) : Ending.returned (.tuple #[.int .i64 n, .bool b]) = .returned (.tuple #[.int .i64 m, .bool c]) := by rw [h, g]
theorem down_off {n base step : Int} (h : ¬ 1 ≤ step) : downOk n base step = false := decide_eq_false (fun x => h x.1)
theorem down_none {n base step : Int} (h : n + 9223372036854775808 < muchV n base step) : downOk n base step = false := decide_eq_false (fun x => by have := x.2; omega)
theorem down_some {n base step : Int} (h : 1 ≤ step) (h2 : muchV n base step ≤ n + 9223372036854775808) : downOk n base step = true := decide_eq_true ⟨h, h2⟩
theorem much_left {n base step : Int} : (n % step - base % step) % step = muchV n base step := (Int.sub_emod n base step).symm

end Go.Proofs.YtpkpkpiphgjbaaaGreatDoor

namespace Go.Proofs.YtpkpkpiphgjbaaaGreatDoor
open Go.RowKit
set_option maxRecDepth 100000

set_option maxHeartbeats 1000000 in
theorem refFits_any (n base step : Int) (w : World) (h1 : -9223372036854775808 ≤ n) (h2 : n ≤ 9223372036854775807) (g1 : -9223372036854775808 ≤ base) (g2 : base ≤ 9223372036854775807) (h4 : step ≤ 9223372036854775807) (h5 : -9223372036854775808 ≤ step) :
    Calls Tryz.prog 37 #[.int .i64 n, .int .i64 base, .int .i64 step] w fun e w' => e = .returned (.bool (fitV n base step)) ∧ w' = w := by
  by_cases hs : 1 ≤ step
  · have E := hide (fit_is (n := n) (base := base) hs)
    go_enter Tryz.func37, Tryz.ntmps37
    go_wp2_with fail
    refine (refLeft_any n step _ h1 h2 hs h4).mono ?_
    rintro e u1 ⟨rfl, rfl⟩
    go_wp2_with fail
    refine (refLeft_any base step _ g1 g2 hs h4).mono ?_
    rintro e u1 ⟨rfl, rfl⟩
    go_wp2_with fail
    go_ret
    exact ⟨ret_bool E.out.symm, rfl⟩
  · have E := hide (fit_no (n := n) (base := base) hs)
    have hs' : step ≤ 0 := by omega
    clear hs
    go_enter Tryz.func37, Tryz.ntmps37
    go_wp2_with fail
    go_ret
    exact ⟨ret_bool E.out.symm, rfl⟩
set_option maxHeartbeats 1000000 in
theorem refDown_any (n base step : Int) (w : World) (h1 : -9223372036854775808 ≤ n) (h2 : n ≤ 9223372036854775807) (g1 : -9223372036854775808 ≤ base) (g2 : base ≤ 9223372036854775807) (h4 : step ≤ 9223372036854775807) (h5 : -9223372036854775808 ≤ step) :
    Calls Tryz.prog 58 #[.int .i64 n, .int .i64 base, .int .i64 step] w fun e w' => e = .returned (.tuple #[.int .i64 (downV n base step), .bool (downOk n base step)]) ∧ w' = w := by
  by_cases hs : 1 ≤ step
  · have ⟨a1, a2⟩ := left_less (n := n) hs
    have ⟨b1, b2⟩ := left_less (n := base) hs
    have ⟨m1, m2⟩ := much_bounds (n := n) (base := base) hs
    have hA := fun w => refLeft_any n step w h1 h2 hs h4
    have hB := fun w => refLeft_any base step w g1 g2 hs h4
    have u1 := much_up (n := n) (base := base) hs
    have u2 := much_down (n := n) (base := base) hs
    have hy := down_some (n := n) (base := base) hs
    have hn := down_none (n := n) (base := base) (step := step)
    have hy2 := downV_yes (n := n) (base := base) (step := step)
    have hn2 := downV_no (n := n) (base := base) (step := step)
    generalize muchV n base step = m at *
    generalize n % step = a at *
    generalize base % step = b at *
    have HA := hide hA
    have HB := hide hB
    clear hA hB
    have hw : IntKind.u64.wrap (IntKind.u64.wrap n - 9223372036854775808) = n + 9223372036854775808 := by rw [IntKind.wrap_u64, IntKind.wrap_u64]; omega
    by_cases hab : b ≤ a
    · have e := u1 hab
      clear u1 u2
      by_cases hm : m ≤ n + 9223372036854775808
      · have E := hide (hy hm)
        have E2 := hide (hy2 E.out)
        clear hy hn hy2 hn2
        subst e
        go_enter Tryz.func58, Tryz.ntmps58
        go_wp2_with fail
        refine (HA.out _).mono ?_
        rintro e u1 ⟨rfl, rfl⟩
        go_wp2_with fail
        refine (HB.out _).mono ?_
        rintro e u1 ⟨rfl, rfl⟩
        go_wp2_with fail
        go_ret2
        exact ⟨ret_down E2.out.symm E.out.symm, rfl⟩
      · have E := hide (hn (by omega))
        have E2 := hide (hn2 E.out)
        clear hy hn hy2 hn2
        subst e
        go_enter Tryz.func58, Tryz.ntmps58
        go_wp2_with fail
        refine (HA.out _).mono ?_
        rintro e u1 ⟨rfl, rfl⟩
        go_wp2_with fail
        refine (HB.out _).mono ?_
        rintro e u1 ⟨rfl, rfl⟩
        go_wp2_with fail
        go_ret2
        exact ⟨ret_down E2.out.symm E.out.symm, rfl⟩
    · have e := u2 hab
      clear u1 u2
      by_cases hm : m ≤ n + 9223372036854775808
      · have E := hide (hy hm)
        have E2 := hide (hy2 E.out)
        clear hy hn hy2 hn2
        subst e
        go_enter Tryz.func58, Tryz.ntmps58
        go_wp2_with fail
        refine (HA.out _).mono ?_
        rintro e u1 ⟨rfl, rfl⟩
        go_wp2_with fail
        refine (HB.out _).mono ?_
        rintro e u1 ⟨rfl, rfl⟩
        go_wp2_with fail
        go_ret2
        exact ⟨ret_down E2.out.symm E.out.symm, rfl⟩
      · have E := hide (hn (by omega))
        have E2 := hide (hn2 E.out)
        clear hy hn hy2 hn2
        subst e
        go_enter Tryz.func58, Tryz.ntmps58
        go_wp2_with fail
        refine (HA.out _).mono ?_
        rintro e u1 ⟨rfl, rfl⟩
        go_wp2_with fail
        refine (HB.out _).mono ?_
        rintro e u1 ⟨rfl, rfl⟩
        go_wp2_with fail
        go_ret2
        exact ⟨ret_down E2.out.symm E.out.symm, rfl⟩
  · have E := hide (down_off (n := n) (base := base) hs)
    have E2 := hide (downV_no E.out)
    have hs' : step ≤ 0 := by omega
    clear hs
    go_enter Tryz.func58, Tryz.ntmps58
    go_wp2_with fail
    go_ret2
    exact ⟨ret_down E2.out.symm E.out.symm, rfl⟩

end Go.Proofs.YtpkpkpiphgjbaaaGreatDoor

namespace Go.Proofs.YtpkpkpiphgjbaaaGreatDoor
open Go.RowKit
set_option maxRecDepth 100000

theorem byteTypes : ByteTypes Tryz.prog 63 5 9 := ⟨Tryz.underlying63, Tryz.underlying5, Tryz.underlying9, by kernel_rfl⟩

/-- Behind k rounds: the first k bytes of the new row are small, the others as they were. -/
structure LowAt (w : World) (s : ByteArray) (k : Nat) (wr : World) : Prop where
  cells : ∀ j, j < s.size → wr.cell? ⟨w.heap.size, j, none⟩ = some (.int .u8 ((if j < k then lowB (byteAt s j) else byteAt s j).toNat : Int))
  free : ∀ j, j < s.size → wr.frozen? ⟨w.heap.size, j, none⟩ = false
  below : Below w.heap.size w wr

theorem lowAt_start (w : World) (s : ByteArray) : LowAt w s 0 (Lib.bytesWorld w 5 s) :=
  ⟨fun j hj => by rw [Lib.bytesWorld_cell _ _ _ _ hj]; rfl, fun j hj => bytes_free w 5 s j hj, bytes_below w 5 s⟩
theorem lowAt_here {w : World} {s : ByteArray} {k : Nat} {wr : World} (h : LowAt w s k wr) (hk : k < s.size) : wr.cell? ⟨w.heap.size, k, none⟩ = some (.int .u8 ((byteAt s k).toNat : Int)) := by
  rw [h.cells k hk, if_neg (by omega)]
theorem lowAt_yes {w : World} {s : ByteArray} {k : Nat} {wr : World} (h : LowAt w s k wr) (hk : k < s.size) (h1 : 65 ≤ (byteAt s k).toNat) (h2 : (byteAt s k).toNat ≤ 90) :
    LowAt w s (k + 1) (wr.setCell ⟨w.heap.size, k, none⟩ (.int .u8 (((byteAt s k).toNat : Int) - 65 + 97))) := by
  refine ⟨fun j hj => ?_, fun j hj => ?_, h.below.setCell (Nat.le_refl _) _⟩
  · by_cases e : j = k
    · subst e
      rw [World.cell?_setCell_same _ _ _ (lowAt_here h hk), if_pos (by omega), lowB_yes _ h1 h2]
      congr 2; omega
    · rw [World.cell?_setCell_other _ _ _ _ (fun x => e (by simpa using x.symm)), h.cells j hj]
      by_cases e2 : j < k
      · rw [if_pos e2, if_pos (by omega)]
      · rw [if_neg e2, if_neg (by omega)]
  · rw [World.frozen?_setCell]; exact h.free j hj
theorem lowAt_no {w : World} {s : ByteArray} {k : Nat} {wr : World} (h : LowAt w s k wr) (h1 : ¬ (65 ≤ (byteAt s k).toNat ∧ (byteAt s k).toNat ≤ 90)) : LowAt w s (k + 1) wr := by
  refine ⟨fun j hj => ?_, h.free, h.below⟩
  rw [h.cells j hj]
  by_cases e2 : j < k
  · rw [if_pos e2, if_pos (by omega)]
  · by_cases e : j = k
    · subst e; rw [if_neg (by omega), if_pos (by omega), lowB_no _ h1]
    · rw [if_neg e2, if_neg (by omega)]
theorem lowAt_end {w : World} {s : ByteArray} {wr : World} (h : LowAt w s s.size wr) (cap : Nat) :
    (convert 63 9 (.slice (some ⟨w.heap.size, 0, none⟩) s.size cap)).run Tryz.prog wr = .ok (.string (lowS s)) wr := by
  have hl : ((lowL s.data.toList).map fun c => (c.toNat : Int)).length = s.size := by simp [lowL]
  have := run_convert_bytes_arg (P := Tryz.prog) wr 63 5 byteTypes.sl byteTypes.el w.heap.size 0 s.size cap _ hl (fun i hi => by
    rw [Nat.zero_add, h.cells i hi, if_pos hi]
    simp [lowL, byteAt, List.getD, hi]) 9 byteTypes.str
  rw [this, strOfNums_bytes]; rfl

set_option maxHeartbeats 400000 in
theorem lower_any (s : ByteArray) (w : World) (hs : s.size ≤ maxLen) :
    Calls Tryz.prog 51 #[.string s] w fun e w' => e = .returned (.string (lowS s)) ∧ Below w.heap.size w w' := by
  unfold maxLen at hs
  have hconv := fun w => Lib.run_convert_string_bytes (P := Tryz.prog) w 9 63 5 s byteTypes.str byteTypes.sl byteTypes.el
  go_enter Tryz.func51, Tryz.ntmps51
  go_wp2
  go_loopw [10] (fun i wr => ∃ k : Nat, k ≤ s.size ∧ i = .int .i64 k ∧ LowAt w s k wr) (fun i _ => s.size - (intOf i).toNat)
  case atStart => exact ⟨0, Nat.zero_le _, rfl, lowAt_start w s⟩
  case round =>
    obtain ⟨k, hk, rfl, hl⟩ := hrel
    by_cases hlt : k < s.size
    · have hc := lowAt_here hl hlt
      have hf := hl.free k hlt
      have hb : ((byteAt s k).toNat : Int) ≤ 255 := by have := (byteAt s k).toNat_lt; omega
      have HY := hide (lowAt_yes hl hlt)
      have HN := hide (lowAt_no hl)
      go_wp2
      · go_roundw
        case rel => exact ⟨k + 1, by omega, by go_num, HY.out (by omega) (by omega)⟩
        case measure => simp [intOf]; omega
      · go_roundw
        case rel => exact ⟨k + 1, by omega, by go_num, HN.out (by omega)⟩
        case measure => simp [intOf]; omega
      · go_roundw
        case rel => exact ⟨k + 1, by omega, by go_num, HN.out (by omega)⟩
        case measure => simp [intOf]; omega
    · have e : k = s.size := by omega
      subst e
      have hend := lowAt_end hl (grownCap w s.size 0 5)
      go_wp2
      go_ret
      exact ⟨rfl, hl.below⟩

set_option maxHeartbeats 400000 in
theorem refLower_any (s : ByteArray) (w : World) (hs : s.size ≤ 70368744177663) :
    Calls Tryz.prog 40 #[.string s] w fun e w' => e = .returned (.string (lowS s)) ∧ Below w.heap.size w w' := by
  go_enter Tryz.func40, Tryz.ntmps40
  go_wp2
  go_loopw [3, 4] (fun v i wr => ∃ k : Nat, k ≤ s.size ∧ i = .int .i64 k ∧ OwnsB 5 w.heap.size wr v (lowL (s.data.toList.take k)) ∧ Below w.heap.size w wr) (fun _ i _ => s.size - (intOf i).toNat)
  case atStart => exact ⟨0, Nat.zero_le _, rfl, OwnsB.nil _ _ _, Below.refl _ _⟩
  case round =>
    obtain ⟨k, hk, rfl, hown, hb⟩ := hrel
    by_cases hlt : k < s.size
    · have hll : (lowL (s.data.toList.take k)).length ≤ k := by rw [lowL_length]; exact List.length_take_le _ _
      have HT := hide (lowL_take s k hlt)
      have hsz := hb.size
      have hbe := byteAt_eq s k hlt
      rcases (show (65 ≤ (s[k].toNat : Int) ∧ (s[k].toNat : Int) ≤ 90) ∨ (65 ≤ (s[k].toNat : Int) ∧ 90 < (s[k].toNat : Int)) ∨ (s[k].toNat : Int) < 65 by omega) with ⟨h1, h2⟩ | ⟨h1, h2⟩ | h1
      · have HV : Hid ((s[k].toNat : Int) + 32 = ((lowB (byteAt s k)).toNat : Int)) := by
          rw [← hbe, lowB_yes _ (by omega) (by omega)]; exact (Int.natCast_add _ _).symm
        clear hbe
        go_wp2_with (at_builtin; refine wpList_append_byte byteTypes wr _ rfl _ _ rfl w.heap.size _ _ (lowB (byteAt s k)) HV.out rfl hown rfl (by omega) (by omega) ?_; intro v' w' hown' hb')
        go_roundw
        case rel => exact ⟨k + 1, by omega, by go_num, by rw [HT.out]; exact hown', hb.trans hb'⟩
        case measure => simp [intOf]; omega
      · have HV : Hid ((s[k].toNat : Int) = ((lowB (byteAt s k)).toNat : Int)) := by
          rw [← hbe, lowB_no _ (by omega)]; exact rfl
        clear hbe
        go_wp2_with (at_builtin; refine wpList_append_byte byteTypes wr _ rfl _ _ rfl w.heap.size _ _ (lowB (byteAt s k)) HV.out rfl hown rfl (by omega) (by omega) ?_; intro v' w' hown' hb')
        go_roundw
        case rel => exact ⟨k + 1, by omega, by go_num, by rw [HT.out]; exact hown', hb.trans hb'⟩
        case measure => simp [intOf]; omega
      · have HV : Hid ((s[k].toNat : Int) = ((lowB (byteAt s k)).toNat : Int)) := by
          rw [← hbe, lowB_no _ (by omega)]; exact rfl
        clear hbe
        go_wp2_with (at_builtin; refine wpList_append_byte byteTypes wr _ rfl _ _ rfl w.heap.size _ _ (lowB (byteAt s k)) HV.out rfl hown rfl (by omega) (by omega) ?_; intro v' w' hown' hb')
        go_roundw
        case rel => exact ⟨k + 1, by omega, by go_num, by rw [HT.out]; exact hown', hb.trans hb'⟩
        case measure => simp [intOf]; omega
    · have e : k = s.size := by omega
      subst e
      have ht : s.data.toList.take s.size = s.data.toList := List.take_of_length_le (by simp)
      rw [ht] at hown
      have hend := hown.text byteTypes
      go_wp2
      go_ret
      exact ⟨rfl, hb⟩

set_option maxHeartbeats 400000 in
theorem same_any (a b : ByteArray) (w : World) (ha : a.size ≤ maxLen) (hb : b.size ≤ maxLen) :
    Calls Tryz.prog 127 #[.string a, .string b] w fun e w' => e = .returned (.bool ((lowS a).toList == (lowS b).toList)) ∧ Below w.heap.size w w' := by
  go_enter Tryz.func127, Tryz.ntmps127
  go_wp2_with fail
  refine (lower_any a _ ha).mono ?_
  rintro e w1 ⟨rfl, hb1⟩
  go_wp2_with fail
  refine (lower_any b _ hb).mono ?_
  rintro e w2 ⟨rfl, hb2⟩
  go_wp2_with fail
  go_ret
  exact ⟨rfl, chain hb1 hb2⟩

end Go.Proofs.YtpkpkpiphgjbaaaGreatDoor
