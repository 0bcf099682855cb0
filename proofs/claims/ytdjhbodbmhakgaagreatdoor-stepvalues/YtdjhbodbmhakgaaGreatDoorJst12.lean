/- Joined texts. StepR1: The document's Value, Show, attr, Least, Most, Base of layer 12: they answer by the functions of 'StepP'; what lay in the world lies there still. Conditions: a row of attributes as it lies in the world; texts of at most 100000 bytes. TrimR: What strings.TrimRight answers at noughts: the shelf's contract, laid at this program. No condition. NumLib: What strings.CutPrefix, strings.Cut and strings.TrimRight answer: the shelf's contracts, laid at this program. Conditions: texts of fewer than 2^32 - 15 bytes for Cut, which reads the library's variable MaxLen: it holds some number. ParseWalks: The program's cut, millionths and Parse answer by the functions of 'Num' and 'NumProg'; they change nothing that was there. Conditions: texts of fewer than 2^32 - 15 bytes; the library's variable MaxLen holds some number. -/
import Derived.Test.YtdjhbodbmhakgaaGreatDoorJst6
import Derived.Test.YtdjhbodbmhakgaaGreatDoorJst7
import Derived.Test.YtdjhbodbmhakgaaGreatDoorJst8
import Derived.Test.YtdjhbodbmhakgaaGreatDoorJst11
import Derived.Test.YtdjhbodbmhakgaaGreatDoorJst5
import Derived.Shelf.Strings.Trim
import Derived.Test.YtdjhbodbmhakgaaGreatDoorProg
import Derived.Shelf.Strings.Cut
import Derived.Shelf.Small.Wraps
namespace Go.Proofs.YtdjhbodbmhakgaaGreatDoor
open Go.RowKit
set_option maxRecDepth 100000

/-- A number, and whether there is one. -/
def optV (o : Option Int) : Value := .tuple #[.int .i64 (optI o), .bool o.isSome]
def txtV (o : Option (List UInt8)) : Value := .tuple #[.string (txt (o.getD [])), .bool o.isSome]
theorem ret_opt {a : Int} {b : Bool} {o : Option Int} (h : a = optI o) (g : b = o.isSome) : Ending.returned (.tuple #[.int .i64 a, .bool b]) = .returned (optV o) := by rw [h, g]; rfl
theorem ret_st {a : ByteArray} {b : Bool} {o : Option (List UInt8)} (h : a = txt (o.getD [])) (g : b = o.isSome) : Ending.returned (.tuple #[.string a, .bool b]) = .returned (txtV o) := by rw [h, g]; rfl
theorem belQ (w : World) (q : Nat) : Below w.heap.size w (w.drewN q) := ⟨rfl, rfl, rfl, Nat.le_refl _, fun _ _ => rfl⟩
/-- Attributes that a statement takes. -/
structure AxOK (ax : List (ByteArray × ByteArray)) : Prop where
  len : ax.length ≤ 4398046511104
  val : ∀ a ∈ ax, a.2.size ≤ 100000

set_option maxHeartbeats 4000000 in
set_option maxRecDepth 100000 in
theorem refValue_any (k : Int) (s : ByteArray) (w : World) (hs : s.size ≤ 100000) :
    Calls Tryz.prog 11 #[.int .i64 k, .string s] w fun e w' => e = .returned (optV (numK k s.data.toList)) ∧ Below w.heap.size w w' := by
  by_cases h : k = 13 ∨ k = 14
  · have E1 : Hid (numK k s.data.toList = okP (parseV s.data.toList)) := if_pos h
    have E2 := hide (parse_opt s.data.toList)
    have HP := hide (fun W => refParse_any s W (by omega))
    generalize parseV s.data.toList = r at *
    rcases h with rfl | rfl
    all_goals
      go_enter Tryz.func11, Tryz.ntmps11
      go_wp2_with fail
      refine (HP.out _).mono ?_
      rintro e u ⟨rfl, rfl⟩
      go_wp2_with fail
      go_ret2
      exact ⟨by rw [E1.out]; exact ret_opt E2.out.1 E2.out.2, Below.refl _ _⟩
  · have n13 : ¬ k = 13 := fun q => h (.inl q)
    have n14 : ¬ k = 14 := fun q => h (.inr q)
    have b13 : (k == 13) = false := beq_eq_false_iff_ne.2 n13
    have b14 : (k == 14) = false := beq_eq_false_iff_ne.2 n14
    by_cases h2 : 8 ≤ k ∧ k ≤ 12
    · have E1 : Hid (numK k s.data.toList = momT (k - 7) s.data.toList) := by show _ = _; unfold numK; rw [if_neg h, if_pos h2]
      have E2 := hide (mom_opt (k := k - 7) (by omega) s.data.toList)
      have HP := hide (fun W => refMom_any (k - 8 + 1) s W hs)
      rw [show k - 8 + 1 = k - 7 by omega] at HP
      have HP2 : Hid (∀ W, Calls Tryz.prog 28 #[.int .i64 (k - 8 + 1), .string s] W fun e w' => e = .returned (.tuple #[.int .i64 (momV (k - 7) s.data.toList).1, .int .i64 (momV (k - 7) s.data.toList).2]) ∧ ∃ q, w' = W.drewN q) := fun W => by
        rw [show k - 8 + 1 = k - 7 by omega]; exact HP.out W
      clear HP
      generalize momV (k - 7) s.data.toList = r at *
      have h3 := h2.1
      have h4 : k ≤ 14 := by omega
      have h5 : k ≤ 12 := h2.2
      clear h h2
      go_enter Tryz.func11, Tryz.ntmps11
      go_wp2_with fail
      refine (HP2.out _).mono ?_
      rintro e u ⟨rfl, q, rfl⟩
      go_wp2_with fail
      go_ret2
      exact ⟨by rw [E1.out]; exact ret_opt E2.out.1 E2.out.2, belQ _ _⟩
    · have E1 : Hid (numK k s.data.toList = none) := by show _ = _; unfold numK; rw [if_neg h, if_neg h2]
      rcases (show k < 8 ∨ 14 < k by omega) with q | q
      · clear h h2
        go_enter Tryz.func11, Tryz.ntmps11
        go_wp2_with fail
        go_ret2
        exact ⟨by rw [E1.out]; rfl, Below.refl _ _⟩
      · have q8 : ¬ k < 8 := by omega
        have d8 : decide (k < 8) = false := decide_eq_false q8
        clear h h2
        go_enter Tryz.func11, Tryz.ntmps11
        go_wp2_with fail
        go_ret2
        exact ⟨by rw [E1.out]; rfl, Below.refl _ _⟩

set_option maxHeartbeats 4000000 in
set_option maxRecDepth 100000 in
theorem refShowK_any {k n : Int} {o : Option (List UInt8)} (h : ShK k n o) (w : World) (n1 : -9223372036854775808 ≤ n) (n2 : n ≤ 9223372036854775807) :
    Calls Tryz.prog 13 #[.int .i64 k, .int .i64 n] w fun e w' => e = .returned (txtV o) ∧ Below w.heap.size w w' := by
  rcases h with ⟨h, h1⟩ | ⟨h, h1⟩ | ⟨h, rfl⟩
  · rcases h1 with ⟨q1, q2, rfl⟩ | ⟨q, rfl⟩
    · have HS := hide (fun W => refShow_any n W n1 n2)
      have g1 : ¬ 1000000000000000000 < n := by omega
      have g2 : ¬ n < -1000000000000000000 := by omega
      have d1 : decide (1000000000000000000 < n) = false := decide_eq_false g1
      have d2 : decide (n < -1000000000000000000) = false := decide_eq_false g2
      have E : Hid (txt (showL n) = txt ((some (showL n)).getD [])) := rfl
      generalize txt (showL n) = t at *
      rcases h with rfl | rfl
      all_goals
        go_enter Tryz.func13, Tryz.ntmps13
        go_wp2_with fail
        refine (HS.out _).mono ?_
        rintro e u ⟨rfl, b1⟩
        go_wp2_with fail
        go_ret2
        exact ⟨ret_st E.out rfl, b1⟩
    · rcases (show 1000000000000000000 < n ∨ n < -1000000000000000000 by omega) with g1 | g2
      · rcases h with rfl | rfl
        all_goals
          clear q
          go_enter Tryz.func13, Tryz.ntmps13
          go_wp2_with fail
          go_ret2
          exact ⟨rfl, Below.refl _ _⟩
      · have g1 : ¬ 1000000000000000000 < n := by omega
        have d1 : decide (1000000000000000000 < n) = false := decide_eq_false g1
        rcases h with rfl | rfl
        all_goals
          clear q
          go_enter Tryz.func13, Tryz.ntmps13
          go_wp2_with fail
          go_ret2
          exact ⟨rfl, Below.refl _ _⟩
  · have b13 : (k == 13) = false := by rw [beq_eq_false_iff_ne]; omega
    have b14 : (k == 14) = false := by rw [beq_eq_false_iff_ne]; omega
    have n13 : ¬ k = 13 := by omega
    have n14 : ¬ k = 14 := by omega
    have h3 := h.1
    have h4 : k ≤ 14 := by omega
    have h5 : k ≤ 12 := h.2
    clear h
    rcases h1 with ⟨t, ht, rfl⟩ | ⟨hn, rfl⟩
    · have HS : Hid (∀ W, Calls Tryz.prog 32 #[.int .i64 (k - 8 + 1), .int .i64 n] W fun e w' => e = .returned (.tuple #[.string (txt t), .int .i64 0]) ∧ Below W.heap.size W w') := fun W => by
        rw [show k - 8 + 1 = k - 7 by omega]; exact refShow_yes ht W n1 n2
      have E : Hid (txt t = txt ((some t).getD [])) := rfl
      generalize txt t = x at *
      clear ht
      go_enter Tryz.func13, Tryz.ntmps13
      go_wp2_with fail
      refine (HS.out _).mono ?_
      rintro e u ⟨rfl, b1⟩
      go_wp2_with fail
      go_ret2
      exact ⟨ret_st E.out rfl, b1⟩
    · have HS : Hid (∀ W, Calls Tryz.prog 32 #[.int .i64 (k - 8 + 1), .int .i64 n] W fun e w' => e = .returned (.tuple #[.string ⟨#[]⟩, .int .i64 2]) ∧ Below W.heap.size W w') := fun W => by
        rw [show k - 8 + 1 = k - 7 by omega]; exact refShow_no hn W n1 n2
      clear hn
      go_enter Tryz.func13, Tryz.ntmps13
      go_wp2_with fail
      refine (HS.out _).mono ?_
      rintro e u ⟨rfl, b1⟩
      go_wp2_with fail
      go_ret2
      exact ⟨rfl, b1⟩
  · have b13 : (k == 13) = false := by rw [beq_eq_false_iff_ne]; omega
    have b14 : (k == 14) = false := by rw [beq_eq_false_iff_ne]; omega
    have n13 : ¬ k = 13 := by omega
    have n14 : ¬ k = 14 := by omega
    rcases (show k < 8 ∨ 14 < k by omega) with q | q
    · clear h
      go_enter Tryz.func13, Tryz.ntmps13
      go_wp2_with fail
      go_ret2
      exact ⟨rfl, Below.refl _ _⟩
    · have q8 : ¬ k < 8 := by omega
      have d8 : decide (k < 8) = false := decide_eq_false q8
      clear h
      go_enter Tryz.func13, Tryz.ntmps13
      go_wp2_with fail
      go_ret2
      exact ⟨rfl, Below.refl _ _⟩

set_option maxHeartbeats 4000000 in
set_option maxRecDepth 100000 in
theorem refAttrK_any (k : Int) (v : Value) (ax : List (ByteArray × ByteArray)) (name : ByteArray) (w : World) (hv : AttrsV w v ax) (hz : AxOK ax) :
    Calls Tryz.prog 35 #[.int .i64 k, v, .string name] w fun e w' => e = .returned (optV (attrK k ax name)) ∧ Below w.heap.size w w' := by
  have HF := hide (refFind_any v ax name w hv hz.len)
  obtain ⟨p, c, rfl, hv⟩ := hv
  cases hf : findA ax name with
  | none =>
    rw [hf, show findV none = -1 from rfl] at HF
    have E : Hid (attrK k ax name = none) := by show _ = _; unfold attrK; rw [hf]; rfl
    clear hf hv hz
    go_enter Tryz.func35, Tryz.ntmps35
    go_wp2_with fail
    refine HF.out.mono ?_
    rintro e u ⟨rfl, hu⟩
    obtain rfl : w = u := hu.symm
    go_wp2_with fail
    go_ret2
    exact ⟨by rw [E.out]; rfl, Below.refl _ _⟩
  | some i =>
    rw [hf, show findV (some i) = (i : Int) from rfl] at HF
    obtain ⟨hi, _, _⟩ := List.findIdx?_eq_some_iff_getElem.1 (show ax.findIdx? (isN name) = some i from hf)
    have E : Hid (attrK k ax name = numK k ax[i].2.data.toList) := by
      show _ = _
      unfold attrK
      rw [hf]
      show numK k (ax.getD i at0).2.data.toList = _
      rw [show ax.getD i at0 = ax[i] by simp [List.getD, hi]]
    have HV := hide (fun W => refValue_any k ax[i].2 W (hz.val _ (List.getElem_mem hi)))
    obtain ⟨b, o, rfl, hv2⟩ : ∃ b o, p = some ⟨b, o, none⟩ ∧ ∀ i (h : i < ax.length), w.cell? ⟨b, o + i * 2, none⟩ = some (.string ax[i].1) ∧ w.cell? ⟨b, o + i * 2 + 1, none⟩ = some (.string ax[i].2) := by
      rcases hv with t | t
      · rw [t] at hi; simp at hi
      · exact t
    have c1 := (hv2 i hi).2
    have i0 : (0 : Int) ≤ (i : Int) := by omega
    have i1 : (i : Int) < (ax.length : Int) := by omega
    have i2 : ¬ (i : Int) < 0 := by omega
    rw [← E.out] at HV
    generalize ax[i].2 = t at *
    generalize attrK k ax name = r at *
    clear hf hv hv2 hz E
    unfold optV at *
    go_enter Tryz.func35, Tryz.ntmps35
    go_wp2_with fail
    refine HF.out.mono ?_
    rintro e u ⟨rfl, hu⟩
    obtain rfl : w = u := hu.symm
    go_wp2_with fail
    refine (HV.out _).mono ?_
    rintro e u1 ⟨rfl, b1⟩
    go_wp2_with fail
    go_ret2
    exact ⟨rfl, b1⟩

set_option maxHeartbeats 4000000 in
set_option maxRecDepth 100000 in
theorem refLeastK_any (k : Int) (v : Value) (ax : List (ByteArray × ByteArray)) (w : World) (hv : AttrsV w v ax) (hz : AxOK ax) :
    Calls Tryz.prog 15 #[.int .i64 k, v] w fun e w' => e = .returned (optV (leastK k ax)) ∧ Below w.heap.size w w' := by
  have HA := hide (refAttrK_any k v ax minS w hv hz)
  have E : Hid (leastK k ax = if (attrK k ax minS).isSome then attrK k ax minS else if k = 14 then some 0 else none) := rfl
  rw [show minS = ⟨#[109, 105, 110]⟩ from rfl] at HA
  rw [show minS = ⟨#[109, 105, 110]⟩ from rfl] at E
  generalize leastK k ax = L at *
  generalize attrK k ax ⟨#[109, 105, 110]⟩ = A at *
  clear hv hz
  cases A with
  | some n =>
    have e : L = some n := E.out
    subst e
    clear E
    go_enter Tryz.func15, Tryz.ntmps15
    go_wp2_with fail
    refine HA.out.mono ?_
    rintro e u ⟨rfl, b1⟩
    unfold optV
    go_wp2_with fail
    go_ret2
    exact ⟨rfl, b1⟩
  | none =>
    by_cases h : k = 14
    · have e : L = some 0 := by rw [E.out]; exact if_pos h
      subst e h
      clear E
      go_enter Tryz.func15, Tryz.ntmps15
      go_wp2_with fail
      refine HA.out.mono ?_
      rintro e u ⟨rfl, b1⟩
      unfold optV
      go_wp2_with fail
      go_ret2
      exact ⟨rfl, b1⟩
    · have e : L = none := by rw [E.out]; exact if_neg h
      have b14 : (k == 14) = false := beq_eq_false_iff_ne.2 h
      subst e
      clear E
      go_enter Tryz.func15, Tryz.ntmps15
      go_wp2_with fail
      refine HA.out.mono ?_
      rintro e u ⟨rfl, b1⟩
      unfold optV
      go_wp2_with fail
      go_ret2
      exact ⟨rfl, b1⟩

set_option maxHeartbeats 4000000 in
set_option maxRecDepth 100000 in
theorem refMostK_any (k : Int) (v : Value) (ax : List (ByteArray × ByteArray)) (w : World) (hv : AttrsV w v ax) (hz : AxOK ax) :
    Calls Tryz.prog 17 #[.int .i64 k, v] w fun e w' => e = .returned (optV (mostK k ax)) ∧ Below w.heap.size w w' := by
  have HA := hide (refAttrK_any k v ax maxS w hv hz)
  have HL := hide (fun W (hb : Below w.heap.size w W) => refLeastK_any k v ax W (hv.below hb) hz)
  have E : Hid (mostK k ax = if (attrK k ax maxS).isSome then attrK k ax maxS else if k = 14 then some (if 100000000 < optI (leastK k ax) then optI (leastK k ax) else 100000000) else none) := rfl
  rw [show maxS = ⟨#[109, 97, 120]⟩ from rfl] at HA
  rw [show maxS = ⟨#[109, 97, 120]⟩ from rfl] at E
  generalize mostK k ax = L at *
  generalize attrK k ax ⟨#[109, 97, 120]⟩ = A at *
  generalize leastK k ax = Lo at *
  clear hv hz
  cases A with
  | some n =>
    have e : L = some n := E.out
    subst e
    clear E HL
    go_enter Tryz.func17, Tryz.ntmps17
    go_wp2_with fail
    refine HA.out.mono ?_
    rintro e u ⟨rfl, b1⟩
    unfold optV
    go_wp2_with fail
    go_ret2
    exact ⟨rfl, b1⟩
  | none =>
    by_cases h : k = 14
    · have e : L = some (if 100000000 < optI Lo then optI Lo else 100000000) := by rw [E.out]; exact if_pos h
      subst h
      clear E
      unfold optV at HL
      generalize optI Lo = lo at *
      generalize Lo.isSome = is at *
      by_cases q : 100000000 < lo
      · rw [if_pos q] at e
        subst e
        go_enter Tryz.func17, Tryz.ntmps17
        go_wp2_with fail
        refine HA.out.mono ?_
        rintro e u ⟨rfl, b1⟩
        unfold optV
        go_wp2_with fail
        refine (HL.out _ b1).mono ?_
        rintro e u2 ⟨rfl, b2⟩
        go_wp2_with fail
        go_ret2
        exact ⟨rfl, chain b1 b2⟩
      · rw [if_neg q] at e
        subst e
        have dq : decide (100000000 < lo) = false := decide_eq_false q
        go_enter Tryz.func17, Tryz.ntmps17
        go_wp2_with fail
        refine HA.out.mono ?_
        rintro e u ⟨rfl, b1⟩
        unfold optV
        go_wp2_with fail
        refine (HL.out _ b1).mono ?_
        rintro e u2 ⟨rfl, b2⟩
        go_wp2_with fail
        go_ret2
        exact ⟨rfl, chain b1 b2⟩
    · have e : L = none := by rw [E.out]; exact if_neg h
      have b14 : (k == 14) = false := beq_eq_false_iff_ne.2 h
      subst e
      clear E HL
      go_enter Tryz.func17, Tryz.ntmps17
      go_wp2_with fail
      refine HA.out.mono ?_
      rintro e u ⟨rfl, b1⟩
      unfold optV
      go_wp2_with fail
      go_ret2
      exact ⟨rfl, b1⟩

set_option maxHeartbeats 4000000 in
set_option maxRecDepth 100000 in
theorem refBaseK_any (k : Int) (v : Value) (ax : List (ByteArray × ByteArray)) (w : World) (hv : AttrsV w v ax) (hz : AxOK ax) :
    Calls Tryz.prog 21 #[.int .i64 k, v] w fun e w' => e = .returned (.int .i64 (baseK k ax)) ∧ Below w.heap.size w w' := by
  have HA := hide (refAttrK_any k v ax minS w hv hz)
  have HB := hide (fun W (hb : Below w.heap.size w W) => refAttrK_any k v ax valS W (hv.below hb) hz)
  have E : Hid (baseK k ax = if (attrK k ax minS).isSome then optI (attrK k ax minS) else if (attrK k ax valS).isSome then optI (attrK k ax valS) else if k = 10 then -259200000 else 0) := rfl
  rw [show minS = ⟨#[109, 105, 110]⟩ from rfl] at HA E
  rw [show valS = ⟨#[118, 97, 108, 117, 101]⟩ from rfl] at HB E
  generalize baseK k ax = L at *
  generalize attrK k ax ⟨#[109, 105, 110]⟩ = A at *
  generalize attrK k ax ⟨#[118, 97, 108, 117, 101]⟩ = C at *
  clear hv hz
  cases A with
  | some n =>
    have e : L = n := E.out
    subst e
    clear E HB
    go_enter Tryz.func21, Tryz.ntmps21
    go_wp2_with fail
    refine HA.out.mono ?_
    rintro e u ⟨rfl, b1⟩
    unfold optV
    go_wp2_with fail
    go_ret
    exact ⟨rfl, b1⟩
  | none =>
    cases C with
    | some n =>
      have e : L = n := E.out
      subst e
      clear E
      go_enter Tryz.func21, Tryz.ntmps21
      go_wp2_with fail
      refine HA.out.mono ?_
      rintro e u ⟨rfl, b1⟩
      unfold optV
      go_wp2_with fail
      refine (HB.out _ b1).mono ?_
      rintro e u2 ⟨rfl, b2⟩
      unfold optV
      go_wp2_with fail
      go_ret
      exact ⟨rfl, chain b1 b2⟩
    | none =>
      by_cases h : k = 10
      · have e : L = -259200000 := by rw [E.out]; exact if_pos h
        subst e h
        clear E
        go_enter Tryz.func21, Tryz.ntmps21
        go_wp2_with fail
        refine HA.out.mono ?_
        rintro e u ⟨rfl, b1⟩
        unfold optV
        go_wp2_with fail
        refine (HB.out _ b1).mono ?_
        rintro e u2 ⟨rfl, b2⟩
        unfold optV
        go_wp2_with fail
        go_ret
        exact ⟨rfl, chain b1 b2⟩
      · have e : L = 0 := by rw [E.out]; exact if_neg h
        have b10 : (k == 10) = false := beq_eq_false_iff_ne.2 h
        subst e
        clear E
        go_enter Tryz.func21, Tryz.ntmps21
        go_wp2_with fail
        refine HA.out.mono ?_
        rintro e u ⟨rfl, b1⟩
        unfold optV
        go_wp2_with fail
        refine (HB.out _ b1).mono ?_
        rintro e u2 ⟨rfl, b2⟩
        unfold optV
        go_wp2_with fail
        go_ret
        exact ⟨rfl, chain b1 b2⟩

end Go.Proofs.YtdjhbodbmhakgaaGreatDoor

namespace Go.Proofs.YtdjhbodbmhakgaaGreatDoor
open Go.Shelf Go.RowKit
set_option maxRecDepth 100000

def trren : Go.Shelf.Ren := ⟨fun | 119 => 169 | 120 => 152 | 137 => 118 | 151 => 133 | 152 => 154 | 162 => 74 | 197 => 153 | 217 => 135 | 224 => 150 | 225 => 149 | 227 => 108 | 228 => 131 | 232 => 107 | 234 => 109 | 236 => 110 | 260 => 168 | 266 => 157 | 271 => 132 | n => n, fun | 0 => 0 | 3 => 3 | 4 => 4 | 5 => 5 | 9 => 9 | 21 => 21 | 46 => 148 | 72 => 111 | 105 => 145 | 116 => 126 | 117 => 127 | 119 => 182 | 124 => 130 | 138 => 184 | 139 => 185 | n => n, fun | 3 => 4 | 4 => 5 | n => n⟩
theorem lays162 : Go.Proofs.Lays.n162 Tryz.prog trren := {
  mixed := by kernel_rfl
  f119 := Tryz.func169.trans (congrArg some (by kernel_rfl))
  f120 := Tryz.func152.trans (congrArg some (by kernel_rfl))
  f137 := Tryz.func118.trans (congrArg some (by kernel_rfl))
  f151 := Tryz.func133.trans (congrArg some (by kernel_rfl))
  f152 := Tryz.func154.trans (congrArg some (by kernel_rfl))
  f162 := Tryz.func74.trans (congrArg some (by kernel_rfl))
  f197 := Tryz.func153.trans (congrArg some (by kernel_rfl))
  f217 := Tryz.func135.trans (congrArg some (by kernel_rfl))
  f224 := Tryz.func150.trans (congrArg some (by kernel_rfl))
  f225 := Tryz.func149.trans (congrArg some (by kernel_rfl))
  f227 := Tryz.func108.trans (congrArg some (by kernel_rfl))
  f228 := Tryz.func131.trans (congrArg some (by kernel_rfl))
  f232 := Tryz.func107.trans (congrArg some (by kernel_rfl))
  f234 := Tryz.func109.trans (congrArg some (by kernel_rfl))
  f236 := Tryz.func110.trans (congrArg some (by kernel_rfl))
  f260 := Tryz.func168.trans (congrArg some (by kernel_rfl))
  f266 := Tryz.func157.trans (congrArg some (by kernel_rfl))
  f271 := Tryz.func132.trans (congrArg some (by kernel_rfl))
  t0 := Tryz.underlying0
  a0 := Tryz.isAgg0
  z0 := Tryz.sizeOf0
  v0 := Tryz.zeroValue0
  t3 := Tryz.underlying3
  a3 := Tryz.isAgg3
  z3 := Tryz.sizeOf3
  v3 := Tryz.zeroValue3
  t4 := Tryz.underlying4
  a4 := Tryz.isAgg4
  z4 := Tryz.sizeOf4
  v4 := Tryz.zeroValue4
  t5 := Tryz.underlying5
  a5 := Tryz.isAgg5
  z5 := Tryz.sizeOf5
  v5 := Tryz.zeroValue5
  t9 := Tryz.underlying9
  a9 := Tryz.isAgg9
  z9 := Tryz.sizeOf9
  v9 := Tryz.zeroValue9
  t21 := Tryz.underlying21
  a21 := Tryz.isAgg21
  z21 := Tryz.sizeOf21
  v21 := Tryz.zeroValue21
  t46 := Tryz.underlying148
  a46 := Tryz.isAgg148
  z46 := Tryz.sizeOf148
  v46 := Tryz.zeroValue148
  t105 := Tryz.underlying145
  a105 := Tryz.isAgg145
  z105 := Tryz.sizeOf145
  v105 := Tryz.zeroValue145
  t116 := Tryz.underlying126
  a116 := Tryz.isAgg126
  z116 := Tryz.sizeOf126
  t117 := Tryz.underlying127
  a117 := Tryz.isAgg127
  z117 := Tryz.sizeOf127
  v117 := Tryz.zeroValue127
  t119 := Tryz.underlying182
  a119 := Tryz.isAgg182
  z119 := Tryz.sizeOf182
  t124 := Tryz.underlying130
  a124 := Tryz.isAgg130
  z124 := Tryz.sizeOf130
  v124 := Tryz.zeroValue130
  t138 := Tryz.underlying184
  a138 := Tryz.isAgg184
  z138 := Tryz.sizeOf184
  v138 := Tryz.zeroValue184
  t139 := Tryz.underlying185
  a139 := Tryz.isAgg185
  z139 := Tryz.sizeOf185
  v139 := Tryz.zeroValue185
  g3 := by kernel_rfl
  g4 := by kernel_rfl }
theorem trimRight_any (s : ByteArray) (w : World) (hs : s.size ≤ 9223372036854775807) :
    Calls Tryz.prog 74 #[.string s, .string ⟨#[48]⟩] w fun e w' => e = .returned (.string (txt (trimZ s.data.toList))) ∧ w' = w :=
  Any.strings_TrimRight_one lays162 s 48 (by decide) w hs

end Go.Proofs.YtdjhbodbmhakgaaGreatDoor

namespace Go.Proofs.YtdjhbodbmhakgaaGreatDoor
open Go.Shelf Go.RowKit
set_option maxRecDepth 100000

def cpren : Go.Shelf.Ren := ⟨fun | 103 => 71 | 206 => 129 | 210 => 105 | n => n, fun | 3 => 3 | 4 => 4 | 5 => 5 | 9 => 9 | 24 => 26 | 72 => 111 | n => n, fun  | n => n⟩
theorem lays103 : Go.Proofs.Lays.n103 Tryz.prog cpren := {
  mixed := by kernel_rfl
  f103 := Tryz.func71.trans (congrArg some (by kernel_rfl))
  f206 := Tryz.func129.trans (congrArg some (by kernel_rfl))
  f210 := Tryz.func105.trans (congrArg some (by kernel_rfl))
  t3 := Tryz.underlying3
  a3 := Tryz.isAgg3
  z3 := Tryz.sizeOf3
  v3 := Tryz.zeroValue3
  t4 := Tryz.underlying4
  a4 := Tryz.isAgg4
  z4 := Tryz.sizeOf4
  v4 := Tryz.zeroValue4
  t9 := Tryz.underlying9
  a9 := Tryz.isAgg9
  z9 := Tryz.sizeOf9
  v9 := Tryz.zeroValue9
  t24 := Tryz.underlying26
  a24 := Tryz.isAgg26
  z24 := Tryz.sizeOf26
  v24 := Tryz.zeroValue26 }
def ctren : Go.Shelf.Ren := ⟨fun | 145 => 72 | 217 => 135 | 219 => 130 | 220 => 106 | 224 => 150 | 225 => 149 | 266 => 157 | 267 => 151 | 314 => 167 | n => n, fun | 3 => 3 | 4 => 4 | 5 => 5 | 9 => 9 | 46 => 148 | 51 => 162 | 59 => 95 | 72 => 111 | 146 => 163 | n => n, fun | 1 => 2 | n => n⟩
theorem lays145 : Go.Proofs.Lays.n145 Tryz.prog ctren := {
  mixed := by kernel_rfl
  f145 := Tryz.func72.trans (congrArg some (by kernel_rfl))
  f217 := Tryz.func135.trans (congrArg some (by kernel_rfl))
  f219 := Tryz.func130.trans (congrArg some (by kernel_rfl))
  f220 := Tryz.func106.trans (congrArg some (by kernel_rfl))
  f224 := Tryz.func150.trans (congrArg some (by kernel_rfl))
  f225 := Tryz.func149.trans (congrArg some (by kernel_rfl))
  f266 := Tryz.func157.trans (congrArg some (by kernel_rfl))
  f267 := Tryz.func151.trans (congrArg some (by kernel_rfl))
  f314 := Tryz.func167.trans (congrArg some (by kernel_rfl))
  t3 := Tryz.underlying3
  a3 := Tryz.isAgg3
  z3 := Tryz.sizeOf3
  v3 := Tryz.zeroValue3
  t4 := Tryz.underlying4
  a4 := Tryz.isAgg4
  z4 := Tryz.sizeOf4
  v4 := Tryz.zeroValue4
  t5 := Tryz.underlying5
  a5 := Tryz.isAgg5
  z5 := Tryz.sizeOf5
  v5 := Tryz.zeroValue5
  t9 := Tryz.underlying9
  a9 := Tryz.isAgg9
  z9 := Tryz.sizeOf9
  v9 := Tryz.zeroValue9
  t46 := Tryz.underlying148
  a46 := Tryz.isAgg148
  z46 := Tryz.sizeOf148
  v46 := Tryz.zeroValue148
  t51 := Tryz.underlying162
  a51 := Tryz.isAgg162
  z51 := Tryz.sizeOf162
  v51 := Tryz.zeroValue162
  t59 := Tryz.underlying95
  a59 := Tryz.isAgg95
  z59 := Tryz.sizeOf95
  v59 := Tryz.zeroValue95
  t146 := Tryz.underlying163
  a146 := Tryz.isAgg163
  z146 := Tryz.sizeOf163
  v146 := Tryz.zeroValue163
  g1 := by kernel_rfl }

/-- The library's variable MaxLen holds some number. -/
def SomeMax (w : World) : Prop := ∃ m, w.cell? ⟨2, 0, none⟩ = some (.int .i64 m)
theorem SomeMax.below {w w' : World} (h : SomeMax w) (hb : Below w.heap.size w w') : SomeMax w' := by
  obtain ⟨m, hm⟩ := h
  exact ⟨m, (hb.cell (World.block_lt_of_cell? _ _ hm)).trans hm⟩

theorem cutPrefix_any (s : ByteArray) (w : World) :
    Calls Tryz.prog 71 #[.string s, .string ⟨#[45]⟩] w fun e w' => e = .returned (.tuple #[.string (txt (bodyV s.data.toList)), .bool (negV s.data.toList)]) ∧ w' = w := by
  have := Any.strings_CutPrefix lays103 s ⟨#[45]⟩ w
  have e1 : Lib.trimPrefix s.data.toList (⟨#[45]⟩ : ByteArray).data.toList = bodyV s.data.toList := body_prefix _
  have e2 : Lib.hasPrefix s.data.toList (⟨#[45]⟩ : ByteArray).data.toList = negV s.data.toList := neg_prefix _
  rw [e1, e2] at this
  exact this
theorem cutAt_no (l : List UInt8) (w : World) (hs : l.length < 4294967281) (hm : SomeMax w) (h : (46 : UInt8) ∉ l) :
    Calls Tryz.prog 72 #[.string (txt l), .string ⟨#[46]⟩] w fun e w' => e = .returned (.tuple #[.string (txt l), .string ⟨#[]⟩, .bool false]) ∧ Below w.heap.size w w' := by
  obtain ⟨m, hm⟩ := hm
  have := Any.strings_Cut lays145 (txt l) ⟨#[46]⟩ m w hs hm
  have e1 : Lib.cut (txt l).data.toList (⟨#[46]⟩ : ByteArray).data.toList = (l, [], false) := cut_no h
  rw [e1] at this
  refine this.mono ?_
  rintro e w' ⟨rfl, n, rfl⟩
  exact ⟨rfl, ⟨rfl, rfl, rfl, Nat.le_refl _, fun _ _ => rfl⟩⟩
theorem cutAt_yes (a b : List UInt8) (w : World) (hs : (a ++ 46 :: b).length < 4294967281) (hm : SomeMax w) (h : (46 : UInt8) ∉ a) :
    Calls Tryz.prog 72 #[.string (txt (a ++ 46 :: b)), .string ⟨#[46]⟩] w fun e w' => e = .returned (.tuple #[.string (txt a), .string (txt b), .bool true]) ∧ Below w.heap.size w w' := by
  obtain ⟨m, hm⟩ := hm
  have := Any.strings_Cut lays145 (txt (a ++ 46 :: b)) ⟨#[46]⟩ m w hs hm
  have e1 : Lib.cut (txt (a ++ 46 :: b)).data.toList (⟨#[46]⟩ : ByteArray).data.toList = (a, b, true) := cut_yes h
  rw [e1] at this
  refine this.mono ?_
  rintro e w' ⟨rfl, n, rfl⟩
  exact ⟨rfl, ⟨rfl, rfl, rfl, Nat.le_refl _, fun _ _ => rfl⟩⟩

end Go.Proofs.YtdjhbodbmhakgaaGreatDoor

namespace Go.Proofs.YtdjhbodbmhakgaaGreatDoor
open Go.RowKit
set_option maxRecDepth 100000



theorem ret_mil {n : Int} {b : Bool} {m : Int} {c : Bool} (h : n = m) (g : b = c) : Ending.returned (.tuple #[.int .i64 n, .bool b]) = .returned (.tuple #[.int .i64 m, .bool c]) := by rw [h, g]

set_option maxHeartbeats 1000000 in
theorem millionths_no (s : ByteArray) (w : World) (hs : s.size ≤ maxLen) (hn : someD (s.data.toList.drop 6) = true) :
    Calls Tryz.prog 45 #[.string s] w fun e w' => e = .returned (.tuple #[.int .i64 0, .bool false]) ∧ w' = w := by
  have hz := trimZ_size s.data.toList
  have hl := (trimZ_len s.data.toList).2 hn
  have hsz : s.data.toList.length = s.size := by simp
  unfold maxLen at hs
  have hT := fun w => trimRight_any s w (by omega)
  generalize trimZ s.data.toList = t at *
  have ht : (txt t).size = t.length := rfl
  have hl' : (6 : Int) < ((txt t).size : Int) := by omega
  have HT := hide hT
  clear hT hn
  go_enter Tryz.func45, Tryz.ntmps45
  go_wp2_with fail
  refine (HT.out _).mono ?_
  rintro e u1 ⟨rfl, rfl⟩
  go_wp2_with fail
  go_ret2
  exact ⟨rfl, rfl⟩

theorem tens_le {n t j : Nat} (h : n < 10 ^ t) (hj : t + j ≤ 6) : n * 10 ^ j ≤ 1000000 := by
  have h1 : n * 10 ^ j ≤ 10 ^ t * 10 ^ j := Nat.mul_le_mul_right _ (Nat.le_of_lt h)
  rw [← Nat.pow_add] at h1
  have h2 : 10 ^ (t + j) ≤ 10 ^ 6 := Nat.pow_le_pow_right (by decide) hj
  have h3 : 10 ^ 6 = 1000000 := by decide
  omega
theorem tens_next (n j : Nat) : n * 10 ^ (j + 1) = n * 10 ^ j * 10 := by rw [Nat.pow_succ, Nat.mul_assoc]
/-- A number with j noughts behind it. -/
structure TenAt (a j n : Nat) : Prop where
  is : n = a * 10 ^ j

set_option maxHeartbeats 1000000 in
theorem millionths_yes (s : ByteArray) (w : World) (hs : s.size ≤ maxLen) (hd : ∀ c ∈ s.data.toList, isDg c = true) (hn : someD (s.data.toList.drop 6) = false) :
    Calls Tryz.prog 45 #[.string s] w fun e w' => e = .returned (.tuple #[.int .i64 (fracOf 6 s.data.toList : Nat), .bool true]) ∧ w' = w := by
  have hl : (trimZ s.data.toList).length ≤ 6 := by
    rcases Nat.lt_or_ge 6 (trimZ s.data.toList).length with g | g
    · rw [(trimZ_len _).1 g] at hn; cases hn
    · exact g
  have hdt := trimZ_dg hd
  have hfr := trimZ_frac hl
  unfold maxLen at hs
  have hT := fun w => trimRight_any s w (by omega)
  generalize trimZ s.data.toList = t at *
  have hlt := natOf_lt t hdt
  have hW := fun w => wholePart_any (txt t) w (by rw [txt_size]; unfold maxLen; omega) hdt
  have ew : wholeV 0 (txt t).data.toList = natOf t := wholeV_eq 0 t (by
    have := tens_le (j := 0) hlt (by omega)
    unfold MW; unfold natOf at this; omega)
  rw [ew] at hW
  have ht : (txt t).size = t.length := rfl
  have hle := fun j => tens_le (j := j) hlt
  generalize natOf t = n at *
  have HT := hide hT
  have HW := hide hW
  have HF := hide hfr
  have HL := hide hle
  have hl' : ((txt t).size : Int) ≤ 6 := by omega
  clear hT hW hn hd hdt hlt hfr ew hle
  go_enter Tryz.func45, Tryz.ntmps45
  go_wp2_with fail
  refine (HT.out _).mono ?_
  rintro e u1 ⟨rfl, rfl⟩
  go_wp2_with fail
  refine (HW.out _).mono ?_
  rintro e u1 ⟨rfl, rfl⟩
  go_wp2_with fail
  go_loop [4, 15] (fun v i => ∃ j m : Nat, t.length + j ≤ 6 ∧ i = .int .i64 j ∧ v = .int .i64 m ∧ TenAt n j m) (fun _ i => 6 - (intOf i).toNat)
  case atStart => exact ⟨0, n, hl, rfl, rfl, ⟨by rw [Nat.pow_zero, Nat.mul_one]⟩⟩
  case round =>
    obtain ⟨j, m, hj, rfl, rfl, hm⟩ := hrel
    have hmb : m ≤ 1000000 := by rw [hm.is]; exact HL.out j hj
    by_cases hlt : t.length + j < 6
    · have E : TenAt n (j + 1) (m * 10) := ⟨by rw [tens_next, ← hm.is]⟩
      clear hm
      go_wp2_with fail
      go_round
      case rel => exact ⟨j + 1, m * 10, by omega, by go_num, by go_num, E⟩
      case measure => simp [intOf]; omega
    · have E : Hid (m = fracOf 6 s.data.toList) := by
        have e := HF.out
        rw [show 6 - t.length = j by omega] at e
        rw [hm.is]; exact e
      clear hm
      go_wp2_with fail
      go_ret2
      exact ⟨ret_mil (by rw [E.out]) rfl, rfl⟩

end Go.Proofs.YtdjhbodbmhakgaaGreatDoor
