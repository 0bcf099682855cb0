/- Joined texts. StepLaws2: Stage 12's laws StepFlags, StepInside, StepValues, walked: each returns true, and what lay in the world lies there still. Conditions: as in 'StepLaws1'. -/
import Derived.Test.YtdjhbodbmhakgaaGreatDoorJst25
namespace Go.Proofs.YtdjhbodbmhakgaaGreatDoor
open Go.RowKit

/-- A value that is the lower bound is not below; if it is off, it isn't the base. -/
theorem inside_is {k : Int} {ax : List (ByteArray × ByteArray)} {n : Int} {t : List UInt8} (hL : leastK k ax = some n) (ht : numK k t = some n) : (flagsK k ax t).1 = false ∧ ((flagsK k ax t).2.2 = false ∨ ¬ baseK k ax = n) := by
  unfold flagsK
  rw [ht, hL]
  show (flagsG k n (some n) (mostK k ax) (stepK k ax) (baseK k ax)).1 = false ∧ ((flagsG k n (some n) (mostK k ax) (stepK k ax) (baseK k ax)).2.2 = false ∨ _)
  have h1 : (flagsG k n (some n) (mostK k ax) (stepK k ax) (baseK k ax)).1 = false := by
    unfold flagsG
    split
    · show (decide (optI (mostK k ax) < n) && decide (n < n)) = false
      rw [decide_eq_false (show ¬ n < n by omega), Bool.and_false]
    · show (true && decide (n < n)) = false
      rw [decide_eq_false (show ¬ n < n by omega)]; rfl
  have h2 : (flagsG k n (some n) (mostK k ax) (stepK k ax) (baseK k ax)).2.2 = offG (stepK k ax) n (baseK k ax) := by
    unfold flagsG
    split <;> rfl
  refine ⟨h1, ?_⟩
  rw [h2]
  by_cases hb : baseK k ax = n
  · left
    cases hS : stepK k ax with
    | none => rfl
    | some st =>
      show (true && !fitV n (baseK k ax) st) = false
      rw [hb]
      have := step_range k ax hS
      have hf : fitV n n st = true := decide_eq_true ⟨this.1, rfl⟩
      rw [hf]; rfl
  · exact .inr hb
theorem none_flags {k : Int} {ax : List (ByteArray × ByteArray)} {t : List UInt8} (h : numK k t = none) : flagsK k ax t = (false, false, false) := by unfold flagsK; rw [h]

set_option maxHeartbeats 4000000 in
set_option maxRecDepth 100000 in
theorem stepFlags_walk (k : Int) (v : Value) (ax : List (ByteArray × ByteArray)) (w : World) (hv : AttrsV w v ax) (hl : ax.length ≤ 4398046511104) (s : ByteArray) (hT : StTabs w) :
    Calls Tryz.prog 6 #[.int .i64 k, v, .string s] w fun e w' => e = .returned (.bool true) ∧ Below w.heap.size w w' := by
  have HW := hide (stWakes_any w hT)
  have HG := hide (fun W (hb : Below w.heap.size w W) => stLong_any v ax s W (hv.below hb) hl)
  have HT := hide hT
  have HV := hide hv
  obtain ⟨pp, cc, ev, _⟩ := hv
  clear hT
  cases q : longB ax s with
  | true =>
    rw [q] at HG
    clear q HV
    subst ev
    go_enter Tryz.func6, Tryz.ntmps6
    go_wp2_with fail
    refine HW.out.mono ?_
    rintro e w1 ⟨rfl, b1⟩
    go_wp2_with fail
    refine (HG.out _ b1).mono ?_
    rintro e w2 ⟨rfl, hw2⟩
    obtain rfl : w1 = w2 := hw2.symm
    go_wp2_with fail
    go_ret
    exact ⟨rfl, b1⟩
  | false =>
    rw [q] at HG
    have S := long_no q
    clear q
    have H1 := hide (fun W (hb : Below w.heap.size w W) => stFlags_any k v ax W (HV.out.below hb) S.ax s S.s (HT.out.below hb))
    have H2 := hide (fun W (hb : Below w.heap.size w W) => refFlags_any k v ax s W (HV.out.below hb) S.ax S.s)
    generalize flagsK k ax s.data.toList = f at *
    obtain ⟨f1, f2, f3⟩ := f
    rw [show flag3 (f1, f2, f3) = .tuple #[.bool f1, .bool f2, .bool f3] from rfl] at H1
    rw [show flagV (f1, f2, f3) = .agg #[.bool f1, .bool f2, .bool f3] from rfl] at H2
    clear S
    subst ev
    go_enter Tryz.func6, Tryz.ntmps6
    go_wp2_with fail
    refine HW.out.mono ?_
    rintro e w1 ⟨rfl, b1⟩
    go_wp2_with fail
    refine (HG.out _ b1).mono ?_
    rintro e w2 ⟨rfl, hw2⟩
    obtain rfl : w1 = w2 := hw2.symm
    have B1 := hide b1
    clear b1
    go_wp2_with fail
    refine (H1.out _ B1.out).mono ?_
    rintro e w2' ⟨rfl, b2⟩
    have B2 := hide (chain B1.out b2)
    clear b2 B1
    go_wp2_with fail
    refine (H2.out _ B2.out).mono ?_
    rintro e w3' ⟨rfl, b3⟩
    have B3 := hide (chain B2.out b3)
    clear b3 B2
    go_wp2_with fail
    go_ret
    exact ⟨rfl, B3.out.alloc B3.out.size _⟩

set_option maxHeartbeats 4000000 in
set_option maxRecDepth 100000 in
theorem stepInside_walk (k : Int) (v : Value) (ax : List (ByteArray × ByteArray)) (w : World) (hv : AttrsV w v ax) (hl : ax.length ≤ 4398046511104) (s : ByteArray) (hT : StTabs w) :
    Calls Tryz.prog 7 #[.int .i64 k, v, .string s] w fun e w' => e = .returned (.bool true) ∧ Below w.heap.size w w' := by
  have HW := hide (stWakes_any w hT)
  have HG := hide (fun W (hb : Below w.heap.size w W) => stLong_any v ax s W (hv.below hb) hl)
  have HT := hide hT
  have HV := hide hv
  obtain ⟨pp, cc, ev, _⟩ := hv
  clear hT
  cases q : longB ax s with
  | true =>
    rw [q] at HG
    clear q HV
    subst ev
    go_enter Tryz.func7, Tryz.ntmps7
    go_wp2_with fail
    refine HW.out.mono ?_
    rintro e w1 ⟨rfl, b1⟩
    go_wp2_with fail
    refine (HG.out _ b1).mono ?_
    rintro e w2 ⟨rfl, hw2⟩
    obtain rfl : w1 = w2 := hw2.symm
    go_wp2_with fail
    go_ret
    exact ⟨rfl, b1⟩
  | false =>
    rw [q] at HG
    have S := long_no q
    clear q
    have H1 := hide (fun W (hb : Below w.heap.size w W) => stValue_any k s W S.s (HT.out.below hb))
    have H2 := hide (fun W (hb : Below w.heap.size w W) => stFlags_any k v ax W (HV.out.below hb) S.ax s S.s (HT.out.below hb))
    have H3 := hide (fun W (hb : Below w.heap.size w W) => stLeast_any k v ax W (HV.out.below hb) S.ax (HT.out.below hb))
    have H4 := hide (fun o (ho : ShK k (optI (leastK k ax)) o) W (hb : Below w.heap.size w W) => stShow_any ho W (by have := least_range k ax; omega) (by have := least_range k ax; omega) (HT.out.below hb))
    have H5 := hide (fun t (ht : t.size ≤ 100000) W (hb : Below w.heap.size w W) => stFlags_any k v ax W (HV.out.below hb) S.ax t ht (HT.out.below hb))
    have H6 := hide (fun W (hb : Below w.heap.size w W) => stBase_any k v ax W (HV.out.below hb) S.ax (HT.out.below hb))
    clear S
    subst ev
    go_enter Tryz.func7, Tryz.ntmps7
    go_wp2_with fail
    refine HW.out.mono ?_
    rintro e w1 ⟨rfl, b1⟩
    go_wp2_with fail
    refine (HG.out _ b1).mono ?_
    rintro e w2 ⟨rfl, hw2⟩
    obtain rfl : w1 = w2 := hw2.symm
    have B1 := hide b1
    clear b1
    cases hN : numK k s.data.toList with
    | none =>
      rw [hN, opt_none] at H1
      rw [none_flags hN, show flag3 (false, false, false) = .tuple #[.bool false, .bool false, .bool false] from rfl] at H2
      clear hN H3 H4 H5 H6
      go_wp2_with fail
      refine (H1.out _ B1.out).mono ?_
      rintro e w2' ⟨rfl, b2⟩
      have B2 := hide (chain B1.out b2)
      clear b2 B1
      go_wp2_with fail
      refine (H2.out _ B2.out).mono ?_
      rintro e w3' ⟨rfl, b3⟩
      have B3 := hide (chain B2.out b3)
      clear b3 B2
      go_wp2_with fail
      go_ret
      exact ⟨rfl, B3.out⟩
    | some m =>
      rw [hN, opt_some] at H1
      clear hN H2
      obtain ⟨o, ho⟩ := shk_some k (optI (leastK k ax))
      have HO := hide (H4.out o ho)
      have HHO := hide ho
      clear H4 ho
      cases hL : leastK k ax with
      | none =>
        rw [hL, opt_none] at H3
        rw [hL, show optI none = 0 from rfl] at HO
        unfold txtV at HO
        generalize txt (o.getD []) = x at *
        generalize o.isSome = y at *
        clear hL H5 H6 HHO
        go_wp2_with fail
        refine (H1.out _ B1.out).mono ?_
        rintro e w2' ⟨rfl, b2⟩
        have B2 := hide (chain B1.out b2)
        clear b2 B1
        go_wp2_with fail
        refine (H3.out _ B2.out).mono ?_
        rintro e w3' ⟨rfl, b3⟩
        have B3 := hide (chain B2.out b3)
        clear b3 B2
        go_wp2_with fail
        refine (HO.out _ B3.out).mono ?_
        rintro e w4' ⟨rfl, b4⟩
        have B4 := hide (chain B3.out b4)
        clear b4 B3
        go_wp2_with fail
        go_ret
        exact ⟨rfl, B4.out⟩
      | some n =>
        rw [hL, opt_some] at H3
        rw [hL, show optI (some n) = n from rfl] at HO HHO
        cases o with
        | none =>
          rw [show txtV none = .tuple #[.string ⟨#[]⟩, .bool false] from rfl] at HO
          clear hL H5 H6 HHO
          go_wp2_with fail
          refine (H1.out _ B1.out).mono ?_
          rintro e w2' ⟨rfl, b2⟩
          have B2 := hide (chain B1.out b2)
          clear b2 B1
          go_wp2_with fail
          refine (H3.out _ B2.out).mono ?_
          rintro e w3' ⟨rfl, b3⟩
          have B3 := hide (chain B2.out b3)
          clear b3 B2
          go_wp2_with fail
          refine (HO.out _ B3.out).mono ?_
          rintro e w4' ⟨rfl, b4⟩
          have B4 := hide (chain B3.out b4)
          clear b4 B3
          go_wp2_with fail
          go_ret
          exact ⟨rfl, B4.out⟩
        | some t =>
          rw [show txtV (some t) = .tuple #[.string (txt t), .bool true] from rfl] at HO
          have HB := shk_back HHO.out
          have SM := shk_small HHO.out
          have HF := hide (H5.out (txt t) (by omega))
          have IN := hide (inside_is hL (t := (txt t).data.toList) (by rw [txt_data]; exact HB))
          generalize flagsK k ax (txt t).data.toList = f at *
          obtain ⟨f1, f2, f3⟩ := f
          rw [show flag3 (f1, f2, f3) = .tuple #[.bool f1, .bool f2, .bool f3] from rfl] at HF
          generalize baseK k ax = bs at *
          generalize txt t = x at *
          clear HB SM H5 HHO hL
          have e1 : f1 = false := IN.out.1
          subst e1
          rcases IN.out.2 with e3 | e3
          · have e3 : f3 = false := e3
            subst e3
            clear IN
            go_wp2_with fail
            refine (H1.out _ B1.out).mono ?_
            rintro e w2' ⟨rfl, b2⟩
            have B2 := hide (chain B1.out b2)
            clear b2 B1
            go_wp2_with fail
            refine (H3.out _ B2.out).mono ?_
            rintro e w3' ⟨rfl, b3⟩
            have B3 := hide (chain B2.out b3)
            clear b3 B2
            go_wp2_with fail
            refine (HO.out _ B3.out).mono ?_
            rintro e w4' ⟨rfl, b4⟩
            have B4 := hide (chain B3.out b4)
            clear b4 B3
            go_wp2_with fail
            refine (HF.out _ B4.out).mono ?_
            rintro e w5' ⟨rfl, b5⟩
            have B5 := hide (chain B4.out b5)
            clear b5 B4
            go_wp2_with fail
            go_ret
            exact ⟨rfl, B5.out⟩
          · have nb : (bs == n) = false := beq_eq_false_iff_ne.2 e3
            have nc : (bs != n) = true := bne_iff_ne.2 e3
            clear IN
            cases f3 with
            | false =>
              go_wp2_with fail
              refine (H1.out _ B1.out).mono ?_
              rintro e w2' ⟨rfl, b2⟩
              have B2 := hide (chain B1.out b2)
              clear b2 B1
              go_wp2_with fail
              refine (H3.out _ B2.out).mono ?_
              rintro e w3' ⟨rfl, b3⟩
              have B3 := hide (chain B2.out b3)
              clear b3 B2
              go_wp2_with fail
              refine (HO.out _ B3.out).mono ?_
              rintro e w4' ⟨rfl, b4⟩
              have B4 := hide (chain B3.out b4)
              clear b4 B3
              go_wp2_with fail
              refine (HF.out _ B4.out).mono ?_
              rintro e w5' ⟨rfl, b5⟩
              have B5 := hide (chain B4.out b5)
              clear b5 B4
              go_wp2_with fail
              go_ret
              exact ⟨rfl, B5.out⟩
            | true =>
              go_wp2_with fail
              refine (H1.out _ B1.out).mono ?_
              rintro e w2' ⟨rfl, b2⟩
              have B2 := hide (chain B1.out b2)
              clear b2 B1
              go_wp2_with fail
              refine (H3.out _ B2.out).mono ?_
              rintro e w3' ⟨rfl, b3⟩
              have B3 := hide (chain B2.out b3)
              clear b3 B2
              go_wp2_with fail
              refine (HO.out _ B3.out).mono ?_
              rintro e w4' ⟨rfl, b4⟩
              have B4 := hide (chain B3.out b4)
              clear b4 B3
              go_wp2_with fail
              refine (HF.out _ B4.out).mono ?_
              rintro e w5' ⟨rfl, b5⟩
              have B5 := hide (chain B4.out b5)
              clear b5 B4
              go_wp2_with fail
              refine (H6.out _ B5.out).mono ?_
              rintro e w6' ⟨rfl, b6⟩
              have B6 := hide (chain B5.out b6)
              clear b6 B5
              go_wp2_with fail
              go_ret
              exact ⟨rfl, B6.out⟩

set_option maxHeartbeats 4000000 in
set_option maxRecDepth 100000 in
theorem stepValues_walk (k : Int) (s : ByteArray) (n : Int) (n1 : -9223372036854775808 ≤ n) (n2 : n ≤ 9223372036854775807) (w : World) (hT : StTabs w) :
    Calls Tryz.prog 3 #[.int .i64 k, .string s, .int .i64 n] w fun e w' => e = .returned (.bool true) ∧ Below w.heap.size w w' := by
  have HW := hide (stWakes_any w hT)
  have HG := hide (fun W => stLong_any (.slice none 0 0) [] s W ⟨none, 0, rfl, .inl rfl⟩ (by decide))
  have HT := hide hT
  clear hT
  cases q : longB [] s with
  | true =>
    rw [q] at HG
    clear q
    go_enter Tryz.func3, Tryz.ntmps3
    go_wp2_with fail
    refine HW.out.mono ?_
    rintro e w1 ⟨rfl, b1⟩
    go_wp2_with fail
    refine (HG.out _).mono ?_
    rintro e w2 ⟨rfl, hw2⟩
    obtain rfl : w1 = w2 := hw2.symm
    go_wp2_with fail
    go_ret
    exact ⟨rfl, b1⟩
  | false =>
    rw [q] at HG
    have S := long_no q
    clear q
    have H1 := hide (fun W (hb : Below w.heap.size w W) => stValue_any k s W S.s (HT.out.below hb))
    have H2 := hide (fun W (hb : Below w.heap.size w W) => refValue_any k s W S.s)
    obtain ⟨o, ho⟩ := shk_some k n
    have H3 := hide (fun W (hb : Below w.heap.size w W) => stShow_any ho W n1 n2 (HT.out.below hb))
    have H4 := hide (fun W (hb : Below w.heap.size w W) => refShowK_any ho W n1 n2)
    have HB := hide (fun t (ht : t.size ≤ 100000) W (hb : Below w.heap.size w W) => stValue_any k t W ht (HT.out.below hb))
    unfold optV at H1 H2
    generalize optI (numK k s.data.toList) = a at *
    generalize (numK k s.data.toList).isSome = a2 at *
    clear S
    cases o with
    | none =>
      rw [show txtV none = .tuple #[.string ⟨#[]⟩, .bool false] from rfl] at H3 H4
      have H5 := hide (HB.out ⟨#[]⟩ (by decide))
      unfold optV at H5
      generalize optI (numK k (⟨#[]⟩ : ByteArray).data.toList) = c at *
      generalize (numK k (⟨#[]⟩ : ByteArray).data.toList).isSome = c2 at *
      clear ho HB
      go_enter Tryz.func3, Tryz.ntmps3
      go_wp2_with fail
      refine HW.out.mono ?_
      rintro e w1 ⟨rfl, b1⟩
      go_wp2_with fail
      refine (HG.out _).mono ?_
      rintro e w2 ⟨rfl, hw2⟩
      obtain rfl : w1 = w2 := hw2.symm
      have B1 := hide b1
      clear b1
      go_wp2_with fail
      refine (H1.out _ B1.out).mono ?_
      rintro e w2' ⟨rfl, b2⟩
      have B2 := hide (chain B1.out b2)
      clear b2 B1
      go_wp2_with fail
      refine (H2.out _ B2.out).mono ?_
      rintro e w3' ⟨rfl, b3⟩
      have B3 := hide (chain B2.out b3)
      clear b3 B2
      go_wp2_with fail
      refine (H3.out _ B3.out).mono ?_
      rintro e w4' ⟨rfl, b4⟩
      have B4 := hide (chain B3.out b4)
      clear b4 B3
      go_wp2_with fail
      refine (H4.out _ B4.out).mono ?_
      rintro e w5' ⟨rfl, b5⟩
      have B5 := hide (chain B4.out b5)
      clear b5 B4
      go_wp2_with fail
      refine (H5.out _ B5.out).mono ?_
      rintro e w6' ⟨rfl, b6⟩
      have B6 := hide (chain B5.out b6)
      clear b6 B5
      go_wp2_with fail
      go_ret
      exact ⟨rfl, B6.out⟩
    | some t =>
      rw [show txtV (some t) = .tuple #[.string (txt t), .bool true] from rfl] at H3 H4
      have hb := shk_back ho
      have hs := shk_small ho
      have H5 := hide (HB.out (txt t) (by omega))
      rw [txt_data, hb, opt_some] at H5
      generalize txt t = x at *
      clear ho HB hb hs
      go_enter Tryz.func3, Tryz.ntmps3
      go_wp2_with fail
      refine HW.out.mono ?_
      rintro e w1 ⟨rfl, b1⟩
      go_wp2_with fail
      refine (HG.out _).mono ?_
      rintro e w2 ⟨rfl, hw2⟩
      obtain rfl : w1 = w2 := hw2.symm
      have B1 := hide b1
      clear b1
      go_wp2_with fail
      refine (H1.out _ B1.out).mono ?_
      rintro e w2' ⟨rfl, b2⟩
      have B2 := hide (chain B1.out b2)
      clear b2 B1
      go_wp2_with fail
      refine (H2.out _ B2.out).mono ?_
      rintro e w3' ⟨rfl, b3⟩
      have B3 := hide (chain B2.out b3)
      clear b3 B2
      go_wp2_with fail
      refine (H3.out _ B3.out).mono ?_
      rintro e w4' ⟨rfl, b4⟩
      have B4 := hide (chain B3.out b4)
      clear b4 B3
      go_wp2_with fail
      refine (H4.out _ B4.out).mono ?_
      rintro e w5' ⟨rfl, b5⟩
      have B5 := hide (chain B4.out b5)
      clear b5 B4
      go_wp2_with fail
      refine (H5.out _ B5.out).mono ?_
      rintro e w6' ⟨rfl, b6⟩
      have B6 := hide (chain B5.out b6)
      clear b6 B5
      go_wp2_with fail
      go_ret
      exact ⟨rfl, B6.out⟩

end Go.Proofs.YtdjhbodbmhakgaaGreatDoor
